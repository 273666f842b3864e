/- Proved: 'escritoirekeep.WordSigned' answers true at every number and every width: what fits is what it is told as, with a sign or without, and a number fits with a sign just if it, or -1 less it, fits without one by a bit fewer. No condition. -/
import Derived.Test.YtfebfnjmehaeiaaRows
import Derived.WalkKit
import Derived.ProofKit
import Derived.OpenShut
import Derived.Test.YtfebfnjmehaeiaaFacts
import Derived.Deep.RegionWith
namespace Go.Proofs.Ytfebfnjmehaeiaa.wordSigned
open Go.ChangeShapes Go.WideShapes Go.ChangeAt Go.RowKit
set_option linter.unusedVariables false      -- a walk need not use every 'w<i>' (that an integer argument fits its kind)

theorem own : ownKnob Try.prog.godebug = none := by kernel_rfl

theorem fits_f (v x : Int) (w : World) (h1 : 1 ≤ x) (h2 : x ≤ 8) (h0 : 0 ≤ v) (hv : v ≤ 9223372036854775807) :
    Calls Try.prog 11 #[.int .i64 v, .int .i64 x, .bool false] w fun e w' => e = .returned (.bool (signs.unsB v x == v)) ∧ w' = w := by
  have h := signs.fits_any v x false w hv
  rw [show signs.fitsB v x false = (signs.unsB v x == v) from by simp [signs.fitsB, h1, h2, h0]] at h
  exact h
theorem fits_n (v x : Int) (w : World) (h0 : v < 0) :
    Calls Try.prog 11 #[.int .i64 v, .int .i64 x, .bool false] w fun e w' => e = .returned (.bool false) ∧ w' = w := by
  have h := signs.fits_any v x false w (by omega)
  rw [show signs.fitsB v x false = false from by simp [signs.fitsB]; omega] at h
  exact h
theorem fits_t (v x : Int) (w : World) (h1 : 1 ≤ x) (h2 : x ≤ 8) (hv : v ≤ 9223372036854775807) :
    Calls Try.prog 11 #[.int .i64 v, .int .i64 x, .bool true] w fun e w' => e = .returned (.bool (signs.sigB v x == v)) ∧ w' = w := by
  have h := signs.fits_any v x true w hv
  rw [show signs.fitsB v x true = (signs.sigB v x == v) from by simp [signs.fitsB, h1, h2]] at h
  exact h
theorem uns_w (v x : Int) (w : World) :
    Calls Try.prog 9 #[.int .u64 (IntKind.u64.wrap v), .int .i64 x] w fun e w' => e = .returned (.int .u64 (signs.unsB v x)) ∧ w' = w := by
  have h := signs.uns_any _ x (signs.wrap_lo v) (signs.wrap_hi v) w
  rw [IntKind.wrap_u64, signs.unsB_u64] at h
  rw [IntKind.wrap_u64]
  exact h
theorem sig_w (v x : Int) (w : World) :
    Calls Try.prog 7 #[.int .u64 (IntKind.u64.wrap v), .int .i64 x] w fun e w' => e = .returned (.int .i64 (signs.sigB v x)) ∧ w' = w := by
  have h := signs.sig_any _ x (signs.wrap_lo v) (signs.wrap_hi v) w
  rw [IntKind.wrap_u64, signs.sigB_u64] at h
  rw [IntKind.wrap_u64]
  exact h
theorem uns_sig (v x : Int) : signs.unsB (signs.sigB v x) x = signs.unsB v x := by
  rcases signs.eight x with h | h | rfl | rfl | rfl | rfl | rfl | rfl | rfl | rfl
  · rw [signs.unsB_out _ _ (Or.inl h), signs.unsB_out _ _ (Or.inl h)]
  · rw [signs.unsB_out _ _ (Or.inr h), signs.unsB_out _ _ (Or.inr h)]
  all_goals (simp only [signs.unsB1, signs.unsB2, signs.unsB3, signs.unsB4, signs.unsB5, signs.unsB6, signs.unsB7, signs.unsB8, signs.sigB1, signs.sigB2, signs.sigB3, signs.sigB4, signs.sigB5, signs.sigB6, signs.sigB7, signs.sigB8]; omega)
theorem uns_ws (v x : Int) (w : World) :
    Calls Try.prog 9 #[.int .u64 (IntKind.u64.wrap (signs.sigB v x)), .int .i64 x] w fun e w' => e = .returned (.int .u64 (signs.unsB v x)) ∧ w' = w := by
  have h := uns_w (signs.sigB v x) x w
  rw [uns_sig] at h
  exact h
theorem pw2_1 : (2 : Int) ^ ((8 * (1 : Int)).toNat - 1) = 128 := by decide
theorem pw2_2 : (2 : Int) ^ ((8 * (2 : Int)).toNat - 1) = 32768 := by decide
theorem pw2_3 : (2 : Int) ^ ((8 * (3 : Int)).toNat - 1) = 8388608 := by decide
theorem pw2_4 : (2 : Int) ^ ((8 * (4 : Int)).toNat - 1) = 2147483648 := by decide
theorem pw2_5 : (2 : Int) ^ ((8 * (5 : Int)).toNat - 1) = 549755813888 := by decide
theorem pw2_6 : (2 : Int) ^ ((8 * (6 : Int)).toNat - 1) = 140737488355328 := by decide
theorem pw2_7 : (2 : Int) ^ ((8 * (7 : Int)).toNat - 1) = 36028797018963968 := by decide
theorem pw2_8 : (2 : Int) ^ ((8 * (8 : Int)).toNat - 1) = 9223372036854775808 := by decide
theorem beq_true_of {a b : Bool} (h : a = true ↔ b = true) : (a == b) = true := by
  rw [Bool.eq_iff_iff.2 h]; simp
theorem fit_sign (v m x : Int) (h1 : 1 ≤ x) (h2 : x ≤ 8) (hm : (0 ≤ v ∧ m = v) ∨ (v < 0 ∧ m = -1 - v)) (b0 : -9223372036854775808 ≤ v) (b1 : v ≤ 9223372036854775807) :
    ((signs.sigB v x == v) == (m / 2 ^ ((8 * x).toNat - 1) == 0)) = true := by
  apply beq_true_of
  rw [beq_iff_eq, beq_iff_eq]
  rcases (show x = 1 ∨ x = 2 ∨ x = 3 ∨ x = 4 ∨ x = 5 ∨ x = 6 ∨ x = 7 ∨ x = 8 by omega) with rfl | rfl | rfl | rfl | rfl | rfl | rfl | rfl
  all_goals (simp only [pw2_1, pw2_2, pw2_3, pw2_4, pw2_5, pw2_6, pw2_7, pw2_8, signs.sigB1, signs.sigB2, signs.sigB3, signs.sigB4, signs.sigB5, signs.sigB6, signs.sigB7, signs.sigB8]; omega)
theorem walk (a0 : Int) (a1 : Int) (w0 : (Lit.int .i64 a0).wf = true) (w1 : (Lit.int .i64 a1).wf = true) (w : World) :
    Calls Try.prog 6 #[.int .i64 a0, .int .i64 a1] w fun e w' => e = .returned (.bool true) ∧ Grown w w' := by
  have b0 := bounds_i64 w0
  clear w0 w1
  have hb := facts.pickB_bd a1 8 (by decide)
  have hx : ∃ x : Int, x = 1 + facts.pickB a1 8 := ⟨_, rfl⟩
  obtain ⟨x, hx⟩ := hx
  have hx1 : 1 ≤ x := by omega
  have hx2 : x ≤ 8 := by omega
  have hx' : 1 + facts.pickB a1 8 = x := hx.symm
  clear hx
  go_enter Try.func6, Try.ntmps6
  go_wp2_with (first | (go_at_call 13; refine (facts.worded_yes _).mono ?_; rintro e w1 ⟨rfl, hgb⟩) | (go_at_call 15; refine (facts.pick_any _ _ _ (by decide) (by decide)).mono ?_; rintro e w2 ⟨rfl, rfl⟩) | (go_at_call_of 9 (Value.int IntKind.u64 (IntKind.u64.wrap a0)); refine (uns_w _ _ _).mono ?_; rintro e w3 ⟨rfl, rfl⟩) | (go_at_call 9; refine (uns_ws _ _ _).mono ?_; rintro e w3 ⟨rfl, rfl⟩)  | (go_at_call 7; refine (sig_w _ _ _).mono ?_; rintro e w3 ⟨rfl, rfl⟩) | (go_at_call 11; refine (fits_t _ _ _ (by omega) (by omega) (by omega)).mono ?_; rintro e w3 ⟨rfl, rfl⟩))
  · have hn : a0 < 0 := by omega
    have hd : decide (0 ≤ a0) = false := by simp; omega
    go_quiet ((first | (go_at_call_of 11 (Value.bool false); exact Calls.quiet_of_same (fits_n _ _ _ (by omega))) | (go_at_call_of 11 (Value.bool true); exact Calls.quiet_of_same (fits_t _ _ _ (by omega) (by omega) (by omega)))))
    go_wp2
    go_ret
    exact ⟨signs.ret_bool (fit_sign a0 _ x hx1 hx2 (Or.inr ⟨hn, rfl⟩) b0.1 b0.2), (hgb.drewN nq).g⟩
  · have hn : 0 ≤ a0 := by omega
    go_quiet ((first | (go_at_call_of 11 (Value.bool false); exact Calls.quiet_of_same (fits_f _ _ _ (by omega) (by omega) (by omega) (by omega))) | (go_at_call_of 11 (Value.bool true); exact Calls.quiet_of_same (fits_t _ _ _ (by omega) (by omega) (by omega)))))
    go_wp2
    go_ret
    exact ⟨signs.ret_bool (fit_sign a0 _ x hx1 hx2 (Or.inl ⟨hn, rfl⟩) b0.1 b0.2), (hgb.drewN nq).g⟩

set_option maxRecDepth 100000 in
theorem lifted (os : Os) (started : os.Started) (H : Type) (enc : TypeId × Value → H) :
    ReturnsInHanded {} Try.checked os 6 .any (Rows.wordSignedSpec.pre6 enc Try.prog Try.f6 Rows.wordSignedRow.domain false) (Rows.wordSignedSpec.post enc Try.prog Try.f6 false true false false) := by
  refine returnsInHanded_of_change (C := Try.checked) own started (by kernel_rfl) Try.func6
    (ChangeSpec.witness6 (enc := enc) (C := Try.checked) false ⟨#[], #[.int .i64 0, .int .i64 0], []⟩ 8 (by kernel_rfl) (by kernel_rfl) (by kernel_rfl) (by kernel_rfl)) ?_
  intro W base args ds gs before hval0 hW hcnd _
  have hval : ∀ (j : Nat) t v, Try.f6.params[j]? = some t → args[j]? = some v → Value.okWide Try.prog W .any base t v := hval0
  have hW' := hW
  obtain ⟨p, q, hA0, hV, rfl, hfz, hnd⟩ := hW
  have hA : DataW.TrodAll enc Try.prog W 0 (fun _ => true) true Try.f6.params.toList args.toList ds p := hA0
  rw [Try.params6] at hA hval
  obtain ⟨v0, vs0, d0, ds0, p0, q0, hargs, rfl, rfl, h0, r0⟩ := trodAll_cons hA
  obtain ⟨v1, vs1, d1, ds1, p1, q1, rfl, rfl, rfl, h1, r1⟩ := trodAll_cons r0
  obtain ⟨rfl, rfl, rfl⟩ := trodAll_nil r1
  obtain rfl : args = #[v0, v1] := by cases args; simp_all
  obtain ⟨rfl, rfl⟩ := trodVars_none hV
  obtain ⟨a0, rfl, rfl, rfl, w0⟩ := open_int Try.underlying3 (hval 0 3 v0 rfl rfl) h0
  obtain ⟨a1, rfl, rfl, rfl, w1⟩ := open_int Try.underlying3 (hval 1 3 v1 rfl rfl) h1
  clear hA0 hval0
  simp only [List.append_nil] at hW'
  refine (walk a0 a1 w0 w1 W).mono fun e W' ⟨he, hg⟩ => ?_
  subst he
  exact ⟨_, rfl, post_of_same (pa := []) (pv := []) hW' (fun _ _ _ => (trodAll_cons_mk (shut_bool Try.underlying4 _) trodAll_mk0)) (fun sp _ => (trodAll_cons_mk (shut_int Try.underlying3 w0) (trodAll_cons_mk (shut_int Try.underlying3 w1) trodAll_mk0))) (fun _ _ => rfl) rfl
    (hg.frame _) hg.2.1 (ok_one (by kernel_rfl) rfl (okWide_bool_mk Try.underlying4 _))⟩

theorem over : Rows.wordSignedRow.holds Try.pinned (OpenSpec.ofChange Rows.wordSignedSpec) :=
  OpenClaim.holds_of_wide 6 Try.f6 rfl rfl rfl rfl rfl rfl rfl ⟨rfl, rfl, rfl, rfl, rfl⟩ rfl rfl rfl rfl rfl (by kernel_rfl) Try.func6 (by kernel_rfl)
    (of_decide_eq_true (by kernel_rfl)) (by unfold Func.isWrapper; first | (rw [if_pos (by decide +kernel)]; kernel_rfl) | (rw [if_neg (by decide +kernel)]; exact ⟨rfl, rfl⟩))
    (fun os started H enc _ => lifted os started H enc)

end Go.Proofs.Ytfebfnjmehaeiaa.wordSigned
namespace Go.Proofs.Ytfebfnjmehaeiaa
/-- The given statement. -/
theorem wordSigned_holds : Rows.WordSignedSaid := wordSigned.over
#print axioms wordSigned_holds
end Go.Proofs.Ytfebfnjmehaeiaa
