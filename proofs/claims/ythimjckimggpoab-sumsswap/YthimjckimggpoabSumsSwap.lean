/- For every text of 2 to 500 bytes (of others nothing is asked): two bytes of it, one right behind the other, that change their places are told by the sum Adler of package sums just if they are unlike, by Fletcher just if they are unlike and not 0 and 255. No condition. -/
import Derived.Test.YthimjckimggpoabRows
import Derived.WalkKit
import Derived.ProofKit
import Derived.OpenShut
import Derived.SizedLaws
import Derived.Test.YthimjckimggpoabKeepSum
import Derived.Test.YthimjckimggpoabSwap
import Derived.ShutString
namespace Go.Proofs.Ythimjckimggpoab.sumsSwap
open Go.ChangeShapes Go.WideShapes Go.ChangeAt Go.RowKit
open Go.ChangeMaps (open_string shut_string)
set_option linter.unusedVariables false      -- a walk need not use every 'w<i>' (that an integer argument fits its kind)

theorem own : ownKnob Try.prog.godebug = none := by kernel_rfl

open sums crc bit mem two
theorem walk (a0 : ByteArray) (a1 : Int) (w0 : a0.size ≤ 140737488351232) (w1 : (Lit.int .i64 a1).wf = true) (w : World) :
    Calls Try.prog 3 #[.string a0, .int .i64 a1] w fun e w' => e = .returned (.bool true) ∧ Grown w w' := by
  clear w1
  by_cases hl : a0.size < 2 ∨ 500 < a0.size
  · go_enter Try.func3, Try.ntmps3
    go_wp2_with (first | (go_at_call 4; refine (summed_yes _).mono ?_; rintro e v0 ⟨rfl, g0⟩))
    all_goals go_ret
    all_goals exact ⟨rfl, g0.g⟩
  have hl1 : 2 ≤ a0.size := by omega
  have hl2 : a0.size ≤ 500 := by omega
  clear hl
  obtain ⟨p, hp, hp1⟩ := pick_nat a1 ((a0.size : Int) - 1) (by omega)
  have hpk : ∀ w, Calls Try.prog 5 #[.int .i64 a1, .int .i64 ((a0.size : Int) - 1)] w fun e w' => e = .returned (.int .i64 (p : Int)) ∧ w' = w := fun w => by
    have := pick_any a1 ((a0.size : Int) - 1) w (by omega) (by omega)
    rw [hp] at this; exact this
  clear hp
  have hps : p + 2 ≤ a0.size := by omega
  go_enter Try.func3, Try.ntmps3
  go_wp2_with (first | (go_at_call 4; refine (summed_yes _).mono ?_; rintro e v0 ⟨rfl, g0⟩) | (go_at_call 5; refine (hpk _).mono ?_; rintro e v1 ⟨rfl, rfl⟩))
  obtain ⟨p1, e1⟩ : ∃ p1, p1 = p + 1 := ⟨_, rfl⟩
  obtain ⟨p2, e2⟩ : ∃ p2, p2 = p + 2 := ⟨_, rfl⟩
  have q1 : IntKind.i64.wrap ((p : Int) + 1) = (p1 : Int) := (wrap_i _ (by omega) (by omega)).trans (by omega)
  have q2 : IntKind.i64.wrap ((p : Int) + 2) = (p2 : Int) := (wrap_i _ (by omega) (by omega)).trans (by omega)
  have r0 : (0 : Int) ≤ (p : Int) := by omega
  have r1 : (p : Int) ≤ (p1 : Int) := by omega
  have r2 : (p1 : Int) ≤ (p2 : Int) := by omega
  have r3 : (p2 : Int) ≤ (a0.size : Int) := by omega
  have r4 : (p : Int) ≤ (a0.size : Int) := by omega
  have r5 : (p1 : Int) ≤ (a0.size : Int) := by omega
  have HT : Hid (a0.extract 0 p ++ a0.extract p1 p2 ++ a0.extract p p1 ++ a0.extract p2 a0.size = swp2 a0 p) := by rw [e1, e2]; exact rfl
  have HE1 : Hid (p1 = p + 1) := e1
  have i0 := run_byte (P := Try.prog) a0 p (p : Int) rfl (by omega) Try.underlying9
  have i1 := run_byte (P := Try.prog) a0 p1 (p1 : Int) rfl (by omega) Try.underlying9
  clear e1 e2 hp1
  go_region
  rw [HT.out]
  have sT := swp2_size a0 p hps
  have tA : Hid _ := adler_tells a0 p hps
  have tF : Hid _ := fletcher_tells a0 p hps
  rw [← HE1.out] at tA tF
  obtain ⟨T, hT⟩ : ∃ T, T = swp2 a0 p := ⟨_, rfl⟩
  rw [← hT] at sT tA tF ⊢
  clear hT HT
  have bx := byteN_lt a0 p
  have bY := byteN_lt a0 p1
  obtain ⟨x, hx⟩ : ∃ x, x = byteN a0 p := ⟨_, rfl⟩
  obtain ⟨y, hy⟩ : ∃ y, y = byteN a0 p1 := ⟨_, rfl⟩
  rw [← hx] at bx i0 tA tF
  rw [← hy] at bY i1 tA tF
  clear hx hy
  have mx : (if x < y then (y : Int) else (x : Int)) = ((max x y : Nat) : Int) := by split <;> omega
  have mn : (if y < x then (y : Int) else (x : Int)) = ((min x y : Nat) : Int) := by split <;> omega
  obtain ⟨M, hM⟩ : ∃ M, M = max x y := ⟨_, rfl⟩
  obtain ⟨m, hm⟩ : ∃ m, m = min x y := ⟨_, rfl⟩
  rw [← hM] at mx
  rw [← hm] at mn
  obtain ⟨d, hd⟩ : ∃ d, d = M - m := ⟨_, rfl⟩
  have q3 : IntKind.u8.wrap ((M : Int) - (m : Int)) = (d : Int) := by rw [IntKind.wrap_u8']; omega
  have HD0 : Hid (d = 0 ↔ x = y) := by show _ ↔ _; omega
  have HD1 : Hid (d = 255 ↔ (x + 255 = y ∨ y + 255 = x)) := by show _ ↔ _; omega
  clear hd hM hm
  obtain ⟨A0, hA0⟩ : ∃ n, n = fb a0 1 65521 a0.size * 65536 + fa a0 1 65521 a0.size := ⟨_, rfl⟩
  obtain ⟨A1, hA1⟩ : ∃ n, n = fb T 1 65521 T.size * 65536 + fa T 1 65521 T.size := ⟨_, rfl⟩
  obtain ⟨F0, hF0⟩ : ∃ n, n = fb a0 0 255 a0.size * 256 + fa a0 0 255 a0.size := ⟨_, rfl⟩
  obtain ⟨F1, hF1⟩ : ∃ n, n = fb T 0 255 T.size * 256 + fa T 0 255 T.size := ⟨_, rfl⟩
  have cA0 : ∀ w, Calls Try.prog 6 #[.string a0] w fun e w' => e = .returned (.int .u32 (A0 : Nat)) ∧ w' = w := fun w => by rw [hA0]; exact Adler_at a0 w (by omega)
  have cA1 : ∀ w, Calls Try.prog 6 #[.string T] w fun e w' => e = .returned (.int .u32 (A1 : Nat)) ∧ w' = w := fun w => by rw [hA1]; exact Adler_at T w (by omega)
  have cF0 : ∀ w, Calls Try.prog 7 #[.string a0] w fun e w' => e = .returned (.int .u32 (F0 : Nat)) ∧ w' = w := fun w => by rw [hF0]; exact Fletcher_at a0 w (by omega)
  have cF1 : ∀ w, Calls Try.prog 7 #[.string T] w fun e w' => e = .returned (.int .u32 (F1 : Nat)) ∧ w' = w := fun w => by rw [hF1]; exact Fletcher_at T w (by omega)
  rw [← hA0, ← hA1] at tA
  rw [← hF0, ← hF1] at tF
  clear hA0 hA1 hF0 hF1
  have hcs : (((A0 : Int) == (A1 : Int)) = true ∧ ((d : Int) == 0) = true ∧ ((F0 : Int) == (F1 : Int)) = true) ∨
      (((A0 : Int) == (A1 : Int)) = false ∧ ((d : Int) == 0) = false ∧ ((d : Int) == 255) = true ∧ ((F0 : Int) == (F1 : Int)) = true) ∨
      (((A0 : Int) == (A1 : Int)) = false ∧ ((d : Int) == 0) = false ∧ ((d : Int) == 255) = false ∧ ((F0 : Int) == (F1 : Int)) = false) := by
    have t1 := tA.out
    have t2 := tF.out
    have t3 := HD0.out
    have t4 := HD1.out
    simp only [beq_iff_eq, beq_eq_false_iff_ne]
    omega
  clear tA tF HD0 HD1 bx bY
  rcases hcs with ⟨u1, u2, u3⟩ | ⟨u1, u2, u3, u4⟩ | ⟨u1, u2, u3, u4⟩
  all_goals
    go_wp2
    go_region
    go_wp2_with (first | (go_at_call_of 6 (Value.string a0); refine (cA0 _).mono ?_; rintro e v2 ⟨rfl, rfl⟩) | (go_at_call_of 6 (Value.string T); refine (cA1 _).mono ?_; rintro e v3 ⟨rfl, rfl⟩) | (go_at_call_of 7 (Value.string a0); refine (cF0 _).mono ?_; rintro e v4 ⟨rfl, rfl⟩) | (go_at_call_of 7 (Value.string T); refine (cF1 _).mono ?_; rintro e v5 ⟨rfl, rfl⟩))
    go_ret
    exact ⟨rfl, g0.drew.drew.g⟩

set_option maxRecDepth 100000 in
theorem lifted (os : Os) (started : os.Started) (H : Type) (enc : TypeId × Value → H) :
    ReturnsInHanded {} Try.checked os 3 .any (Rows.sumsSwapSpec.pre6 enc Try.prog Try.f3 Rows.sumsSwapRow.domain false) (Rows.sumsSwapSpec.post enc Try.prog Try.f3 false true false false) := by
  refine returnsInHanded_of_change_sized (C := Try.checked) own started (by kernel_rfl) Try.func3
    (ChangeSpec.witness6 (enc := enc) (C := Try.checked) false ⟨#[], #[.string ByteArray.empty, .int .i64 0], []⟩ 8 (by kernel_rfl) (by kernel_rfl) (by kernel_rfl) (by kernel_rfl)) ?_
  intro W base args ds gs before hval0 hW hcnd hsz0 _
  have hval : ∀ (j : Nat) t v, Try.f3.params[j]? = some t → args[j]? = some v → Value.okWide Try.prog W .any base t v := hval0
  have hW' := hW
  obtain ⟨p, q, hA0, hV, rfl, hfz, hnd⟩ := hW
  have hA : DataW.TrodAll enc Try.prog W 0 (fun _ => true) true Try.f3.params.toList args.toList ds p := hA0
  have hsz : (DataW.weightsEach Try.prog (Try.f3.params.toList ++ Rows.sumsSwapSpec.plain.varTypes Try.prog) (ds ++ gs)).all (· ≤ reachBytes) = true := hsz0
  rw [Try.params3] at hA hval hsz
  obtain ⟨v0, vs0, d0, ds0, p0, q0, hargs, rfl, rfl, h0, r0⟩ := trodAll_cons hA
  obtain ⟨v1, vs1, d1, ds1, p1, q1, rfl, rfl, rfl, h1, r1⟩ := trodAll_cons r0
  obtain ⟨rfl, rfl, rfl⟩ := trodAll_nil r1
  obtain rfl : args = #[v0, v1] := by cases args; simp_all
  obtain ⟨rfl, rfl⟩ := trodVars_none hV
  obtain ⟨a0, rfl, rfl, rfl, w0⟩ := open_string Try.underlying9 (hval 0 9 v0 rfl rfl) h0
  have z0 : a0.size ≤ 140737488351232 := sized_string hsz (j := 0) (t := 9) rfl rfl
  obtain ⟨a1, rfl, rfl, rfl, w1⟩ := open_int Try.underlying3 (hval 1 3 v1 rfl rfl) h1
  clear hA0 hval0 hsz0 hsz
  simp only [List.append_nil] at hW'
  refine (walk a0 a1 z0 w1 W).mono fun e W' ⟨he, hg⟩ => ?_
  subst he
  exact ⟨_, rfl, post_of_same (pa := []) (pv := []) hW' (fun _ _ _ => (trodAll_cons_mk (shut_bool Try.underlying4 _) trodAll_mk0)) (fun sp _ => (trodAll_cons_mk (shut_string Try.underlying9 w0) (trodAll_cons_mk (shut_int Try.underlying3 w1) trodAll_mk0))) (fun _ _ => rfl) rfl
    (hg.frame _) hg.2.1 (ok_one (by kernel_rfl) rfl (okWide_bool_mk Try.underlying4 _))⟩

theorem over : Rows.sumsSwapRow.holds Try.pinned (OpenSpec.ofChange Rows.sumsSwapSpec) :=
  OpenClaim.holds_of_wide 3 Try.f3 rfl rfl rfl rfl rfl rfl rfl ⟨rfl, rfl, rfl, rfl, rfl⟩ rfl rfl rfl rfl rfl (by kernel_rfl) Try.func3 (by kernel_rfl)
    (of_decide_eq_true (by kernel_rfl)) (by unfold Func.isWrapper; first | (rw [if_pos (by decide +kernel)]; kernel_rfl) | (rw [if_neg (by decide +kernel)]; exact ⟨rfl, rfl⟩))
    (fun os started H enc _ => lifted os started H enc)

end Go.Proofs.Ythimjckimggpoab.sumsSwap
namespace Go.Proofs.Ythimjckimggpoab
/-- The given statement. -/
theorem sumsSwap_holds : Rows.SumsSwapSaid := sumsSwap.over
#print axioms sumsSwap_holds
end Go.Proofs.Ythimjckimggpoab
