/- DigitsPrints: any digits of a number are the document own ones, and what a byte is as a digit; at every argument. -/
import Derived.Test.YtncmpjdapngmpaaDoorRows
import Derived.WalkKit
import Derived.ProofKit
import Derived.OpenShut
import Derived.SizedLaws
import Derived.Test.YtncmpjdapngmpaaDoorLaid
import Derived.Test.YtncmpjdapngmpaaDoorTie
import Derived.Test.YtncmpjdapngmpaaDoorCards
import Derived.SevenTiedAt
import Derived.Test.YtncmpjdapngmpaaDoorRefDig2
import Derived.ShutString
namespace Go.Proofs.YtncmpjdapngmpaaDoor.digitsPrints
open Go.ChangeShapes Go.WideShapes Go.ChangeAt Go.RowKit
open Go.ChangeMaps (open_string shut_string)
set_option linter.unusedVariables false      -- a walk need not use every 'w<i>' (that an integer argument fits its kind)

theorem own : ownKnob Tryd.prog.godebug = none := by kernel_rfl

open digs dig mem errs
theorem walk (a0 : Int) (a1 : Int) (a2 : Int) (a3 : Int) (w0 : (Lit.int .u64 a0).wf = true) (w1 : (Lit.int .i64 a1).wf = true) (w2 : (Lit.int .i64 a2).wf = true) (w3 : (Lit.int .u8 a3).wf = true) (w : World) (hg : errs.Laid w) :
    Calls Tryd.prog 3 #[.int .u64 a0, .int .i64 a1, .int .i64 a2, .int .u8 a3] w fun e w' => e = .returned (.bool true) ∧ Grown w w' := by
  have b0 := bounds_u64 w0
  have b3 := bounds_u8 w3
  clear w0 w1 w2 w3
  have HG : Hid (Laid w) := hg
  clear hg
  obtain ⟨n, rfl⟩ := Int.eq_ofNat_of_zero_le (show 0 ≤ a0 by omega)
  have hn : n < 18446744073709551616 := by omega
  by_cases hB : okB a1
  · obtain ⟨B, rfl⟩ := Int.eq_ofNat_of_zero_le (show 0 ≤ a1 by unfold okB at hB; omega)
    by_cases hW : a2 < 0 ∨ 64 < a2
    · have HB : Hid (okB (B : Int)) := hB
      have HW : Hid (a2 < 0 ∨ 64 < a2) := hW
      clear hB hW
      go_enter Tryd.func3, Tryd.ntmps3
      go_wp2_with (first | (go_at_call 9; refine (refPrint_noW _ _ _ _ HB.out HW.out).mono ?_; rintro e v1 ⟨rfl, rfl⟩) | (go_at_call 10; refine (print_noW _ _ _ _ HB.out HW.out).mono ?_; rintro e v2 ⟨rfl, rfl⟩) | (go_at_call 11; refine (bare_errno _ _ _ HG.out).mono ?_; rintro e v3 ⟨rfl, hg3⟩) | (go_at_call 12; refine (Digit_at _ _ (by omega) (by omega)).mono ?_; rintro e v4 ⟨rfl, rfl⟩) | (go_at_call 13; refine (refDigit_at _ _ (by omega) (by omega)).mono ?_; rintro e v5 ⟨rfl, hg5⟩))
      go_ret
      exact ⟨by simp, (hg3.trans hg5).g⟩
    · obtain ⟨W, rfl⟩ := Int.eq_ofNat_of_zero_le (show 0 ≤ a2 by omega)
      have hb2 : 2 ≤ B := by unfold okB at hB; omega
      have hb16 : B ≤ 16 := by unfold okB at hB; omega
      have hW64 : W ≤ 64 := by omega
      obtain ⟨K, hK⟩ := isK_some B n W hb2 hn
      have HK : Hid (isK B n W K) := hK
      clear hB hW hK
      go_enter Tryd.func3, Tryd.ntmps3
      go_wp2_with (first | (go_at_call 9; refine (refPrint_at n B W K _ hb2 hb16 hn hW64 HK.out).mono ?_; rintro e v1 ⟨rfl, rfl⟩) | (go_at_call 10; refine (print_at n B W K _ hb2 hb16 hn hW64 HK.out).mono ?_; rintro e v2 ⟨rfl, hg2⟩) | (go_at_call 11; refine (bare_nil _ _).mono ?_; rintro e v3 ⟨rfl, rfl⟩) | (go_at_call 12; refine (Digit_at _ _ (by omega) (by omega)).mono ?_; rintro e v4 ⟨rfl, rfl⟩) | (go_at_call 13; refine (refDigit_at _ _ (by omega) (by omega)).mono ?_; rintro e v5 ⟨rfl, hg5⟩))
      go_ret
      exact ⟨by simp, (hg2.trans hg5).g⟩
  · have HB : Hid (¬ okB a1) := hB
    clear hB
    go_enter Tryd.func3, Tryd.ntmps3
    go_wp2_with (first | (go_at_call 9; refine (refPrint_noB _ _ _ _ HB.out).mono ?_; rintro e v1 ⟨rfl, rfl⟩) | (go_at_call 10; refine (print_noB _ _ _ _ HB.out).mono ?_; rintro e v2 ⟨rfl, rfl⟩) | (go_at_call 11; refine (bare_errno _ _ _ HG.out).mono ?_; rintro e v3 ⟨rfl, hg3⟩) | (go_at_call 12; refine (Digit_at _ _ (by omega) (by omega)).mono ?_; rintro e v4 ⟨rfl, rfl⟩) | (go_at_call 13; refine (refDigit_at _ _ (by omega) (by omega)).mono ?_; rintro e v5 ⟨rfl, hg5⟩))
    go_ret
    exact ⟨by simp, (hg3.trans hg5).g⟩

set_option maxRecDepth 100000 in
theorem lifted (os : Os) (started : os.Started) (H : Type) (enc : TypeId × Value → H) :
    ReturnsInHanded {} Tryd.checked os 3 .any (fun w args => (Rows.digitsPrintsSpec.pre enc Tryd.prog Tryd.f3 [] false w args ∧ laidMetH Tryd.prog laying.list w) ∧ sizedMet enc Tryd.prog Tryd.f3 (OpenSpec.ofChange Rows.digitsPrintsSpec) false w args) (Rows.digitsPrintsSpec.post enc Tryd.prog Tryd.f3 false true false false) := by
  refine returnsInHanded_of_change_and (C := Tryd.checked) (X := fun w _ => laidMetH Tryd.prog laying.list w) (fun _ _ _ hh h => h.of_heap hh) own started (by kernel_rfl) Tryd.func3
    (ChangeSpec.witness_at (enc := enc) (C := Tryd.checked) (os := os) (X := fun w _ => laidMetH Tryd.prog laying.list w) false (laying.layCell (World.holding Tryd.prog os ⟨#[], #[], []⟩)) #[.int .u64 0, .int .i64 0, .int .i64 0, .int .u8 0] 8 rfl (by kernel_rfl) (by kernel_rfl) (by kernel_rfl) (by kernel_rfl) (by kernel_rfl) (laying.laidWorld_met os _)) ?_
  intro W base args ds gs before hval0 hW hcnd hsz0 hL _
  have hval : ∀ (j : Nat) t v, Tryd.f3.params[j]? = some t → args[j]? = some v → Value.okWide Tryd.prog W .any base t v := hval0
  have hW' := hW
  obtain ⟨p, q, hA0, hV, rfl, hfz, hnd⟩ := hW
  have hA : DataW.TrodAll enc Tryd.prog W 0 (fun _ => true) true Tryd.f3.params.toList args.toList ds p := hA0
  have hsz : (DataW.weightsEach Tryd.prog (Tryd.f3.params.toList ++ Rows.digitsPrintsSpec.plain.varTypes Tryd.prog) (ds ++ gs)).all (· ≤ reachBytes) = true := hsz0
  rw [Tryd.params3] at hA hval hsz
  obtain ⟨v0, vs0, d0, ds0, p0, q0, hargs, rfl, rfl, h0, r0⟩ := trodAll_cons hA
  obtain ⟨v1, vs1, d1, ds1, p1, q1, rfl, rfl, rfl, h1, r1⟩ := trodAll_cons r0
  obtain ⟨v2, vs2, d2, ds2, p2, q2, rfl, rfl, rfl, h2, r2⟩ := trodAll_cons r1
  obtain ⟨v3, vs3, d3, ds3, p3, q3, rfl, rfl, rfl, h3, r3⟩ := trodAll_cons r2
  obtain ⟨rfl, rfl, rfl⟩ := trodAll_nil r3
  obtain rfl : args = #[v0, v1, v2, v3] := by cases args; simp_all
  obtain ⟨rfl, rfl⟩ := trodVars_none hV
  obtain ⟨a0, rfl, rfl, rfl, w0⟩ := open_int Tryd.underlying22 (hval 0 22 v0 rfl rfl) h0
  obtain ⟨a1, rfl, rfl, rfl, w1⟩ := open_int Tryd.underlying3 (hval 1 3 v1 rfl rfl) h1
  obtain ⟨a2, rfl, rfl, rfl, w2⟩ := open_int Tryd.underlying3 (hval 2 3 v2 rfl rfl) h2
  obtain ⟨a3, rfl, rfl, rfl, w3⟩ := open_int Tryd.underlying5 (hval 3 5 v3 rfl rfl) h3
  clear hA0 hval0 hsz0 hsz
  simp only [List.append_nil] at hW'
  refine (walk a0 a1 a2 a3 w0 w1 w2 w3 W (laying.handle_of_laid hL)).mono fun e W' ⟨he, hg⟩ => ?_
  subst he
  exact ⟨_, rfl, post_of_same (pa := []) (pv := []) hW' (fun _ _ _ => (trodAll_cons_mk (shut_bool Tryd.underlying4 _) trodAll_mk0)) (fun sp _ => (trodAll_cons_mk (shut_int Tryd.underlying22 w0) (trodAll_cons_mk (shut_int Tryd.underlying3 w1) (trodAll_cons_mk (shut_int Tryd.underlying3 w2) (trodAll_cons_mk (shut_int Tryd.underlying5 w3) trodAll_mk0))))) (fun _ _ => rfl) rfl
    (hg.frame _) hg.2.1 (ok_one (by kernel_rfl) rfl (okWide_bool_mk Tryd.underlying4 _))⟩

theorem over : Rows.digitsPrintsRow.holds Tryd.pinned (OpenSpec.ofChange Rows.digitsPrintsSpec) :=
  OpenClaim.holds_of_wide 3 Tryd.f3 rfl rfl rfl rfl rfl rfl rfl ⟨rfl, rfl, rfl, rfl, rfl⟩ rfl rfl rfl rfl rfl (by kernel_rfl) Tryd.func3 (by kernel_rfl)
    (of_decide_eq_true (by kernel_rfl)) (by unfold Func.isWrapper; first | (rw [if_pos (by decide +kernel)]; kernel_rfl) | (rw [if_neg (by decide +kernel)]; exact ⟨rfl, rfl⟩))
    (fun os started H enc _ => lifted os started H enc)

theorem tied : Rows.DigitsPrintsCardSaid :=
  Claim7.holds_tied_plain_at .later [] [.handle] true (true, "b47a621a2adbcce19bb2b222f4054078daf8760fcc217c0053af485b12705170") true
    over (fun _ h => by cases h) (by kernel_rfl) (fun _ h => by cases h) digitsPrints_row_tie rfl ⟨rfl, rfl⟩ (by kernel_rfl) rfl
    (fun f fn hf hfn => by
      obtain rfl : f = 3 := Option.some.inj ((show Tryd.prog.funcNamed "escritoire/escritoirelaw.DigitsPrints" = some 3 by kernel_rfl).symm.trans hf) |>.symm
      obtain rfl : fn = Tryd.f3 := (Option.some.inj (Tryd.func3.symm.trans hfn)).symm
      exact ⟨by kernel_rfl, fun j t ht => by
        rw [Tryd.params3] at ht
        rcases j with _ | j
        · obtain rfl : t = 22 := by simpa using ht.symm
          exact (show Tryd.prog.wantsStandIn 22 = false by kernel_rfl)
        · rcases j with _ | j
          · obtain rfl : t = 3 := by simpa using ht.symm
            exact (show Tryd.prog.wantsStandIn 3 = false by kernel_rfl)
          · rcases j with _ | j
            · obtain rfl : t = 3 := by simpa using ht.symm
              exact (show Tryd.prog.wantsStandIn 3 = false by kernel_rfl)
            · rcases j with _ | j
              · obtain rfl : t = 5 := by simpa using ht.symm
                exact (show Tryd.prog.wantsStandIn 5 = false by kernel_rfl)
              · simp at ht⟩)
    (by kernel_rfl)
end Go.Proofs.YtncmpjdapngmpaaDoor.digitsPrints
namespace Go.Proofs.YtncmpjdapngmpaaDoor
/-- The given statement. -/
theorem digitsPrints_holds : Rows.DigitsPrintsCardSaid := digitsPrints.tied
#print axioms digitsPrints_holds
end Go.Proofs.YtncmpjdapngmpaaDoor
