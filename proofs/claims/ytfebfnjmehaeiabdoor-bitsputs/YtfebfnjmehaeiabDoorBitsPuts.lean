/- Proved: 'escritoirelaw.BitsPuts' answers true at every text, place, number of bits, order and number: Put of package bits is the document's. The card ties errors.errorType to the pruned copy's text. -/
import Derived.Test.YtfebfnjmehaeiabDoorRows
import Derived.WalkKit
import Derived.ProofKit
import Derived.OpenShut
import Derived.SizedLaws
import Derived.Test.YtfebfnjmehaeiabDoorLaid
import Derived.Test.YtfebfnjmehaeiabDoorTie
import Derived.Test.YtfebfnjmehaeiabDoorCards
import Derived.SevenTiedAt
import Derived.Test.YtfebfnjmehaeiabDoorRefBits5
import Derived.ShutString
namespace Go.Proofs.YtfebfnjmehaeiabDoor.bitsPuts
open Go.ChangeShapes Go.WideShapes Go.ChangeAt Go.RowKit
open Go.ChangeMaps (open_string shut_string)
set_option linter.unusedVariables false      -- a walk need not use every 'w<i>' (that an integer argument fits its kind)

theorem own : ownKnob Tryd.prog.godebug = none := by kernel_rfl

open bitw bit mem errs
theorem walk (a0 : ByteArray) (a1 : Int) (a2 : Int) (a3 : Int) (a4 : Int) (w0 : a0.size ≤ 140737488351232) (w1 : (Lit.int .i64 a1).wf = true) (w2 : (Lit.int .i64 a2).wf = true) (w3 : (Lit.int .i64 a3).wf = true) (w4 : (Lit.int .u64 a4).wf = true) (w : World) (hg : errs.Laid w) :
    Calls Tryd.prog 4 #[.string a0, .int .i64 a1, .int .i64 a2, .int .i64 a3, .int .u64 a4] w fun e w' => e = .returned (.bool true) ∧ Below w.heap.size w w' := by
  have b4 := bounds_u64 w4
  clear w1 w2 w3 w4
  have HG : Hid (Laid w) := hg
  clear hg
  by_cases hl : 60 < a0.size
  · go_enter Tryd.func4, Tryd.ntmps4
    go_wp2
    go_ret
    exact ⟨rfl, Below.refl _ _⟩
  have hl' : a0.size ≤ 60 := by omega
  clear hl
  by_cases hO : okO a3
  · by_cases hR : okR a0 a1 a2
    · obtain ⟨h1, h2, h3, h4⟩ := hR
      obtain ⟨A, rfl⟩ := Int.eq_ofNat_of_zero_le h3
      obtain ⟨n, rfl⟩ := Int.eq_ofNat_of_zero_le h1
      obtain ⟨V, rfl⟩ := Int.eq_ofNat_of_zero_le b4.1
      obtain ⟨o, ho⟩ : ∃ o : Bool, (if o then (1 : Int) else 0) = a3 := by
        rcases hO with rfl | rfl
        · exact ⟨false, rfl⟩
        · exact ⟨true, rfl⟩
      have HOO : Hid ((if o then (1 : Int) else 0) = a3) := ho
      clear hO ho
      go_enter Tryd.func4, Tryd.ntmps4
      go_wp2_with (first | (go_at_call 8; refine (refPut_any _ _ _ o _ _ _ HOO.out (by omega) (by omega) (by omega) (by omega)).mono ?_; rintro e v1 ⟨rfl, hg1⟩) | (go_at_call 9; refine (put_any _ _ _ o _ _ _ HOO.out (by omega) (by omega) (by omega) (by omega)).mono ?_; rintro e v2 ⟨rfl, hg2⟩) | (go_at_call 7; refine (bare_nil _ _).mono ?_; rintro e v3 ⟨rfl, rfl⟩))
      go_ret
      exact ⟨rfl, Bl.trans hg1.bl hg2⟩
    · have HB : Hid (∀ w, Calls Tryd.prog 12 #[.string a0, .int .i64 a1, .int .i64 a2, .int .i64 a3] w fun e w' => e = .returned (.iface 23 (.int .i64 2)) ∧ w' = w) := fun w => wrong_range a0 a1 a2 a3 w (by omega) hO hR
      have HT : Hid (∀ w, Calls Tryd.prog 10 #[.string a0, .int .i64 a1, .int .i64 a2, .int .i64 a3] w fun e w' => e = .returned (.int .i64 2) ∧ w' = w) := fun w => there_range a0 a1 a2 a3 w (by omega) hO hR
      clear hO hR
      go_enter Tryd.func4, Tryd.ntmps4
      go_wp2_with (first | (go_at_call 8; refine (refPut_bad _ _ _ _ _ 2 _ rfl HT.out).mono ?_; rintro e v1 ⟨rfl, rfl⟩) | (go_at_call 9; refine (put_bad _ _ _ _ _ 2 _ HB.out).mono ?_; rintro e v2 ⟨rfl, rfl⟩) | (go_at_call 7; refine (bare_errno _ _ _ HG.out).mono ?_; rintro e v3 ⟨rfl, hgb⟩))
      go_ret
      exact ⟨rfl, hgb.b⟩
  · have HB : Hid (∀ w, Calls Tryd.prog 12 #[.string a0, .int .i64 a1, .int .i64 a2, .int .i64 a3] w fun e w' => e = .returned (.iface 23 (.int .i64 1)) ∧ w' = w) := fun w => wrong_arg a0 a1 a2 a3 w hO
    have HT : Hid (∀ w, Calls Tryd.prog 10 #[.string a0, .int .i64 a1, .int .i64 a2, .int .i64 a3] w fun e w' => e = .returned (.int .i64 1) ∧ w' = w) := fun w => there_arg a0 a1 a2 a3 w hO
    clear hO
    go_enter Tryd.func4, Tryd.ntmps4
    go_wp2_with (first | (go_at_call 8; refine (refPut_bad _ _ _ _ _ 1 _ rfl HT.out).mono ?_; rintro e v1 ⟨rfl, rfl⟩) | (go_at_call 9; refine (put_bad _ _ _ _ _ 1 _ HB.out).mono ?_; rintro e v2 ⟨rfl, rfl⟩) | (go_at_call 7; refine (bare_errno _ _ _ HG.out).mono ?_; rintro e v3 ⟨rfl, hgb⟩))
    go_ret
    exact ⟨rfl, hgb.b⟩

set_option maxRecDepth 100000 in
theorem lifted (os : Os) (started : os.Started) (H : Type) (enc : TypeId × Value → H) :
    ReturnsInHanded {} Tryd.checked os 4 .any (fun w args => (Rows.bitsPutsSpec.pre enc Tryd.prog Tryd.f4 [] false w args ∧ laidMetH Tryd.prog laying.list w) ∧ sizedMet enc Tryd.prog Tryd.f4 (OpenSpec.ofChange Rows.bitsPutsSpec) false w args) (Rows.bitsPutsSpec.post enc Tryd.prog Tryd.f4 false true false false) := by
  refine returnsInHanded_of_change_and (C := Tryd.checked) (X := fun w _ => laidMetH Tryd.prog laying.list w) (fun _ _ _ hh h => h.of_heap hh) own started (by kernel_rfl) Tryd.func4
    (ChangeSpec.witness_at (enc := enc) (C := Tryd.checked) (os := os) (X := fun w _ => laidMetH Tryd.prog laying.list w) false (laying.layCell (World.holding Tryd.prog os ⟨#[], #[], []⟩)) #[.string ByteArray.empty, .int .i64 0, .int .i64 0, .int .i64 0, .int .u64 0] 8 rfl (by kernel_rfl) (by kernel_rfl) (by kernel_rfl) (by kernel_rfl) (by kernel_rfl) (laying.laidWorld_met os _)) ?_
  intro W base args ds gs before hval0 hW hcnd hsz0 hL _
  have hval : ∀ (j : Nat) t v, Tryd.f4.params[j]? = some t → args[j]? = some v → Value.okWide Tryd.prog W .any base t v := hval0
  have hW' := hW
  obtain ⟨p, q, hA0, hV, rfl, hfz, hnd⟩ := hW
  have hA : DataW.TrodAll enc Tryd.prog W 0 (fun _ => true) true Tryd.f4.params.toList args.toList ds p := hA0
  have hsz : (DataW.weightsEach Tryd.prog (Tryd.f4.params.toList ++ Rows.bitsPutsSpec.plain.varTypes Tryd.prog) (ds ++ gs)).all (· ≤ reachBytes) = true := hsz0
  rw [Tryd.params4] at hA hval hsz
  obtain ⟨v0, vs0, d0, ds0, p0, q0, hargs, rfl, rfl, h0, r0⟩ := trodAll_cons hA
  obtain ⟨v1, vs1, d1, ds1, p1, q1, rfl, rfl, rfl, h1, r1⟩ := trodAll_cons r0
  obtain ⟨v2, vs2, d2, ds2, p2, q2, rfl, rfl, rfl, h2, r2⟩ := trodAll_cons r1
  obtain ⟨v3, vs3, d3, ds3, p3, q3, rfl, rfl, rfl, h3, r3⟩ := trodAll_cons r2
  obtain ⟨v4, vs4, d4, ds4, p4, q4, rfl, rfl, rfl, h4, r4⟩ := trodAll_cons r3
  obtain ⟨rfl, rfl, rfl⟩ := trodAll_nil r4
  obtain rfl : args = #[v0, v1, v2, v3, v4] := by cases args; simp_all
  obtain ⟨rfl, rfl⟩ := trodVars_none hV
  obtain ⟨a0, rfl, rfl, rfl, w0⟩ := open_string Tryd.underlying9 (hval 0 9 v0 rfl rfl) h0
  have z0 : a0.size ≤ 140737488351232 := sized_string hsz (j := 0) (t := 9) rfl rfl
  obtain ⟨a1, rfl, rfl, rfl, w1⟩ := open_int Tryd.underlying3 (hval 1 3 v1 rfl rfl) h1
  obtain ⟨a2, rfl, rfl, rfl, w2⟩ := open_int Tryd.underlying3 (hval 2 3 v2 rfl rfl) h2
  obtain ⟨a3, rfl, rfl, rfl, w3⟩ := open_int Tryd.underlying3 (hval 3 3 v3 rfl rfl) h3
  obtain ⟨a4, rfl, rfl, rfl, w4⟩ := open_int Tryd.underlying22 (hval 4 22 v4 rfl rfl) h4
  clear hA0 hval0 hsz0 hsz
  simp only [List.append_nil] at hW'
  refine (walk a0 a1 a2 a3 a4 z0 w1 w2 w3 w4 W (laying.handle_of_laid hL)).mono fun e W' ⟨he, hg⟩ => ?_
  subst he
  exact ⟨_, rfl, _, _, _, [], [], [], hW', (trodAll_cons_mk (shut_bool Tryd.underlying4 _) trodAll_mk0), (trodAll_cons_mk (shut_string Tryd.underlying9 w0) (trodAll_cons_mk (shut_int Tryd.underlying3 w1) (trodAll_cons_mk (shut_int Tryd.underlying3 w2) (trodAll_cons_mk (shut_int Tryd.underlying3 w3) (trodAll_cons_mk (shut_int Tryd.underlying22 w4) trodAll_mk0))))), rfl, hg.frame _, fun h => by cases h⟩

theorem over : Rows.bitsPutsRow.holds Tryd.pinned (OpenSpec.ofChange Rows.bitsPutsSpec) :=
  OpenClaim.holds_of_wide 4 Tryd.f4 rfl rfl rfl rfl rfl rfl rfl ⟨rfl, rfl, rfl, rfl, rfl⟩ rfl rfl rfl rfl rfl (by kernel_rfl) Tryd.func4 (by kernel_rfl)
    (of_decide_eq_true (by kernel_rfl)) (by unfold Func.isWrapper; first | (rw [if_pos (by decide +kernel)]; kernel_rfl) | (rw [if_neg (by decide +kernel)]; exact ⟨rfl, rfl⟩))
    (fun os started H enc _ => lifted os started H enc)

theorem tied : Rows.BitsPutsCardSaid :=
  Claim7.holds_tied_plain_at .later [] [.handle] true (true, "523dd793fde1068e151a7e11ecf81c735d2eb9f2a21a70a48f42e75ab0e94358") true
    over (fun _ h => by cases h) (by kernel_rfl) (fun _ h => by cases h) bitsPuts_row_tie rfl ⟨rfl, rfl⟩ (by kernel_rfl) rfl
    (fun f fn hf hfn => by
      obtain rfl : f = 4 := Option.some.inj ((show Tryd.prog.funcNamed "escritoire/escritoirelaw.BitsPuts" = some 4 by kernel_rfl).symm.trans hf) |>.symm
      obtain rfl : fn = Tryd.f4 := (Option.some.inj (Tryd.func4.symm.trans hfn)).symm
      exact ⟨by kernel_rfl, fun j t ht => by
        rw [Tryd.params4] at ht
        rcases j with _ | j
        · obtain rfl : t = 9 := by simpa using ht.symm
          exact (show Tryd.prog.wantsStandIn 9 = false by kernel_rfl)
        · rcases j with _ | j
          · obtain rfl : t = 3 := by simpa using ht.symm
            exact (show Tryd.prog.wantsStandIn 3 = false by kernel_rfl)
          · rcases j with _ | j
            · obtain rfl : t = 3 := by simpa using ht.symm
              exact (show Tryd.prog.wantsStandIn 3 = false by kernel_rfl)
            · rcases j with _ | j
              · obtain rfl : t = 3 := by simpa using ht.symm
                exact (show Tryd.prog.wantsStandIn 3 = false by kernel_rfl)
              · rcases j with _ | j
                · obtain rfl : t = 22 := by simpa using ht.symm
                  exact (show Tryd.prog.wantsStandIn 22 = false by kernel_rfl)
                · simp at ht⟩)
    (by kernel_rfl)
end Go.Proofs.YtfebfnjmehaeiabDoor.bitsPuts
namespace Go.Proofs.YtfebfnjmehaeiabDoor
/-- The given statement. -/
theorem bitsPuts_holds : Rows.BitsPutsCardSaid := bitsPuts.tied
#print axioms bitsPuts_holds
end Go.Proofs.YtfebfnjmehaeiabDoor
