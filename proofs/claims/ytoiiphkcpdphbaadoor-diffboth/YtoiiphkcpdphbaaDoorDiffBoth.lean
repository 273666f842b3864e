/- What comes of two texts that were made of one, each of up to 200 bytes together with that one, is what the document's DiffBoth answers: DiffBoth answers true at every three texts, where errors.errorType is laid as the package lays it. -/
import Derived.Test.YtoiiphkcpdphbaaDoorRows
import Derived.WalkKit
import Derived.ProofKit
import Derived.OpenShut
import Derived.SizedLaws
import Derived.Test.YtoiiphkcpdphbaaDoorLaid
import Derived.Test.YtoiiphkcpdphbaaDoorTie
import Derived.Test.YtoiiphkcpdphbaaDoorCards
import Derived.SevenTiedAt
import Derived.Test.YtoiiphkcpdphbaaDoorDfO
import Derived.Test.YtoiiphkcpdphbaaDoorDf9
import Derived.Test.YtoiiphkcpdphbaaDoorLaid
import Derived.Test.YtoiiphkcpdphbaaDoorBare
import Derived.ShutString
namespace Go.Proofs.YtoiiphkcpdphbaaDoor.diffBoth
open Go.ChangeShapes Go.WideShapes Go.ChangeAt Go.RowKit
open Go.ChangeMaps (open_string shut_string)
set_option linter.unusedVariables false      -- a walk need not use every 'w<i>' (that an integer argument fits its kind)

theorem own : ownKnob Tryd.prog.godebug = none := by kernel_rfl

open mem df errs
set_option maxHeartbeats 1000000 in
set_option maxRecDepth 100000 in
theorem walk (a0 : ByteArray) (a1 : ByteArray) (a2 : ByteArray) (w0 : a0.size ≤ 140737488351232) (w1 : a1.size ≤ 140737488351232) (w2 : a2.size ≤ 140737488351232) (w : World) (hg : errs.Laid w) :
    Calls Tryd.prog 5 #[.string a0, .string a1, .string a2] w fun e w' => e = .returned (.bool true) ∧ Below w.heap.size w w' := by
  by_cases hs : a0.size + a1.size ≤ 200
  · have hz1 : ¬ (200 : Int) < (a0.size : Int) + (a1.size : Int) := by omega
    have hd1 : decide ((200 : Int) < (a0.size : Int) + (a1.size : Int)) = false := decide_eq_false hz1
    by_cases ht : a0.size + a2.size ≤ 200
    · have hz2 : ¬ (200 : Int) < (a0.size : Int) + (a2.size : Int) := by omega
      have hd2 : decide ((200 : Int) < (a0.size : Int) + (a2.size : Int)) = false := decide_eq_false hz2
      have cB := fun w => bare_nil 0 w
      have h00 : ((0 : Int) == 0) = true := rfl
      rw [h00] at cB
      have c1 := fun w => refBoth_at a0 a1 a2 w (by omega) (by omega)
      have c2 := fun w => Both_at a0 a1 a2 w (by omega) (by omega)
      clear h00
      generalize both (L a0) (L a1) (L a2) = R at c1 c2
      obtain ⟨r1, r2⟩ := R
      dsimp only at c1 c2
      generalize tx r1 = t at c1 c2
      go_enter Tryd.func5, Tryd.ntmps5
      go_wp2_with fail
      refine (c1 _).mono ?_
      rintro e v1 ⟨rfl, hb1⟩
      go_wp2_with fail
      refine (c2 _).mono ?_
      rintro e v2 ⟨rfl, hb2⟩
      have HB : Hid (Bl w v2) := hb1.trans hb2
      clear hb1 hb2 c1 c2
      go_wp2_with (go_at_call 10; refine (cB _).mono ?_; rintro e v5 ⟨rfl, rfl⟩)
      go_ret
      exact ⟨by simp, HB.out⟩
    · have hz2 : (200 : Int) < (a0.size : Int) + (a2.size : Int) := by omega
      have hd2 : decide ((200 : Int) < (a0.size : Int) + (a2.size : Int)) = true := decide_eq_true hz2
      go_enter Tryd.func5, Tryd.ntmps5
      go_wp2
      go_ret
      exact ⟨rfl, Bl.refl _⟩
  · have hz1 : (200 : Int) < (a0.size : Int) + (a1.size : Int) := by omega
    have hd1 : decide ((200 : Int) < (a0.size : Int) + (a1.size : Int)) = true := decide_eq_true hz1
    go_enter Tryd.func5, Tryd.ntmps5
    go_wp2
    go_ret
    exact ⟨rfl, Bl.refl _⟩

set_option maxRecDepth 100000 in
theorem lifted (os : Os) (started : os.Started) (H : Type) (enc : TypeId × Value → H) :
    ReturnsInHanded {} Tryd.checked os 5 .any (fun w args => (Rows.diffBothSpec.pre enc Tryd.prog Tryd.f5 [] false w args ∧ laidMetH Tryd.prog laying.list w) ∧ sizedMet enc Tryd.prog Tryd.f5 (OpenSpec.ofChange Rows.diffBothSpec) false w args) (Rows.diffBothSpec.post enc Tryd.prog Tryd.f5 false true false false) := by
  refine returnsInHanded_of_change_and (C := Tryd.checked) (X := fun w _ => laidMetH Tryd.prog laying.list w) (fun _ _ _ hh h => h.of_heap hh) own started (by kernel_rfl) Tryd.func5
    (ChangeSpec.witness_at (enc := enc) (C := Tryd.checked) (os := os) (X := fun w _ => laidMetH Tryd.prog laying.list w) false (laying.layCell (World.holding Tryd.prog os ⟨#[], #[], []⟩)) #[.string ByteArray.empty, .string ByteArray.empty, .string ByteArray.empty] 8 rfl (by kernel_rfl) (by kernel_rfl) (by kernel_rfl) (by kernel_rfl) (by kernel_rfl) (laying.laidWorld_met os _)) ?_
  intro W base args ds gs before hval0 hW hcnd hsz0 hL _
  have hval : ∀ (j : Nat) t v, Tryd.f5.params[j]? = some t → args[j]? = some v → Value.okWide Tryd.prog W .any base t v := hval0
  have hW' := hW
  obtain ⟨p, q, hA0, hV, rfl, hfz, hnd⟩ := hW
  have hA : DataW.TrodAll enc Tryd.prog W 0 (fun _ => true) true Tryd.f5.params.toList args.toList ds p := hA0
  have hsz : (DataW.weightsEach Tryd.prog (Tryd.f5.params.toList ++ Rows.diffBothSpec.plain.varTypes Tryd.prog) (ds ++ gs)).all (· ≤ reachBytes) = true := hsz0
  rw [Tryd.params5] at hA hval hsz
  obtain ⟨v0, vs0, d0, ds0, p0, q0, hargs, rfl, rfl, h0, r0⟩ := trodAll_cons hA
  obtain ⟨v1, vs1, d1, ds1, p1, q1, rfl, rfl, rfl, h1, r1⟩ := trodAll_cons r0
  obtain ⟨v2, vs2, d2, ds2, p2, q2, rfl, rfl, rfl, h2, r2⟩ := trodAll_cons r1
  obtain ⟨rfl, rfl, rfl⟩ := trodAll_nil r2
  obtain rfl : args = #[v0, v1, v2] := by cases args; simp_all
  obtain ⟨rfl, rfl⟩ := trodVars_none hV
  obtain ⟨a0, rfl, rfl, rfl, w0⟩ := open_string Tryd.underlying9 (hval 0 9 v0 rfl rfl) h0
  have z0 : a0.size ≤ 140737488351232 := sized_string hsz (j := 0) (t := 9) rfl rfl
  obtain ⟨a1, rfl, rfl, rfl, w1⟩ := open_string Tryd.underlying9 (hval 1 9 v1 rfl rfl) h1
  have z1 : a1.size ≤ 140737488351232 := sized_string hsz (j := 1) (t := 9) rfl rfl
  obtain ⟨a2, rfl, rfl, rfl, w2⟩ := open_string Tryd.underlying9 (hval 2 9 v2 rfl rfl) h2
  have z2 : a2.size ≤ 140737488351232 := sized_string hsz (j := 2) (t := 9) rfl rfl
  clear hA0 hval0 hsz0 hsz
  simp only [List.append_nil] at hW'
  refine (walk a0 a1 a2 z0 z1 z2 W (laying.handle_of_laid hL)).mono fun e W' ⟨he, hg⟩ => ?_
  subst he
  exact ⟨_, rfl, _, _, _, [], [], [], hW', (trodAll_cons_mk (shut_bool Tryd.underlying4 _) trodAll_mk0), (trodAll_cons_mk (shut_string Tryd.underlying9 w0) (trodAll_cons_mk (shut_string Tryd.underlying9 w1) (trodAll_cons_mk (shut_string Tryd.underlying9 w2) trodAll_mk0))), rfl, hg.frame _, fun h => by cases h⟩

theorem over : Rows.diffBothRow.holds Tryd.pinned (OpenSpec.ofChange Rows.diffBothSpec) :=
  OpenClaim.holds_of_wide 5 Tryd.f5 rfl rfl rfl rfl rfl rfl rfl ⟨rfl, rfl, rfl, rfl, rfl⟩ rfl rfl rfl rfl rfl (by kernel_rfl) Tryd.func5 (by kernel_rfl)
    (of_decide_eq_true (by kernel_rfl)) (by unfold Func.isWrapper; first | (rw [if_pos (by decide +kernel)]; kernel_rfl) | (rw [if_neg (by decide +kernel)]; exact ⟨rfl, rfl⟩))
    (fun os started H enc _ => lifted os started H enc)

theorem tied : Rows.DiffBothCardSaid :=
  Claim7.holds_tied_plain_at .later [] [.handle] true (true, "431d567330ca89b7f7be97eea1bf2da344311c473cbdfd471245095115c89600") true
    over (fun _ h => by cases h) (by kernel_rfl) (fun _ h => by cases h) diffBoth_row_tie rfl ⟨rfl, rfl⟩ (by kernel_rfl) rfl
    (fun f fn hf hfn => by
      obtain rfl : f = 5 := Option.some.inj ((show Tryd.prog.funcNamed "escritoire/escritoirelaw.DiffBoth" = some 5 by kernel_rfl).symm.trans hf) |>.symm
      obtain rfl : fn = Tryd.f5 := (Option.some.inj (Tryd.func5.symm.trans hfn)).symm
      exact ⟨by kernel_rfl, fun j t ht => by
        rw [Tryd.params5] at ht
        rcases j with _ | j
        · obtain rfl : t = 9 := by simpa using ht.symm
          exact (show Tryd.prog.wantsStandIn 9 = false by kernel_rfl)
        · rcases j with _ | j
          · obtain rfl : t = 9 := by simpa using ht.symm
            exact (show Tryd.prog.wantsStandIn 9 = false by kernel_rfl)
          · rcases j with _ | j
            · obtain rfl : t = 9 := by simpa using ht.symm
              exact (show Tryd.prog.wantsStandIn 9 = false by kernel_rfl)
            · simp at ht⟩)
    (by kernel_rfl)
end Go.Proofs.YtoiiphkcpdphbaaDoor.diffBoth
namespace Go.Proofs.YtoiiphkcpdphbaaDoor
/-- The given statement. -/
theorem diffBoth_holds : Rows.DiffBothCardSaid := diffBoth.tied
#print axioms diffBoth_holds
end Go.Proofs.YtoiiphkcpdphbaaDoor
