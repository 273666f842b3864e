/- What makes one of any two texts of up to 300 bytes together the other one, and how little that is, is what the document's DiffEdits and DiffFar answer: DiffEdits answers true at every two texts, where errors.errorType is laid as the package lays it. -/
import Derived.Test.YtoiiphkcpdphbaaDoorRows
import Derived.WalkKit
import Derived.ProofKit
import Derived.OpenShut
import Derived.SizedLaws
import Derived.Test.YtoiiphkcpdphbaaDoorLaid
import Derived.Test.YtoiiphkcpdphbaaDoorTie
import Derived.Test.YtoiiphkcpdphbaaDoorCards
import Derived.SevenTiedAt
import Derived.Test.YtoiiphkcpdphbaaDoorDfW
import Derived.Test.YtoiiphkcpdphbaaDoorDf3
import Derived.Test.YtoiiphkcpdphbaaDoorDfS
import Derived.Test.YtoiiphkcpdphbaaDoorLaid
import Derived.Test.YtoiiphkcpdphbaaDoorBare
import Derived.ShutString
namespace Go.Proofs.YtoiiphkcpdphbaaDoor.diffEdits
open Go.ChangeShapes Go.WideShapes Go.ChangeAt Go.RowKit
open Go.ChangeMaps (open_string shut_string)
set_option linter.unusedVariables false      -- a walk need not use every 'w<i>' (that an integer argument fits its kind)

theorem own : ownKnob Tryd.prog.godebug = none := by kernel_rfl

open mem df errs
set_option maxHeartbeats 1000000 in
set_option maxRecDepth 100000 in
theorem walk (a0 : ByteArray) (a1 : ByteArray) (w0 : a0.size ≤ 140737488351232) (w1 : a1.size ≤ 140737488351232) (w : World) (hg : errs.Laid w) :
    Calls Tryd.prog 3 #[.string a0, .string a1] w fun e w' => e = .returned (.bool true) ∧ Below w.heap.size w w' := by
  by_cases hs : a0.size + a1.size ≤ 300
  · have hz : ¬ (300 : Int) < (a0.size : Int) + (a1.size : Int) := by omega
    have cB := fun w => bare_nil 0 w
    have h00 : ((0 : Int) == 0) = true := rfl
    rw [h00] at cB
    have hlb : (edits (L a0) (L a1)).length ≤ 5000 := Nat.le_trans (edits_len _ _) (by rw [L_len, L_len]; omega)
    have hfl := far_le (L a0) (L a1)
    rw [L_len, L_len] at hfl
    have c1 := fun w => refFar_at a0 a1 w (by omega)
    have c2 := fun w => Far_at a0 a1 w (by omega)
    clear h00
    generalize far (L a0) (L a1) = F at c1 c2 hfl
    go_enter Tryd.func3, Tryd.ntmps3
    go_wp2_with fail
    refine (c1 _).mono ?_
    rintro e v1 ⟨rfl, hb1⟩
    go_wp2_with fail
    refine (c2 _).mono ?_
    rintro e v2 ⟨rfl, hb2⟩
    go_wp2_with fail
    refine (refEdits_at a0 a1 v2 (by omega)).mono ?_
    rintro e v3 ⟨x3, rfl, ho3, hb3⟩
    go_wp2_with fail
    refine (Edits_at a0 a1 v3 (by omega)).mono ?_
    rintro e v4 ⟨x4, rfl, ho4, hb4⟩
    have cS := sameEdits_at (edits (L a0) (L a1)) x4 x3 v4 ho4.view (ho3.step hb4).view hlb
    have HB : Hid (Bl w v4) := ((hb1.trans hb2).trans hb3).trans hb4
    clear ho3 ho4 hb1 hb2 hb3 hb4 hlb c1 c2
    go_wp2_with (first
      | (go_at_call 10; refine (cB _).mono ?_; rintro e v5 ⟨rfl, rfl⟩)
      | (go_at_call 11; refine cS.mono ?_; rintro e v6 ⟨rfl, hb6⟩))
    go_ret
    exact ⟨rfl, HB.out.trans hb6⟩
  · have hz : (300 : Int) < (a0.size : Int) + (a1.size : Int) := by omega
    go_enter Tryd.func3, Tryd.ntmps3
    go_wp2
    go_ret
    exact ⟨rfl, Bl.refl _⟩

set_option maxRecDepth 100000 in
theorem lifted (os : Os) (started : os.Started) (H : Type) (enc : TypeId × Value → H) :
    ReturnsInHanded {} Tryd.checked os 3 .any (fun w args => (Rows.diffEditsSpec.pre enc Tryd.prog Tryd.f3 [] false w args ∧ laidMetH Tryd.prog laying.list w) ∧ sizedMet enc Tryd.prog Tryd.f3 (OpenSpec.ofChange Rows.diffEditsSpec) false w args) (Rows.diffEditsSpec.post enc Tryd.prog Tryd.f3 false true false false) := by
  refine returnsInHanded_of_change_and (C := Tryd.checked) (X := fun w _ => laidMetH Tryd.prog laying.list w) (fun _ _ _ hh h => h.of_heap hh) own started (by kernel_rfl) Tryd.func3
    (ChangeSpec.witness_at (enc := enc) (C := Tryd.checked) (os := os) (X := fun w _ => laidMetH Tryd.prog laying.list w) false (laying.layCell (World.holding Tryd.prog os ⟨#[], #[], []⟩)) #[.string ByteArray.empty, .string ByteArray.empty] 8 rfl (by kernel_rfl) (by kernel_rfl) (by kernel_rfl) (by kernel_rfl) (by kernel_rfl) (laying.laidWorld_met os _)) ?_
  intro W base args ds gs before hval0 hW hcnd hsz0 hL _
  have hval : ∀ (j : Nat) t v, Tryd.f3.params[j]? = some t → args[j]? = some v → Value.okWide Tryd.prog W .any base t v := hval0
  have hW' := hW
  obtain ⟨p, q, hA0, hV, rfl, hfz, hnd⟩ := hW
  have hA : DataW.TrodAll enc Tryd.prog W 0 (fun _ => true) true Tryd.f3.params.toList args.toList ds p := hA0
  have hsz : (DataW.weightsEach Tryd.prog (Tryd.f3.params.toList ++ Rows.diffEditsSpec.plain.varTypes Tryd.prog) (ds ++ gs)).all (· ≤ reachBytes) = true := hsz0
  rw [Tryd.params3] at hA hval hsz
  obtain ⟨v0, vs0, d0, ds0, p0, q0, hargs, rfl, rfl, h0, r0⟩ := trodAll_cons hA
  obtain ⟨v1, vs1, d1, ds1, p1, q1, rfl, rfl, rfl, h1, r1⟩ := trodAll_cons r0
  obtain ⟨rfl, rfl, rfl⟩ := trodAll_nil r1
  obtain rfl : args = #[v0, v1] := by cases args; simp_all
  obtain ⟨rfl, rfl⟩ := trodVars_none hV
  obtain ⟨a0, rfl, rfl, rfl, w0⟩ := open_string Tryd.underlying9 (hval 0 9 v0 rfl rfl) h0
  have z0 : a0.size ≤ 140737488351232 := sized_string hsz (j := 0) (t := 9) rfl rfl
  obtain ⟨a1, rfl, rfl, rfl, w1⟩ := open_string Tryd.underlying9 (hval 1 9 v1 rfl rfl) h1
  have z1 : a1.size ≤ 140737488351232 := sized_string hsz (j := 1) (t := 9) rfl rfl
  clear hA0 hval0 hsz0 hsz
  simp only [List.append_nil] at hW'
  refine (walk a0 a1 z0 z1 W (laying.handle_of_laid hL)).mono fun e W' ⟨he, hg⟩ => ?_
  subst he
  exact ⟨_, rfl, _, _, _, [], [], [], hW', (trodAll_cons_mk (shut_bool Tryd.underlying4 _) trodAll_mk0), (trodAll_cons_mk (shut_string Tryd.underlying9 w0) (trodAll_cons_mk (shut_string Tryd.underlying9 w1) trodAll_mk0)), rfl, hg.frame _, fun h => by cases h⟩

theorem over : Rows.diffEditsRow.holds Tryd.pinned (OpenSpec.ofChange Rows.diffEditsSpec) :=
  OpenClaim.holds_of_wide 3 Tryd.f3 rfl rfl rfl rfl rfl rfl rfl ⟨rfl, rfl, rfl, rfl, rfl⟩ rfl rfl rfl rfl rfl (by kernel_rfl) Tryd.func3 (by kernel_rfl)
    (of_decide_eq_true (by kernel_rfl)) (by unfold Func.isWrapper; first | (rw [if_pos (by decide +kernel)]; kernel_rfl) | (rw [if_neg (by decide +kernel)]; exact ⟨rfl, rfl⟩))
    (fun os started H enc _ => lifted os started H enc)

theorem tied : Rows.DiffEditsCardSaid :=
  Claim7.holds_tied_plain_at .later [] [.handle] true (true, "431d567330ca89b7f7be97eea1bf2da344311c473cbdfd471245095115c89600") true
    over (fun _ h => by cases h) (by kernel_rfl) (fun _ h => by cases h) diffEdits_row_tie rfl ⟨rfl, rfl⟩ (by kernel_rfl) rfl
    (fun f fn hf hfn => by
      obtain rfl : f = 3 := Option.some.inj ((show Tryd.prog.funcNamed "escritoire/escritoirelaw.DiffEdits" = some 3 by kernel_rfl).symm.trans hf) |>.symm
      obtain rfl : fn = Tryd.f3 := (Option.some.inj (Tryd.func3.symm.trans hfn)).symm
      exact ⟨by kernel_rfl, fun j t ht => by
        rw [Tryd.params3] at ht
        rcases j with _ | j
        · obtain rfl : t = 9 := by simpa using ht.symm
          exact (show Tryd.prog.wantsStandIn 9 = false by kernel_rfl)
        · rcases j with _ | j
          · obtain rfl : t = 9 := by simpa using ht.symm
            exact (show Tryd.prog.wantsStandIn 9 = false by kernel_rfl)
          · simp at ht⟩)
    (by kernel_rfl)
end Go.Proofs.YtoiiphkcpdphbaaDoor.diffEdits
namespace Go.Proofs.YtoiiphkcpdphbaaDoor
/-- The given statement. -/
theorem diffEdits_holds : Rows.DiffEditsCardSaid := diffEdits.tied
#print axioms diffEdits_holds
end Go.Proofs.YtoiiphkcpdphbaaDoor
