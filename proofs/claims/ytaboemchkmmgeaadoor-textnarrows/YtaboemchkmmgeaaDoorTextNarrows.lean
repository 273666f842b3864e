/- The law TextNarrows holds for every text and every order: the signs that any pairs of bytes are, the error that is told of an order that is none, and any bytes as they are shown, are the document's. -/
import Derived.Test.YtaboemchkmmgeaaDoorRows
import Derived.WalkKit
import Derived.ProofKit
import Derived.OpenShut
import Derived.SizedLaws
import Derived.Test.YtaboemchkmmgeaaDoorLaid
import Derived.Test.YtaboemchkmmgeaaDoorTie
import Derived.Test.YtaboemchkmmgeaaDoorCards
import Derived.SevenTiedAt
import Derived.Test.YtaboemchkmmgeaaDoorRefNw
import Derived.Test.YtaboemchkmmgeaaDoorShown
import Derived.Test.YtaboemchkmmgeaaDoorSame
import Derived.Test.YtaboemchkmmgeaaDoorTellAt
import Derived.ShutString
namespace Go.Proofs.YtaboemchkmmgeaaDoor.textNarrows
open Go.ChangeShapes Go.WideShapes Go.ChangeAt Go.RowKit
open Go.ChangeMaps (open_string shut_string)
set_option linter.unusedVariables false      -- a walk need not use every 'w<i>' (that an integer argument fits its kind)

theorem own : ownKnob Tryd.prog.godebug = none := by kernel_rfl

open mem rows errs num words narrow shown
theorem walk (a0 : ByteArray) (a1 : Int) (w0 : a0.size ≤ 140737488351232) (w1 : (Lit.int .i64 a1).wf = true) (w : World) (hg : errs.Laid w) :
    Calls Tryd.prog 5 #[.string a0, .int .i64 a1] w fun e w' => e = .returned (.bool true) ∧ Below w.heap.size w w' := by
  have HG : Hid (Laid w) := hg
  clear hg
  by_cases hl : a0.size ≤ 200
  · have hz : ¬ ((200 : Int) < (a0.size : Int)) := by omega
    have cS := fun w => Shown_at a0 w (by omega)
    have cT := fun w => refShown_at a0 w (by omega)
    generalize strOfNums (shL a0 a0.size) = T at cS cT
    by_cases hO : a1 = 0 ∨ a1 = 1
    · obtain ⟨o, ho⟩ : ∃ o : Bool, (if o then (1 : Int) else 0) = a1 := by
        rcases hO with rfl | rfl
        · exact ⟨false, rfl⟩
        · exact ⟨true, rfl⟩
      have cA := fun w => refNarrow_at a0 o a1 w ho (by omega)
      have cB := fun w => Narrow_at a0 o a1 w ho (by omega)
      have hD := NL_len a0 o a0.size 0
      generalize NL a0 o a0.size 0 = L at cA cB hD
      clear ho hO
      go_enter Tryd.func5, Tryd.ntmps5
      go_wp2_with (first
        | (go_at_call 16; refine (cA _).mono ?_; rintro e w1 ⟨v1, rfl, ho1, hb1⟩)
        | (go_at_call 17; refine (cB _).mono ?_; rintro e w2 ⟨v2, rfl, ho2, hb2⟩; have c0 := at_bl hb2 (a := ⟨w1.heap.size, 0, none⟩) (v := .int .i64 0) (by simp); have c1 := at_bl hb2 (a := ⟨w1.heap.size, 1, none⟩) (v := .int .i64 (-1)) (by simp); have ho1' := ho1.step (((Bl.refl w1).alloc _).trans hb2))
        | (go_at_call 15; refine (placed_nil _).mono ?_; rintro e w3 ⟨rfl, hb3⟩)
        | (go_at_call 10; refine (same_at v2 v1 L _ _ _ (ho2.step hb3.bl) (ho1'.step hb3.bl) (by omega)).mono ?_; rintro e w4 ⟨rfl, hb4⟩)
        | (go_at_call 18; refine (cS _).mono ?_; rintro e w5 ⟨rfl, hb5⟩)
        | (go_at_call 19; refine (cT _).mono ?_; rintro e w6 ⟨rfl, rfl⟩))
      go_ret
      exact ⟨by simp, ((((hb1.trans ((Bl.refl w1).alloc _)).trans hb2).trans hb3.bl).trans hb4).trans hb5⟩
    · have cA := fun w => refNarrow_no a0 a1 w hO
      have cB := fun w => Narrow_no a0 a1 w hO
      clear hO
      go_enter Tryd.func5, Tryd.ntmps5
      go_wp2_with (first
        | (go_at_call 16; refine (cA _).mono ?_; rintro e w1 ⟨rfl, hb1⟩)
        | (go_at_call 17; refine (cB _).mono ?_; rintro e w2 ⟨rfl, rfl⟩)
        | (go_at_call 15; refine (placed_errno 1 _ (HG.out.bl (hb1.trans ((Bl.refl w1).alloc _)))).mono ?_; rintro e w3 ⟨rfl, hb3⟩)
        | (go_at_call 10; refine (same_at (.slice none 0 0) (.slice none 0 0) [] _ 0 0 (Own.nil _ _) (Own.nil _ _) (by simp)).mono ?_; rintro e w4 ⟨rfl, hb4⟩)
        | (go_at_call 18; refine (cS _).mono ?_; rintro e w5 ⟨rfl, hb5⟩)
        | (go_at_call 19; refine (cT _).mono ?_; rintro e w6 ⟨rfl, rfl⟩))
      go_ret
      exact ⟨by simp, (((hb1.trans ((Bl.refl w1).alloc _)).trans hb3.bl).trans hb4).trans hb5⟩
  · have hz : (200 : Int) < (a0.size : Int) := by omega
    go_enter Tryd.func5, Tryd.ntmps5
    go_wp2
    go_ret
    exact ⟨rfl, Bl.refl _⟩

set_option maxRecDepth 100000 in
theorem lifted (os : Os) (started : os.Started) (H : Type) (enc : TypeId × Value → H) :
    ReturnsInHanded {} Tryd.checked os 5 .any (fun w args => (Rows.textNarrowsSpec.pre enc Tryd.prog Tryd.f5 [] false w args ∧ laidMetH Tryd.prog laying.list w) ∧ sizedMet enc Tryd.prog Tryd.f5 (OpenSpec.ofChange Rows.textNarrowsSpec) false w args) (Rows.textNarrowsSpec.post enc Tryd.prog Tryd.f5 false true false false) := by
  refine returnsInHanded_of_change_and (C := Tryd.checked) (X := fun w _ => laidMetH Tryd.prog laying.list w) (fun _ _ _ hh h => h.of_heap hh) own started (by kernel_rfl) Tryd.func5
    (ChangeSpec.witness_at (enc := enc) (C := Tryd.checked) (os := os) (X := fun w _ => laidMetH Tryd.prog laying.list w) false (laying.layCell (World.holding Tryd.prog os ⟨#[], #[], []⟩)) #[.string ByteArray.empty, .int .i64 0] 8 rfl (by kernel_rfl) (by kernel_rfl) (by kernel_rfl) (by kernel_rfl) (by kernel_rfl) (laying.laidWorld_met os _)) ?_
  intro W base args ds gs before hval0 hW hcnd hsz0 hL _
  have hval : ∀ (j : Nat) t v, Tryd.f5.params[j]? = some t → args[j]? = some v → Value.okWide Tryd.prog W .any base t v := hval0
  have hW' := hW
  obtain ⟨p, q, hA0, hV, rfl, hfz, hnd⟩ := hW
  have hA : DataW.TrodAll enc Tryd.prog W 0 (fun _ => true) true Tryd.f5.params.toList args.toList ds p := hA0
  have hsz : (DataW.weightsEach Tryd.prog (Tryd.f5.params.toList ++ Rows.textNarrowsSpec.plain.varTypes Tryd.prog) (ds ++ gs)).all (· ≤ reachBytes) = true := hsz0
  rw [Tryd.params5] at hA hval hsz
  obtain ⟨v0, vs0, d0, ds0, p0, q0, hargs, rfl, rfl, h0, r0⟩ := trodAll_cons hA
  obtain ⟨v1, vs1, d1, ds1, p1, q1, rfl, rfl, rfl, h1, r1⟩ := trodAll_cons r0
  obtain ⟨rfl, rfl, rfl⟩ := trodAll_nil r1
  obtain rfl : args = #[v0, v1] := by cases args; simp_all
  obtain ⟨rfl, rfl⟩ := trodVars_none hV
  obtain ⟨a0, rfl, rfl, rfl, w0⟩ := open_string Tryd.underlying9 (hval 0 9 v0 rfl rfl) h0
  have z0 : a0.size ≤ 140737488351232 := sized_string hsz (j := 0) (t := 9) rfl rfl
  obtain ⟨a1, rfl, rfl, rfl, w1⟩ := open_int Tryd.underlying3 (hval 1 3 v1 rfl rfl) h1
  clear hA0 hval0 hsz0 hsz
  simp only [List.append_nil] at hW'
  refine (walk a0 a1 z0 w1 W (laying.handle_of_laid hL)).mono fun e W' ⟨he, hg⟩ => ?_
  subst he
  exact ⟨_, rfl, _, _, _, [], [], [], hW', (trodAll_cons_mk (shut_bool Tryd.underlying4 _) trodAll_mk0), (trodAll_cons_mk (shut_string Tryd.underlying9 w0) (trodAll_cons_mk (shut_int Tryd.underlying3 w1) trodAll_mk0)), rfl, hg.frame _, fun h => by cases h⟩

theorem over : Rows.textNarrowsRow.holds Tryd.pinned (OpenSpec.ofChange Rows.textNarrowsSpec) :=
  OpenClaim.holds_of_wide 5 Tryd.f5 rfl rfl rfl rfl rfl rfl rfl ⟨rfl, rfl, rfl, rfl, rfl⟩ rfl rfl rfl rfl rfl (by kernel_rfl) Tryd.func5 (by kernel_rfl)
    (of_decide_eq_true (by kernel_rfl)) (by unfold Func.isWrapper; first | (rw [if_pos (by decide +kernel)]; kernel_rfl) | (rw [if_neg (by decide +kernel)]; exact ⟨rfl, rfl⟩))
    (fun os started H enc _ => lifted os started H enc)

theorem tied : Rows.TextNarrowsCardSaid :=
  Claim7.holds_tied_plain_at .later [] [.handle] true (true, "da50a35cb85e1b5f2dec0d1fb941b3ff753e9b6ae2dc4309d0212b04c63d48c4") true
    over (fun _ h => by cases h) (by kernel_rfl) (fun _ h => by cases h) textNarrows_row_tie rfl ⟨rfl, rfl⟩ (by kernel_rfl) rfl
    (fun f fn hf hfn => by
      obtain rfl : f = 5 := Option.some.inj ((show Tryd.prog.funcNamed "escritoire/escritoirelaw.TextNarrows" = some 5 by kernel_rfl).symm.trans hf) |>.symm
      obtain rfl : fn = Tryd.f5 := (Option.some.inj (Tryd.func5.symm.trans hfn)).symm
      exact ⟨by kernel_rfl, fun j t ht => by
        rw [Tryd.params5] at ht
        rcases j with _ | j
        · obtain rfl : t = 9 := by simpa using ht.symm
          exact (show Tryd.prog.wantsStandIn 9 = false by kernel_rfl)
        · rcases j with _ | j
          · obtain rfl : t = 3 := by simpa using ht.symm
            exact (show Tryd.prog.wantsStandIn 3 = false by kernel_rfl)
          · simp at ht⟩)
    (by kernel_rfl)
end Go.Proofs.YtaboemchkmmgeaaDoor.textNarrows
namespace Go.Proofs.YtaboemchkmmgeaaDoor
/-- The given statement. -/
theorem textNarrows_holds : Rows.TextNarrowsCardSaid := textNarrows.tied
#print axioms textNarrows_holds
end Go.Proofs.YtaboemchkmmgeaaDoor
