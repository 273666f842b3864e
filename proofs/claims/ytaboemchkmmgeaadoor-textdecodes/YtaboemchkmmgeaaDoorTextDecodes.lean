/- The law TextDecodes holds for every text: the signs that any bytes are, and how many bytes each one has, as package text tells them, are those that the document's own reader finds. -/
import Derived.Test.YtaboemchkmmgeaaDoorRows
import Derived.WalkKit
import Derived.ProofKit
import Derived.OpenShut
import Derived.SizedLaws
import Derived.Test.YtaboemchkmmgeaaDoorLaidT
import Derived.Test.YtaboemchkmmgeaaDoorTie
import Derived.Test.YtaboemchkmmgeaaDoorCards
import Derived.SevenTiedAt
import Derived.Test.YtaboemchkmmgeaaDoorRefT5
import Derived.Test.YtaboemchkmmgeaaDoorSame
import Derived.ShutString
namespace Go.Proofs.YtaboemchkmmgeaaDoor.textDecodes
open Go.ChangeShapes Go.WideShapes Go.ChangeAt Go.RowKit
open Go.ChangeMaps (open_string shut_string)
set_option linter.unusedVariables false      -- a walk need not use every 'w<i>' (that an integer argument fits its kind)

theorem own : ownKnob Tryd.prog.godebug = none := by kernel_rfl

open mem rows utf
theorem walk (a0 : ByteArray) (w0 : a0.size ≤ 140737488351232) (w : World) (hg : utf.Tabs w) :
    Calls Tryd.prog 3 #[.string a0] w fun e w' => e = .returned (.bool true) ∧ Below w.heap.size w w' := by
  have HG : Hid (Tabs w) := hg
  clear hg
  by_cases hl : a0.size ≤ 200
  · have cA := fun w => refDecode_at a0 w (by omega)
    have cB := fun w hT => Decode_at a0 w (by omega) hT
    have hD := D_len a0.size a0
    generalize D a0.size a0 = L at cA cB hD
    have hz : ¬ ((200 : Int) < (a0.size : Int)) := by omega
    go_enter Tryd.func3, Tryd.ntmps3
    go_wp2_with (first
      | (go_at_call 8; refine (cA _).mono ?_; rintro e w1 ⟨v1, v2, rfl, ho1, hb1⟩)
      | (go_at_call 9; refine (cB _ (HG.out.step hb1)).mono ?_; rintro e w2 ⟨v3, v4, rfl, ho2, hb2⟩; have ho1' := ho1.step hb2)
      | (go_at_call_of 10 v3; refine (same_at v3 v1 (sg L) _ _ _ ho2.a ho1'.a (by rw [sg_len]; omega)).mono ?_; rintro e w3 ⟨rfl, hb3⟩)
      | (go_at_call_of 10 v4; refine (same_at v4 v2 (sz L) _ _ _ (ho2.step hb3).b (ho1'.step hb3).b (by rw [sz_len]; omega)).mono ?_; rintro e w4 ⟨rfl, hb4⟩))
    go_ret
    exact ⟨rfl, ((hb1.trans hb2).trans hb3).trans hb4⟩
  · have hz : (200 : Int) < (a0.size : Int) := by omega
    go_enter Tryd.func3, Tryd.ntmps3
    go_wp2
    go_ret
    exact ⟨rfl, Bl.refl _⟩

set_option maxRecDepth 100000 in
theorem lifted (os : Os) (started : os.Started) (H : Type) (enc : TypeId × Value → H) :
    ReturnsInHanded {} Tryd.checked os 3 .any (fun w args => (Rows.textDecodesSpec.pre enc Tryd.prog Tryd.f3 [] false w args ∧ laidMetH Tryd.prog laidt.list w) ∧ sizedMet enc Tryd.prog Tryd.f3 (OpenSpec.ofChange Rows.textDecodesSpec) false w args) (Rows.textDecodesSpec.post enc Tryd.prog Tryd.f3 false true false false) := by
  refine returnsInHanded_of_change_and (C := Tryd.checked) (X := fun w _ => laidMetH Tryd.prog laidt.list w) (fun _ _ _ hh h => h.of_heap hh) own started (by kernel_rfl) Tryd.func3
    (ChangeSpec.witness_shaped (enc := enc) (C := Tryd.checked) (os := os) (X := fun w _ => laidMetH Tryd.prog laidt.list w) false (World.layVars Tryd.prog (World.holding Tryd.prog os ⟨#[], #[], []⟩) laidt.list) #[.string ByteArray.empty] 8 (World.layVars_os _ _ _) (World.shaped_of_ZipB (by kernel_rfl) (by kernel_rfl)) (by kernel_rfl) (by kernel_rfl) (by kernel_rfl) (laidt.world_met os _)) ?_
  intro W base args ds gs before hval0 hW hcnd hsz0 hL _
  have hval : ∀ (j : Nat) t v, Tryd.f3.params[j]? = some t → args[j]? = some v → Value.okWide Tryd.prog W .any base t v := hval0
  have hW' := hW
  obtain ⟨p, q, hA0, hV, rfl, hfz, hnd⟩ := hW
  have hA : DataW.TrodAll enc Tryd.prog W 0 (fun _ => true) true Tryd.f3.params.toList args.toList ds p := hA0
  have hsz : (DataW.weightsEach Tryd.prog (Tryd.f3.params.toList ++ Rows.textDecodesSpec.plain.varTypes Tryd.prog) (ds ++ gs)).all (· ≤ reachBytes) = true := hsz0
  rw [Tryd.params3] at hA hval hsz
  obtain ⟨v0, vs0, d0, ds0, p0, q0, hargs, rfl, rfl, h0, r0⟩ := trodAll_cons hA
  obtain ⟨rfl, rfl, rfl⟩ := trodAll_nil r0
  obtain rfl : args = #[v0] := by cases args; simp_all
  obtain ⟨rfl, rfl⟩ := trodVars_none hV
  obtain ⟨a0, rfl, rfl, rfl, w0⟩ := open_string Tryd.underlying9 (hval 0 9 v0 rfl rfl) h0
  have z0 : a0.size ≤ 140737488351232 := sized_string hsz (j := 0) (t := 9) rfl rfl
  clear hA0 hval0 hsz0 hsz
  simp only [List.append_nil] at hW'
  refine (walk a0 z0 W (laidt.tabs_of_laid hL)).mono fun e W' ⟨he, hg⟩ => ?_
  subst he
  exact ⟨_, rfl, _, _, _, [], [], [], hW', (trodAll_cons_mk (shut_bool Tryd.underlying4 _) trodAll_mk0), (trodAll_cons_mk (shut_string Tryd.underlying9 w0) trodAll_mk0), rfl, hg.frame _, fun h => by cases h⟩

theorem over : Rows.textDecodesRow.holds Tryd.pinned (OpenSpec.ofChange Rows.textDecodesSpec) :=
  OpenClaim.holds_of_wide 3 Tryd.f3 rfl rfl rfl rfl rfl rfl rfl ⟨rfl, rfl, rfl, rfl, rfl⟩ rfl rfl rfl rfl rfl (by kernel_rfl) Tryd.func3 (by kernel_rfl)
    (of_decide_eq_true (by kernel_rfl)) (by unfold Func.isWrapper; first | (rw [if_pos (by decide +kernel)]; kernel_rfl) | (rw [if_neg (by decide +kernel)]; exact ⟨rfl, rfl⟩))
    (fun os started H enc _ => lifted os started H enc)

theorem tied : Rows.TextDecodesCardSaid :=
  Claim7.holds_tied_plain_at .later [] [.data, .pinned] true (true, "da50a35cb85e1b5f2dec0d1fb941b3ff753e9b6ae2dc4309d0212b04c63d48c4") true
    over (fun _ h => by cases h) (by kernel_rfl) (fun _ h => by cases h) textDecodes_row_tie rfl ⟨rfl, rfl⟩ (by kernel_rfl) rfl
    (fun f fn hf hfn => by
      obtain rfl : f = 3 := Option.some.inj ((show Tryd.prog.funcNamed "escritoire/escritoirelaw.TextDecodes" = some 3 by kernel_rfl).symm.trans hf) |>.symm
      obtain rfl : fn = Tryd.f3 := (Option.some.inj (Tryd.func3.symm.trans hfn)).symm
      exact ⟨by kernel_rfl, fun j t ht => by
        rw [Tryd.params3] at ht
        rcases j with _ | j
        · obtain rfl : t = 9 := by simpa using ht.symm
          exact (show Tryd.prog.wantsStandIn 9 = false by kernel_rfl)
        · simp at ht⟩)
    (by kernel_rfl)
end Go.Proofs.YtaboemchkmmgeaaDoor.textDecodes
namespace Go.Proofs.YtaboemchkmmgeaaDoor
/-- The given statement. -/
theorem textDecodes_holds : Rows.TextDecodesCardSaid := textDecodes.tied
#print axioms textDecodes_holds
end Go.Proofs.YtaboemchkmmgeaaDoor
