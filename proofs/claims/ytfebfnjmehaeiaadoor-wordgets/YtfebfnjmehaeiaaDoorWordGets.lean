/- Proved: 'escritoirelaw.WordGets' answers true at every text, place, width and order: Get of package word is the document's. The card ties errors.errorType to the pruned copy's text. -/
import Derived.Test.YtfebfnjmehaeiaaDoorRows
import Derived.WalkKit
import Derived.ProofKit
import Derived.OpenShut
import Derived.SizedLaws
import Derived.Test.YtfebfnjmehaeiaaDoorLaid
import Derived.Test.YtfebfnjmehaeiaaDoorTie
import Derived.Test.YtfebfnjmehaeiaaDoorCards
import Derived.SevenTiedAt
import Derived.Test.YtfebfnjmehaeiaaDoorRefWord
import Derived.ShutString
namespace Go.Proofs.YtfebfnjmehaeiaaDoor.wordGets
open Go.ChangeShapes Go.WideShapes Go.ChangeAt Go.RowKit
open Go.ChangeMaps (open_string shut_string)
set_option linter.unusedVariables false      -- a walk need not use every 'w<i>' (that an integer argument fits its kind)

theorem own : ownKnob Tryd.prog.godebug = none := by kernel_rfl

open words mem num errs
theorem walk (a0 : ByteArray) (a1 : Int) (a2 : Int) (a3 : Int) (w0 : a0.size ≤ 140737488351232) (w1 : (Lit.int .i64 a1).wf = true) (w2 : (Lit.int .i64 a2).wf = true) (w3 : (Lit.int .i64 a3).wf = true) (w : World) (hg : errs.Laid w) :
    Calls Tryd.prog 4 #[.string a0, .int .i64 a1, .int .i64 a2, .int .i64 a3] w fun e w' => e = .returned (.bool true) ∧ Grown w w' := by
  have b1 := bounds_i64 w1
  have b2 := bounds_i64 w2
  clear w1 w2 w3
  have HG : Hid (Laid w) := hg
  clear hg
  by_cases hl : 100 < a0.size
  · go_enter Tryd.func4, Tryd.ntmps4
    go_wp2
    go_ret
    exact ⟨rfl, Grown.refl _⟩
  have hl' : a0.size ≤ 100 := by omega
  clear hl
  by_cases hr : okW a2 ∧ okO a3
  · obtain ⟨hW, hO⟩ := hr
    have HW : Hid (okW a2) := hW
    have HO : Hid (okO a3) := hO
    by_cases hA : a1 < 0 ∨ (a0.size : Int) - a2 < a1
    · have HA : Hid (a1 < 0 ∨ (a0.size : Int) - a2 < a1) := hA
      clear hW hO hA
      go_enter Tryd.func4, Tryd.ntmps4
      go_wp2_with (first | (go_at_call 8; refine (refGet_out _ _ _ _ _ (by omega) HW.out HO.out HA.out (by omega)).mono ?_; rintro e v1 ⟨rfl, rfl⟩) | (go_at_call 10; refine (get_out _ _ _ _ _ (by omega) HW.out HO.out HA.out).mono ?_; rintro e v2 ⟨rfl, rfl⟩) | (go_at_call 9; refine (bare_errno _ _ _ HG.out).mono ?_; rintro e v3 ⟨rfl, hgb⟩))
      go_ret
      exact ⟨rfl, hgb.g⟩
    · obtain ⟨A, rfl⟩ := Int.eq_ofNat_of_zero_le (show 0 ≤ a1 by omega)
      obtain ⟨W, rfl⟩ := Int.eq_ofNat_of_zero_le (show 0 ≤ a2 by unfold okW at hW; omega)
      obtain ⟨o, ho⟩ : ∃ o : Bool, (if o then (1 : Int) else 0) = a3 := by
        rcases hO with rfl | rfl
        · exact ⟨false, rfl⟩
        · exact ⟨true, rfl⟩
      have HOO : Hid ((if o then (1 : Int) else 0) = a3) := ho
      have hAW : A + W ≤ a0.size := by omega
      clear hW hO hA ho
      go_enter Tryd.func4, Tryd.ntmps4
      go_wp2_with (first | (go_at_call 8; refine (refGet_any _ _ _ o _ _ HOO.out HW.out (by omega) (by omega)).mono ?_; rintro e v1 ⟨rfl, rfl⟩) | (go_at_call 10; refine (get_any _ _ _ o _ _ HOO.out HW.out (by unfold maxLen; omega) (by omega)).mono ?_; rintro e v2 ⟨rfl, rfl⟩) | (go_at_call 9; refine (bare_nil _ _).mono ?_; rintro e v3 ⟨rfl, rfl⟩))
      go_ret
      exact ⟨rfl, Grown.refl _⟩
  · have HR : Hid (¬ (okW a2 ∧ okO a3)) := hr
    clear hr
    go_enter Tryd.func4, Tryd.ntmps4
    go_wp2_with (first | (go_at_call 8; refine (refGet_no _ _ _ _ _ HR.out).mono ?_; rintro e v1 ⟨rfl, rfl⟩) | (go_at_call 10; refine (get_no _ _ _ _ _ HR.out).mono ?_; rintro e v2 ⟨rfl, rfl⟩) | (go_at_call 9; refine (bare_errno _ _ _ HG.out).mono ?_; rintro e v3 ⟨rfl, hgb⟩))
    go_ret
    exact ⟨rfl, hgb.g⟩

set_option maxRecDepth 100000 in
theorem lifted (os : Os) (started : os.Started) (H : Type) (enc : TypeId × Value → H) :
    ReturnsInHanded {} Tryd.checked os 4 .any (fun w args => (Rows.wordGetsSpec.pre enc Tryd.prog Tryd.f4 [] false w args ∧ laidMetH Tryd.prog laying.list w) ∧ sizedMet enc Tryd.prog Tryd.f4 (OpenSpec.ofChange Rows.wordGetsSpec) false w args) (Rows.wordGetsSpec.post enc Tryd.prog Tryd.f4 false true false false) := by
  refine returnsInHanded_of_change_and (C := Tryd.checked) (X := fun w _ => laidMetH Tryd.prog laying.list w) (fun _ _ _ hh h => h.of_heap hh) own started (by kernel_rfl) Tryd.func4
    (ChangeSpec.witness_at (enc := enc) (C := Tryd.checked) (os := os) (X := fun w _ => laidMetH Tryd.prog laying.list w) false (laying.layCell (World.holding Tryd.prog os ⟨#[], #[], []⟩)) #[.string ByteArray.empty, .int .i64 0, .int .i64 0, .int .i64 0] 8 rfl (by kernel_rfl) (by kernel_rfl) (by kernel_rfl) (by kernel_rfl) (by kernel_rfl) (laying.laidWorld_met os _)) ?_
  intro W base args ds gs before hval0 hW hcnd hsz0 hL _
  have hval : ∀ (j : Nat) t v, Tryd.f4.params[j]? = some t → args[j]? = some v → Value.okWide Tryd.prog W .any base t v := hval0
  have hW' := hW
  obtain ⟨p, q, hA0, hV, rfl, hfz, hnd⟩ := hW
  have hA : DataW.TrodAll enc Tryd.prog W 0 (fun _ => true) true Tryd.f4.params.toList args.toList ds p := hA0
  have hsz : (DataW.weightsEach Tryd.prog (Tryd.f4.params.toList ++ Rows.wordGetsSpec.plain.varTypes Tryd.prog) (ds ++ gs)).all (· ≤ reachBytes) = true := hsz0
  rw [Tryd.params4] at hA hval hsz
  obtain ⟨v0, vs0, d0, ds0, p0, q0, hargs, rfl, rfl, h0, r0⟩ := trodAll_cons hA
  obtain ⟨v1, vs1, d1, ds1, p1, q1, rfl, rfl, rfl, h1, r1⟩ := trodAll_cons r0
  obtain ⟨v2, vs2, d2, ds2, p2, q2, rfl, rfl, rfl, h2, r2⟩ := trodAll_cons r1
  obtain ⟨v3, vs3, d3, ds3, p3, q3, rfl, rfl, rfl, h3, r3⟩ := trodAll_cons r2
  obtain ⟨rfl, rfl, rfl⟩ := trodAll_nil r3
  obtain rfl : args = #[v0, v1, v2, v3] := by cases args; simp_all
  obtain ⟨rfl, rfl⟩ := trodVars_none hV
  obtain ⟨a0, rfl, rfl, rfl, w0⟩ := open_string Tryd.underlying9 (hval 0 9 v0 rfl rfl) h0
  have z0 : a0.size ≤ 140737488351232 := sized_string hsz (j := 0) (t := 9) rfl rfl
  obtain ⟨a1, rfl, rfl, rfl, w1⟩ := open_int Tryd.underlying3 (hval 1 3 v1 rfl rfl) h1
  obtain ⟨a2, rfl, rfl, rfl, w2⟩ := open_int Tryd.underlying3 (hval 2 3 v2 rfl rfl) h2
  obtain ⟨a3, rfl, rfl, rfl, w3⟩ := open_int Tryd.underlying3 (hval 3 3 v3 rfl rfl) h3
  clear hA0 hval0 hsz0 hsz
  simp only [List.append_nil] at hW'
  refine (walk a0 a1 a2 a3 z0 w1 w2 w3 W (laying.handle_of_laid hL)).mono fun e W' ⟨he, hg⟩ => ?_
  subst he
  exact ⟨_, rfl, post_of_same (pa := []) (pv := []) hW' (fun _ _ _ => (trodAll_cons_mk (shut_bool Tryd.underlying4 _) trodAll_mk0)) (fun sp _ => (trodAll_cons_mk (shut_string Tryd.underlying9 w0) (trodAll_cons_mk (shut_int Tryd.underlying3 w1) (trodAll_cons_mk (shut_int Tryd.underlying3 w2) (trodAll_cons_mk (shut_int Tryd.underlying3 w3) trodAll_mk0))))) (fun _ _ => rfl) rfl
    (hg.frame _) hg.2.1 (ok_one (by kernel_rfl) rfl (okWide_bool_mk Tryd.underlying4 _))⟩

theorem over : Rows.wordGetsRow.holds Tryd.pinned (OpenSpec.ofChange Rows.wordGetsSpec) :=
  OpenClaim.holds_of_wide 4 Tryd.f4 rfl rfl rfl rfl rfl rfl rfl ⟨rfl, rfl, rfl, rfl, rfl⟩ rfl rfl rfl rfl rfl (by kernel_rfl) Tryd.func4 (by kernel_rfl)
    (of_decide_eq_true (by kernel_rfl)) (by unfold Func.isWrapper; first | (rw [if_pos (by decide +kernel)]; kernel_rfl) | (rw [if_neg (by decide +kernel)]; exact ⟨rfl, rfl⟩))
    (fun os started H enc _ => lifted os started H enc)

theorem tied : Rows.WordGetsCardSaid :=
  Claim7.holds_tied_plain_at .later [] [.handle] true (true, "b5064cee55ac92a359f9160d9bbb3ae7369483f6d1c808ae10fbe8f885eabe64") true
    over (fun _ h => by cases h) (by kernel_rfl) (fun _ h => by cases h) wordGets_row_tie rfl ⟨rfl, rfl⟩ (by kernel_rfl) rfl
    (fun f fn hf hfn => by
      obtain rfl : f = 4 := Option.some.inj ((show Tryd.prog.funcNamed "escritoire/escritoirelaw.WordGets" = some 4 by kernel_rfl).symm.trans hf) |>.symm
      obtain rfl : fn = Tryd.f4 := (Option.some.inj (Tryd.func4.symm.trans hfn)).symm
      exact ⟨by kernel_rfl, fun j t ht => by
        rw [Tryd.params4] at ht
        rcases j with _ | j
        · obtain rfl : t = 9 := by simpa using ht.symm
          exact (show Tryd.prog.wantsStandIn 9 = false by kernel_rfl)
        · rcases j with _ | j
          · obtain rfl : t = 3 := by simpa using ht.symm
            exact (show Tryd.prog.wantsStandIn 3 = false by kernel_rfl)
          · rcases j with _ | j
            · obtain rfl : t = 3 := by simpa using ht.symm
              exact (show Tryd.prog.wantsStandIn 3 = false by kernel_rfl)
            · rcases j with _ | j
              · obtain rfl : t = 3 := by simpa using ht.symm
                exact (show Tryd.prog.wantsStandIn 3 = false by kernel_rfl)
              · simp at ht⟩)
    (by kernel_rfl)
end Go.Proofs.YtfebfnjmehaeiaaDoor.wordGets
namespace Go.Proofs.YtfebfnjmehaeiaaDoor
/-- The given statement. -/
theorem wordGets_holds : Rows.WordGetsCardSaid := wordGets.tied
#print axioms wordGets_holds
end Go.Proofs.YtfebfnjmehaeiaaDoor
