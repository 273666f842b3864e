/- Proved: 'escritoirelaw.WordPuts' answers true at every number, width and order: Put and Swap of package word are the document's. The card ties errors.errorType to the pruned copy's text. -/
import Derived.Test.YtfebfnjmehaeiaaDoorRows
import Derived.WalkKit
import Derived.ProofKit
import Derived.OpenShut
import Derived.SizedLaws
import Derived.Test.YtfebfnjmehaeiaaDoorLaid
import Derived.Test.YtfebfnjmehaeiaaDoorTie
import Derived.Test.YtfebfnjmehaeiaaDoorCards
import Derived.SevenTiedAt
import Derived.Test.YtfebfnjmehaeiaaDoorRefWord
import Derived.ShutString
namespace Go.Proofs.YtfebfnjmehaeiaaDoor.wordPuts
open Go.ChangeShapes Go.WideShapes Go.ChangeAt Go.RowKit
open Go.ChangeMaps (open_string shut_string)
set_option linter.unusedVariables false      -- a walk need not use every 'w<i>' (that an integer argument fits its kind)

theorem own : ownKnob Tryd.prog.godebug = none := by kernel_rfl

open words mem num errs
theorem swap_no (n W : Int) (w : World) (h : ¬ okW W) : Calls Tryd.prog 7 #[.int .u64 n, .int .i64 W] w fun e w' => e = .returned (.tuple #[.int .u64 0, .iface 23 (.int .i64 1)]) ∧ w' = w := by
  have H : Hid (¬ (okW W ∧ okO 0)) := fun x => h x.1
  clear h
  go_enter Tryd.func7, Tryd.ntmps7
  go_wp2_with (go_at_call 6; refine (put_no _ _ _ _ H.out).mono ?_; rintro e w1 ⟨rfl, rfl⟩)
  go_ret2
  exact ⟨rfl, rfl⟩
theorem refGet_swap (n : Int) (W : Nat) (w : World) (hW : okW W) :
    Calls Tryd.prog 8 #[.string (strOfNums (putL n W false W)), .int .i64 0, .int .i64 W, .int .i64 1] w fun e w' => e = .returned (.tuple #[.int .u64 (rev n W), .int .i64 0]) ∧ w' = w := by
  have hw8 : W ≤ 8 := by unfold okW at hW; omega
  have hl := put_len n W false
  have hr : gv (fun i => sb (strOfNums (putL n W false W)) (0 + pl W true i)) W = rev n W := by
    unfold rev
    apply gv_congr
    intro i hi
    have h := putL_get n W false (pl W true i) (by unfold pl; split <;> omega)
    rw [Nat.zero_add, sb_nums _ (putL_bd n W false W)]
    exact h
  have hg := refGet_any (strOfNums (putL n W false W)) 0 W true 1 w rfl hW (by rw [hl]; omega) (by rw [hl]; omega)
  rw [hr] at hg
  exact hg
theorem walk (a0 : Int) (a1 : Int) (a2 : Int) (w0 : (Lit.int .u64 a0).wf = true) (w1 : (Lit.int .i64 a1).wf = true) (w2 : (Lit.int .i64 a2).wf = true) (w : World) (hg : errs.Laid w) :
    Calls Tryd.prog 3 #[.int .u64 a0, .int .i64 a1, .int .i64 a2] w fun e w' => e = .returned (.bool true) ∧ Grown w w' := by
  have b0 := bounds_u64 w0
  clear w0 w1 w2
  have HG : Hid (Laid w) := hg
  clear hg
  by_cases hW : okW a1
  · obtain ⟨W, rfl⟩ := Int.eq_ofNat_of_zero_le (show 0 ≤ a1 by unfold okW at hW; omega)
    have HW : Hid (okW (W : Int)) := hW
    by_cases hO : okO a2
    · obtain ⟨o, ho⟩ : ∃ o : Bool, (if o then (1 : Int) else 0) = a2 := by
        rcases hO with rfl | rfl
        · exact ⟨false, rfl⟩
        · exact ⟨true, rfl⟩
      have HOO : Hid ((if o then (1 : Int) else 0) = a2) := ho
      clear hW hO ho
      go_enter Tryd.func3, Tryd.ntmps3
      go_wp2_with (first | (go_at_call_of 5 (Value.int IntKind.i64 a2); refine (refPut_any _ _ o _ _ (by omega) (by omega) HOO.out HW.out).mono ?_; rintro e v1 ⟨rfl, hg1⟩) | (go_at_call 5; refine (refPut_any _ _ false _ _ (by omega) (by omega) rfl HW.out).mono ?_; rintro e v2 ⟨rfl, hg2⟩) | (go_at_call 6; refine (put_at _ _ o _ _ HOO.out HW.out).mono ?_; rintro e v3 ⟨rfl, hg3⟩) | (go_at_call 7; refine (swap_any _ _ _ HW.out).mono ?_; rintro e v4 ⟨rfl, hg4⟩) | (go_at_call 8; refine (refGet_swap _ _ _ HW.out).mono ?_; rintro e v5 ⟨rfl, rfl⟩) | (go_at_call 9; refine (bare_nil _ _).mono ?_; rintro e v6 ⟨rfl, rfl⟩))
      go_ret
      exact ⟨rfl, (((hg1.trans hg3).trans hg4).trans hg2).g⟩
    · have H : Hid (¬ (okW (W : Int) ∧ okO a2)) := fun x => hO x.2
      clear hW hO
      go_enter Tryd.func3, Tryd.ntmps3
      go_wp2_with (first | (go_at_call_of 5 (Value.int IntKind.i64 a2); refine (refPut_no _ _ _ _ H.out).mono ?_; rintro e v1 ⟨rfl, rfl⟩) | (go_at_call 5; refine (refPut_any _ _ false _ _ (by omega) (by omega) rfl HW.out).mono ?_; rintro e v2 ⟨rfl, hg2⟩) | (go_at_call 6; refine (put_no _ _ _ _ H.out).mono ?_; rintro e v3 ⟨rfl, rfl⟩) | (go_at_call 7; refine (swap_any _ _ _ HW.out).mono ?_; rintro e v4 ⟨rfl, hg4⟩) | (go_at_call 8; refine (refGet_swap _ _ _ HW.out).mono ?_; rintro e v5 ⟨rfl, rfl⟩) | (go_at_call_of 9 (Value.nilIface); refine (bare_nil _ _).mono ?_; rintro e v6 ⟨rfl, rfl⟩) | (go_at_call 9; refine (bare_errno _ _ _ (HG.out.gb (by exact hg4.trans hg2))).mono ?_; rintro e v7 ⟨rfl, hg7⟩))
      go_ret
      exact ⟨rfl, ((hg4.trans hg2).trans hg7).g⟩
  · have HW : Hid (¬ okW a1) := hW
    have H : Hid (∀ O, ¬ (okW a1 ∧ okO O)) := fun _ x => hW x.1
    clear hW
    go_enter Tryd.func3, Tryd.ntmps3
    go_wp2_with (first | (go_at_call 5; refine (refPut_no _ _ _ _ (H.out _)).mono ?_; rintro e v1 ⟨rfl, rfl⟩) | (go_at_call 6; refine (put_no _ _ _ _ (H.out _)).mono ?_; rintro e v3 ⟨rfl, rfl⟩) | (go_at_call 7; refine (swap_no _ _ _ HW.out).mono ?_; rintro e v4 ⟨rfl, rfl⟩) | (go_at_call 8; refine (refGet_no _ _ _ _ _ (H.out _)).mono ?_; rintro e v5 ⟨rfl, rfl⟩))
    refine (bare_errno _ _ _ HG.out).mono ?_
    rintro e v6 ⟨rfl, hg6⟩
    go_wp2_with (go_at_call 9; refine (bare_errno _ _ _ (HG.out.gb hg6)).mono ?_; rintro e v7 ⟨rfl, hg7⟩)
    go_ret
    exact ⟨rfl, (hg6.trans hg7).g⟩

set_option maxRecDepth 100000 in
theorem lifted (os : Os) (started : os.Started) (H : Type) (enc : TypeId × Value → H) :
    ReturnsInHanded {} Tryd.checked os 3 .any (fun w args => (Rows.wordPutsSpec.pre enc Tryd.prog Tryd.f3 [] false w args ∧ laidMetH Tryd.prog laying.list w) ∧ sizedMet enc Tryd.prog Tryd.f3 (OpenSpec.ofChange Rows.wordPutsSpec) false w args) (Rows.wordPutsSpec.post enc Tryd.prog Tryd.f3 false true false false) := by
  refine returnsInHanded_of_change_and (C := Tryd.checked) (X := fun w _ => laidMetH Tryd.prog laying.list w) (fun _ _ _ hh h => h.of_heap hh) own started (by kernel_rfl) Tryd.func3
    (ChangeSpec.witness_at (enc := enc) (C := Tryd.checked) (os := os) (X := fun w _ => laidMetH Tryd.prog laying.list w) false (laying.layCell (World.holding Tryd.prog os ⟨#[], #[], []⟩)) #[.int .u64 0, .int .i64 0, .int .i64 0] 8 rfl (by kernel_rfl) (by kernel_rfl) (by kernel_rfl) (by kernel_rfl) (by kernel_rfl) (laying.laidWorld_met os _)) ?_
  intro W base args ds gs before hval0 hW hcnd hsz0 hL _
  have hval : ∀ (j : Nat) t v, Tryd.f3.params[j]? = some t → args[j]? = some v → Value.okWide Tryd.prog W .any base t v := hval0
  have hW' := hW
  obtain ⟨p, q, hA0, hV, rfl, hfz, hnd⟩ := hW
  have hA : DataW.TrodAll enc Tryd.prog W 0 (fun _ => true) true Tryd.f3.params.toList args.toList ds p := hA0
  have hsz : (DataW.weightsEach Tryd.prog (Tryd.f3.params.toList ++ Rows.wordPutsSpec.plain.varTypes Tryd.prog) (ds ++ gs)).all (· ≤ reachBytes) = true := hsz0
  rw [Tryd.params3] at hA hval hsz
  obtain ⟨v0, vs0, d0, ds0, p0, q0, hargs, rfl, rfl, h0, r0⟩ := trodAll_cons hA
  obtain ⟨v1, vs1, d1, ds1, p1, q1, rfl, rfl, rfl, h1, r1⟩ := trodAll_cons r0
  obtain ⟨v2, vs2, d2, ds2, p2, q2, rfl, rfl, rfl, h2, r2⟩ := trodAll_cons r1
  obtain ⟨rfl, rfl, rfl⟩ := trodAll_nil r2
  obtain rfl : args = #[v0, v1, v2] := by cases args; simp_all
  obtain ⟨rfl, rfl⟩ := trodVars_none hV
  obtain ⟨a0, rfl, rfl, rfl, w0⟩ := open_int Tryd.underlying22 (hval 0 22 v0 rfl rfl) h0
  obtain ⟨a1, rfl, rfl, rfl, w1⟩ := open_int Tryd.underlying3 (hval 1 3 v1 rfl rfl) h1
  obtain ⟨a2, rfl, rfl, rfl, w2⟩ := open_int Tryd.underlying3 (hval 2 3 v2 rfl rfl) h2
  clear hA0 hval0 hsz0 hsz
  simp only [List.append_nil] at hW'
  refine (walk a0 a1 a2 w0 w1 w2 W (laying.handle_of_laid hL)).mono fun e W' ⟨he, hg⟩ => ?_
  subst he
  exact ⟨_, rfl, post_of_same (pa := []) (pv := []) hW' (fun _ _ _ => (trodAll_cons_mk (shut_bool Tryd.underlying4 _) trodAll_mk0)) (fun sp _ => (trodAll_cons_mk (shut_int Tryd.underlying22 w0) (trodAll_cons_mk (shut_int Tryd.underlying3 w1) (trodAll_cons_mk (shut_int Tryd.underlying3 w2) trodAll_mk0)))) (fun _ _ => rfl) rfl
    (hg.frame _) hg.2.1 (ok_one (by kernel_rfl) rfl (okWide_bool_mk Tryd.underlying4 _))⟩

theorem over : Rows.wordPutsRow.holds Tryd.pinned (OpenSpec.ofChange Rows.wordPutsSpec) :=
  OpenClaim.holds_of_wide 3 Tryd.f3 rfl rfl rfl rfl rfl rfl rfl ⟨rfl, rfl, rfl, rfl, rfl⟩ rfl rfl rfl rfl rfl (by kernel_rfl) Tryd.func3 (by kernel_rfl)
    (of_decide_eq_true (by kernel_rfl)) (by unfold Func.isWrapper; first | (rw [if_pos (by decide +kernel)]; kernel_rfl) | (rw [if_neg (by decide +kernel)]; exact ⟨rfl, rfl⟩))
    (fun os started H enc _ => lifted os started H enc)

theorem tied : Rows.WordPutsCardSaid :=
  Claim7.holds_tied_plain_at .later [] [.handle] true (true, "b5064cee55ac92a359f9160d9bbb3ae7369483f6d1c808ae10fbe8f885eabe64") true
    over (fun _ h => by cases h) (by kernel_rfl) (fun _ h => by cases h) wordPuts_row_tie rfl ⟨rfl, rfl⟩ (by kernel_rfl) rfl
    (fun f fn hf hfn => by
      obtain rfl : f = 3 := Option.some.inj ((show Tryd.prog.funcNamed "escritoire/escritoirelaw.WordPuts" = some 3 by kernel_rfl).symm.trans hf) |>.symm
      obtain rfl : fn = Tryd.f3 := (Option.some.inj (Tryd.func3.symm.trans hfn)).symm
      exact ⟨by kernel_rfl, fun j t ht => by
        rw [Tryd.params3] at ht
        rcases j with _ | j
        · obtain rfl : t = 22 := by simpa using ht.symm
          exact (show Tryd.prog.wantsStandIn 22 = false by kernel_rfl)
        · rcases j with _ | j
          · obtain rfl : t = 3 := by simpa using ht.symm
            exact (show Tryd.prog.wantsStandIn 3 = false by kernel_rfl)
          · rcases j with _ | j
            · obtain rfl : t = 3 := by simpa using ht.symm
              exact (show Tryd.prog.wantsStandIn 3 = false by kernel_rfl)
            · simp at ht⟩)
    (by kernel_rfl)
end Go.Proofs.YtfebfnjmehaeiaaDoor.wordPuts
namespace Go.Proofs.YtfebfnjmehaeiaaDoor
/-- The given statement. -/
theorem wordPuts_holds : Rows.WordPutsCardSaid := wordPuts.tied
#print axioms wordPuts_holds
end Go.Proofs.YtfebfnjmehaeiaaDoor
