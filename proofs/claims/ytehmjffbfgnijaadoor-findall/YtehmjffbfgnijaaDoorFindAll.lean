/- FindAll: where any pattern stands in any text, and next to any place, and what it begins and ends with, is the document's: for every input. -/
import Derived.Test.YtehmjffbfgnijaaDoorRows
import Derived.WalkKit
import Derived.ProofKit
import Derived.OpenShut
import Derived.SizedLaws
import Derived.Test.YtehmjffbfgnijaaDoorLaid
import Derived.Test.YtehmjffbfgnijaaDoorTie
import Derived.Test.YtehmjffbfgnijaaDoorCards
import Derived.SevenTiedAt
import Derived.Test.YtehmjffbfgnijaaDoorFe4
import Derived.Test.YtehmjffbfgnijaaDoorFe3
import Derived.Test.YtehmjffbfgnijaaDoorSame
import Derived.ShutString
namespace Go.Proofs.YtehmjffbfgnijaaDoor.findAll
open Go.ChangeShapes Go.WideShapes Go.ChangeAt Go.RowKit
open Go.ChangeMaps (open_string shut_string)
set_option linter.unusedVariables false      -- a walk need not use every 'w<i>' (that an integer argument fits its kind)

theorem own : ownKnob Tryd.prog.godebug = none := by kernel_rfl

open mem rows fd find errs
theorem laid_bl {w w' : World} (h : Laid w) (g : Bl w w') : Laid w' := by
  have hp := h.pos
  unfold Laid at h ⊢
  unfold World.cell? at h ⊢
  rw [Below.block g _ hp]
  exact h
set_option maxHeartbeats 4000000 in
set_option maxRecDepth 100000 in
theorem core (a0 a1 : ByteArray) (a2 : Int) (w : World) (hg : Laid w) (hs0 : a0.size ≤ 300) (hs1 : a1.size ≤ 60) (L : List Int) (hL : L.length ≤ 5000) (e e1 r1 r2 : Int) (ev ev1 : Value)
    (c1 : ∀ w, Calls Tryd.prog 6 #[.string a0, .string a1] w fun x w' => ∃ v, x = .returned (.tuple #[v, .int .i64 e]) ∧ rows.Own w' w.heap.size v L ∧ Bl w w')
    (c2 : ∀ w, Calls Tryd.prog 7 #[.string a0, .string a1] w fun x w' => ∃ v, x = .returned (.tuple #[v, ev]) ∧ rows.Own w' w.heap.size v L ∧ Bl w w')
    (c3 : ∀ w, Calls Tryd.prog 8 #[.string a0, .string a1, .int .i64 a2, .bool true] w fun x w' => x = .returned (.tuple #[.int .i64 r1, .int .i64 e1]) ∧ Bl w w')
    (c4 : ∀ w, Calls Tryd.prog 9 #[.string a0, .string a1, .int .i64 a2] w fun x w' => x = .returned (.tuple #[.int .i64 r1, ev1]) ∧ Bl w w')
    (c5 : ∀ w, Calls Tryd.prog 8 #[.string a0, .string a1, .int .i64 a2, .bool false] w fun x w' => x = .returned (.tuple #[.int .i64 r2, .int .i64 e1]) ∧ Bl w w')
    (c6 : ∀ w, Calls Tryd.prog 10 #[.string a0, .string a1, .int .i64 a2] w fun x w' => x = .returned (.tuple #[.int .i64 r2, ev1]) ∧ Bl w w')
    (b1 : ∀ w, Laid w → Calls Tryd.prog 11 #[ev, .int .i64 e] w fun x w' => x = .returned (.bool true) ∧ Bl w w')
    (b2 : ∀ w, Laid w → Calls Tryd.prog 11 #[ev1, .int .i64 e1] w fun x w' => x = .returned (.bool true) ∧ Bl w w') :
    Calls Tryd.prog 3 #[.string a0, .string a1, .int .i64 a2] w fun e w' => e = .returned (.bool true) ∧ Below w.heap.size w w' := by
  have hz0 : ¬ (300 : Int) < (a0.size : Int) := by omega
  have hz1 : ¬ (60 : Int) < (a1.size : Int) := by omega
  have HG : Hid (Laid w) := hg
  have hbl := brs_len (sb a1) a1.size a1.size
  have c7 := fun w => Borders_at a1 w (by omega)
  have c8 := fun w => refBorders_at a1 w (by omega)
  generalize brs (sb a1) a1.size a1.size = R at hbl c7 c8
  clear hg
  go_enter Tryd.func3, Tryd.ntmps3
  go_wp2_with (fail)
  refine (c1 _).mono ?_
  rintro x v1 ⟨av, rfl, ha1, g1⟩
  clear c1
  go_wp2_with (fail)
  refine (c2 _).mono ?_
  rintro x v2 ⟨bv, rfl, hb2, g2⟩
  clear c2
  go_wp2_with (fail)
  refine (c3 _).mono ?_
  rintro x v3 ⟨rfl, g3⟩
  clear c3
  go_wp2_with (fail)
  refine (c4 _).mono ?_
  rintro x v4 ⟨rfl, g4⟩
  clear c4
  go_wp2_with (fail)
  refine (c5 _).mono ?_
  rintro x v5 ⟨rfl, g5⟩
  clear c5
  go_wp2_with (fail)
  refine (c6 _).mono ?_
  rintro x v6 ⟨rfl, g6⟩
  clear c6
  have G6 : Bl w v6 := ((((g1.trans g2).trans g3).trans g4).trans g5).trans g6
  go_wp2_with (fail)
  refine (b1 _ (laid_bl HG.out G6)).mono ?_
  rintro x v7 ⟨rfl, g7⟩
  clear b1
  have G7 := G6.trans g7
  have ha7 := (((((ha1.step g2).step g3).step g4).step g5).step g6).step g7
  have hb7 := ((((hb2.step g3).step g4).step g5).step g6).step g7
  go_wp2_with (fail)
  refine (same_at _ _ L _ _ _ hb7 ha7 hL).mono ?_
  rintro x v8 ⟨rfl, g8⟩
  have G8 := G7.trans g8
  go_wp2_with (fail)
  refine (b2 _ (laid_bl HG.out G8)).mono ?_
  rintro x v9 ⟨rfl, g9⟩
  have G9 := G8.trans g9
  go_wp2_with (fail)
  refine (b2 _ (laid_bl HG.out G9)).mono ?_
  rintro x v10 ⟨rfl, g10⟩
  have G10 := G9.trans g10
  clear b2
  go_wp2_with (fail)
  refine (c7 _).mono ?_
  rintro x v11 ⟨rv, rfl, h11, g11⟩
  clear c7
  go_wp2_with (fail)
  refine (c8 _).mono ?_
  rintro x v12 ⟨sv, rfl, h12, g12⟩
  clear c8
  go_wp2_with (fail)
  refine (same_at _ _ R _ _ _ (h11.step g12) h12 (by omega)).mono ?_
  rintro x v13 ⟨rfl, g13⟩
  go_wp2
  go_ret
  exact ⟨rfl, ((G10.trans g11).trans g12).trans g13⟩
theorem walk (a0 : ByteArray) (a1 : ByteArray) (a2 : Int) (w0 : a0.size ≤ 140737488351232) (w1 : a1.size ≤ 140737488351232) (w2 : (Lit.int .i64 a2).wf = true) (w : World) (hg : errs.Laid w) :
    Calls Tryd.prog 3 #[.string a0, .string a1, .int .i64 a2] w fun e w' => e = .returned (.bool true) ∧ Below w.heap.size w w' := by
  clear w0 w1 w2
  by_cases hs0 : a0.size ≤ 300
  · by_cases hs1 : a1.size ≤ 60
    · rcases Nat.eq_zero_or_pos a1.size with h0 | h0
      · exact core a0 a1 a2 w hg hs0 hs1 [] (by decide) 1 1 0 0 (.iface 23 (.int .i64 1)) (.iface 23 (.int .i64 1))
          (fun w => (refAll_none a0 a1 w h0).mono (by rintro x w' ⟨rfl, rfl⟩; exact ⟨_, rfl, rows.Own.nil _ _, Bl.refl _⟩))
          (fun w => (All_none a0 a1 w h0).mono (by rintro x w' ⟨rfl, rfl⟩; exact ⟨_, rfl, rows.Own.nil _ _, Bl.refl _⟩))
          (fun w => (refNext_arg a0 a1 a2 true w h0).mono (by rintro x w' ⟨rfl, rfl⟩; exact ⟨rfl, Bl.refl _⟩))
          (fun w => Next_err a0 a1 a2 1 w (some_arg a0 a1 w h0))
          (fun w => (refNext_arg a0 a1 a2 false w h0).mono (by rintro x w' ⟨rfl, rfl⟩; exact ⟨rfl, Bl.refl _⟩))
          (fun w => Prev_err a0 a1 a2 1 w (fun w => some_arg a0 a1 w h0))
          (fun w h => (bare_errno 1 1 w h).mono (by rintro x w' ⟨rfl, g⟩; exact ⟨rfl, g.bl⟩))
          (fun w h => (bare_errno 1 1 w h).mono (by rintro x w' ⟨rfl, g⟩; exact ⟨rfl, g.bl⟩))
      · have hlen := pls_len (sb a1) (sb a0) a1.size a0.size h0
        rcases Nat.eq_zero_or_pos (pls (sb a1) (sb a0) a1.size a0.size).length with hl | hl
        · have hnil := List.eq_nil_of_length_eq_zero hl
          exact core a0 a1 a2 w hg hs0 hs1 (ints (pls (sb a1) (sb a0) a1.size a0.size)) (by rw [ints_len]; omega) 0 8 0 0 .nilIface (.iface 23 (.int .i64 8))
            (fun w => refAll_at a0 a1 w (by omega) (by omega) h0)
            (fun w => All_at a0 a1 w (by omega) (by omega) h0)
            (fun w => refNext_none a0 a1 a2 true w (by omega) (by omega) h0 hnil)
            (fun w => Next_err a0 a1 a2 8 w (some_none a0 a1 w (by omega) (by omega) h0 hnil))
            (fun w => refNext_none a0 a1 a2 false w (by omega) (by omega) h0 hnil)
            (fun w => Prev_err a0 a1 a2 8 w (fun w => some_none a0 a1 w (by omega) (by omega) h0 hnil))
            (fun w h => (bare_nil 0 w).mono (by rintro x w' ⟨rfl, rfl⟩; exact ⟨rfl, Bl.refl _⟩))
            (fun w h => (bare_errno 8 8 w h).mono (by rintro x w' ⟨rfl, g⟩; exact ⟨rfl, g.bl⟩))
        · have hl' : 0 < (ints (pls (sb a1) (sb a0) a1.size a0.size)).length := by rw [ints_len]; exact hl
          exact core a0 a1 a2 w hg hs0 hs1 (ints (pls (sb a1) (sb a0) a1.size a0.size)) (by rw [ints_len]; omega) 0 0 _ _ .nilIface .nilIface
            (fun w => refAll_at a0 a1 w (by omega) (by omega) h0)
            (fun w => All_at a0 a1 w (by omega) (by omega) h0)
            (fun w => refNext_at a0 a1 a2 true w (by omega) (by omega) h0 _ rfl hl' _ rfl)
            (fun w => Next_at a0 a1 a2 w (by omega) (by omega) h0 _ rfl hl' _ rfl)
            (fun w => refNext_at a0 a1 a2 false w (by omega) (by omega) h0 _ rfl hl' _ rfl)
            (fun w => Prev_at a0 a1 a2 w (by omega) (by omega) h0 _ rfl hl' _ rfl)
            (fun w h => (bare_nil 0 w).mono (by rintro x w' ⟨rfl, rfl⟩; exact ⟨rfl, Bl.refl _⟩))
            (fun w h => (bare_nil 0 w).mono (by rintro x w' ⟨rfl, rfl⟩; exact ⟨rfl, Bl.refl _⟩))
    · have hz0 : ¬ (300 : Int) < (a0.size : Int) := by omega
      have hz1 : (60 : Int) < (a1.size : Int) := by omega
      go_enter Tryd.func3, Tryd.ntmps3
      go_wp2
      go_ret
      exact ⟨rfl, Below.refl _ _⟩
  · have hz0 : (300 : Int) < (a0.size : Int) := by omega
    go_enter Tryd.func3, Tryd.ntmps3
    go_wp2
    go_ret
    exact ⟨rfl, Below.refl _ _⟩

set_option maxRecDepth 100000 in
theorem lifted (os : Os) (started : os.Started) (H : Type) (enc : TypeId × Value → H) :
    ReturnsInHanded {} Tryd.checked os 3 .any (fun w args => (Rows.findAllSpec.pre enc Tryd.prog Tryd.f3 [] false w args ∧ laidMetH Tryd.prog laying.list w) ∧ sizedMet enc Tryd.prog Tryd.f3 (OpenSpec.ofChange Rows.findAllSpec) false w args) (Rows.findAllSpec.post enc Tryd.prog Tryd.f3 false true false false) := by
  refine returnsInHanded_of_change_and (C := Tryd.checked) (X := fun w _ => laidMetH Tryd.prog laying.list w) (fun _ _ _ hh h => h.of_heap hh) own started (by kernel_rfl) Tryd.func3
    (ChangeSpec.witness_at (enc := enc) (C := Tryd.checked) (os := os) (X := fun w _ => laidMetH Tryd.prog laying.list w) false (laying.layCell (World.holding Tryd.prog os ⟨#[], #[], []⟩)) #[.string ByteArray.empty, .string ByteArray.empty, .int .i64 0] 8 rfl (by kernel_rfl) (by kernel_rfl) (by kernel_rfl) (by kernel_rfl) (by kernel_rfl) (laying.laidWorld_met os _)) ?_
  intro W base args ds gs before hval0 hW hcnd hsz0 hL _
  have hval : ∀ (j : Nat) t v, Tryd.f3.params[j]? = some t → args[j]? = some v → Value.okWide Tryd.prog W .any base t v := hval0
  have hW' := hW
  obtain ⟨p, q, hA0, hV, rfl, hfz, hnd⟩ := hW
  have hA : DataW.TrodAll enc Tryd.prog W 0 (fun _ => true) true Tryd.f3.params.toList args.toList ds p := hA0
  have hsz : (DataW.weightsEach Tryd.prog (Tryd.f3.params.toList ++ Rows.findAllSpec.plain.varTypes Tryd.prog) (ds ++ gs)).all (· ≤ reachBytes) = true := hsz0
  rw [Tryd.params3] at hA hval hsz
  obtain ⟨v0, vs0, d0, ds0, p0, q0, hargs, rfl, rfl, h0, r0⟩ := trodAll_cons hA
  obtain ⟨v1, vs1, d1, ds1, p1, q1, rfl, rfl, rfl, h1, r1⟩ := trodAll_cons r0
  obtain ⟨v2, vs2, d2, ds2, p2, q2, rfl, rfl, rfl, h2, r2⟩ := trodAll_cons r1
  obtain ⟨rfl, rfl, rfl⟩ := trodAll_nil r2
  obtain rfl : args = #[v0, v1, v2] := by cases args; simp_all
  obtain ⟨rfl, rfl⟩ := trodVars_none hV
  obtain ⟨a0, rfl, rfl, rfl, w0⟩ := open_string Tryd.underlying9 (hval 0 9 v0 rfl rfl) h0
  have z0 : a0.size ≤ 140737488351232 := sized_string hsz (j := 0) (t := 9) rfl rfl
  obtain ⟨a1, rfl, rfl, rfl, w1⟩ := open_string Tryd.underlying9 (hval 1 9 v1 rfl rfl) h1
  have z1 : a1.size ≤ 140737488351232 := sized_string hsz (j := 1) (t := 9) rfl rfl
  obtain ⟨a2, rfl, rfl, rfl, w2⟩ := open_int Tryd.underlying3 (hval 2 3 v2 rfl rfl) h2
  clear hA0 hval0 hsz0 hsz
  simp only [List.append_nil] at hW'
  refine (walk a0 a1 a2 z0 z1 w2 W (laying.handle_of_laid hL)).mono fun e W' ⟨he, hg⟩ => ?_
  subst he
  exact ⟨_, rfl, _, _, _, [], [], [], hW', (trodAll_cons_mk (shut_bool Tryd.underlying4 _) trodAll_mk0), (trodAll_cons_mk (shut_string Tryd.underlying9 w0) (trodAll_cons_mk (shut_string Tryd.underlying9 w1) (trodAll_cons_mk (shut_int Tryd.underlying3 w2) trodAll_mk0))), rfl, hg.frame _, fun h => by cases h⟩

theorem over : Rows.findAllRow.holds Tryd.pinned (OpenSpec.ofChange Rows.findAllSpec) :=
  OpenClaim.holds_of_wide 3 Tryd.f3 rfl rfl rfl rfl rfl rfl rfl ⟨rfl, rfl, rfl, rfl, rfl⟩ rfl rfl rfl rfl rfl (by kernel_rfl) Tryd.func3 (by kernel_rfl)
    (of_decide_eq_true (by kernel_rfl)) (by unfold Func.isWrapper; first | (rw [if_pos (by decide +kernel)]; kernel_rfl) | (rw [if_neg (by decide +kernel)]; exact ⟨rfl, rfl⟩))
    (fun os started H enc _ => lifted os started H enc)

theorem tied : Rows.FindAllCardSaid :=
  Claim7.holds_tied_plain_at .later [] [.handle] true (true, "b9520a0ef563c468aaf1ac1254ba868965ec57cea3631c2caacab1fbc9d21a87") true
    over (fun _ h => by cases h) (by kernel_rfl) (fun _ h => by cases h) findAll_row_tie rfl ⟨rfl, rfl⟩ (by kernel_rfl) rfl
    (fun f fn hf hfn => by
      obtain rfl : f = 3 := Option.some.inj ((show Tryd.prog.funcNamed "escritoire/escritoirelaw.FindAll" = some 3 by kernel_rfl).symm.trans hf) |>.symm
      obtain rfl : fn = Tryd.f3 := (Option.some.inj (Tryd.func3.symm.trans hfn)).symm
      exact ⟨by kernel_rfl, fun j t ht => by
        rw [Tryd.params3] at ht
        rcases j with _ | j
        · obtain rfl : t = 9 := by simpa using ht.symm
          exact (show Tryd.prog.wantsStandIn 9 = false by kernel_rfl)
        · rcases j with _ | j
          · obtain rfl : t = 9 := by simpa using ht.symm
            exact (show Tryd.prog.wantsStandIn 9 = false by kernel_rfl)
          · rcases j with _ | j
            · obtain rfl : t = 3 := by simpa using ht.symm
              exact (show Tryd.prog.wantsStandIn 3 = false by kernel_rfl)
            · simp at ht⟩)
    (by kernel_rfl)
end Go.Proofs.YtehmjffbfgnijaaDoor.findAll
namespace Go.Proofs.YtehmjffbfgnijaaDoor
/-- The given statement. -/
theorem findAll_holds : Rows.FindAllCardSaid := findAll.tied
#print axioms findAll_holds
end Go.Proofs.YtehmjffbfgnijaaDoor
