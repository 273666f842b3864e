/- The law TextEncodes holds for every numbers and every order: any signs as bytes, in either way, and the error that is told of a number that is none, at its place, or of an order that is none, are the document's. -/
import Derived.Test.YtaboemchkmmgeaaDoorRows
import Derived.WalkKit
import Derived.ProofKit
import Derived.OpenShut
import Derived.SizedLaws
import Derived.Test.YtaboemchkmmgeaaDoorLaid
import Derived.Test.YtaboemchkmmgeaaDoorTie
import Derived.Test.YtaboemchkmmgeaaDoorCards
import Derived.SevenTiedAt
import Derived.Test.YtaboemchkmmgeaaDoorRefE3
import Derived.Test.YtaboemchkmmgeaaDoorTellAt
import Derived.ShutString
import Derived.ChangeOld
import Derived.Below
namespace Go.Proofs.YtaboemchkmmgeaaDoor.textEncodes
open Go.ChangeShapes Go.WideShapes Go.ChangeAt Go.RowKit
open Go.ChangeMaps (open_string shut_string)
set_option linter.unusedVariables false

theorem own : ownKnob Tryd.prog.godebug = none := by kernel_rfl
theorem laidOut : laidOutB Tryd.prog = true := by kernel_rfl

/-- WHAT THE WALK IS TOLD OF A SLICE OF INTEGERS THAT CAME IN: it is nil; or it leads to a row of 'cap' cells, the numbers 'zs' (the first 'len' are its elements, the rest its spare room), each fitting its kind. -/
def IsRow (k : IntKind) (w : World) (a : Option Addr) (len cap : Nat) (zs : List Int) : Prop :=
  (a = none ∧ len = 0 ∧ cap = 0 ∧ zs = []) ∨
  ∃ x, a = some x ∧ len ≤ cap ∧ cap ≤ maxLen ∧ zs.length = cap ∧ (∀ i, i < zs.length → w.cell? (x.add i) = some (.int k (zs.getD i 0))) ∧ ∀ n ∈ zs, (Lit.int k n).wf = true

open mem rows errs num words enc refe
/-- What came in, as a list. -/
theorem in_of {w : World} {a : Option Addr} {len cap : Nat} {zs : List Int} (h : IsRow .i64 w a len cap zs) : ∃ l : List Int, l.length = len ∧ In w a l ∧ Fit l := by
  rcases h with ⟨rfl, rfl, rfl, rfl⟩ | ⟨x, rfl, hl, hm, hz, hc, hw⟩
  · exact ⟨[], rfl, Or.inl rfl, fun k => by simp⟩
  · refine ⟨zs.take len, by rw [List.length_take]; omega, Or.inr ⟨x, rfl, fun k hk => ?_⟩, fun k => ?_⟩
    · rw [List.length_take] at hk
      rw [hc k (by omega)]
      simp [List.getD_eq_getElem?_getD, show k < len by omega]
    · by_cases hk : k < (zs.take len).length
      · have hm : (zs.take len).getD k 0 ∈ zs := by
          rw [List.getD_eq_getElem?_getD, List.getElem?_eq_getElem hk]
          exact List.mem_of_mem_take (List.getElem_mem hk)
        exact bounds_i64 (hw _ hm)
      · rw [List.getD_eq_getElem?_getD, List.getElem?_eq_none (by omega)]
        simp
set_option maxRecDepth 100000 in
set_option maxHeartbeats 4000000 in
theorem walk (a0 : Option Addr) (len0 cap0 : Nat) (z0 : List Int) (a1 : Int) (w : World) (w0 : IsRow .i64 w a0 len0 cap0 z0) (w1 : (Lit.int .i64 a1).wf = true) (hg : errs.Laid w) :
    Calls Tryd.prog 4 #[.slice a0 len0 cap0, .int .i64 a1] w fun e w' => e = .returned (.bool true) ∧ Below w.heap.size w w' := by
  have HG : Hid (Laid w) := hg
  clear hg w1
  obtain ⟨l, hlen, hin, hfit⟩ := in_of w0
  clear w0
  subst hlen
  have HI : Hid (In w a0 l) := hin
  clear hin
  by_cases hl : l.length ≤ 60
  · have hz : ¬ ((60 : Int) < (l.length : Int)) := by omega
    rcases signs_or l with hall | ⟨j, hj, hall, hno⟩
    · have cA := fun w hi => refEncode_at a0 cap0 l w (by omega) hi hall
      have cB := fun w hi => Encode_at a0 cap0 l w (by omega) hi hall
      generalize strOfNums (eb l l.length) = T at cA cB
      by_cases hO : a1 = 0 ∨ a1 = 1
      · obtain ⟨o, ho⟩ : ∃ o : Bool, (if o then (1 : Int) else 0) = a1 := by
          rcases hO with rfl | rfl
          · exact ⟨false, rfl⟩
          · exact ⟨true, rfl⟩
        have cC := fun w hi => refWide_at a0 cap0 l o a1 w ho (by omega) hi hall
        have cD := fun w hi => Wide_at a0 cap0 l o a1 w ho (by omega) hi hall
        generalize strOfNums (wb l o l.length) = T' at cC cD
        clear ho hO hall hfit
        generalize l.length = m at *
        go_enter Tryd.func4, Tryd.ntmps4
        go_wp2_with (first
          | (go_at_call 11; refine (cA _ HI.out).mono ?_; rintro e w1 ⟨rfl, hb1⟩; have hi1 := HI.out.step (hb1.trans ((Bl.refl w1).alloc (.cells #[.int .i64 0, .int .i64 (-1)] 29)))) 
          | (go_at_call 12; refine (cB _ hi1).mono ?_; rintro e w2 ⟨rfl, hb2⟩; have hi2 := hi1.step hb2)
          | (go_at_call 13; refine (cC _ hi2).mono ?_; rintro e w3 ⟨rfl, hb3⟩; have hi3 := hi2.step (hb3.trans ((Bl.refl w3).alloc (.cells #[.int .i64 0, .int .i64 (-1)] 29))))
          | (go_at_call 14; refine (cD _ hi3).mono ?_; rintro e w4 ⟨rfl, hb4⟩; have hq := (hb3.trans ((Bl.refl w3).alloc (.cells #[.int .i64 0, .int .i64 (-1)] 29))).trans hb4; have c0 := enc.at_bl (hb2.trans hq) (a := ⟨w1.heap.size, 0, none⟩) (v := .int .i64 0) (by simp); have c1 := enc.at_bl (hb2.trans hq) (a := ⟨w1.heap.size, 1, none⟩) (v := .int .i64 (-1)) (by simp); have d0 := enc.at_bl hb4 (a := ⟨w3.heap.size, 0, none⟩) (v := .int .i64 0) (by simp); have d1 := enc.at_bl hb4 (a := ⟨w3.heap.size, 1, none⟩) (v := .int .i64 (-1)) (by simp); have hL4 := HG.out.bl ((hb1.trans ((Bl.refl w1).alloc (.cells #[.int .i64 0, .int .i64 (-1)] 29))).trans (hb2.trans hq)))
          | (go_at_call_of 15 Value.nilIface; refine (placed_nil w4).mono ?_; rintro e w5 ⟨rfl, hb5⟩; have d0' := enc.at_bl hb5.bl d0; have d1' := enc.at_bl hb5.bl d1)
          | (go_at_call 15; refine (placed_nil w5).mono ?_; rintro e w6 ⟨rfl, hb6⟩))
        all_goals go_ret
        all_goals exact ⟨by simp, ((((hb1.trans ((Bl.refl w1).alloc _)).trans hb2).trans hq).trans hb5.bl).trans hb6.bl⟩
      · have cC := fun w (_ : In w a0 l) => refWide_order a0 l.length cap0 a1 w hO
        have cD := fun w (_ : In w a0 l) => Wide_order a0 l.length cap0 a1 w hO
        clear hO hall hfit
        generalize l.length = m at *
        go_enter Tryd.func4, Tryd.ntmps4
        go_wp2_with (first
          | (go_at_call 11; refine (cA _ HI.out).mono ?_; rintro e w1 ⟨rfl, hb1⟩; have hi1 := HI.out.step (hb1.trans ((Bl.refl w1).alloc (.cells #[.int .i64 0, .int .i64 (-1)] 29)))) 
          | (go_at_call 12; refine (cB _ hi1).mono ?_; rintro e w2 ⟨rfl, hb2⟩; have hi2 := hi1.step hb2)
          | (go_at_call 13; refine (cC _ hi2).mono ?_; rintro e w3 ⟨rfl, hb3⟩; have hi3 := hi2.step (hb3.trans ((Bl.refl w3).alloc (.cells #[.int .i64 1, .int .i64 (-1)] 29))))
          | (go_at_call 14; refine (cD _ hi3).mono ?_; rintro e w4 ⟨rfl, hb4⟩; have hq := (hb3.trans ((Bl.refl w3).alloc (.cells #[.int .i64 1, .int .i64 (-1)] 29))).trans hb4; have c0 := enc.at_bl (hb2.trans hq) (a := ⟨w1.heap.size, 0, none⟩) (v := .int .i64 0) (by simp); have c1 := enc.at_bl (hb2.trans hq) (a := ⟨w1.heap.size, 1, none⟩) (v := .int .i64 (-1)) (by simp); have d0 := enc.at_bl hb4 (a := ⟨w3.heap.size, 0, none⟩) (v := .int .i64 1) (by simp); have d1 := enc.at_bl hb4 (a := ⟨w3.heap.size, 1, none⟩) (v := .int .i64 (-1)) (by simp); have hL4 := HG.out.bl ((hb1.trans ((Bl.refl w1).alloc (.cells #[.int .i64 0, .int .i64 (-1)] 29))).trans (hb2.trans hq)))
          | (go_at_call_of 15 Value.nilIface; refine (placed_nil w4).mono ?_; rintro e w5 ⟨rfl, hb5⟩; have d0' := enc.at_bl hb5.bl d0; have d1' := enc.at_bl hb5.bl d1)
          | (go_at_call 15; refine (placed_errno 1 w5 (hL4.bl hb5.bl)).mono ?_; rintro e w6 ⟨rfl, hb6⟩))
        all_goals go_ret
        all_goals exact ⟨by simp, ((((hb1.trans ((Bl.refl w1).alloc _)).trans hb2).trans hq).trans hb5.bl).trans hb6.bl⟩
    · have cA := fun w hi => refEncode_no a0 cap0 l j w (by omega) hi hj hall hno
      have cB := fun w hi => Encode_no a0 cap0 l j w (by omega) hi hj hall hno hfit
      by_cases hO : a1 = 0 ∨ a1 = 1
      · obtain ⟨o, ho⟩ : ∃ o : Bool, (if o then (1 : Int) else 0) = a1 := by
          rcases hO with rfl | rfl
          · exact ⟨false, rfl⟩
          · exact ⟨true, rfl⟩
        have cC := fun w hi => refWide_no a0 cap0 l j o a1 w ho (by omega) hi hj hall hno
        have cD := fun w hi => Wide_no a0 cap0 l j a1 w hO (by omega) hi hj hall hno hfit
        clear ho hO hall hfit hno hj
        generalize l.length = m at *
        go_enter Tryd.func4, Tryd.ntmps4
        go_wp2_with (first
          | (go_at_call 11; refine (cA _ HI.out).mono ?_; rintro e w1 ⟨rfl, hb1⟩; have hi1 := HI.out.step (hb1.trans ((Bl.refl w1).alloc (.cells #[.int .i64 1, .int .i64 (j : Int)] 29)))) 
          | (go_at_call 12; refine (cB _ hi1).mono ?_; rintro e w2 ⟨rfl, ha0, ha1, hg2⟩; have hsz : (w1.alloc (.cells #[.int .i64 1, .int .i64 (j : Int)] 29)).heap.size = w1.heap.size + 1 := (by simp); rw [hsz] at ha0 ha1; clear hsz; have hb2 := hg2.bl; have hi2 := hi1.step hb2)
          | (go_at_call 13; refine (cC _ hi2).mono ?_; rintro e w3 ⟨rfl, hb3⟩; have hi3 := hi2.step (hb3.trans ((Bl.refl w3).alloc (.cells #[.int .i64 1, .int .i64 (j : Int)] 29))))
          | (go_at_call 14; refine (cD _ hi3).mono ?_; rintro e w4 ⟨b, rfl, hd0, hd1, hb4⟩; have hq := (hb3.trans ((Bl.refl w3).alloc (.cells #[.int .i64 1, .int .i64 (j : Int)] 29))).trans hb4; have c0 := enc.at_bl (hb2.trans hq) (a := ⟨w1.heap.size, 0, none⟩) (v := .int .i64 1) (by simp); have c1 := enc.at_bl (hb2.trans hq) (a := ⟨w1.heap.size, 1, none⟩) (v := .int .i64 (j : Int)) (by simp); have d0 := enc.at_bl hb4 (a := ⟨w3.heap.size, 0, none⟩) (v := .int .i64 1) (by simp); have d1 := enc.at_bl hb4 (a := ⟨w3.heap.size, 1, none⟩) (v := .int .i64 (j : Int)) (by simp); have hL4 := HG.out.bl ((hb1.trans ((Bl.refl w1).alloc (.cells #[.int .i64 1, .int .i64 (j : Int)] 29))).trans (hb2.trans hq)); have ha0' := enc.at_bl hq ha0; have ha1' := enc.at_bl hq ha1)
          | (go_at_call_of 15 b; refine (placed_at 1 j b w5 (hL4.bl hb5.bl) hd0' hd1').mono ?_; rintro e w6 ⟨rfl, hb6⟩)
          | (go_at_call 15; refine (placed_at 1 j (w1.heap.size + 1) w4 hL4 ha0' ha1').mono ?_; rintro e w5 ⟨rfl, hb5⟩; have d0' := enc.at_bl hb5.bl d0; have d1' := enc.at_bl hb5.bl d1; have hd0' := enc.at_bl hb5.bl hd0; have hd1' := enc.at_bl hb5.bl hd1))
        all_goals go_ret
        all_goals exact ⟨by simp, ((((hb1.trans ((Bl.refl w1).alloc _)).trans hb2).trans hq).trans hb5.bl).trans hb6.bl⟩
      · have cC := fun w (_ : In w a0 l) => refWide_order a0 l.length cap0 a1 w hO
        have cD := fun w (_ : In w a0 l) => Wide_order a0 l.length cap0 a1 w hO
        clear hO hall hfit hno hj
        generalize l.length = m at *
        go_enter Tryd.func4, Tryd.ntmps4
        go_wp2_with (first
          | (go_at_call 11; refine (cA _ HI.out).mono ?_; rintro e w1 ⟨rfl, hb1⟩; have hi1 := HI.out.step (hb1.trans ((Bl.refl w1).alloc (.cells #[.int .i64 1, .int .i64 (j : Int)] 29)))) 
          | (go_at_call 12; refine (cB _ hi1).mono ?_; rintro e w2 ⟨rfl, ha0, ha1, hg2⟩; have hsz : (w1.alloc (.cells #[.int .i64 1, .int .i64 (j : Int)] 29)).heap.size = w1.heap.size + 1 := (by simp); rw [hsz] at ha0 ha1; clear hsz; have hb2 := hg2.bl; have hi2 := hi1.step hb2)
          | (go_at_call 13; refine (cC _ hi2).mono ?_; rintro e w3 ⟨rfl, hb3⟩; have hi3 := hi2.step (hb3.trans ((Bl.refl w3).alloc (.cells #[.int .i64 1, .int .i64 (-1)] 29))))
          | (go_at_call 14; refine (cD _ hi3).mono ?_; rintro e w4 ⟨rfl, hb4⟩; have hq := (hb3.trans ((Bl.refl w3).alloc (.cells #[.int .i64 1, .int .i64 (-1)] 29))).trans hb4; have c0 := enc.at_bl (hb2.trans hq) (a := ⟨w1.heap.size, 0, none⟩) (v := .int .i64 1) (by simp); have c1 := enc.at_bl (hb2.trans hq) (a := ⟨w1.heap.size, 1, none⟩) (v := .int .i64 (j : Int)) (by simp); have d0 := enc.at_bl hb4 (a := ⟨w3.heap.size, 0, none⟩) (v := .int .i64 1) (by simp); have d1 := enc.at_bl hb4 (a := ⟨w3.heap.size, 1, none⟩) (v := .int .i64 (-1)) (by simp); have hL4 := HG.out.bl ((hb1.trans ((Bl.refl w1).alloc (.cells #[.int .i64 1, .int .i64 (j : Int)] 29))).trans (hb2.trans hq)); have ha0' := enc.at_bl hq ha0; have ha1' := enc.at_bl hq ha1)
          | (go_at_call_of 15 (Value.int .i64 (j : Int)); refine (placed_at 1 j (w1.heap.size + 1) w4 hL4 ha0' ha1').mono ?_; rintro e w5 ⟨rfl, hb5⟩; have d0' := enc.at_bl hb5.bl d0; have d1' := enc.at_bl hb5.bl d1)
          | (go_at_call 15; refine (placed_errno 1 w5 (hL4.bl hb5.bl)).mono ?_; rintro e w6 ⟨rfl, hb6⟩))
        all_goals go_ret
        all_goals exact ⟨by simp, ((((hb1.trans ((Bl.refl w1).alloc _)).trans hb2).trans hq).trans hb5.bl).trans hb6.bl⟩
  · have hz : (60 : Int) < (l.length : Int) := by omega
    generalize l.length = m at *
    go_enter Tryd.func4, Tryd.ntmps4
    go_wp2
    go_ret
    exact ⟨rfl, Bl.refl _⟩

set_option maxRecDepth 100000 in
theorem lifted (os : Os) (started : os.Started) (H : Type) (enc : TypeId × Value → H) :
    ReturnsInHanded {} Tryd.checked os 4 .any (fun w args => (Rows.textEncodesSpec.pre enc Tryd.prog Tryd.f4 [] false w args ∧ laidMetH Tryd.prog laying.list w) ∧ sizedMet enc Tryd.prog Tryd.f4 (OpenSpec.ofChange Rows.textEncodesSpec) false w args) (Rows.textEncodesSpec.post enc Tryd.prog Tryd.f4 false true false false) := by
  refine returnsInHanded_of_change_and (C := Tryd.checked) (X := fun w _ => laidMetH Tryd.prog laying.list w) (fun _ _ _ hh h => h.of_heap hh) own started (by kernel_rfl) Tryd.func4
    (ChangeSpec.witness_at (enc := enc) (C := Tryd.checked) (os := os) (X := fun w _ => laidMetH Tryd.prog laying.list w) false (laying.layCell (World.holding Tryd.prog os ⟨#[], #[], []⟩)) #[.slice none 0 0, .int .i64 0] 8 rfl (by kernel_rfl) (by kernel_rfl) (by kernel_rfl) (by kernel_rfl) (by kernel_rfl) (laying.laidWorld_met os _)) ?_
  intro W base args ds gs before hval0 hW hcnd hsz0 hL _
  have hval : ∀ (j : Nat) t v, Tryd.f4.params[j]? = some t → args[j]? = some v → Value.okWide Tryd.prog W .any base t v := hval0
  have hW' := hW
  obtain ⟨p, q, hA0, hV, rfl, hfz, hnd⟩ := hW
  have hA : DataW.TrodAll enc Tryd.prog W 0 (fun _ => true) true Tryd.f4.params.toList args.toList ds p := hA0
  have hsz : (DataW.weightsEach Tryd.prog (Tryd.f4.params.toList ++ Rows.textEncodesSpec.plain.varTypes Tryd.prog) (ds ++ gs)).all (· ≤ reachBytes) = true := hsz0
  rw [Tryd.params4] at hA hval hsz
  obtain ⟨v0, vs0, d0, ds0, p0, q0, hargs, rfl, rfl, h0, r0⟩ := trodAll_cons hA
  obtain ⟨v1, vs1, d1, ds1, p1, q1, rfl, rfl, rfl, h1, r1⟩ := trodAll_cons r0
  obtain ⟨rfl, rfl, rfl⟩ := trodAll_nil r1
  obtain rfl : args = #[v0, v1] := by cases args; simp_all
  obtain ⟨rfl, rfl⟩ := trodVars_none hV
  obtain ⟨a0, len0, cap0, rfl⟩ := okWide_slice Tryd.underlying22 (hval 0 22 v0 rfl rfl)
  have k0 := h0
  have lt0 : ∀ x ∈ p0, x.block < W.heap.size := by obtain ⟨m, hm⟩ := k0; exact DataW.trod_lt m _ _ _ hm
  obtain ⟨z0, w0⟩ : ∃ zs, IsRow .i64 W a0 len0 cap0 zs := by
    obtain ⟨fuel, hf⟩ := h0
    rcases open_ints Tryd.underlying22 Tryd.underlying3 (by kernel_rfl) hf with ⟨hcs, _⟩ | ⟨x, l, c, zs, hcs, _, hl, hm, hz, _, hcell, hwz⟩
    · simp [Value.cells] at hcs
      obtain ⟨rfl, rfl, rfl⟩ := hcs
      exact ⟨[], .inl ⟨rfl, rfl, rfl, rfl⟩⟩
    · simp [Value.cells] at hcs
      obtain ⟨rfl, rfl, rfl⟩ := hcs
      exact ⟨zs, .inr ⟨_, rfl, hl, hm, by simpa using hz, hcell, hwz⟩⟩
  obtain ⟨a1, rfl, rfl, rfl, w1⟩ := open_int Tryd.underlying3 (hval 1 3 v1 rfl rfl) h1
  clear hA0 hval0 hsz0 hsz
  refine (walk a0 len0 cap0 z0 a1 W w0 w1 (laying.handle_of_laid hL)).mono fun e W' ⟨he, bel⟩ => ?_
  subst he
  exact ⟨_, rfl, _, _, _, [], _, [], hW', trodAll_mk1 (shut_bool Tryd.underlying4 _), (trodAll_cons_mk (Below.trod laidOut (by kernel_rfl) (of_decide_eq_true (by kernel_rfl)) k0 bel lt0) (trodAll_cons_mk (shut_int Tryd.underlying3 w1) trodAll_mk0)), rfl, bel.frame _, fun h => by cases h⟩

theorem over : Rows.textEncodesRow.holds Tryd.pinned (OpenSpec.ofChange Rows.textEncodesSpec) :=
  OpenClaim.holds_of_wide 4 Tryd.f4 rfl rfl rfl rfl rfl rfl rfl ⟨rfl, rfl, rfl, rfl, rfl⟩ rfl rfl rfl rfl rfl (by kernel_rfl) Tryd.func4 (by kernel_rfl)
    (of_decide_eq_true (by kernel_rfl)) (by unfold Func.isWrapper; first | (rw [if_pos (by decide +kernel)]; kernel_rfl) | (rw [if_neg (by decide +kernel)]; exact ⟨rfl, rfl⟩))
    (fun os started H enc _ => lifted os started H enc)

theorem tied : Rows.TextEncodesCardSaid :=
  Claim7.holds_tied_plain_at .later [] [.handle] true (true, "da50a35cb85e1b5f2dec0d1fb941b3ff753e9b6ae2dc4309d0212b04c63d48c4") true
    over (fun _ h => by cases h) (by kernel_rfl) (fun _ h => by cases h) textEncodes_row_tie rfl ⟨rfl, rfl⟩ (by kernel_rfl) rfl
    (fun f fn hf hfn => by
      obtain rfl : f = 4 := Option.some.inj ((show Tryd.prog.funcNamed "escritoire/escritoirelaw.TextEncodes" = some 4 by kernel_rfl).symm.trans hf) |>.symm
      obtain rfl : fn = Tryd.f4 := (Option.some.inj (Tryd.func4.symm.trans hfn)).symm
      exact ⟨by kernel_rfl, fun j t ht => by
        rw [Tryd.params4] at ht
        rcases j with _ | j
        · obtain rfl : t = 22 := by simpa using ht.symm
          exact (show Tryd.prog.wantsStandIn 22 = false by kernel_rfl)
        · rcases j with _ | j
          · obtain rfl : t = 3 := by simpa using ht.symm
            exact (show Tryd.prog.wantsStandIn 3 = false by kernel_rfl)
          · simp at ht⟩)
    (by kernel_rfl)
end Go.Proofs.YtaboemchkmmgeaaDoor.textEncodes
namespace Go.Proofs.YtaboemchkmmgeaaDoor
/-- The given statement. -/
theorem textEncodes_holds : Rows.TextEncodesCardSaid := textEncodes.tied
#print axioms textEncodes_holds
end Go.Proofs.YtaboemchkmmgeaaDoor
