/- LexCuts: for every text s the law answers true: the tokens of s, or the error and its place, are what the document tells, and so is whether s begins with a letter. Conditions: the marks and errors.errorType lie as the program lays them. -/
import Derived.Test.YtfngcphklfjhjaaDoorRows
import Derived.WalkKit
import Derived.ProofKit
import Derived.OpenShut
import Derived.SizedLaws
import Derived.Test.YtfngcphklfjhjaaDoorLaidME
import Derived.Test.YtfngcphklfjhjaaDoorTie
import Derived.Test.YtfngcphklfjhjaaDoorCards
import Derived.SevenTiedAt
import Derived.Test.YtfngcphklfjhjaaDoorLr3
import Derived.Test.YtfngcphklfjhjaaDoorLk1
import Derived.Test.YtfngcphklfjhjaaDoorTellAt
import Derived.ShutString
namespace Go.Proofs.YtfngcphklfjhjaaDoor.lexCuts
open Go.ChangeShapes Go.WideShapes Go.ChangeAt Go.RowKit
open Go.ChangeMaps (open_string shut_string)
set_option linter.unusedVariables false      -- a walk need not use every 'w<i>' (that an integer argument fits its kind)

theorem own : ownKnob Tryd.prog.godebug = none := by kernel_rfl

open mem lx
theorem far_at (s : ByteArray) (w : World) : Calls Tryd.prog 7 #[.string s] w fun e w' => e = .returned (.bool (decide ((900 < s.size ∧ s.size ≤ 3000) ∨ 3009 < s.size))) ∧ w' = w := by
  go_enter Tryd.func7, Tryd.ntmps7
  go_wp2
  all_goals
    go_ret
    refine ⟨ret_bool ?_, rfl⟩
    rw [Bool.eq_iff_iff]
    simp
    try omega
set_option maxHeartbeats 2000000 in
set_option maxRecDepth 10000 in
theorem walk (a0 : ByteArray) (w0 : a0.size ≤ 140737488351232) (w : World) (hm : errs.Laid w ∧ lx.Mks w) :
    Calls Tryd.prog 3 #[.string a0] w fun e w' => e = .returned (.bool true) ∧ Below w.heap.size w w' := by
  have cF := far_at a0
  have HM : Hid (errs.Laid w ∧ Mks w) := hm
  clear hm
  have c1 := Name_at a0
  have c2 := IsName_at a0
  generalize nmb (L a0) = nb at c1 c2
  go_enter Tryd.func3, Tryd.ntmps3
  by_cases hf : (900 < a0.size ∧ a0.size ≤ 3000) ∨ 3009 < a0.size
  · rw [decide_eq_true hf] at cF
    go_wp2_with fail
    refine (cF _).mono ?_
    rintro e w2 ⟨rfl, rfl⟩
    go_wp2
    go_ret
    exact ⟨rfl, Below.refl _ _⟩
  · rw [decide_eq_false hf] at cF
    go_wp2_with fail
    refine (cF _).mono ?_
    rintro e w2 ⟨rfl, rfl⟩
    by_cases hl : 3000 < a0.size
    · clear hf
      go_wp2_with fail
      refine (refLex_long a0 _ hl).mono ?_
      rintro e w3 ⟨rfl, hb3⟩
      unfold flt
      go_wp2_with fail
      refine (Lex_long a0 _ hl).mono ?_
      rintro e w4 ⟨rfl, rfl⟩
      have cP := errs.placed_errno 4 (w3.alloc (.cells #[.int .i64 4, .int .i64 (-1)] 26)) (HM.out.1.bl (hb3.trans ((Bl.refl _).alloc _)))
      go_wp2_with fail
      refine cP.mono ?_
      rintro e w5 ⟨rfl, hg5⟩
      go_wp2_with fail
      refine (c1 _).mono ?_
      rintro e w6 ⟨rfl, rfl⟩
      go_wp2_with fail
      refine (c2 _).mono ?_
      rintro e w6 ⟨rfl, rfl⟩
      have HZ : Hid (Bl w2 w6) := (hb3.trans ((Bl.refl _).alloc _)).trans hg5.bl
      clear hg5 cP
      go_wp2
      go_loopw [7] (fun iv wr => iv = .int .i64 0 ∧ Hid (Bl w2 wr)) (fun _ _ => 0)
      case atStart => exact ⟨rfl, HZ.out⟩
      case round =>
        obtain ⟨rfl, HB⟩ := hrel
        go_wp2
        go_ret
        exact ⟨rfl, HB.out⟩
    · have cR := refLex_at a0 w2 (by omega)
      go_wp2_with fail
      refine cR.mono ?_
      rintro e w3 ⟨hb3, hans⟩
      have cX := fun wx (hb : Bl w2 wx) => Lex_at a0 wx (by omega) (HM.out.2.step hb)
      rcases hans with ⟨h1, v, rfl, h2⟩ | ⟨p, h1, rfl⟩
      · unfold flt
        go_wp2_with fail
        refine (cX _ (hb3.trans ((Bl.refl _).alloc _))).mono ?_
        rintro e w4 ⟨hb4, ⟨_, u, rfl, g2⟩ | ⟨p, B, g1, _⟩⟩
        · have cP := errs.placed_nil w4
          have HLb := lx_len (L a0) _ 0 (Nat.le_refl _)
          rw [L_len] at HLb
          generalize (lx (L a0) 0).1 = l at h2 g2 HLb
          have hb34 := ((Bl.refl w3).alloc (.cells #[.int .i64 0, .int .i64 (-1)] 26)).trans hb4
          obtain ⟨vp, vc, rfl, hvc, hin⟩ := (h2.step hb34).view
          obtain ⟨up, uc, rfl, huc, hiu⟩ := g2.view
          obtain ⟨n, hn⟩ : ∃ n, n = l.length := ⟨_, rfl⟩
          have c00 : w4.cell? ⟨w3.heap.size, 0, none⟩ = some (.int .i64 0) := at_bl hb4 (by rw [cell_of (new_at w3 _)]; rfl)
          have c01 : w4.cell? ⟨w3.heap.size, 1, none⟩ = some (.int .i64 (-1)) := at_bl hb4 (by rw [cell_of (new_at w3 _)]; rfl)
          have HV : Hid (tr.In w4 vp l ∧ tr.In w4 up l ∧ Bl w2 w4 ∧ n = l.length) := ⟨hin, hiu, hb3.trans hb34, hn⟩
          rw [← hn] at hvc huc HLb ⊢
          clear h1 h2 g2 hin hiu hb34 hn cR cX cF hf
          go_wp2_with fail
          refine cP.mono ?_
          rintro e w5 ⟨rfl, hg5⟩
          go_wp2_with fail
          refine (c1 _).mono ?_
          rintro e w6 ⟨rfl, rfl⟩
          go_wp2_with fail
          refine (c2 _).mono ?_
          rintro e w6 ⟨rfl, rfl⟩
          have HB6 : Hid (Bl w4 w6) := hg5.bl
          clear hg5 cP c1 c2 c00 c01
          go_wp2
          go_loopw [7] (fun i wr => ∃ k : Nat, k ≤ n ∧ i = .int .i64 (k : Int) ∧ Hid (Bl w4 wr)) (fun i _ => n - (intOf i).toNat)
          case atStart => exact ⟨0, Nat.zero_le _, rfl, HB6.out⟩
          case round =>
            obtain ⟨k, hk, rfl, HB⟩ := hrel
            by_cases hkn : k < n
            · have d1 : decide ((k : Int) < (n : Int)) = true := decide_eq_true (by omega)
              have hkl : k < l.length := by have := HV.out.2.2.2; omega
              obtain ⟨x, rfl, b1, b2⟩ := (HV.out.1.step HB.out).at' k hkl
              obtain ⟨y, rfl, e1, e2⟩ := (HV.out.2.1.step HB.out).at' k hkl
              have hE := neTk l[k]
              generalize l[k] = t at *
              go_wp2
              go_quiet (fail)
              go_wp2
              go_roundw
              case rel => exact ⟨k + 1, by omega, by go_num, HB.out.drewN _⟩
              case measure => simp [intOf]; omega
            · have d1 : decide ((k : Int) < (n : Int)) = false := decide_eq_false (by omega)
              go_wp2
              go_ret
              exact ⟨rfl, HV.out.2.2.1.trans HB.out⟩
        · rw [h1] at g1; cases g1
      · unfold flt
        go_wp2_with fail
        refine (cX _ (hb3.trans ((Bl.refl _).alloc _))).mono ?_
        rintro e w4 ⟨hb4, ⟨g1, _⟩ | ⟨p', B, g1, rfl, g2, g3⟩⟩
        · rw [h1] at g1; cases g1
        · rw [h1] at g1
          injection g1 with g1
          subst g1
          have hb34 := ((Bl.refl w3).alloc (.cells #[.int .i64 3, .int .i64 (p : Int)] 26)).trans hb4
          have c00 : w4.cell? ⟨w3.heap.size, 0, none⟩ = some (.int .i64 3) := at_bl hb4 (by rw [cell_of (new_at w3 _)]; rfl)
          have c01 : w4.cell? ⟨w3.heap.size, 1, none⟩ = some (.int .i64 (p : Int)) := at_bl hb4 (by rw [cell_of (new_at w3 _)]; rfl)
          have cP := errs.placed_at 3 (p : Int) B w4 (HM.out.1.bl (hb3.trans hb34)) (by rw [cell_of g3]; rfl) (by rw [cell_of g3]; rfl)
          have HZ4 : Hid (Bl w2 w4) := hb3.trans hb34
          clear h1 g2 g3 hb34 cR cX cF hf
          go_wp2_with fail
          refine cP.mono ?_
          rintro e w5 ⟨rfl, hg5⟩
          go_wp2_with fail
          refine (c1 _).mono ?_
          rintro e w6 ⟨rfl, rfl⟩
          go_wp2_with fail
          refine (c2 _).mono ?_
          rintro e w6 ⟨rfl, rfl⟩
          have HZ : Hid (Bl w2 w6) := HZ4.out.trans hg5.bl
          clear hg5 cP
          go_wp2
          go_loopw [7] (fun iv wr => iv = .int .i64 0 ∧ Hid (Bl w2 wr)) (fun _ _ => 0)
          case atStart => exact ⟨rfl, HZ.out⟩
          case round =>
            obtain ⟨rfl, HB⟩ := hrel
            go_wp2
            go_ret
            exact ⟨rfl, HB.out⟩

set_option maxRecDepth 100000 in
theorem lifted (os : Os) (started : os.Started) (H : Type) (enc : TypeId × Value → H) :
    ReturnsInHanded {} Tryd.checked os 3 .any (fun w args => (Rows.lexCutsSpec.pre enc Tryd.prog Tryd.f3 [] false w args ∧ laidMetH Tryd.prog laidme.list w) ∧ sizedMet enc Tryd.prog Tryd.f3 (OpenSpec.ofChange Rows.lexCutsSpec) false w args) (Rows.lexCutsSpec.post enc Tryd.prog Tryd.f3 false true false false) := by
  refine returnsInHanded_of_calls (C := Tryd.checked) own started (by kernel_rfl) 
    (ChangeSpec.witness_shaped (enc := enc) (C := Tryd.checked) (os := os) (X := fun w _ => laidMetH Tryd.prog laidme.list w) false (World.layVars Tryd.prog (laying.layCell (World.holding Tryd.prog os ⟨#[], #[], []⟩)) laidm.list) #[.string ByteArray.empty] 8 (World.layVars_os _ _ _) (World.shaped_of_ZipB (by kernel_rfl) (by kernel_rfl)) (by kernel_rfl) (by kernel_rfl) (by kernel_rfl) (laidme.world_met os _)) ?_
  intro w0 tape i _ hsh _ hok hpre _
  obtain ⟨_, _, _, fn', hfn', _, _, _, _, hval0⟩ := hok
  obtain rfl : fn' = Tryd.f3 := Option.some.inj (hfn'.symm.trans Tryd.func3)
  obtain ⟨⟨⟨ds, gs, before, hw0, _⟩, hL0⟩, hz⟩ := hpre
  have hsz0 := hz.weights hw0
  have hW : DataW.Whole enc Tryd.prog Tryd.f3.params.toList Rows.lexCutsSpec.vars false (w0.forCall tape i) i.args.toList ds gs before := DataW.Whole.of_heap (w' := w0.forCall tape i) (by rfl) hw0
  have hL : laidMetH Tryd.prog laidme.list (w0.forCall tape i) := laidMetH.of_heap (w := (w0.forCall tape i).memory) (by rfl) hL0
  refine Calls.mono (R := fun e W' => ∃ v, e = .returned v ∧ Rows.lexCutsSpec.post enc Tryd.prog Tryd.f3 false true false false (w0.forCall tape i) i.args v W') ?_ (fun e W' h => by
    obtain ⟨v, rfl, h⟩ := h
    exact ChangeSpec.post_blind h)
  clear hfn' hw0 hL0 hz
  generalize w0.forCall tape i = W at *
  generalize w0.heap.size = base at *
  generalize i.args = args at *
  have hval : ∀ (j : Nat) t v, Tryd.f3.params[j]? = some t → args[j]? = some v → Value.okWide Tryd.prog W .any base t v := hval0
  have hW' := hW
  obtain ⟨p, q, hA0, hV, rfl, hfz, hnd⟩ := hW
  have hA : DataW.TrodAll enc Tryd.prog W 0 (fun _ => true) true Tryd.f3.params.toList args.toList ds p := hA0
  have hsz : (DataW.weightsEach Tryd.prog (Tryd.f3.params.toList ++ Rows.lexCutsSpec.plain.varTypes Tryd.prog) (ds ++ gs)).all (· ≤ reachBytes) = true := hsz0
  rw [Tryd.params3] at hA hval hsz
  obtain ⟨v0, vs0, d0, ds0, p0, q0, hargs, rfl, rfl, h0, r0⟩ := trodAll_cons hA
  obtain ⟨rfl, rfl, rfl⟩ := trodAll_nil r0
  obtain rfl : args = #[v0] := by cases args; simp_all
  obtain ⟨rfl, rfl⟩ := trodVars_none hV
  obtain ⟨a0, rfl, rfl, rfl, w0⟩ := open_string Tryd.underlying9 (hval 0 9 v0 rfl rfl) h0
  have z0 : a0.size ≤ 140737488351232 := sized_string hsz (j := 0) (t := 9) rfl rfl
  clear hA0 hval0 hsz0 hsz
  simp only [List.append_nil] at hW'
  refine (walk a0 z0 W (laidme.of_laid hL)).mono fun e W' ⟨he, hg⟩ => ?_
  subst he
  exact ⟨_, rfl, _, _, _, [], [], [], hW', (trodAll_cons_mk (shut_bool Tryd.underlying4 _) trodAll_mk0), (trodAll_cons_mk (shut_string Tryd.underlying9 w0) trodAll_mk0), rfl, hg.frame _, fun h => by cases h⟩

theorem over : Rows.lexCutsRow.holds Tryd.pinned (OpenSpec.ofChange Rows.lexCutsSpec) :=
  OpenClaim.holds_of_wide 3 Tryd.f3 rfl rfl rfl rfl rfl rfl rfl ⟨rfl, rfl, rfl, rfl, rfl⟩ rfl rfl rfl rfl rfl (by kernel_rfl) Tryd.func3 (by kernel_rfl)
    (of_decide_eq_true (by kernel_rfl)) (by unfold Func.isWrapper; first | (rw [if_pos (by decide +kernel)]; kernel_rfl) | (rw [if_neg (by decide +kernel)]; exact ⟨rfl, rfl⟩))
    (fun os started H enc _ => lifted os started H enc)

theorem tied : Rows.LexCutsCardSaid :=
  Claim7.holds_tied_plain_at .later [] [.handle, .data] true (true, "3ebc849c7e9e556c4e26a2870ebfeb77e5c0aad1daa1671fa91b31ef1b42283f") true
    over (fun _ h => by cases h) (by kernel_rfl) (fun _ h => by cases h) lexCuts_row_tie rfl ⟨rfl, rfl⟩ (by kernel_rfl) rfl
    (fun f fn hf hfn => by
      obtain rfl : f = 3 := Option.some.inj ((show Tryd.prog.funcNamed "escritoire/escritoirelaw.LexCuts" = some 3 by kernel_rfl).symm.trans hf) |>.symm
      obtain rfl : fn = Tryd.f3 := (Option.some.inj (Tryd.func3.symm.trans hfn)).symm
      exact ⟨by kernel_rfl, fun j t ht => by
        rw [Tryd.params3] at ht
        rcases j with _ | j
        · obtain rfl : t = 9 := by simpa using ht.symm
          exact (show Tryd.prog.wantsStandIn 9 = false by kernel_rfl)
        · simp at ht⟩)
    (by kernel_rfl)
end Go.Proofs.YtfngcphklfjhjaaDoor.lexCuts
namespace Go.Proofs.YtfngcphklfjhjaaDoor
/-- The given statement. -/
theorem lexCuts_holds : Rows.LexCutsCardSaid := lexCuts.tied
#print axioms lexCuts_holds
end Go.Proofs.YtfngcphklfjhjaaDoor
