/- A dump of a text of up to 600 bytes, by however many columns: its lines, turned round, Load reads as that text; none is longer than the first, and in each two blanks stand together: XxdOrder answers true at every text and every number, where the library's two tables read as they do in the program's text. -/
import Derived.Test.YtmchpmfogjhpoabDoorRows
import Derived.WalkKit
import Derived.ProofKit
import Derived.OpenShut
import Derived.SizedLaws
import Derived.Test.YtmchpmfogjhpoabDoorLaidTX
import Derived.Test.YtmchpmfogjhpoabDoorTie
import Derived.Test.YtmchpmfogjhpoabDoorCards
import Derived.SevenTiedAt
import Derived.Test.YtmchpmfogjhpoabDoorXo4
import Derived.Test.YtmchpmfogjhpoabDoorXb4
import Derived.Deep.QuietTactic
import Derived.BigQuiet
import Derived.MapKept
import Derived.ShutString
namespace Go.Proofs.YtmchpmfogjhpoabDoor.xxdOrder
open Go.ChangeShapes Go.WideShapes Go.ChangeAt Go.RowKit
open Go.ChangeMaps (open_string shut_string)
set_option linter.unusedVariables false      -- a walk need not use every 'w<i>' (that an integer argument fits its kind)

theorem own : ownKnob Tryd.prog.godebug = none := by kernel_rfl

open mem rows xd xl xb xo
set_option maxHeartbeats 4000000 in
set_option maxRecDepth 10000 in
theorem walk (a0 : ByteArray) (a1 : Int) (w0 : a0.size ≤ 140737488351232) (w1 : (Lit.int .i64 a1).wf = true) (w : World) (hm : xo.Ml w) :
    Calls Tryd.prog 3 #[.string a0, .int .i64 a1] w fun e w' => e = .returned (.bool true) ∧ Below w.heap.size w w' := by
  clear w0
  by_cases h0 : a0.size = 0
  · obtain rfl : a0 = ⟨#[]⟩ := by
      apply ByteArray.ext
      exact Array.eq_empty_of_size_eq_zero h0
    go_enter Tryd.func3, Tryd.ntmps3
    go_wp2_with (fail)
    refine (dumped_at _).mono ?_
    rintro e v1 ⟨rfl, hb1⟩
    go_wp2
    go_ret
    exact ⟨rfl, hb1⟩
  · have hne := zero_size h0
    by_cases hs0 : a0.size ≤ 600
    · have hz0 : ¬ (600 : Int) < (a0.size : Int) := by omega
      have hz0d : decide ((600 : Int) < (a0.size : Int)) = false := decide_eq_false hz0
      have cK := fun w => pick_at a1 256 w (by omega) (by omega)
      have hk := pik_lt a1 256 (by omega)
      obtain ⟨p, hp⟩ : ∃ p, p = pik a1 256 := ⟨_, rfl⟩
      rw [← hp] at cK hk
      obtain ⟨c, hc⟩ : ∃ c, c = p + 1 := ⟨_, rfl⟩
      have hcz : (1 : Int) + (p : Int) = (c : Int) := by omega
      have hc1 : 1 ≤ c := by omega
      have hc2 : c ≤ 256 := by omega
      have cD := fun w => Dump_at a0 c 1 w hs0 (Nat.le_refl _) hc1 hc2
      rw [dmp_rws a0 c (by omega) hc1] at cD
      have cL := fun w => Load_rev a0 c w hs0 (by omega) hc1 hc2
      have HR : Hid (∀ i, i < (rws a0 c).length → (strOfNums ((rws a0 c).getD i [])).size ≤ (strOfNums ((rws a0 c).getD 0 [])).size ∧ (strOfNums ((rws a0 c).getD i [])).size ≤ 4000 ∧ 0 ≤ Lib.index (strOfNums ((rws a0 c).getD i [])).data.toList [32, 32]) := fun i hi => rws_row a0 c i hs0 hc2 hc1 hi
      obtain ⟨j1, j2, j3⟩ := jo_len a0 c hs0 hc2 hc1 (by omega)
      have HN : Hid (rws a0 c ≠ []) := rws_ne a0 c (by omega) hc1
      have HW : Hid (∀ r ∈ rws a0 c, Lw r) := rws_lw a0 c
      have hpos : 0 < (rws a0 c).length := by rw [rws_len]; exact np_pos a0 c (by omega) hc1
      obtain ⟨L, hL⟩ : ∃ L, L = rws a0 c := ⟨_, rfl⟩
      rw [← hL] at cD cL HR HN HW hpos j1 j2 j3
      obtain ⟨n, hn⟩ : ∃ n, n = L.length := ⟨_, rfl⟩
      have cT := fun w => trim_at (jo L) w j1
      have cS := fun w (h : Ml w) => split_at L w HN.out HW.out j1 h
      have cV := fun w B (h : Tx w B L) => rev_at w B L h (by omega)
      have cJ := fun w B hB hc => join_rev w B L hB hc (by omega) j2
      obtain ⟨X, hX⟩ : ∃ X, X = strOfNums (jo L ++ [10]) := ⟨_, rfl⟩
      obtain ⟨Y, hY⟩ : ∃ Y, Y = strOfNums (jo L) := ⟨_, rfl⟩
      obtain ⟨Z, hZ⟩ : ∃ Z, Z = strOfNums (jo L.reverse) := ⟨_, rfl⟩
      rw [← hX] at cD cT
      rw [← hY] at cT cS
      rw [← hZ] at cJ cL
      rw [← hn] at cS cV cJ hpos j3 HR
      have HM : Hid (Ml w) := hm
      have HNN : Hid (n = L.length) := hn
      clear hp hc hm hX hY hZ hL hn j1 j2 HN HW
      go_enter Tryd.func3, Tryd.ntmps3
      go_wp2_with (fail)
      refine (dumped_at _).mono ?_
      rintro e v1 ⟨rfl, hb1⟩
      go_wp2_with (fail)
      refine (cK _).mono ?_
      rintro e v2 ⟨rfl, hb2⟩
      subst v2
      go_wp2_with (fail)
      refine (cD _).mono ?_
      rintro e v2 ⟨rfl, hb2⟩
      go_wp2_with (fail)
      refine (cT _).mono ?_
      rintro e v3 ⟨rfl, hb3⟩
      subst v3
      go_wp2_with (fail)
      refine (cS _ (HM.out.step (hb1.trans hb2))).mono ?_
      rintro e v3 ⟨rfl, hb3⟩
      obtain ⟨B, hB⟩ : ∃ B, B = v2.heap.size := ⟨_, rfl⟩
      have H3 : Hid (Tx v3 B L ∧ Ml v3 ∧ v3.heap.size = B + 1 ∧ Below B v2 v3 ∧ w.heap.size ≤ B ∧ Below w.heap.size w v2) := by
        have hbl : Bl v2 v3 := by rw [hb3]; exact (Bl.refl v2).alloc _
        refine ⟨?_, (HM.out.step (hb1.trans hb2)).step hbl, ?_, ?_, ?_, hb1.trans hb2⟩
        · rw [hb3, hB]
          exact (Go.MapKept.heap_alloc v2 _).1
        · rw [hb3, World.size_alloc, hB]
        · rw [hB]; exact hbl
        · rw [hB]; exact (hb1.trans hb2).size
      rw [← hB]
      clear hb1 hb2 hb3 hB cK cD cT cS HM
      go_wp2_with (fail)
      go_loopw [8] (fun iv wr => ∃ i : Nat, 1 ≤ i ∧ i ≤ n ∧ iv = .int .i64 (i : Int) ∧ Hid (Bl v3 wr)) (fun iv _ => n - (intOf iv).toNat)
      case atStart => exact ⟨1, Nat.le_refl _, hpos, rfl, Bl.refl _⟩
      case round =>
        obtain ⟨i, hi1, hi, rfl, H⟩ := hrel
        have hTx : Tx wr B L := by
          unfold Tx
          rw [H.out.block B (by rw [H3.out.2.2.1]; omega)]
          exact H3.out.1
        by_cases hlt : i < n
        · have hltz : (i : Int) < (n : Int) := by omega
          have hpz : (0 : Int) < (n : Int) := by omega
          have ci := hTx.at i (by rw [← HNN.out]; exact hlt)
          have c0 := hTx.at 0 (by rw [← HNN.out]; exact hpos)
          obtain ⟨r1, r2, r3⟩ := HR.out i hlt
          have HM : Hid (Ml wr) := H3.out.2.1.step H.out
          obtain ⟨Ti, hTi⟩ : ∃ Ti, Ti = strOfNums (L.getD i []) := ⟨_, rfl⟩
          obtain ⟨T0, hT0⟩ : ∃ T0, T0 = strOfNums (L.getD 0 []) := ⟨_, rfl⟩
          rw [← hTi] at ci r1 r2 r3
          rw [← hT0] at c0 r1
          obtain ⟨x, hx⟩ : ∃ x, x = Lib.index Ti.data.toList [32, 32] := ⟨_, rfl⟩
          have cI := fun w (h : Ml w) => idx_at Ti w r2 h
          rw [← hx] at cI r3
          have d1 : decide ((T0.size : Int) < (Ti.size : Int)) = false := decide_eq_false (by omega)
          have d1n : decide (T0.size < Ti.size) = false := decide_eq_false (by omega)
          have d1z : ¬ (T0.size : Int) < (Ti.size : Int) := by omega
          have d1m : ¬ T0.size < Ti.size := by omega
          have d2 : decide (x < 0) = false := decide_eq_false (by omega)
          have d2' : ¬ x < 0 := by omega
          clear hTi hT0 hx hTx r1 r3
          go_wp2_with (fail)
          go_quiet ((go_at_call 9; exact Calls.quiet_of_same (cI _ HM.out)))
          go_wp2
          go_roundw
          case rel => exact ⟨i + 1, by omega, hlt, by go_num, H.out.drewN _⟩
          case measure => simp [intOf]; omega
        · have hltz : ¬ (i : Int) < (n : Int) := by omega
          go_wp2_with (fail)
          refine (cV _ B hTx).mono ?_
          rintro e v4 ⟨rfl, hb4, hs4, hc4⟩
          go_wp2_with (fail)
          refine (cJ _ B hs4 hc4).mono ?_
          rintro e v5 ⟨rfl, hb5⟩
          go_wp2_with (fail)
          refine (cL _).mono ?_
          rintro e v6 ⟨rfl, hb6⟩
          have HF : Hid (Bl w v6) := by
            obtain ⟨q1, q2, q3, q4, q5, q6⟩ := H3.out
            have k1 : Below w.heap.size w v3 := Below.trans q6 (q4.mono q5)
            have k2 : Below w.heap.size w wr := Bl.thru k1 (Below.mono H.out (by rw [q3]; omega))
            have k3 : Below w.heap.size w v4 := Bl.thru k2 (hb4.mono q5)
            have k4 : Bl w v5 := Bl.trans k3 hb5
            exact k4.trans hb6
          clear hb4 hs4 hc4 hb5 hb6 cV cJ cL hTx
          go_wp2
          go_ret
          exact ⟨rfl, HF.out⟩
    · have hz0 : (600 : Int) < (a0.size : Int) := by omega
      have hz0d : decide ((600 : Int) < (a0.size : Int)) = true := decide_eq_true hz0
      go_enter Tryd.func3, Tryd.ntmps3
      go_wp2_with (fail)
      refine (dumped_at _).mono ?_
      rintro e v1 ⟨rfl, hb1⟩
      go_wp2
      go_ret
      exact ⟨rfl, hb1⟩

set_option maxRecDepth 100000 in
theorem lifted (os : Os) (started : os.Started) (H : Type) (enc : TypeId × Value → H) :
    ReturnsInHanded {} Tryd.checked os 3 .any (fun w args => (Rows.xxdOrderSpec.pre enc Tryd.prog Tryd.f3 [] false w args ∧ laidMetH Tryd.prog laidt.list w) ∧ sizedMet enc Tryd.prog Tryd.f3 (OpenSpec.ofChange Rows.xxdOrderSpec) false w args) (Rows.xxdOrderSpec.post enc Tryd.prog Tryd.f3 false true false false) := by
  refine returnsInHanded_of_calls (C := Tryd.checked) own started (by kernel_rfl) 
    (ChangeSpec.witness_shaped (enc := enc) (C := Tryd.checked) (os := os) (X := fun w _ => laidMetH Tryd.prog laidt.list w) false (World.layVars Tryd.prog (World.holding Tryd.prog os ⟨#[], #[], []⟩) laidt.list) #[.string ByteArray.empty, .int .i64 0] 8 (World.layVars_os _ _ _) (World.shaped_of_ZipB (by kernel_rfl) (by kernel_rfl)) (by kernel_rfl) (by kernel_rfl) (by kernel_rfl) (laidt.world_met os _)) ?_
  intro w0 tape i _ hsh _ hok hpre _
  obtain ⟨_, _, _, fn', hfn', _, _, _, _, hval0⟩ := hok
  obtain rfl : fn' = Tryd.f3 := Option.some.inj (hfn'.symm.trans Tryd.func3)
  obtain ⟨⟨⟨ds, gs, before, hw0, _⟩, hL0⟩, hz⟩ := hpre
  have hsz0 := hz.weights hw0
  have hW : DataW.Whole enc Tryd.prog Tryd.f3.params.toList Rows.xxdOrderSpec.vars false (w0.forCall tape i) i.args.toList ds gs before := DataW.Whole.of_heap (w' := w0.forCall tape i) (by rfl) hw0
  have hL : laidMetH Tryd.prog laidt.list (w0.forCall tape i) := laidMetH.of_heap (w := (w0.forCall tape i).memory) (by rfl) hL0
  refine Calls.mono (R := fun e W' => ∃ v, e = .returned v ∧ Rows.xxdOrderSpec.post enc Tryd.prog Tryd.f3 false true false false (w0.forCall tape i) i.args v W') ?_ (fun e W' h => by
    obtain ⟨v, rfl, h⟩ := h
    exact ChangeSpec.post_blind h)
  clear hfn' hw0 hL0 hz
  generalize w0.forCall tape i = W at *
  generalize w0.heap.size = base at *
  generalize i.args = args at *
  have hval : ∀ (j : Nat) t v, Tryd.f3.params[j]? = some t → args[j]? = some v → Value.okWide Tryd.prog W .any base t v := hval0
  have hW' := hW
  obtain ⟨p, q, hA0, hV, rfl, hfz, hnd⟩ := hW
  have hA : DataW.TrodAll enc Tryd.prog W 0 (fun _ => true) true Tryd.f3.params.toList args.toList ds p := hA0
  have hsz : (DataW.weightsEach Tryd.prog (Tryd.f3.params.toList ++ Rows.xxdOrderSpec.plain.varTypes Tryd.prog) (ds ++ gs)).all (· ≤ reachBytes) = true := hsz0
  rw [Tryd.params3] at hA hval hsz
  obtain ⟨v0, vs0, d0, ds0, p0, q0, hargs, rfl, rfl, h0, r0⟩ := trodAll_cons hA
  obtain ⟨v1, vs1, d1, ds1, p1, q1, rfl, rfl, rfl, h1, r1⟩ := trodAll_cons r0
  obtain ⟨rfl, rfl, rfl⟩ := trodAll_nil r1
  obtain rfl : args = #[v0, v1] := by cases args; simp_all
  obtain ⟨rfl, rfl⟩ := trodVars_none hV
  obtain ⟨a0, rfl, rfl, rfl, w0⟩ := open_string Tryd.underlying9 (hval 0 9 v0 rfl rfl) h0
  have z0 : a0.size ≤ 140737488351232 := sized_string hsz (j := 0) (t := 9) rfl rfl
  obtain ⟨a1, rfl, rfl, rfl, w1⟩ := open_int Tryd.underlying3 (hval 1 3 v1 rfl rfl) h1
  clear hA0 hval0 hsz0 hsz
  simp only [List.append_nil] at hW'
  refine (walk a0 a1 z0 w1 W (xo.ml_of hsh)).mono fun e W' ⟨he, hg⟩ => ?_
  subst he
  exact ⟨_, rfl, _, _, _, [], [], [], hW', (trodAll_cons_mk (shut_bool Tryd.underlying4 _) trodAll_mk0), (trodAll_cons_mk (shut_string Tryd.underlying9 w0) (trodAll_cons_mk (shut_int Tryd.underlying3 w1) trodAll_mk0)), rfl, hg.frame _, fun h => by cases h⟩

theorem over : Rows.xxdOrderRow.holds Tryd.pinned (OpenSpec.ofChange Rows.xxdOrderSpec) :=
  OpenClaim.holds_of_wide 3 Tryd.f3 rfl rfl rfl rfl rfl rfl rfl ⟨rfl, rfl, rfl, rfl, rfl⟩ rfl rfl rfl rfl rfl (by kernel_rfl) Tryd.func3 (by kernel_rfl)
    (of_decide_eq_true (by kernel_rfl)) (by unfold Func.isWrapper; first | (rw [if_pos (by decide +kernel)]; kernel_rfl) | (rw [if_neg (by decide +kernel)]; exact ⟨rfl, rfl⟩))
    (fun os started H enc _ => lifted os started H enc)

theorem tied : Rows.XxdOrderCardSaid :=
  Claim7.holds_tied_plain_at .later [] [.data, .pinned] true (true, "2749e602e2aa76fac3864fcac5daca7a40f2c3784213d182f80cdba37d106fc7") false
    over (fun _ h => by cases h) (by kernel_rfl) (fun _ h => by cases h) xxdOrder_row_tie rfl ⟨rfl, rfl⟩ (by kernel_rfl) rfl
    (fun f fn hf hfn => by
      obtain rfl : f = 3 := Option.some.inj ((show Tryd.prog.funcNamed "escritoire/escritoirekeep.XxdOrder" = some 3 by kernel_rfl).symm.trans hf) |>.symm
      obtain rfl : fn = Tryd.f3 := (Option.some.inj (Tryd.func3.symm.trans hfn)).symm
      exact ⟨by kernel_rfl, fun j t ht => by
        rw [Tryd.params3] at ht
        rcases j with _ | j
        · obtain rfl : t = 9 := by simpa using ht.symm
          exact (show Tryd.prog.wantsStandIn 9 = false by kernel_rfl)
        · rcases j with _ | j
          · obtain rfl : t = 3 := by simpa using ht.symm
            exact (show Tryd.prog.wantsStandIn 3 = false by kernel_rfl)
          · simp at ht⟩)
    (by kernel_rfl)
end Go.Proofs.YtmchpmfogjhpoabDoor.xxdOrder
namespace Go.Proofs.YtmchpmfogjhpoabDoor
/-- The given statement. -/
theorem xxdOrder_holds : Rows.XxdOrderCardSaid := xxdOrder.tied
#print axioms xxdOrder_holds
end Go.Proofs.YtmchpmfogjhpoabDoor
