/- SpansMove: where a place, and spans, are behind any edit, is as the document tells it: for every input. -/
import Derived.Test.YtfblmfjgbbeheaaRows
import Derived.WalkKit
import Derived.ProofKit
import Derived.OpenShut
import Derived.Test.YtfblmfjgbbeheaaCh5
import Derived.Test.YtfblmfjgbbeheaaMv2
import Derived.ShutString
import Derived.ChangeOld
import Derived.Below
namespace Go.Proofs.Ytfblmfjgbbeheaa.spansMove
open Go.ChangeShapes Go.WideShapes Go.ChangeAt Go.RowKit
open Go.ChangeMaps (open_string shut_string)
set_option linter.unusedVariables false

theorem own : ownKnob Try.prog.godebug = none := by kernel_rfl
theorem laidOut : laidOutB Try.prog = true := by kernel_rfl

/-- WHAT THE WALK IS TOLD OF A SLICE OF INTEGERS THAT CAME IN: it is nil; or it leads to a row of 'cap' cells, the numbers 'zs' (the first 'len' are its elements, the rest its spare room), each fitting its kind. -/
def IsRow (k : IntKind) (w : World) (a : Option Addr) (len cap : Nat) (zs : List Int) : Prop :=
  (a = none ∧ len = 0 ∧ cap = 0 ∧ zs = []) ∨
  ∃ x, a = some x ∧ len ≤ cap ∧ cap ≤ maxLen ∧ zs.length = cap ∧ (∀ i, i < zs.length → w.cell? (x.add i) = some (.int k (zs.getD i 0))) ∧ ∀ n ∈ zs, (Lit.int k n).wf = true

open mem rows span sp
theorem mv_i64 {x a o i : Int} (hx : sm x) (ha : sm a) (ho : sm o) (hi : sm i) : i64 (mv x a o i) := by
  unfold sm at hx ha ho hi
  unfold mv i64
  (repeat' split) <;> omega
set_option maxHeartbeats 8000000 in
set_option maxRecDepth 100000 in
theorem walk (a0 : Option Addr) (len0 cap0 : Nat) (z0 : List (Int × Int)) (a1 : Int) (a2 : Int) (a3 : Int) (a4 : Int) (w : World) (w0 : sp.IsSp w a0 len0 cap0 z0) (w1 : (Lit.int .i64 a1).wf = true) (w2 : (Lit.int .i64 a2).wf = true) (w3 : (Lit.int .i64 a3).wf = true) (w4 : (Lit.int .i64 a4).wf = true) :
    Calls Try.prog 4 #[.slice a0 len0 cap0, .int .i64 a1, .int .i64 a2, .int .i64 a3, .int .i64 a4] w fun e w' => e = .returned (.bool true) ∧ Below w.heap.size w w' := by
  obtain ⟨hl0, hin0, hf0, hp0⟩ := w0
  have HV0 : Hid (Vw w a0 len0 cap0 z0) := ⟨hl0.symm, hin0, hp0⟩
  have HF0 : Hid (Fit z0) := hf0
  clear hl0 hin0 hf0 hp0 w1 w2 w3 w4
  by_cases h0 : len0 ≤ 60
  rotate_left
  · have cf := fun w => many_yes a0 len0 cap0 w h0
    clear h0
    go_enter Try.func4, Try.ntmps4
    go_wp2_with (go_at_call 8; refine (cf _).mono ?_; rintro e v2 ⟨rfl, rfl⟩)
    go_ret
    exact ⟨rfl, Bl.refl _⟩
  have cf0 := fun w => many_no a0 len0 cap0 w h0
  have HH0 : Hid (len0 ≤ 60) := h0
  clear h0
  by_cases h1n : a1 < 0
  · go_enter Try.func4, Try.ntmps4
    go_wp2_with (go_at_call 8; refine (cf0 _).mono ?_; rintro e v2 ⟨rfl, rfl⟩)
    go_ret
    exact ⟨rfl, Bl.refl _⟩
  by_cases h1g : 1099511627776 < a1
  · go_enter Try.func4, Try.ntmps4
    go_wp2_with (go_at_call 8; refine (cf0 _).mono ?_; rintro e v2 ⟨rfl, rfl⟩)
    go_ret
    exact ⟨rfl, Bl.refl _⟩
  by_cases h2n : a2 < 0
  · go_enter Try.func4, Try.ntmps4
    go_wp2_with (go_at_call 8; refine (cf0 _).mono ?_; rintro e v2 ⟨rfl, rfl⟩)
    go_ret
    exact ⟨rfl, Bl.refl _⟩
  by_cases h2g : 1099511627776 < a2
  · go_enter Try.func4, Try.ntmps4
    go_wp2_with (go_at_call 8; refine (cf0 _).mono ?_; rintro e v2 ⟨rfl, rfl⟩)
    go_ret
    exact ⟨rfl, Bl.refl _⟩
  by_cases h3n : a3 < 0
  · go_enter Try.func4, Try.ntmps4
    go_wp2_with (go_at_call 8; refine (cf0 _).mono ?_; rintro e v2 ⟨rfl, rfl⟩)
    go_ret
    exact ⟨rfl, Bl.refl _⟩
  by_cases h3g : 1099511627776 < a3
  · go_enter Try.func4, Try.ntmps4
    go_wp2_with (go_at_call 8; refine (cf0 _).mono ?_; rintro e v2 ⟨rfl, rfl⟩)
    go_ret
    exact ⟨rfl, Bl.refl _⟩
  by_cases h4n : a4 < 0
  · go_enter Try.func4, Try.ntmps4
    go_wp2_with (go_at_call 8; refine (cf0 _).mono ?_; rintro e v2 ⟨rfl, rfl⟩)
    go_ret
    exact ⟨rfl, Bl.refl _⟩
  by_cases h4g : 1099511627776 < a4
  · go_enter Try.func4, Try.ntmps4
    go_wp2_with (go_at_call 8; refine (cf0 _).mono ?_; rintro e v2 ⟨rfl, rfl⟩)
    go_ret
    exact ⟨rfl, Bl.refl _⟩
  have HS1 : Hid (sm a1) := by unfold Hid sm; omega
  have HS2 : Hid (sm a2) := by unfold Hid sm; omega
  have HS3 : Hid (sm a3) := by unfold Hid sm; omega
  have HS4 : Hid (sm a4) := by unfold Hid sm; omega
  go_enter Try.func4, Try.ntmps4
  go_wp2_with (first
    | (go_at_call 8; refine (cf0 _).mono ?_; rintro e v2 ⟨rfl, rfl⟩)
    | (go_at_call 14; refine (refOf_at a0 len0 cap0 z0 _ HV0.out.1 HV0.out.2.1 HF0.out (Nat.le_trans HH0.out (by decide))).mono ?_; rintro e y1 ⟨u1, rfl, R, ho1, hi1, hn1, hb1⟩; obtain ⟨q, c, rfl, hq⟩ := ho1.view; obtain ⟨n, hn⟩ : ∃ n, n = R.length := ⟨_, rfl⟩; rw [← hn]; have HN : Hid (n = R.length) := hn; have HQ : Hid (InS y1 q R) := hq; have HI : Hid (IsOf (has z0) R) := hi1; clear hn hq hi1 ho1 hn1))
  have hnl : n ≤ 60 := by
    obtain ⟨R', h1, h2⟩ := exists_of z0
    rw [HN.out, HI.out.same h1 (fun _ _ => Iff.rfl)]
    have h3 := HV0.out.1
    have h4 := HH0.out
    omega
  have HT : Hid (∀ x ∈ R, 0 ≤ x.1 ∧ x.1 < x.2) := fun x hx => by
    have := right_mem HI.out.1 hx
    omega
  obtain ⟨b1, hb1e⟩ : ∃ b, b = y1.heap.size := ⟨_, rfl⟩
  have HB1 : Hid (b1 = y1.heap.size) := hb1e
  clear hb1e cf0
  go_loopw [11, 51] (fun sv iv wr => ∃ k : Nat, k ≤ n ∧ iv = .int .i64 (k : Int) ∧ OwnS wr b1 sv ((R.take k).map (mvx a2 a3 a4)) ∧ Hid (∀ j, j < k → (nth R j).2 ≤ 1099511627776) ∧ Bl y1 wr) (fun _ iv _ => n - (intOf iv).toNat)
  case atStart => exact ⟨0, Nat.zero_le _, rfl, OwnS.nil _ _, fun j hj => absurd hj (Nat.not_lt_zero _), Bl.refl _⟩
  case round =>
    obtain ⟨k, hk, rfl, hown, HM, hbl⟩ := hrel
    by_cases hlt : k < n
    · have hlz : (k : Int) < (n : Int) := by omega
      have hkS : k < R.length := by rw [← HN.out]; exact hlt
      obtain ⟨x, rfl, hc1, hc2⟩ := (HQ.out.step hbl).at k hkS
      have ht := HT.out _ (nth_mem R k hkS)
      by_cases hbig : 1099511627776 < (nth R k).2
      · generalize (nth R k).1 = p1 at hc1
        generalize (nth R k).2 = p2 at hc2 hbig
        clear ht
        go_wp2
        go_ret
        exact ⟨rfl, hb1.trans (hbl.alloc _)⟩
      · have HM' : Hid (∀ j, j < k + 1 → (nth R j).2 ≤ 1099511627776) := fun j hj => by
          rcases Nat.lt_or_ge j k with h | h
          · exact HM.out j h
          · obtain rfl : j = k := by omega
            omega
        have HTK : Hid ((R.take (k + 1)).map (mvx a2 a3 a4) = (R.take k).map (mvx a2 a3 a4) ++ [(mv (nth R k).1 a2 a3 a4, mv (nth R k).2 a2 a3 a4)]) := by rw [Hid, take_nth R k hkS, List.map_append]; rfl
        have hkl : ((R.take k).map (mvx a2 a3 a4)).length ≤ 5000 := by rw [List.length_map, List.length_take]; omega
        have cx := fun w => refMoved_at (nth R k).1 a2 a3 a4 w (by unfold sm; omega) HS2.out HS3.out HS4.out
        have cy := fun w => refMoved_at (nth R k).2 a2 a3 a4 w (by unfold sm; omega) HS2.out HS3.out HS4.out
        generalize (R.take k).map (mvx a2 a3 a4) = T at hown HTK hkl
        generalize (nth R k).1 = p1 at hc1 HTK cx ht
        generalize (nth R k).2 = p2 at hc2 hbig HTK cy ht
        generalize mv p1 a2 a3 a4 = mx at HTK cx
        generalize mv p2 a2 a3 a4 = my at HTK cy
        clear ht HM
        go_wp2
        have hoz := hown.alloc (Obj.cells #[Value.int IntKind.i64 p1, Value.int IntKind.i64 p2] 28)
        have hbz : Bl y1 _ := hbl.alloc (Obj.cells #[Value.int IntKind.i64 p1, Value.int IntKind.i64 p2] 28)
        have hz0 : (wr.alloc (Obj.cells #[Value.int IntKind.i64 p1, Value.int IntKind.i64 p2] 28)).cell? ⟨wr.heap.size, 0, none⟩ = some (.int .i64 p1) := by simp
        have hz1 : (wr.alloc (Obj.cells #[Value.int IntKind.i64 p1, Value.int IntKind.i64 p2] 28)).cell? ⟨wr.heap.size, 1, none⟩ = some (.int .i64 p2) := by simp
        have hYl : wr.heap.size < (wr.alloc (Obj.cells #[Value.int IntKind.i64 p1, Value.int IntKind.i64 p2] 28)).heap.size := by simp
        have hYo := fun j e => (hown.block j e).2
        generalize wr.alloc (Obj.cells #[Value.int IntKind.i64 p1, Value.int IntKind.i64 p2] 28) = wz at hoz hbz hz0 hz1 hYl ⊢
        generalize wr.heap.size = Y at hz0 hz1 hYl hYo ⊢
        have hbs : b1 ≤ wz.heap.size := by rw [HB1.out]; exact hbz.size
        obtain ⟨v', w', hr, ho', hg'⟩ := appS_one (wz.drew.alloc (.cells #[.int .i64 mx, .int .i64 my] 28)) b1 _ T (mx, my) wz.heap.size (hoz.step (((Bl.refl wz).drew).alloc _)) (by go_simp) (by go_simp) hkl (Nat.le_trans hbs (by simp))
        have HR : Hid _ := hr
        have hb3 : Bl y1 w' := sp.bl_grown ((hbz.drew).alloc _) hg' (fun k e => by rw [← HB1.out]; exact (hoz.block k e).1)
        have hbd : Bl wz (wz.drew.alloc (.cells #[.int .i64 mx, .int .i64 my] 28)) := ((Bl.refl wz).drew).alloc _
        have hc0w : w'.cell? ⟨Y, 0, none⟩ = some (.int .i64 p1) := at_grown hg' (Nat.lt_of_lt_of_le hYl hbd.size) (fun j e => Nat.ne_of_gt (hYo j e)) (at_bl hbd hz0)
        have hc1w : w'.cell? ⟨Y, 1, none⟩ = some (.int .i64 p2) := at_grown hg' (Nat.lt_of_lt_of_le hYl hbd.size) (fun j e => Nat.ne_of_gt (hYo j e)) (at_bl hbd hz1)
        clear hr hg' hc1 hc2 hown hbl hbig hYo hbd
        go_region_held3 (fun w' => w'.cell? ⟨Y, 0, none⟩ = some (.int .i64 p1) ∧ w'.cell? ⟨Y, 1, none⟩ = some (.int .i64 p2)) (refine ⟨?_, ?_⟩ <;> first | assumption | exact at_bl (Bl.drew (Bl.refl _)) (by assumption) | exact at_bl ((Bl.refl _).alloc _) (by assumption) | exact at_bl (Bl.drew ((Bl.refl _).alloc _)) (by assumption) | exact at_bl ((Bl.drew (Bl.refl _)).alloc _) (by assumption)) (first | (refine step_append_run rfl (.tmp 58) (.tmp 72) 22 22 rfl _ _ rfl rfl _ _ HR.out ?_) | (go_at_call_of 24 (Value.int IntKind.i64 p1); refine (cx _).mono ?_; rintro e w2 ⟨rfl, rfl⟩) | (go_at_call_of 24 (Value.int IntKind.i64 p2); refine (cy _).mono ?_; rintro e w2 ⟨rfl, rfl⟩))
        all_goals go_wp2
        all_goals go_roundw
        all_goals first | exact ⟨k + 1, by omega, by go_num, by rw [HTK.out]; exact ho', HM', hb3⟩ | (simp only [intOf]; omega) | (simp [intOf]; omega)
    · obtain rfl : k = n := by omega
      have hdone : ¬ ((k : Int) < (k : Int)) := by omega
      have hall : R.take k = R := by rw [HN.out, List.take_length]
      rw [hall] at hown
      have HMO : Hid (∀ x ∈ R, x.2 ≤ 1099511627776) := fun x hx => by
        obtain ⟨j, hj, rfl⟩ := List.getElem_of_mem hx
        have h := HM.out j (by rw [HN.out]; exact hj)
        unfold nth at h
        rw [List.getD_eq_getElem?_getD, List.getElem?_eq_getElem hj] at h
        exact h
      have HFM : Hid (Fit (R.map (mvx a2 a3 a4))) := fun x hx => by
        rw [List.mem_map] at hx
        obtain ⟨y, hy, rfl⟩ := hx
        have h1 := HT.out y hy
        have h2 := HMO.out y hy
        exact ⟨mv_i64 (by unfold sm; omega) HS2.out HS3.out HS4.out, mv_i64 (by unfold sm; omega) HS2.out HS3.out HS4.out⟩
      have hml : (R.map (mvx a2 a3 a4)).length = k := by rw [List.length_map, HN.out]
      obtain ⟨p, cm, e, hin⟩ := hown.view
      rw [hml] at e
      subst e
      have HML : Hid (k = (R.map (mvx a2 a3 a4)).length) := hml.symm
      have HIN : Hid (InS wr p (R.map (mvx a2 a3 a4))) := hin
      have HBL : Hid (Bl v2 wr) := hb1.trans hbl
      have cA := fun w => Moved_at a1 a2 a3 a4 w HS1.out HS2.out HS3.out HS4.out
      have cB := fun w => refMoved_at a1 a2 a3 a4 w HS1.out HS2.out HS3.out HS4.out
      generalize mv a1 a2 a3 a4 = ma at cA cB
      have cS := Shift_at (.slice a0 len0 cap0) z0 R a2 a3 a4 wr (vw_view (HV0.out.step HBL.out)) (by rw [← HV0.out.1]; exact Nat.le_trans HH0.out (by decide)) HI.out HMO.out HS2.out HS3.out HS4.out
      have hqq : (ma == ma) = true := by rw [beq_iff_eq]
      clear hml hin hown hall HM HMO HT HQ
      go_wp2_with (first
        | (go_at_call 25; refine (cA _).mono ?_; rintro e x1 ⟨rfl, rfl⟩)
        | (go_at_call 24; refine (cB _).mono ?_; rintro e x2 ⟨rfl, rfl⟩)
        | (go_at_call 26; refine cS.mono ?_; rintro e x3 ⟨u3, L3, rfl, ho3, hi3, hn3, hb3⟩; have HL3 : Hid (L3.length ≤ 60) := Nat.le_trans hn3 (by rw [← HV0.out.1]; exact HH0.out); have s3 : Hid (Sp x3 u3 (has (R.map (mvx a2 a3 a4))) 60) := sp_own ho3 hi3 HL3.out; clear ho3 hi3 hn3)
        | (go_at_call 14; refine (refOf_at p k cm _ _ HML.out (HIN.out.step hb3) HFM.out (Nat.le_trans hnl (by decide))).mono ?_; rintro e x4 ⟨u4, rfl, R4, ho4, hi4, hn4, hb4⟩; have s4 : Hid (Sp x4 u4 (has (R.map (mvx a2 a3 a4))) 5000) := sp_own ho4 hi4 hn4; have s5 := Sp.hid s3 hb4; clear ho4 hi4 hn4)
        | (go_at_call 18; refine (Same_sp s5.out s4.out (by decide) (by decide) (fun _ _ => Iff.rfl)).mono ?_; rintro e x5 ⟨rfl, hb5⟩))
      go_ret
      exact ⟨rfl, ((HBL.out.trans hb3).trans hb4).trans hb5⟩

set_option maxRecDepth 100000 in
theorem lifted (os : Os) (started : os.Started) (H : Type) (enc : TypeId × Value → H) :
    ReturnsInHanded {} Try.checked os 4 .any (Rows.spansMoveSpec.pre6 enc Try.prog Try.f4 Rows.spansMoveRow.domain false) (Rows.spansMoveSpec.post enc Try.prog Try.f4 false true false false) := by
  refine returnsInHanded_of_change (C := Try.checked) own started (by kernel_rfl) Try.func4
    (ChangeSpec.witness6 (enc := enc) (C := Try.checked) false ⟨#[], #[.slice none 0 0, .int .i64 0, .int .i64 0, .int .i64 0, .int .i64 0], []⟩ 8 (by kernel_rfl) (by kernel_rfl) (by kernel_rfl) (by kernel_rfl)) ?_
  intro W base args ds gs before hval0 hW hcnd _
  have hval : ∀ (j : Nat) t v, Try.f4.params[j]? = some t → args[j]? = some v → Value.okWide Try.prog W .any base t v := hval0
  have hW' := hW
  obtain ⟨p, q, hA0, hV, rfl, hfz, hnd⟩ := hW
  have hA : DataW.TrodAll enc Try.prog W 0 (fun _ => true) true Try.f4.params.toList args.toList ds p := hA0
  rw [Try.params4] at hA hval
  obtain ⟨v0, vs0, d0, ds0, p0, q0, hargs, rfl, rfl, h0, r0⟩ := trodAll_cons hA
  obtain ⟨v1, vs1, d1, ds1, p1, q1, rfl, rfl, rfl, h1, r1⟩ := trodAll_cons r0
  obtain ⟨v2, vs2, d2, ds2, p2, q2, rfl, rfl, rfl, h2, r2⟩ := trodAll_cons r1
  obtain ⟨v3, vs3, d3, ds3, p3, q3, rfl, rfl, rfl, h3, r3⟩ := trodAll_cons r2
  obtain ⟨v4, vs4, d4, ds4, p4, q4, rfl, rfl, rfl, h4, r4⟩ := trodAll_cons r3
  obtain ⟨rfl, rfl, rfl⟩ := trodAll_nil r4
  obtain rfl : args = #[v0, v1, v2, v3, v4] := by cases args; simp_all
  obtain ⟨rfl, rfl⟩ := trodVars_none hV
  obtain ⟨a0, len0, cap0, rfl⟩ := okWide_slice Try.underlying22 (hval 0 22 v0 rfl rfl)
  have k0 := h0
  have lt0 : ∀ x ∈ p0, x.block < W.heap.size := by obtain ⟨m, hm⟩ := k0; exact DataW.trod_lt m _ _ _ hm
  obtain ⟨z0, w0⟩ : ∃ zs, sp.IsSp W a0 len0 cap0 zs := sp.sp_open h0
  obtain ⟨a1, rfl, rfl, rfl, w1⟩ := open_int Try.underlying3 (hval 1 3 v1 rfl rfl) h1
  obtain ⟨a2, rfl, rfl, rfl, w2⟩ := open_int Try.underlying3 (hval 2 3 v2 rfl rfl) h2
  obtain ⟨a3, rfl, rfl, rfl, w3⟩ := open_int Try.underlying3 (hval 3 3 v3 rfl rfl) h3
  obtain ⟨a4, rfl, rfl, rfl, w4⟩ := open_int Try.underlying3 (hval 4 3 v4 rfl rfl) h4
  clear hA0 hval0
  refine (walk a0 len0 cap0 z0 a1 a2 a3 a4 W w0 w1 w2 w3 w4).mono fun e W' ⟨he, bel⟩ => ?_
  subst he
  exact ⟨_, rfl, _, _, _, [], _, [], hW', trodAll_mk1 (shut_bool Try.underlying4 _), (trodAll_cons_mk (Below.trod laidOut (by kernel_rfl) (of_decide_eq_true (by kernel_rfl)) k0 bel lt0) (trodAll_cons_mk (shut_int Try.underlying3 w1) (trodAll_cons_mk (shut_int Try.underlying3 w2) (trodAll_cons_mk (shut_int Try.underlying3 w3) (trodAll_cons_mk (shut_int Try.underlying3 w4) trodAll_mk0))))), rfl, bel.frame _, fun h => by cases h⟩

theorem over : Rows.spansMoveRow.holds Try.pinned (OpenSpec.ofChange Rows.spansMoveSpec) :=
  OpenClaim.holds_of_wide 4 Try.f4 rfl rfl rfl rfl rfl rfl rfl ⟨rfl, rfl, rfl, rfl, rfl⟩ rfl rfl rfl rfl rfl (by kernel_rfl) Try.func4 (by kernel_rfl)
    (of_decide_eq_true (by kernel_rfl)) (by unfold Func.isWrapper; first | (rw [if_pos (by decide +kernel)]; kernel_rfl) | (rw [if_neg (by decide +kernel)]; exact ⟨rfl, rfl⟩))
    (fun os started H enc _ => lifted os started H enc)

end Go.Proofs.Ytfblmfjgbbeheaa.spansMove
namespace Go.Proofs.Ytfblmfjgbbeheaa
/-- The given statement. -/
theorem spansMove_holds : Rows.SpansMoveSaid := spansMove.over
#print axioms spansMove_holds
end Go.Proofs.Ytfblmfjgbbeheaa
