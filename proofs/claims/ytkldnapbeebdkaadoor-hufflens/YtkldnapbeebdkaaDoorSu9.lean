/- What the document's own HuffSigns answers. -/
import Derived.Test.YtkldnapbeebdkaaDoorSu8
namespace Go.Proofs.YtkldnapbeebdkaaDoor.su
set_option linter.unusedVariables false
open Go.ChangeShapes Go.WideShapes Go.ChangeAt Go.RowKit
open mem rows hg
/-- Things that have bits, of the first k. -/
def hv (l : List Int) (k : Nat) : List Nat := (List.range k).filter fun i => decide (0 < l.getD i 0)
theorem hv_succ (l : List Int) (k : Nat) : hv l (k + 1) = hv l k ++ (if 0 < l.getD k 0 then [k] else []) := by
  unfold hv
  rw [List.range_succ, List.filter_append]
  by_cases h : 0 < l.getD k 0 <;> simp only [h, List.filter_cons, List.filter_nil, decide_true, decide_false, if_true, if_false, Bool.false_eq_true]
theorem hv_len (l : List Int) (k : Nat) : (hv l k).length ≤ k := by
  unfold hv
  exact Nat.le_trans (List.length_filter_le _ _) (by simp)
theorem hv_mem (l : List Int) (k x : Nat) : x ∈ hv l k ↔ x < k ∧ 0 < l.getD x 0 := by
  unfold hv
  rw [List.mem_filter, List.mem_range, decide_eq_true_eq]
theorem hv_pw (l : List Int) (k : Nat) : (hv l k).Pairwise (· < ·) := List.Pairwise.filter _ List.pairwise_lt_range
/-- Signs of the first k in order. -/
def ol (l : List Int) (M : List Nat) (k : Nat) : List Int := (List.range l.length).map fun x => if x ∈ M.take k then sgn l l.length x else 0
theorem ol_len (l : List Int) (M : List Nat) (k : Nat) : (ol l M k).length = l.length := by simp [ol]
theorem ol_get (l : List Int) (M : List Nat) (k x : Nat) (h : x < l.length) : (ol l M k).getD x 0 = if x ∈ M.take k then sgn l l.length x else 0 := by
  unfold ol
  rw [List.getD_eq_getElem?_getD, List.getElem?_map, List.getElem?_range h]
  rfl
theorem ol_one {l : List Int} {M : List Nat} (h : IsM l M) : ol l M 1 = List.replicate l.length 0 := by
  apply List.ext_getElem
  · rw [ol_len]; simp
  · intro i h1 h2
    rw [ol_len] at h1
    simp only [ol, List.getElem_map, List.getElem_range, List.getElem_replicate]
    split
    · next hm =>
      cases M with
      | nil => simp at hm
      | cons y M =>
        simp at hm
        have := h.first (by simp)
        rw [hm]
        exact this
    · rfl
theorem ol_set {l : List Int} {M : List Nat} {k : Nat} (hk : k < M.length) : (ol l M k).set (M.getD k 0) (sgn l l.length (M.getD k 0)) = ol l M (k + 1) := by
  apply List.ext_getElem
  · simp [ol_len]
  · intro i h1 h2
    rw [ol_len] at h2
    rw [List.getElem_set]
    have ht : ∀ x, x ∈ M.take (k + 1) ↔ x ∈ M.take k ∨ x = M.getD k 0 := fun x => by
      rw [List.take_succ_eq_append_getElem hk, List.mem_append, List.mem_singleton, List.getD_eq_getElem?_getD, List.getElem?_eq_getElem hk]
      rfl
    simp only [ol, List.getElem_map, List.getElem_range]
    by_cases he : M.getD k 0 = i
    · rw [if_pos he, if_pos ((ht i).2 (Or.inr he.symm)), he]
    · rw [if_neg he]
      by_cases hm : i ∈ M.take k
      · rw [if_pos hm, if_pos ((ht i).2 (Or.inl hm))]
      · rw [if_neg hm, if_neg (fun h => ((ht i).1 h).elim hm (fun e => he e.symm))]
theorem ol_all {l : List Int} {M : List Nat} (h : IsM l M) {k : Nat} (hk : M.length ≤ k) : ol l M k = signsOf l := by
  unfold ol signsOf
  rw [List.take_of_length_le hk]
  apply List.map_congr_left
  intro x hx
  split
  · rfl
  · next hm =>
    have h0 : ¬ 0 < l.getD x 0 := fun h0 => hm ((h.2 x).2 ⟨List.mem_range.1 hx, h0⟩)
    unfold sgn
    rw [if_neg h0]
/-- What the document's HuffSigns answers. -/
def RSignsP (l : List Int) (w : World) (e : Ending) (w' : World) : Prop :=
  Bl w w' ∧ ((256 < l.length ∧ e = .returned (.tuple #[.slice none 0 0, .int .i64 4])) ∨
    (l.length ≤ 256 ∧ ¬ okS l l.length ∧ e = .returned (.tuple #[.slice none 0 0, .int .i64 2])) ∨
    (l.length ≤ 256 ∧ okS l l.length ∧ 16777216 < tk l l.length ∧ e = .returned (.tuple #[.slice none 0 0, .int .i64 12])) ∨
    (l.length ≤ 256 ∧ okS l l.length ∧ tk l l.length ≤ 16777216 ∧ ∃ B, e = .returned (.tuple #[.slice (some ⟨B, 0, none⟩) l.length l.length, .int .i64 0]) ∧ w.heap.size ≤ B ∧ RowI w' B (signsOf l)))
set_option maxHeartbeats 8000000 in
set_option maxRecDepth 100000 in
theorem refSigns_at (p : Option Addr) (n c : Nat) (l : List Int) (w : World) (hin : In w p l) (hn : n = l.length) (hn63 : n ≤ 9223372036854775807) :
    Calls Tryd.prog 7 #[.slice p n c] w fun e w' => RSignsP l w e w' := by
  have HIN : Hid (In w p l) := hin
  have HN : Hid (n = l.length) := hn
  clear hin hn
  by_cases hbig : 256 < n
  · have hbz : (256 : Int) < n := by omega
    go_enter Tryd.func7, Tryd.ntmps7
    go_wp2
    go_ret2
    exact ⟨(Bl.refl _).alloc _, Or.inl ⟨by rw [← HN.out]; exact hbig, rfl⟩⟩
  have hbz : ¬ (256 : Int) < n := by omega
  obtain ⟨X, hX⟩ : ∃ b, b = w.heap.size := ⟨_, rfl⟩
  obtain ⟨W, hW⟩ : ∃ W, W = (w.alloc (.cells #[.slice p n c] 22)).alloc (.cells #[.slice none 0 0] 22) := ⟨_, rfl⟩
  have S0 : Hid (Sg w p n c (X + 2) X (X + 1) W (.slice none 0 0) []) := by
    refine ⟨?_, ?_, ?_, Own.nil _ _, ?_, ?_⟩
    · rw [hW, hX]; exact at_bl ((Bl.refl _).alloc _) (by simp)
    · rw [hW, hX]; go_simp
    · rw [hW, hX]; go_simp
    · rw [hW]; exact ((Bl.refl w).alloc _).alloc _
    · rw [hW, hX]; simp
  have HX : Hid (X = w.heap.size) := hX
  have HW : Hid (W = (w.alloc (.cells #[.slice p n c] 22)).alloc (.cells #[.slice none 0 0] 22)) := hW
  clear hX hW
  go_enter Tryd.func7, Tryd.ntmps7
  go_wp2
  rw [← HX.out, ← HW.out]
  go_loopw [5, 6, 7, 17] (fun s _ _ i wr => ∃ (k : Nat) (z : Int), k ≤ n ∧ i = .int .i64 (k : Int) ∧ s = .int .i64 z ∧ Hid (∃ v, Sg w p n c (X + 2) X (X + 1) wr v (hv l k) ∧ z = tk l k ∧ okS l k)) (fun _ _ _ i _ => n - (intOf i).toNat)
  case atStart => exact ⟨0, 0, Nat.zero_le _, rfl, rfl, ⟨_, S0.out, rfl, fun i hi => absurd hi (Nat.not_lt_zero _)⟩⟩
  case round =>
    clear S0
    obtain ⟨k, z, hk, rfl, rfl, H⟩ := hrel
    by_cases hlt : k < n
    · have hltz : (k : Int) < n := by omega
      obtain ⟨v, S, hz, hok⟩ := H.out
      have hz0 := tk_bd l k
      rw [← hz] at hz0
      obtain ⟨x, rfl, hcell⟩ := (HIN.out.step S.bl).at k (by rw [← HN.out]; exact hlt)
      obtain ⟨y, hy⟩ : ∃ y, y = l.getD k 0 := ⟨_, rfl⟩
      rw [← hy] at hcell
      have HY : Hid (y = l.getD k 0) := hy
      have HS : Hid (Sg w (some x) n c (X + 2) X (X + 1) wr v (hv l k) ∧ z = tk l k ∧ okS l k) := ⟨S, hz, hok⟩
      have cW := within_at y 0 24 wr
      clear H S hz hok hy
      by_cases hin : 0 ≤ y ∧ y ≤ 24
      · rw [decide_eq_true hin] at cW
        have HOK : Hid (okS l (k + 1)) := fun i hi => by
          by_cases h : i < k
          · exact HS.out.2.2 i h
          · obtain rfl : i = k := by omega
            rw [← HY.out]
            exact hin
        obtain ⟨m, rfl⟩ : ∃ m : Nat, y = (m : Int) := ⟨y.toNat, by omega⟩
        by_cases hpos : 0 < m
        · have hposz : (0 : Int) < (m : Int) := by omega
          obtain ⟨v', w', hr, cO, fO, ⟨g1, cap1, rfl⟩, hS'⟩ := HS.out.1.push (by omega) (by omega) (by rw [HX.out]; omega) (by omega) (by rw [HX.out]; omega) k (by have := hv_len l k; omega)
          have oO := HS.out.1.o
          have HR : Hid _ := hr
          have hrm : ((2 ^ (24 - m) : Nat) : Int) ≤ 16777216 := by
            have h : 2 ^ (24 - m) ≤ 2 ^ 24 := Nat.pow_le_pow_right (by decide) (by omega)
            omega
          obtain ⟨r, hr2⟩ : ∃ r, r = 2 ^ (24 - m) := ⟨_, rfl⟩
          have cp := fun w => pow2_at (24 - m) r (by omega) hr2.symm w
          rw [show ((24 - m : Nat) : Int) = 24 - (m : Int) by omega] at cp
          have HF : Hid (∃ v, Sg w (some x) n c (X + 2) X (X + 1) (w'.setCell ⟨X + 1, 0, none⟩ (.slice (some ⟨g1, 0, none⟩) ((hv l k).length + 1) cap1)) v (hv l (k + 1)) ∧ z + (r : Int) = tk l (k + 1) ∧ okS l (k + 1)) := by
            refine ⟨.slice (some ⟨g1, 0, none⟩) ((hv l k).length + 1) cap1, ?_, ?_, HOK.out⟩
            · rw [hv_succ, ← HY.out, if_pos hposz]; exact hS'
            · rw [tk, ← HY.out, if_pos hposz, ← HS.out.2.1, hr2]
              unfold rm
              congr 1
          rw [← hr2] at hrm
          clear hr hS' hr2 HS HOK
          generalize (hv l k).length + 1 = n1 at HR HF
          go_wp2_with (first
            | (go_at_call 17; refine cW.mono ?_; rintro e w1 ⟨rfl, rfl⟩)
            | (go_at_call 24; refine (cp _).mono ?_; rintro e w1 ⟨rfl, rfl⟩)
            | (at_builtin; refine Lib.wpList_append_run _ rfl (.tmp 27) (.tmp 29) _ _ rfl _ _ rfl rfl _ _ HR.out ?_))
          go_roundw
          case rel => exact ⟨k + 1, z + (r : Int), hlt, by go_num, rfl, HF⟩
          case measure => simp [intOf]; omega
        · have hposz : ¬ (0 : Int) < (m : Int) := by omega
          have HF : Hid (∃ v, Sg w (some x) n c (X + 2) X (X + 1) wr v (hv l (k + 1)) ∧ z = tk l (k + 1) ∧ okS l (k + 1)) := by
            refine ⟨v, ?_, ?_, HOK.out⟩
            · rw [hv_succ, ← HY.out, if_neg hposz, List.append_nil]; exact HS.out.1
            · rw [tk, ← HY.out, if_neg hposz, ← HS.out.2.1]; omega
          clear HS HOK
          go_wp2_with (go_at_call 17; refine cW.mono ?_; rintro e w1 ⟨rfl, rfl⟩)
          go_roundw
          case rel => exact ⟨k + 1, z, hlt, by go_num, rfl, HF⟩
          case measure => simp [intOf]; omega
      · rw [decide_eq_false hin] at cW
        go_wp2_with (go_at_call 17; refine cW.mono ?_; rintro e w1 ⟨rfl, rfl⟩)
        go_ret2
        exact ⟨HS.out.1.bl, Or.inr (Or.inl ⟨by rw [← HN.out]; omega, fun h => hin (by rw [HY.out]; exact h k (by rw [← HN.out]; exact hlt)), rfl⟩)⟩
    · have hltz : ¬ (k : Int) < n := by omega
      obtain rfl : k = n := by omega
      have cp := fun w => pow2_at 24 16777216 (by omega) (by decide) w
      obtain ⟨v, S, hz, hok⟩ := H.out
      have hz0 := tk_bd l k
      rw [← hz] at hz0
      have oO := S.o
      by_cases hfull : 16777216 < z
      · have HF : Hid (Bl w wr ∧ okS l l.length ∧ 16777216 < tk l l.length) := ⟨S.bl, by rw [← HN.out]; exact hok, by rw [← HN.out, ← hz]; exact hfull⟩
        clear H S hz hok oO
        go_wp2_with (go_at_call 24; refine (cp _).mono ?_; rintro e w1 ⟨rfl, rfl⟩)
        go_ret2
        exact ⟨HF.out.1, Or.inr (Or.inr (Or.inl ⟨by rw [← HN.out]; omega, HF.out.2.1, HF.out.2.2, rfl⟩))⟩
      · have hfd : decide (16777216 < z) = false := decide_eq_false hfull
        have HF : Hid (okS l l.length ∧ tk l l.length ≤ 16777216) := ⟨by rw [← HN.out]; exact hok, by rw [← HN.out, ← hz]; omega⟩
        have cS := S.sort l HIN.out HN.out (by omega) (by omega) (by omega) (by rw [HX.out]; omega) (hv_pw l k) (fun x => by rw [hv_mem, HN.out]) (by have := hv_len l k; omega)
        clear H S hz hok
        go_wp2_with (first | (go_at_call 24; refine (cp _).mono ?_; rintro e w1 ⟨rfl, rfl⟩) | fail)
        refine cS.mono ?_
        clear cS cp oO
        rintro e w2 ⟨rfl, M, S2, hM, hml⟩
        have hml2 : M.length ≤ 256 := by have := hv_len l k; omega
        have hmk := fun w => run_make_row' (P := Tryd.prog) 22 3 (.int .i64 0) 8 Tryd.underlying22 infoI rfl .i64 .i64 k (by omega) (by omega) w
        obtain ⟨B, hB⟩ : ∃ B, B = w2.heap.size := ⟨_, rfl⟩
        obtain ⟨w3, hw3⟩ : ∃ w3, w3 = w2.alloc (.cells (madeCells #[.int .i64 0] k) 3) := ⟨_, rfl⟩
        have hb3 : Bl w2 w3 := by rw [hw3]; exact (Bl.refl _).alloc _
        have HR3 : Hid (RowI w3 B (ol l M 1)) := by
          rw [ol_one hM, ← HN.out, hw3, hB]
          exact RowI.made w2 k
        have HM : Hid (IsM l M) := hM
        have oX2 := S2.x
        have oO2 := S2.o
        -- the row of things, as it is sorted
        have hvs : ∃ q c', v = .slice q M.length c' ∧ ∀ j, j < M.length → ∃ A, q = some ⟨A, 0, none⟩ ∧ A < B ∧ w2.cell? ⟨A, j, none⟩ = some (.int .i64 ((M.getD j 0 : Nat) : Int)) := by
          rcases S2.own.shape with ⟨h, h0⟩ | ⟨g, cap, h, hb, hlt, _, _, hc⟩
          · have : M = [] := by simpa [ints] using h0
            subst this
            exact ⟨none, 0, h, fun j h => by simp at h⟩
          · exact ⟨_, cap, by rw [h, ints_len], fun j hj => ⟨g, rfl, by rw [hB]; exact hlt, by rw [hc j (by rw [ints_len]; exact hj), ints_at]⟩⟩
        obtain ⟨q, c', rfl, hrow⟩ := hvs
        have HROW : Hid _ := hrow
        have HBL : Hid (Bl w w2 ∧ X + 2 ≤ B ∧ Bl w2 w3 ∧ B < w3.heap.size ∧ w.heap.size ≤ B) := ⟨S2.bl, by rw [hB]; exact S2.sz, hb3, HR3.out.lt, by rw [hB]; exact S2.bl.size⟩
        have HX3 : Hid (w3.cell? ⟨X, 0, none⟩ = some (.slice p k c) ∧ w3.cell? ⟨X + 1, 0, none⟩ = some (.slice q M.length c')) := ⟨at_bl hb3 oX2, at_bl hb3 oO2⟩
        clear S2 hM hrow hb3 oO2 hml
        go_wp2
        rw [← hw3, ← hB]
        clear hw3 hB hmk oX2
        go_loopw [9, 10, 11] (fun i _ _ wx => ∃ j : Nat, 1 ≤ j ∧ (j ≤ M.length ∨ j = 1) ∧ i = .int .i64 (j : Int) ∧ Hid (RowI wx B (ol l M j) ∧ w3.grownBy wx (some B))) (fun i _ _ _ => M.length - (intOf i).toNat)
        case atStart => exact ⟨1, Nat.le_refl _, Or.inr rfl, rfl, ⟨HR3.out, World.grownBy.refl _ _⟩⟩
        case round =>
          clear HR3
          obtain ⟨j, hj1, hj2, rfl, H⟩ := hrel
          obtain ⟨hr, hg⟩ := H.out
          have oX : wr.cell? ⟨X, 0, none⟩ = some (.slice p k c) := by rw [hg.cell_far ⟨X, 0, none⟩ (by have := HBL.out; show X < _; omega) (by have := HBL.out; simp; omega)]; exact HX3.out.1
          have oO : wr.cell? ⟨X + 1, 0, none⟩ = some (.slice q M.length c') := by rw [hg.cell_far ⟨X + 1, 0, none⟩ (by have := HBL.out; show X + 1 < _; omega) (by have := HBL.out; simp; omega)]; exact HX3.out.2
          by_cases hlt2 : j < M.length
          · have hlt2z : (j : Int) < (M.length : Int) := by omega
            obtain ⟨i, hi⟩ : ∃ i, j = i + 1 := ⟨j - 1, by omega⟩
            have hnx := HM.out.next (k := i) (by omega)
            have hga := HM.out.get (i := i) (by omega)
            have hgb := HM.out.get (i := i + 1) (by omega)
            have hlx := HM.out.at (i := i) (j := i + 1) (by omega) (by omega)
            have hta : M.getD i 0 ∈ M.take j := by
              have hil : i < M.length := by omega
              rw [hi, List.take_succ_eq_append_getElem hil, List.getD_eq_getElem?_getD, List.getElem?_eq_getElem hil]
              exact List.mem_append.2 (Or.inr (List.mem_singleton.2 rfl))
            obtain ⟨A, rfl, hAB, ca⟩ := HROW.out i (by omega)
            obtain ⟨A', e1, _, cb⟩ := HROW.out j hlt2
            simp only [Option.some.injEq, Addr.mk.injEq] at e1
            rw [← e1.1] at cb
            clear e1
            have hset := ol_set (l := l) (M := M) (k := j) hlt2
            rw [hi] at hset cb
            have sA := sgn_bd HF.out.1 HF.out.2 hga.1
            have sB := sgn_bd HF.out.1 HF.out.2 hgb.1
            have okA := HF.out.1 _ hga.1
            have okB := HF.out.1 _ hgb.1
            have olA := ol_get l M j (M.getD i 0) hga.1
            rw [if_pos hta] at olA
            obtain ⟨px, rfl, hpx⟩ : ∃ px, p = some px ∧ ∀ k, k < l.length → w.cell? (px.add k) = some (.int .i64 (l.getD k 0)) := by
              rcases HIN.out with h | h
              · rw [h] at hga; simp at hga
              · exact h
            have hpb : px.block < w.heap.size := by
              have h := hpx (M.getD i 0) hga.1
              have e : (px.add (M.getD i 0)).block = px.block := by unfold Addr.add; split <;> rfl
              rcases Nat.lt_or_ge px.block w.heap.size with h1 | h1
              · exact h1
              · unfold World.cell? at h
                rw [e, Array.getElem?_eq_none h1] at h
                simp at h
            have far : ∀ (a : Addr) (u : Value), a.block < B → w3.cell? a = some u → wr.cell? a = some u := fun a u h1 h2 => by
              rw [hg.cell_far a (by have := HBL.out; omega) (by simp; omega)]; exact h2
            have hbB : ∀ x, (px.add x).block < B := fun x => by
              have e : (px.add x).block = px.block := by unfold Addr.add; split <;> rfl
              have := HBL.out
              omega
            have b13 := HBL.out.1.trans HBL.out.2.2.1
            have la1 := far _ _ (hbB _) (at_bl b13 (hpx _ hga.1))
            have lb1 := far _ _ (hbB _) (at_bl b13 (hpx _ hgb.1))
            have ca1 := far ⟨A, i, none⟩ _ hAB (at_bl HBL.out.2.2.1 ca)
            have cb1 := far ⟨A, i + 1, none⟩ _ hAB (at_bl HBL.out.2.2.1 cb)
            have da1 := hr.cell (j := M.getD i 0) (by rw [ol_len]; exact hga.1)
            have db1 := hr.cell (j := M.getD (i + 1) 0) (by rw [ol_len]; exact hgb.1)
            have fb1 := hr.frozen (M.getD (i + 1) 0)
            rw [olA] at da1
            rw [← hi] at cb1 hset
            have hrn := hr.set (M.getD (i + 1) 0) (sgn l l.length (M.getD (i + 1) 0))
            rw [← hi] at hrn
            rw [hset] at hrn
            have HRN : Hid (RowI (wr.setCell ⟨B, M.getD j 0, none⟩ (.int .i64 (sgn l l.length (M.getD j 0)))) B (ol l M (j + 1)) ∧ w3.grownBy (wr.setCell ⟨B, M.getD j 0, none⟩ (.int .i64 (sgn l l.length (M.getD j 0)))) (some B)) := ⟨hrn, hf.grown_setB hg _ _⟩
            rw [← hi] at hnx hgb hlx sB okB lb1 db1 fb1
            have hab : M.getD i 0 ≠ M.getD j 0 := fun e => by rw [e] at hlx; exact hlx.irrefl
            clear hr hg H hrn hset far hbB b13 ca cb hpx hta olA hlx HROW
            have hl1 : M.getD i 0 < k := by rw [HN.out]; exact hga.1
            have hl2 : M.getD j 0 < k := by rw [HN.out]; exact hgb.1
            clear hga hgb
            generalize (ol l M j).getD (M.getD j 0) 0 = old at db1
            generalize sgn l l.length (M.getD i 0) = sa at *
            generalize sgn l l.length (M.getD j 0) = sb at *
            generalize l.getD (M.getD i 0) 0 = la at *
            generalize l.getD (M.getD j 0) 0 = lb at *
            generalize M.getD i 0 = ia at *
            generalize M.getD j 0 = ib at *
            obtain ⟨d, hd⟩ : ∃ d : Nat, (d : Int) = lb - la := ⟨(lb - la).toNat, by omega⟩
            obtain ⟨r, hr2⟩ : ∃ r, r = 2 ^ d := ⟨_, rfl⟩
            have cp := fun w => pow2_at d r (by omega) hr2.symm w
            have hsb : (sa + 1) * (r : Int) = sb := by
              rw [hnx.2, hr2, show (lb - la).toNat = d by omega]
              simp
            have hrb : (r : Int) ≤ 16777216 := by
              have h : 2 ^ d ≤ 2 ^ 24 := Nat.pow_le_pow_right (by decide) (by omega)
              have h2 : (2 : Nat) ^ 24 = 16777216 := by decide
              rw [hr2]
              omega
            have i1 : 0 ≤ (i : Int) ∧ (i : Int) < (M.length : Int) := by omega
            have i2 : (j : Int) - 1 = (i : Int) := by omega
            have i3 : 0 ≤ (ia : Int) ∧ (ia : Int) < (k : Int) := by omega
            have i4 : 0 ≤ (ib : Int) ∧ (ib : Int) < (k : Int) := by omega
            have i5 : lb - la = (d : Int) := hd.symm
            have i6 : IntKind.i64.wrap (sa + 1) = sa + 1 := by rw [IntKind.wrap_i64]; omega
            have i7 : IntKind.i64.wrap (r : Int) = (r : Int) := by rw [IntKind.wrap_i64]; omega
            have i8 : IntKind.i64.wrap sb = sb := by rw [IntKind.wrap_i64]; omega
            have i9 : IntKind.i64.wrap (d : Int) = (d : Int) := by rw [IntKind.wrap_i64]; omega
            have i0 : IntKind.i64.wrap (i : Int) = (i : Int) := by rw [IntKind.wrap_i64]; omega
            clear hnx hd hr2 hi
            go_wp2
            go_quiet (fail)
            have HRQ : Hid (RowI ((wr.drewN nq).setCell ⟨B, ib, none⟩ (.int .i64 sb)) B (ol l M (j + 1)) ∧ w3.grownBy ((wr.drewN nq).setCell ⟨B, ib, none⟩ (.int .i64 sb)) (some B)) :=
              ⟨HRN.out.1, HRN.out.2.os, HRN.out.2.tape, HRN.out.2.output, HRN.out.2.size, HRN.out.2.block⟩
            have oXq : (wr.drewN nq).cell? ⟨X, 0, none⟩ = some (.slice (some px) k c) := oX
            have daq : (wr.drewN nq).cell? ⟨B, ia, none⟩ = some (.int .i64 sa) := da1
            have dbq : (wr.drewN nq).cell? ⟨B, ib, none⟩ = some (.int .i64 old) := db1
            have fbq : (wr.drewN nq).frozen? ⟨B, ib, none⟩ = false := fb1
            have laq : (wr.drewN nq).cell? (px.add ia) = some (.int .i64 la) := la1
            have lbq : (wr.drewN nq).cell? (px.add ib) = some (.int .i64 lb) := lb1
            clear oX oO da1 db1 fb1 la1 lb1 ca1 cb1 HRN
            generalize wr.drewN nq = wq at *
            have hXB : B ≠ X := by have := HBL.out; omega
            have pe : ∀ x, (px.add x).block = px.block := fun x => by unfold Addr.add; split <;> rfl
            have HK : Hid ((wq.setCell ⟨B, ib, none⟩ (.int .i64 sb)).drew.cell? ⟨X, 0, none⟩ = some (.slice (some px) k c) ∧ (wq.setCell ⟨B, ib, none⟩ (.int .i64 sb)).drew.cell? ⟨B, ia, none⟩ = some (.int .i64 sa) ∧ (wq.setCell ⟨B, ib, none⟩ (.int .i64 sb)).drew.cell? (px.add ia) = some (.int .i64 la) ∧ (wq.setCell ⟨B, ib, none⟩ (.int .i64 sb)).drew.cell? (px.add ib) = some (.int .i64 lb)) := by
              refine ⟨?_, ?_, ?_, ?_⟩
              · exact (World.cell?_setCell_far wq _ _ _ hXB).trans oXq
              · exact (World.cell?_setCell_other wq _ _ _ (by intro e; injection e with _ e; omega)).trans daq
              · exact (World.cell?_setCell_far wq _ _ _ (by have := HBL.out; rw [pe]; show B ≠ _; omega)).trans laq
              · exact (World.cell?_setCell_far wq _ _ _ (by have := HBL.out; rw [pe]; show B ≠ _; omega)).trans lbq
            clear pe
            go_wp2
            go_region_held3 (fun w' => w'.cell? ⟨X, 0, none⟩ = some (.slice (some px) k c) ∧ w'.cell? ⟨B, ia, none⟩ = some (.int .i64 sa) ∧ w'.cell? (px.add ia) = some (.int .i64 la) ∧ w'.cell? (px.add ib) = some (.int .i64 lb)) (first | with_reducible exact HK.out | go_keep) (first | (go_at_call 24; with_reducible refine (cp _).mono ?_; rintro e w5 ⟨rfl, rfl⟩))
            have HRD : Hid (RowI (wq.setCell ⟨B, ib, none⟩ (.int .i64 sb)).drew B (ol l M (j + 1)) ∧ w3.grownBy (wq.setCell ⟨B, ib, none⟩ (.int .i64 sb)).drew (some B)) := ⟨HRQ.out.1, HRQ.out.2.os, HRQ.out.2.tape, HRQ.out.2.output, HRQ.out.2.size, HRQ.out.2.block⟩
            clear HK HRQ
            generalize (wq.setCell ⟨B, ib, none⟩ (.int .i64 sb)).drew = w6 at *
            go_wp2
            go_roundw
            case rel => exact ⟨j + 1, by omega, Or.inl (by omega), by go_num, HRD⟩
            case measure => simp [intOf]; omega
          · have hlt2z : ¬ (j : Int) < (M.length : Int) := by omega
            have HFIN : Hid (Bl w wr ∧ RowI wr B (signsOf l)) := by
              refine ⟨bl_grown (HBL.out.1.trans HBL.out.2.2.1) hg (fun j e => by injection e with e; have := HBL.out; omega), ?_⟩
              rw [← ol_all HM.out (k := j) (by omega)]
              exact hr
            clear H hr hg oX
            go_wp2
            go_ret2
            exact ⟨HFIN.out.1, Or.inr (Or.inr (Or.inr ⟨by rw [← HN.out]; omega, HF.out.1, HF.out.2, B, by rw [← HN.out]; rfl, HBL.out.2.2.2.2, HFIN.out.2⟩))⟩
end Go.Proofs.YtkldnapbeebdkaaDoor.su
