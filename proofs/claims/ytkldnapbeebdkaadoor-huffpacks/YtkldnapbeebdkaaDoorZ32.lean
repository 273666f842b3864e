/- Texts laid together: Su9, Hr4. -/
import Derived.Test.YtkldnapbeebdkaaDoorZ30
import Derived.Test.YtkldnapbeebdkaaDoorZ31
import Derived.Test.YtkldnapbeebdkaaDoorZ19
import Derived.Deep.CutRange
/- What the document's own HuffSigns answers. -/
namespace Go.Proofs.YtkldnapbeebdkaaDoor.su
set_option linter.unusedVariables false
open Go.ChangeShapes Go.WideShapes Go.ChangeAt Go.RowKit
open mem rows hg
/-- Things that have bits, of the first k. -/
def hv (l : List Int) (k : Nat) : List Nat := (List.range k).filter fun i => decide (0 < l.getD i 0)
theorem hv_succ (l : List Int) (k : Nat) : hv l (k + 1) = hv l k ++ (if 0 < l.getD k 0 then [k] else []) := by
  unfold hv
  rw [List.range_succ, List.filter_append]
  by_cases h : 0 < l.getD k 0 <;> simp only [h, List.filter_cons, List.filter_nil, decide_true, decide_false, if_true, if_false, Bool.false_eq_true]
theorem hv_len (l : List Int) (k : Nat) : (hv l k).length ≤ k := by
  unfold hv
  exact Nat.le_trans (List.length_filter_le _ _) (by simp)
theorem hv_mem (l : List Int) (k x : Nat) : x ∈ hv l k ↔ x < k ∧ 0 < l.getD x 0 := by
  unfold hv
  rw [List.mem_filter, List.mem_range, decide_eq_true_eq]
theorem hv_pw (l : List Int) (k : Nat) : (hv l k).Pairwise (· < ·) := List.Pairwise.filter _ List.pairwise_lt_range
/-- Signs of the first k in order. -/
def ol (l : List Int) (M : List Nat) (k : Nat) : List Int := (List.range l.length).map fun x => if x ∈ M.take k then sgn l l.length x else 0
theorem ol_len (l : List Int) (M : List Nat) (k : Nat) : (ol l M k).length = l.length := by simp [ol]
theorem ol_get (l : List Int) (M : List Nat) (k x : Nat) (h : x < l.length) : (ol l M k).getD x 0 = if x ∈ M.take k then sgn l l.length x else 0 := by
  unfold ol
  rw [List.getD_eq_getElem?_getD, List.getElem?_map, List.getElem?_range h]
  rfl
theorem ol_one {l : List Int} {M : List Nat} (h : IsM l M) : ol l M 1 = List.replicate l.length 0 := by
  apply List.ext_getElem
  · rw [ol_len]; simp
  · intro i h1 h2
    rw [ol_len] at h1
    simp only [ol, List.getElem_map, List.getElem_range, List.getElem_replicate]
    split
    · next hm =>
      cases M with
      | nil => simp at hm
      | cons y M =>
        simp at hm
        have := h.first (by simp)
        rw [hm]
        exact this
    · rfl
theorem ol_set {l : List Int} {M : List Nat} {k : Nat} (hk : k < M.length) : (ol l M k).set (M.getD k 0) (sgn l l.length (M.getD k 0)) = ol l M (k + 1) := by
  apply List.ext_getElem
  · simp [ol_len]
  · intro i h1 h2
    rw [ol_len] at h2
    rw [List.getElem_set]
    have ht : ∀ x, x ∈ M.take (k + 1) ↔ x ∈ M.take k ∨ x = M.getD k 0 := fun x => by
      rw [List.take_succ_eq_append_getElem hk, List.mem_append, List.mem_singleton, List.getD_eq_getElem?_getD, List.getElem?_eq_getElem hk]
      rfl
    simp only [ol, List.getElem_map, List.getElem_range]
    by_cases he : M.getD k 0 = i
    · rw [if_pos he, if_pos ((ht i).2 (Or.inr he.symm)), he]
    · rw [if_neg he]
      by_cases hm : i ∈ M.take k
      · rw [if_pos hm, if_pos ((ht i).2 (Or.inl hm))]
      · rw [if_neg hm, if_neg (fun h => ((ht i).1 h).elim hm (fun e => he e.symm))]
theorem ol_all {l : List Int} {M : List Nat} (h : IsM l M) {k : Nat} (hk : M.length ≤ k) : ol l M k = signsOf l := by
  unfold ol signsOf
  rw [List.take_of_length_le hk]
  apply List.map_congr_left
  intro x hx
  split
  · rfl
  · next hm =>
    have h0 : ¬ 0 < l.getD x 0 := fun h0 => hm ((h.2 x).2 ⟨List.mem_range.1 hx, h0⟩)
    unfold sgn
    rw [if_neg h0]
/-- What the document's HuffSigns answers. -/
def RSignsP (l : List Int) (w : World) (e : Ending) (w' : World) : Prop :=
  Bl w w' ∧ ((256 < l.length ∧ e = .returned (.tuple #[.slice none 0 0, .int .i64 4])) ∨
    (l.length ≤ 256 ∧ ¬ okS l l.length ∧ e = .returned (.tuple #[.slice none 0 0, .int .i64 2])) ∨
    (l.length ≤ 256 ∧ okS l l.length ∧ 16777216 < tk l l.length ∧ e = .returned (.tuple #[.slice none 0 0, .int .i64 12])) ∨
    (l.length ≤ 256 ∧ okS l l.length ∧ tk l l.length ≤ 16777216 ∧ ∃ B, e = .returned (.tuple #[.slice (some ⟨B, 0, none⟩) l.length l.length, .int .i64 0]) ∧ w.heap.size ≤ B ∧ RowI w' B (signsOf l)))
set_option maxHeartbeats 8000000 in
set_option maxRecDepth 100000 in
theorem refSigns_at (p : Option Addr) (n c : Nat) (l : List Int) (w : World) (hin : In w p l) (hn : n = l.length) (hn63 : n ≤ 9223372036854775807) :
    Calls Tryd.prog 7 #[.slice p n c] w fun e w' => RSignsP l w e w' := by
  have HIN : Hid (In w p l) := hin
  have HN : Hid (n = l.length) := hn
  clear hin hn
  by_cases hbig : 256 < n
  · have hbz : (256 : Int) < n := by omega
    go_enter Tryd.func7, Tryd.ntmps7
    go_wp2
    go_ret2
    exact ⟨(Bl.refl _).alloc _, Or.inl ⟨by rw [← HN.out]; exact hbig, rfl⟩⟩
  have hbz : ¬ (256 : Int) < n := by omega
  obtain ⟨X, hX⟩ : ∃ b, b = w.heap.size := ⟨_, rfl⟩
  obtain ⟨W, hW⟩ : ∃ W, W = (w.alloc (.cells #[.slice p n c] 22)).alloc (.cells #[.slice none 0 0] 22) := ⟨_, rfl⟩
  have S0 : Hid (Sg w p n c (X + 2) X (X + 1) W (.slice none 0 0) []) := by
    refine ⟨?_, ?_, ?_, Own.nil _ _, ?_, ?_⟩
    · rw [hW, hX]; exact at_bl ((Bl.refl _).alloc _) (by simp)
    · rw [hW, hX]; go_simp
    · rw [hW, hX]; go_simp
    · rw [hW]; exact ((Bl.refl w).alloc _).alloc _
    · rw [hW, hX]; simp
  have HX : Hid (X = w.heap.size) := hX
  have HW : Hid (W = (w.alloc (.cells #[.slice p n c] 22)).alloc (.cells #[.slice none 0 0] 22)) := hW
  clear hX hW
  go_enter Tryd.func7, Tryd.ntmps7
  go_wp2
  rw [← HX.out, ← HW.out]
  go_loopw [5, 6, 7, 17] (fun s _ _ i wr => ∃ (k : Nat) (z : Int), k ≤ n ∧ i = .int .i64 (k : Int) ∧ s = .int .i64 z ∧ Hid (∃ v, Sg w p n c (X + 2) X (X + 1) wr v (hv l k) ∧ z = tk l k ∧ okS l k)) (fun _ _ _ i _ => n - (intOf i).toNat)
  case atStart => exact ⟨0, 0, Nat.zero_le _, rfl, rfl, ⟨_, S0.out, rfl, fun i hi => absurd hi (Nat.not_lt_zero _)⟩⟩
  case round =>
    clear S0
    obtain ⟨k, z, hk, rfl, rfl, H⟩ := hrel
    by_cases hlt : k < n
    · have hltz : (k : Int) < n := by omega
      obtain ⟨v, S, hz, hok⟩ := H.out
      have hz0 := tk_bd l k
      rw [← hz] at hz0
      obtain ⟨x, rfl, hcell⟩ := (HIN.out.step S.bl).at k (by rw [← HN.out]; exact hlt)
      obtain ⟨y, hy⟩ : ∃ y, y = l.getD k 0 := ⟨_, rfl⟩
      rw [← hy] at hcell
      have HY : Hid (y = l.getD k 0) := hy
      have HS : Hid (Sg w (some x) n c (X + 2) X (X + 1) wr v (hv l k) ∧ z = tk l k ∧ okS l k) := ⟨S, hz, hok⟩
      have cW := within_at y 0 24 wr
      clear H S hz hok hy
      by_cases hin : 0 ≤ y ∧ y ≤ 24
      · rw [decide_eq_true hin] at cW
        have HOK : Hid (okS l (k + 1)) := fun i hi => by
          by_cases h : i < k
          · exact HS.out.2.2 i h
          · obtain rfl : i = k := by omega
            rw [← HY.out]
            exact hin
        obtain ⟨m, rfl⟩ : ∃ m : Nat, y = (m : Int) := ⟨y.toNat, by omega⟩
        by_cases hpos : 0 < m
        · have hposz : (0 : Int) < (m : Int) := by omega
          obtain ⟨v', w', hr, cO, fO, ⟨g1, cap1, rfl⟩, hS'⟩ := HS.out.1.push (by omega) (by omega) (by rw [HX.out]; omega) (by omega) (by rw [HX.out]; omega) k (by have := hv_len l k; omega)
          have oO := HS.out.1.o
          have HR : Hid _ := hr
          have hrm : ((2 ^ (24 - m) : Nat) : Int) ≤ 16777216 := by
            have h : 2 ^ (24 - m) ≤ 2 ^ 24 := Nat.pow_le_pow_right (by decide) (by omega)
            omega
          obtain ⟨r, hr2⟩ : ∃ r, r = 2 ^ (24 - m) := ⟨_, rfl⟩
          have cp := fun w => pow2_at (24 - m) r (by omega) hr2.symm w
          rw [show ((24 - m : Nat) : Int) = 24 - (m : Int) by omega] at cp
          have HF : Hid (∃ v, Sg w (some x) n c (X + 2) X (X + 1) (w'.setCell ⟨X + 1, 0, none⟩ (.slice (some ⟨g1, 0, none⟩) ((hv l k).length + 1) cap1)) v (hv l (k + 1)) ∧ z + (r : Int) = tk l (k + 1) ∧ okS l (k + 1)) := by
            refine ⟨.slice (some ⟨g1, 0, none⟩) ((hv l k).length + 1) cap1, ?_, ?_, HOK.out⟩
            · rw [hv_succ, ← HY.out, if_pos hposz]; exact hS'
            · rw [tk, ← HY.out, if_pos hposz, ← HS.out.2.1, hr2]
              unfold rm
              congr 1
          rw [← hr2] at hrm
          clear hr hS' hr2 HS HOK
          generalize (hv l k).length + 1 = n1 at HR HF
          go_wp2_with (first
            | (go_at_call 17; refine cW.mono ?_; rintro e w1 ⟨rfl, rfl⟩)
            | (go_at_call 24; refine (cp _).mono ?_; rintro e w1 ⟨rfl, rfl⟩)
            | (at_builtin; refine Lib.wpList_append_run _ rfl (.tmp 27) (.tmp 29) _ _ rfl _ _ rfl rfl _ _ HR.out ?_))
          go_roundw
          case rel => exact ⟨k + 1, z + (r : Int), hlt, by go_num, rfl, HF⟩
          case measure => simp [intOf]; omega
        · have hposz : ¬ (0 : Int) < (m : Int) := by omega
          have HF : Hid (∃ v, Sg w (some x) n c (X + 2) X (X + 1) wr v (hv l (k + 1)) ∧ z = tk l (k + 1) ∧ okS l (k + 1)) := by
            refine ⟨v, ?_, ?_, HOK.out⟩
            · rw [hv_succ, ← HY.out, if_neg hposz, List.append_nil]; exact HS.out.1
            · rw [tk, ← HY.out, if_neg hposz, ← HS.out.2.1]; omega
          clear HS HOK
          go_wp2_with (go_at_call 17; refine cW.mono ?_; rintro e w1 ⟨rfl, rfl⟩)
          go_roundw
          case rel => exact ⟨k + 1, z, hlt, by go_num, rfl, HF⟩
          case measure => simp [intOf]; omega
      · rw [decide_eq_false hin] at cW
        go_wp2_with (go_at_call 17; refine cW.mono ?_; rintro e w1 ⟨rfl, rfl⟩)
        go_ret2
        exact ⟨HS.out.1.bl, Or.inr (Or.inl ⟨by rw [← HN.out]; omega, fun h => hin (by rw [HY.out]; exact h k (by rw [← HN.out]; exact hlt)), rfl⟩)⟩
    · have hltz : ¬ (k : Int) < n := by omega
      obtain rfl : k = n := by omega
      have cp := fun w => pow2_at 24 16777216 (by omega) (by decide) w
      obtain ⟨v, S, hz, hok⟩ := H.out
      have hz0 := tk_bd l k
      rw [← hz] at hz0
      have oO := S.o
      by_cases hfull : 16777216 < z
      · have HF : Hid (Bl w wr ∧ okS l l.length ∧ 16777216 < tk l l.length) := ⟨S.bl, by rw [← HN.out]; exact hok, by rw [← HN.out, ← hz]; exact hfull⟩
        clear H S hz hok oO
        go_wp2_with (go_at_call 24; refine (cp _).mono ?_; rintro e w1 ⟨rfl, rfl⟩)
        go_ret2
        exact ⟨HF.out.1, Or.inr (Or.inr (Or.inl ⟨by rw [← HN.out]; omega, HF.out.2.1, HF.out.2.2, rfl⟩))⟩
      · have hfd : decide (16777216 < z) = false := decide_eq_false hfull
        have HF : Hid (okS l l.length ∧ tk l l.length ≤ 16777216) := ⟨by rw [← HN.out]; exact hok, by rw [← HN.out, ← hz]; omega⟩
        have cS := S.sort l HIN.out HN.out (by omega) (by omega) (by omega) (by rw [HX.out]; omega) (hv_pw l k) (fun x => by rw [hv_mem, HN.out]) (by have := hv_len l k; omega)
        clear H S hz hok
        go_wp2_with (first | (go_at_call 24; refine (cp _).mono ?_; rintro e w1 ⟨rfl, rfl⟩) | fail)
        refine cS.mono ?_
        clear cS cp oO
        rintro e w2 ⟨rfl, M, S2, hM, hml⟩
        have hml2 : M.length ≤ 256 := by have := hv_len l k; omega
        have hmk := fun w => run_make_row' (P := Tryd.prog) 22 3 (.int .i64 0) 8 Tryd.underlying22 infoI rfl .i64 .i64 k (by omega) (by omega) w
        obtain ⟨B, hB⟩ : ∃ B, B = w2.heap.size := ⟨_, rfl⟩
        obtain ⟨w3, hw3⟩ : ∃ w3, w3 = w2.alloc (.cells (madeCells #[.int .i64 0] k) 3) := ⟨_, rfl⟩
        have hb3 : Bl w2 w3 := by rw [hw3]; exact (Bl.refl _).alloc _
        have HR3 : Hid (RowI w3 B (ol l M 1)) := by
          rw [ol_one hM, ← HN.out, hw3, hB]
          exact RowI.made w2 k
        have HM : Hid (IsM l M) := hM
        have oX2 := S2.x
        have oO2 := S2.o
        -- the row of things, as it is sorted
        have hvs : ∃ q c', v = .slice q M.length c' ∧ ∀ j, j < M.length → ∃ A, q = some ⟨A, 0, none⟩ ∧ A < B ∧ w2.cell? ⟨A, j, none⟩ = some (.int .i64 ((M.getD j 0 : Nat) : Int)) := by
          rcases S2.own.shape with ⟨h, h0⟩ | ⟨g, cap, h, hb, hlt, _, _, hc⟩
          · have : M = [] := by simpa [ints] using h0
            subst this
            exact ⟨none, 0, h, fun j h => by simp at h⟩
          · exact ⟨_, cap, by rw [h, ints_len], fun j hj => ⟨g, rfl, by rw [hB]; exact hlt, by rw [hc j (by rw [ints_len]; exact hj), ints_at]⟩⟩
        obtain ⟨q, c', rfl, hrow⟩ := hvs
        have HROW : Hid _ := hrow
        have HBL : Hid (Bl w w2 ∧ X + 2 ≤ B ∧ Bl w2 w3 ∧ B < w3.heap.size ∧ w.heap.size ≤ B) := ⟨S2.bl, by rw [hB]; exact S2.sz, hb3, HR3.out.lt, by rw [hB]; exact S2.bl.size⟩
        have HX3 : Hid (w3.cell? ⟨X, 0, none⟩ = some (.slice p k c) ∧ w3.cell? ⟨X + 1, 0, none⟩ = some (.slice q M.length c')) := ⟨at_bl hb3 oX2, at_bl hb3 oO2⟩
        clear S2 hM hrow hb3 oO2 hml
        go_wp2
        rw [← hw3, ← hB]
        clear hw3 hB hmk oX2
        go_loopw [9, 10, 11] (fun i _ _ wx => ∃ j : Nat, 1 ≤ j ∧ (j ≤ M.length ∨ j = 1) ∧ i = .int .i64 (j : Int) ∧ Hid (RowI wx B (ol l M j) ∧ w3.grownBy wx (some B))) (fun i _ _ _ => M.length - (intOf i).toNat)
        case atStart => exact ⟨1, Nat.le_refl _, Or.inr rfl, rfl, ⟨HR3.out, World.grownBy.refl _ _⟩⟩
        case round =>
          clear HR3
          obtain ⟨j, hj1, hj2, rfl, H⟩ := hrel
          obtain ⟨hr, hg⟩ := H.out
          have oX : wr.cell? ⟨X, 0, none⟩ = some (.slice p k c) := by rw [hg.cell_far ⟨X, 0, none⟩ (by have := HBL.out; show X < _; omega) (by have := HBL.out; simp; omega)]; exact HX3.out.1
          have oO : wr.cell? ⟨X + 1, 0, none⟩ = some (.slice q M.length c') := by rw [hg.cell_far ⟨X + 1, 0, none⟩ (by have := HBL.out; show X + 1 < _; omega) (by have := HBL.out; simp; omega)]; exact HX3.out.2
          by_cases hlt2 : j < M.length
          · have hlt2z : (j : Int) < (M.length : Int) := by omega
            obtain ⟨i, hi⟩ : ∃ i, j = i + 1 := ⟨j - 1, by omega⟩
            have hnx := HM.out.next (k := i) (by omega)
            have hga := HM.out.get (i := i) (by omega)
            have hgb := HM.out.get (i := i + 1) (by omega)
            have hlx := HM.out.at (i := i) (j := i + 1) (by omega) (by omega)
            have hta : M.getD i 0 ∈ M.take j := by
              have hil : i < M.length := by omega
              rw [hi, List.take_succ_eq_append_getElem hil, List.getD_eq_getElem?_getD, List.getElem?_eq_getElem hil]
              exact List.mem_append.2 (Or.inr (List.mem_singleton.2 rfl))
            obtain ⟨A, rfl, hAB, ca⟩ := HROW.out i (by omega)
            obtain ⟨A', e1, _, cb⟩ := HROW.out j hlt2
            simp only [Option.some.injEq, Addr.mk.injEq] at e1
            rw [← e1.1] at cb
            clear e1
            have hset := ol_set (l := l) (M := M) (k := j) hlt2
            rw [hi] at hset cb
            have sA := sgn_bd HF.out.1 HF.out.2 hga.1
            have sB := sgn_bd HF.out.1 HF.out.2 hgb.1
            have okA := HF.out.1 _ hga.1
            have okB := HF.out.1 _ hgb.1
            have olA := ol_get l M j (M.getD i 0) hga.1
            rw [if_pos hta] at olA
            obtain ⟨px, rfl, hpx⟩ : ∃ px, p = some px ∧ ∀ k, k < l.length → w.cell? (px.add k) = some (.int .i64 (l.getD k 0)) := by
              rcases HIN.out with h | h
              · rw [h] at hga; simp at hga
              · exact h
            have hpb : px.block < w.heap.size := by
              have h := hpx (M.getD i 0) hga.1
              have e : (px.add (M.getD i 0)).block = px.block := by unfold Addr.add; split <;> rfl
              rcases Nat.lt_or_ge px.block w.heap.size with h1 | h1
              · exact h1
              · unfold World.cell? at h
                rw [e, Array.getElem?_eq_none h1] at h
                simp at h
            have far : ∀ (a : Addr) (u : Value), a.block < B → w3.cell? a = some u → wr.cell? a = some u := fun a u h1 h2 => by
              rw [hg.cell_far a (by have := HBL.out; omega) (by simp; omega)]; exact h2
            have hbB : ∀ x, (px.add x).block < B := fun x => by
              have e : (px.add x).block = px.block := by unfold Addr.add; split <;> rfl
              have := HBL.out
              omega
            have b13 := HBL.out.1.trans HBL.out.2.2.1
            have la1 := far _ _ (hbB _) (at_bl b13 (hpx _ hga.1))
            have lb1 := far _ _ (hbB _) (at_bl b13 (hpx _ hgb.1))
            have ca1 := far ⟨A, i, none⟩ _ hAB (at_bl HBL.out.2.2.1 ca)
            have cb1 := far ⟨A, i + 1, none⟩ _ hAB (at_bl HBL.out.2.2.1 cb)
            have da1 := hr.cell (j := M.getD i 0) (by rw [ol_len]; exact hga.1)
            have db1 := hr.cell (j := M.getD (i + 1) 0) (by rw [ol_len]; exact hgb.1)
            have fb1 := hr.frozen (M.getD (i + 1) 0)
            rw [olA] at da1
            rw [← hi] at cb1 hset
            have hrn := hr.set (M.getD (i + 1) 0) (sgn l l.length (M.getD (i + 1) 0))
            rw [← hi] at hrn
            rw [hset] at hrn
            have HRN : Hid (RowI (wr.setCell ⟨B, M.getD j 0, none⟩ (.int .i64 (sgn l l.length (M.getD j 0)))) B (ol l M (j + 1)) ∧ w3.grownBy (wr.setCell ⟨B, M.getD j 0, none⟩ (.int .i64 (sgn l l.length (M.getD j 0)))) (some B)) := ⟨hrn, hf.grown_setB hg _ _⟩
            rw [← hi] at hnx hgb hlx sB okB lb1 db1 fb1
            have hab : M.getD i 0 ≠ M.getD j 0 := fun e => by rw [e] at hlx; exact hlx.irrefl
            clear hr hg H hrn hset far hbB b13 ca cb hpx hta olA hlx HROW
            have hl1 : M.getD i 0 < k := by rw [HN.out]; exact hga.1
            have hl2 : M.getD j 0 < k := by rw [HN.out]; exact hgb.1
            clear hga hgb
            generalize (ol l M j).getD (M.getD j 0) 0 = old at db1
            generalize sgn l l.length (M.getD i 0) = sa at *
            generalize sgn l l.length (M.getD j 0) = sb at *
            generalize l.getD (M.getD i 0) 0 = la at *
            generalize l.getD (M.getD j 0) 0 = lb at *
            generalize M.getD i 0 = ia at *
            generalize M.getD j 0 = ib at *
            obtain ⟨d, hd⟩ : ∃ d : Nat, (d : Int) = lb - la := ⟨(lb - la).toNat, by omega⟩
            obtain ⟨r, hr2⟩ : ∃ r, r = 2 ^ d := ⟨_, rfl⟩
            have cp := fun w => pow2_at d r (by omega) hr2.symm w
            have hsb : (sa + 1) * (r : Int) = sb := by
              rw [hnx.2, hr2, show (lb - la).toNat = d by omega]
              simp
            have hrb : (r : Int) ≤ 16777216 := by
              have h : 2 ^ d ≤ 2 ^ 24 := Nat.pow_le_pow_right (by decide) (by omega)
              have h2 : (2 : Nat) ^ 24 = 16777216 := by decide
              rw [hr2]
              omega
            have i1 : 0 ≤ (i : Int) ∧ (i : Int) < (M.length : Int) := by omega
            have i2 : (j : Int) - 1 = (i : Int) := by omega
            have i3 : 0 ≤ (ia : Int) ∧ (ia : Int) < (k : Int) := by omega
            have i4 : 0 ≤ (ib : Int) ∧ (ib : Int) < (k : Int) := by omega
            have i5 : lb - la = (d : Int) := hd.symm
            have i6 : IntKind.i64.wrap (sa + 1) = sa + 1 := by rw [IntKind.wrap_i64]; omega
            have i7 : IntKind.i64.wrap (r : Int) = (r : Int) := by rw [IntKind.wrap_i64]; omega
            have i8 : IntKind.i64.wrap sb = sb := by rw [IntKind.wrap_i64]; omega
            have i9 : IntKind.i64.wrap (d : Int) = (d : Int) := by rw [IntKind.wrap_i64]; omega
            have i0 : IntKind.i64.wrap (i : Int) = (i : Int) := by rw [IntKind.wrap_i64]; omega
            clear hnx hd hr2 hi
            go_wp2
            go_quiet (fail)
            have HRQ : Hid (RowI ((wr.drewN nq).setCell ⟨B, ib, none⟩ (.int .i64 sb)) B (ol l M (j + 1)) ∧ w3.grownBy ((wr.drewN nq).setCell ⟨B, ib, none⟩ (.int .i64 sb)) (some B)) :=
              ⟨HRN.out.1, HRN.out.2.os, HRN.out.2.tape, HRN.out.2.output, HRN.out.2.size, HRN.out.2.block⟩
            have oXq : (wr.drewN nq).cell? ⟨X, 0, none⟩ = some (.slice (some px) k c) := oX
            have daq : (wr.drewN nq).cell? ⟨B, ia, none⟩ = some (.int .i64 sa) := da1
            have dbq : (wr.drewN nq).cell? ⟨B, ib, none⟩ = some (.int .i64 old) := db1
            have fbq : (wr.drewN nq).frozen? ⟨B, ib, none⟩ = false := fb1
            have laq : (wr.drewN nq).cell? (px.add ia) = some (.int .i64 la) := la1
            have lbq : (wr.drewN nq).cell? (px.add ib) = some (.int .i64 lb) := lb1
            clear oX oO da1 db1 fb1 la1 lb1 ca1 cb1 HRN
            generalize wr.drewN nq = wq at *
            have hXB : B ≠ X := by have := HBL.out; omega
            have pe : ∀ x, (px.add x).block = px.block := fun x => by unfold Addr.add; split <;> rfl
            have HK : Hid ((wq.setCell ⟨B, ib, none⟩ (.int .i64 sb)).drew.cell? ⟨X, 0, none⟩ = some (.slice (some px) k c) ∧ (wq.setCell ⟨B, ib, none⟩ (.int .i64 sb)).drew.cell? ⟨B, ia, none⟩ = some (.int .i64 sa) ∧ (wq.setCell ⟨B, ib, none⟩ (.int .i64 sb)).drew.cell? (px.add ia) = some (.int .i64 la) ∧ (wq.setCell ⟨B, ib, none⟩ (.int .i64 sb)).drew.cell? (px.add ib) = some (.int .i64 lb)) := by
              refine ⟨?_, ?_, ?_, ?_⟩
              · exact (World.cell?_setCell_far wq _ _ _ hXB).trans oXq
              · exact (World.cell?_setCell_other wq _ _ _ (by intro e; injection e with _ e; omega)).trans daq
              · exact (World.cell?_setCell_far wq _ _ _ (by have := HBL.out; rw [pe]; show B ≠ _; omega)).trans laq
              · exact (World.cell?_setCell_far wq _ _ _ (by have := HBL.out; rw [pe]; show B ≠ _; omega)).trans lbq
            clear pe
            go_wp2
            go_region_held3 (fun w' => w'.cell? ⟨X, 0, none⟩ = some (.slice (some px) k c) ∧ w'.cell? ⟨B, ia, none⟩ = some (.int .i64 sa) ∧ w'.cell? (px.add ia) = some (.int .i64 la) ∧ w'.cell? (px.add ib) = some (.int .i64 lb)) (first | with_reducible exact HK.out | go_keep) (first | (go_at_call 24; with_reducible refine (cp _).mono ?_; rintro e w5 ⟨rfl, rfl⟩))
            have HRD : Hid (RowI (wq.setCell ⟨B, ib, none⟩ (.int .i64 sb)).drew B (ol l M (j + 1)) ∧ w3.grownBy (wq.setCell ⟨B, ib, none⟩ (.int .i64 sb)).drew (some B)) := ⟨HRQ.out.1, HRQ.out.2.os, HRQ.out.2.tape, HRQ.out.2.output, HRQ.out.2.size, HRQ.out.2.block⟩
            clear HK HRQ
            generalize (wq.setCell ⟨B, ib, none⟩ (.int .i64 sb)).drew = w6 at *
            go_wp2
            go_roundw
            case rel => exact ⟨j + 1, by omega, Or.inl (by omega), by go_num, HRD⟩
            case measure => simp [intOf]; omega
          · have hlt2z : ¬ (j : Int) < (M.length : Int) := by omega
            have HFIN : Hid (Bl w wr ∧ RowI wr B (signsOf l)) := by
              refine ⟨bl_grown (HBL.out.1.trans HBL.out.2.2.1) hg (fun j e => by injection e with e; have := HBL.out; omega), ?_⟩
              rw [← ol_all HM.out (k := j) (by omega)]
              exact hr
            clear H hr hg oX
            go_wp2
            go_ret2
            exact ⟨HFIN.out.1, Or.inr (Or.inr (Or.inr ⟨by rw [← HN.out]; omega, HF.out.1, HF.out.2, B, by rw [← HN.out]; rfl, HBL.out.2.2.2.2, HFIN.out.2⟩))⟩
end Go.Proofs.YtkldnapbeebdkaaDoor.su
/- What the document's own HuffLens answers. -/
namespace Go.Proofs.YtkldnapbeebdkaaDoor.hr
set_option linter.unusedVariables false
set_option linter.unusedSimpArgs false
open Go.ChangeShapes Go.WideShapes Go.ChangeAt Go.RowKit
open mem rows hfp
open hf (Ths bare numbers okL grp lensOf grp_succ grp_len grp_mem pw_grp lensOf_one lensOf_more step_append_run)
/-- What is at hand while groups are joined. -/
structure Rm (w : World) (n base V B : Nat) (tgt : List Int) (wr : World) (v : Value) (L : List (Gv × List Int)) (ls : List Int) : Prop where
  rl : Rl w base V (fun b => b = V ∨ b = B) wr v L
  row : RowI wr B ls
  ne : bk v ≠ some B
  pw : Pw n (numbers L) ls
  tgt : hloop L.length (numbers L) ls = tgt
/-- What the document's HuffLens answers. -/
def RLensP (l : List Int) (w : World) (e : Ending) (w' : World) : Prop :=
  Bl w w' ∧ ((256 < l.length ∧ e = .returned (.tuple #[.slice none 0 0, .int .i64 4])) ∨
    (l.length ≤ 256 ∧ ¬ okL l l.length ∧ e = .returned (.tuple #[.slice none 0 0, .int .i64 1])) ∨
    (l.length ≤ 256 ∧ okL l l.length ∧ ∃ B, e = .returned (.tuple #[.slice (some ⟨B, 0, none⟩) l.length l.length, .int .i64 0]) ∧ w.heap.size ≤ B ∧ RowI w' B (lensOf l)))
set_option maxHeartbeats 8000000 in
set_option maxRecDepth 100000 in
theorem refLens_at (p : Option Addr) (n c : Nat) (l : List Int) (w : World) (hin : In w p l) (hn : n = l.length) (hn63 : n ≤ 9223372036854775807) :
    Calls Tryd.prog 5 #[.slice p n c] w fun e w' => RLensP l w e w' := by
  have HIN : Hid (In w p l) := hin
  have HN : Hid (n = l.length) := hn
  clear hin hn
  by_cases hbig : 256 < n
  · have hbz : (256 : Int) < n := by omega
    go_enter Tryd.func5, Tryd.ntmps5
    go_wp2
    go_ret2
    exact ⟨Bl.refl _, Or.inl ⟨by rw [← HN.out]; exact hbig, rfl⟩⟩
  have hbz : ¬ (256 : Int) < n := by omega
  obtain ⟨V, hV⟩ : ∃ b, b = w.heap.size := ⟨_, rfl⟩
  obtain ⟨W, hW⟩ : ∃ W, W = w.alloc (.cells #[.slice none 0 0] 40) := ⟨_, rfl⟩
  have S0 : Hid (Rl w (V + 1) V (fun b => b = V) W (.slice none 0 0) []) := by
    refine ⟨?_, ?_, Gr.nil _ _, fun x hx => by simp at hx, ?_, ?_⟩
    · rw [hW, hV]; simp
    · rw [hW, hV]; simp
    · rw [hW]; exact (Bl.refl w).alloc _
    · rw [hW, hV]; simp
  have HV : Hid (V = w.heap.size) := hV
  have HW : Hid (W = w.alloc (.cells #[.slice none 0 0] 40)) := hW
  clear hV hW
  go_enter Tryd.func5, Tryd.ntmps5
  go_wp2
  rw [← HV.out, ← HW.out]
  go_loopw [5, 6, 19] (fun _ _ i wr => ∃ k : Nat, k ≤ n ∧ i = .int .i64 (k : Int) ∧ Hid (∃ v L, Rl w (V + 1) V (fun b => b = V) wr v L ∧ numbers L = grp l k ∧ okL l k)) (fun _ _ i _ => n - (intOf i).toNat)
  case atStart => exact ⟨0, Nat.zero_le _, rfl, ⟨_, [], S0.out, rfl, fun i hi => absurd hi (Nat.not_lt_zero _)⟩⟩
  case round =>
    clear S0
    obtain ⟨k, hk, rfl, H⟩ := hrel
    by_cases hlt : k < n
    · have hltz : (k : Int) < n := by omega
      obtain ⟨v, L, S, hnum, hok⟩ := H.out
      obtain ⟨x, rfl, hcell⟩ := (HIN.out.step S.bl).at k (by rw [← HN.out]; exact hlt)
      obtain ⟨z, hz⟩ : ∃ z, z = l.getD k 0 := ⟨_, rfl⟩
      rw [← hz] at hcell
      have HZ : Hid (z = l.getD k 0) := hz
      have HS : Hid (Rl w (V + 1) V (fun b => b = V) wr v L ∧ numbers L = grp l k ∧ okL l k) := ⟨S, hnum, hok⟩
      have cW := su.within_at z 0 1099511627776 wr
      clear H S hnum hok hz
      by_cases hin : 0 ≤ z ∧ z ≤ 1099511627776
      · rw [decide_eq_true hin] at cW
        have HOK : Hid (okL l (k + 1)) := fun i hi => by
          by_cases h : i < k
          · exact HS.out.2.2 i h
          · obtain rfl : i = k := by omega
            rw [← HZ.out]
            exact hin
        by_cases hpos : 0 < z
        · have hLl : L.length ≤ 256 := by
            have := grp_len l k
            rw [← HS.out.2.1] at this
            simp only [numbers, List.length_map] at this
            omega
          obtain ⟨W2, hW2⟩ : ∃ W2, W2 = ((wr.alloc (.cells #[.int .i64 (k : Int)] 3)).alloc (.cells #[.int .i64 z, .slice (some ⟨wr.heap.size, 0, none⟩) 1 1] 43)) := ⟨_, rfl⟩
          have hB2 : Bl wr W2 := by rw [hW2]; exact ((Bl.refl wr).alloc _).alloc _
          have hS2 : W2.heap.size = wr.heap.size + 2 := by rw [hW2]; simp
          have hC2 : W2.cell? ⟨wr.heap.size, 0, none⟩ = some (.int .i64 (k : Int)) := by rw [hW2]; go_simp
          have hsz := HS.out.1.sz
          have hbv := bk_lt HS.out.1.gr
          obtain ⟨g1, off1, cap1, w', hr, cV, fV, hg1, hgg1, hS'⟩ := HS.out.1.push (W2 := W2) (by omega) (by rw [HV.out]; omega) rfl (by rw [HV.out]; omega) hB2 (wr.heap.size + 1) wr.heap.size 1 z [(k : Int)] (by rw [hW2]; go_simp) (by rw [hW2]; go_simp) (by omega) (fun e => by have := hbv _ e; omega) (by omega) (by simp) (fun j hj => by
            obtain rfl : j = 0 := by simp only [List.length_singleton] at hj; omega
            exact hC2) (by omega)
          have oV := HS.out.1.cv
          have HF : Hid (∃ v L2, Rl w (V + 1) V (fun b => b = V) (w'.setCell ⟨V, 0, none⟩ (.slice (some ⟨g1, off1, none⟩) (L.length + 1) cap1)) v L2 ∧ numbers L2 = grp l (k + 1) ∧ okL l (k + 1)) := by
            refine ⟨_, _, hS', ?_, HOK.out⟩
            rw [grp_succ, ← HZ.out, if_pos hpos]
            simp only [numbers, List.map_append, List.map_cons, List.map_nil]
            rw [← HS.out.2.1]
          have HR : Hid _ := hr
          rw [hW2] at HR
          clear hr hS' HS HOK hB2 hC2 hS2 hW2 hg1 hgg1 hbv hsz
          generalize L.length + 1 = n1 at HR HF
          go_wp2_with (first
            | (go_at_call 17; refine cW.mono ?_; rintro e w1 ⟨rfl, rfl⟩)
            | (at_builtin; refine Lib.wpList_append_run _ rfl (.tmp 29) (.tmp 34) _ _ rfl _ _ rfl rfl _ _ HR.out ?_))
          go_roundw
          case rel => exact ⟨k + 1, hlt, by go_num, HF⟩
          case measure => simp [intOf]; omega
        · have HF : Hid (∃ v L2, Rl w (V + 1) V (fun b => b = V) wr v L2 ∧ numbers L2 = grp l (k + 1) ∧ okL l (k + 1)) := ⟨v, L, HS.out.1, by rw [grp_succ, ← HZ.out, if_neg hpos, List.append_nil]; exact HS.out.2.1, HOK.out⟩
          clear HS HOK
          go_wp2_with (go_at_call 17; refine cW.mono ?_; rintro e w1 ⟨rfl, rfl⟩)
          go_roundw
          case rel => exact ⟨k + 1, hlt, by go_num, HF⟩
          case measure => simp [intOf]; omega
      · rw [decide_eq_false hin] at cW
        go_wp2_with (go_at_call 17; refine cW.mono ?_; rintro e w1 ⟨rfl, rfl⟩)
        go_ret2
        exact ⟨HS.out.1.bl, Or.inr (Or.inl ⟨by rw [← HN.out]; omega, fun h => hin (by rw [HZ.out]; exact h k (by rw [← HN.out]; exact hlt)), rfl⟩)⟩
    · have hltz : ¬ (k : Int) < n := by omega
      obtain rfl : k = n := by omega
      obtain ⟨v, L, S, hnum, hok⟩ := H.out
      clear H
      have HOK : Hid (okL l k) := hok
      have hLlen : L.length = (grp l k).length := by rw [← hnum]; simp [numbers]
      have hLl : L.length ≤ 256 := by have := grp_len l k; omega
      obtain ⟨B, hB⟩ : ∃ B, B = wr.heap.size := ⟨_, rfl⟩
      obtain ⟨w2, hw2⟩ : ∃ w2, w2 = wr.alloc (.cells (madeCells #[.int .i64 0] k) 3) := ⟨_, rfl⟩
      have hb2 : Bl wr w2 := by rw [hw2]; exact (Bl.refl wr).alloc _
      have hrow : RowI w2 B (List.replicate k 0) := by rw [hw2, hB]; exact RowI.made wr k
      have hsz := S.sz
      have hbv := bk_lt S.gr
      have S2 : Rl w (V + 1) V (fun b => b = V ∨ b = B) w2 v L := by
        have h := S.step hb2 (by omega)
        exact ⟨h.cv, h.fv, h.gr, S.th.step (fun b h1 _ => Below.block hb2 b h1) hb2.size (fun b h1 h2 => by
          rcases h2 with h2 | h2 | h2
          · exact Or.inl h2
          · exact Or.inr h2
          · omega), h.bl, h.sz⟩
      have hne : bk v ≠ some B := fun e => by have := hbv _ e; omega
      obtain ⟨vp, vc, hv⟩ : ∃ vp vc, v = .slice vp L.length vc := by
        rcases S.gr with ⟨h, h0⟩ | ⟨g, off, cap, cur, h1, _⟩
        · have : L = [] := by simpa [bare] using h0
          rw [this]; exact ⟨none, 0, h⟩
        · exact ⟨some ⟨g, off, none⟩, cap, by rw [h1]; simp only [bare, List.length_map]⟩
      have hmk := fun w => run_make_row' (P := Tryd.prog) 22 3 (.int .i64 0) 8 Tryd.underlying22 infoI rfl .i64 .i64 k (by omega) (by omega) w
      have cv0 := S.cv
      have cv2 := S2.cv
      subst hv
      by_cases h1L : L.length = 1
      · obtain ⟨x, rfl⟩ : ∃ x, L = [x] := List.length_eq_one_iff.1 h1L
        obtain ⟨b, cap, hx1, hx2, hx3, hx4, hx5⟩ := S2.th x (by simp)
        obtain ⟨g, off, cap2, e1, hg1, hg2, hg3, hcells⟩ := S2.gr.shape (by simp [bare])
        have d1 := (hcells 0 (by simp [bare])).2
        simp only [bare, List.map_cons, List.map_nil, List.getElem_cons_zero, Nat.zero_mul, Nat.add_zero] at d1
        rw [hx1] at d1
        simp only at d1
        have hxm : (x.1.1, x.2) ∈ grp l k := by rw [← hnum]; simp [numbers]
        obtain ⟨i, hi1, hi2, hi3⟩ := grp_mem hxm
        simp only [Prod.mk.injEq] at hi3
        obtain ⟨hi3, hi4⟩ := hi3
        have d2 : w2.cell? ⟨b, 0, none⟩ = some (.int .i64 (i : Int)) := by have := hx5 0 hx4; rw [hi4] at this; exact this
        have d3 := hrow.cell (j := i) (by simpa using hi1)
        have f3 := hrow.frozen i
        have hlens : lensOf l = (List.replicate k 0).set i 1 := by
          have hg : grp l l.length = [(x.1.1, x.2)] := by rw [← HN.out, ← hnum]; rfl
          rw [lensOf_one hg, ← HN.out, hi4]
          simp
        have hiz : (i : Int) < k := by omega
        have hx4' : 0 < x.2.length := hx4
        have hx40 : ¬ x.2 = [] := fun h => by rw [h] at hx4; exact Nat.lt_irrefl _ hx4
        simp only [bare, List.map_cons, List.map_nil, List.length_singleton, List.length_cons, List.length_nil] at e1 cv0 cv2 hne S S2
        have e2 : vc = cap2 ∧ vp = some ⟨g, off, none⟩ := by
          simp only [Value.slice.injEq] at e1
          exact ⟨e1.2.2, e1.1⟩
        obtain ⟨rfl, rfl⟩ := e2
        have hrow' := hrow.set i 1
        rw [← hlens] at hrow'
        have HFIN : Hid (RowI (w2.setCell ⟨B, i, none⟩ (.int .i64 1)) B (lensOf l) ∧ Bl w (w2.setCell ⟨B, i, none⟩ (.int .i64 1)) ∧ w.heap.size ≤ B) := ⟨hrow', S2.bl.setCell (by rw [hB]; exact S.bl.size) _, by rw [hB]; exact S.bl.size⟩
        have HCV : Hid (wr.cell? ⟨V, 0, none⟩ = some (.slice (some ⟨g, off, none⟩) (0 + 1) vc)) := cv0
        have HB : Hid (B = wr.heap.size) := hB
        have HW2 : Hid (w2 = wr.alloc (.cells (madeCells #[.int .i64 0] k) 3)) := hw2
        clear hb2 hrow hrow' hlens hcells hx1 hx2 hx5 hxm hi3 hi4 S S2 hnum hok hLlen hne hbv hsz e1 cv0 hB hw2 hx3 hg1 hg2
        have e9 : ((wr.alloc (.cells (madeCells #[.int .i64 0] k) 3)).setCell ⟨wr.heap.size, i, none⟩ (.int .i64 1)) = wr.alloc (.cells ((madeCells #[.int .i64 0] k).setIfInBounds i (.int .i64 1)) 3) := by go_simp
        have cvr : wr.cell? ⟨V, 0, none⟩ = some (.slice (some ⟨g, off, none⟩) (0 + 1) vc) := HCV.out
        rw [HW2.out, HB.out, e9] at HFIN
        rw [HW2.out] at d1 d2 d3 f3 cv2
        rw [HB.out] at d3 f3
        clear e9 HB HW2 hLl h1L hg3
        generalize (List.replicate k 0).getD i 0 = old at d3
        go_wp2
        go_ret2
        exact ⟨HFIN.out.2.1, Or.inr (Or.inr ⟨by rw [← HN.out]; omega, by rw [← HN.out]; exact HOK.out, wr.heap.size, by rw [← HN.out]; rfl, HFIN.out.2.2, HFIN.out.1⟩)⟩
      · have h1z : ((L.length : Int) == 1) = false := by rw [beq_eq_false_iff_ne]; omega
        have HM0 : Hid (Rm w k (V + 1) V B (lensOf l) w2 (.slice vp L.length vc) L (List.replicate k 0)) := by
          refine ⟨S2, hrow, hne, by rw [hnum]; exact pw_grp hok (by omega), ?_⟩
          rw [lensOf_more (by rw [← HN.out, ← hLlen]; exact h1L), ← HN.out, ← hLlen, hnum]
        have HB : Hid (w.heap.size ≤ B ∧ V + 1 ≤ B ∧ V = w.heap.size) := by
          have := S.bl.size
          have := HV.out
          exact ⟨by omega, by omega, by omega⟩
        clear S S2 hrow hne hnum hok hLlen hbv hsz hb2
        rw [hw2] at cv2
        go_wp2
        rw [← hw2, ← hB]
        clear hw2 hB hmk cv0 cv2 h1L h1z
        obtain ⟨base, hbase⟩ : ∃ b, b = V + 1 := ⟨_, rfl⟩
        rw [← hbase] at HM0
        have HBASE : Hid (base = V + 1) := hbase
        clear hbase
        go_loopg [9, 10, 11, 13] L.length (fun kx _ _ _ _ wr => ∃ (v : Value) (L : List (Gv × List Int)) (ls : List Int), L.length ≤ kx ∧ Hid (Rm w k base V B (lensOf l) wr v L ls))
        case atStart => exact ⟨_, L, _, Nat.le_refl _, HM0⟩
        case round =>
          clear HM0 hLl
          generalize L.length = n0 at *
          clear L
          obtain ⟨v, L, ls, hkx, HM⟩ := hrel
          obtain ⟨vp, vc, hv⟩ : ∃ vp vc, v = .slice vp L.length vc := by
            rcases HM.out.rl.gr with ⟨h, h0⟩ | ⟨g, off, cap, cur, h1, _⟩
            · have : L = [] := by simpa [bare] using h0
              rw [this]; exact ⟨none, 0, h⟩
            · exact ⟨some ⟨g, off, none⟩, cap, by rw [h1]; simp only [bare, List.length_map]⟩
          subst hv
          have cv := HM.out.rl.cv
          by_cases hgt : 1 < L.length
          · have hgz : (1 : Int) < (L.length : Int) := by omega
            have hLl : L.length ≤ 256 := by have := HM.out.pw.cnt; simpa [numbers] using this
            obtain ⟨g, off, hvp⟩ : ∃ g off, vp = some ⟨g, off, none⟩ := by
              obtain ⟨g, off, cap, h, _⟩ := HM.out.rl.gr.shape (by simp [bare]; omega)
              simp only [Value.slice.injEq] at h
              exact ⟨g, off, h.1⟩
            subst hvp
            have hsz := HM.out.rl.sz
            have hbl : (bare L).length = L.length := by simp [bare]
            have c1 := least_at V g off L.length vc base (bare L) wr cv HM.out.rl.fv hbl.symm HM.out.rl.gr (by omega) hLl (by rw [HBASE.out]; omega) hsz
            go_wp2_with fail
            refine c1.mono ?_
            clear c1
            rintro _ w1 ⟨k1, hF1, rfl, hg1, hf1, g1, off1, cap1, hc1, hgn1, hgr1⟩
            obtain ⟨hFl1, hga1, hgb1⟩ := fl_of hF1
            have hk1 : k1 < L.length := by rw [← hbl]; exact hF1.1
            obtain ⟨a0, ba, capa, ta, hxa, hFa, hba, hta, htca⟩ := ths_get HM.out.rl.th hk1
            rw [hxa] at hga1 hgb1
            rw [hgb1]
            have hVB : V < base ∧ w.heap.size ≤ V ∧ V ≠ B ∧ w.heap.size ≤ B := by have := HBASE.out; have := HB.out; omega
            have hBl := HM.out.row.lt
            have S1 := HM.out.rl.less (k := k1) (Or.inl rfl) hVB.2.1 (fun b hb => by rcases hb with rfl | rfl <;> omega) hg1 hf1 hc1 hgn1 hgr1
            have row1 := row_kept HM.out.row hg1 (by simp; omega)
            have ca1 : Tc w1 ba ta := Tc.kept ⟨hba, htca⟩ hg1 (fun e => hFa (Or.inr (Or.inl (by injection e))))
            have hba2 : ba ≠ V := fun e => hFa (Or.inr (Or.inl e))
            have hs1 := hg1.size
            have el1 : (L.eraseIdx k1).length = L.length - 1 := by rw [List.length_eraseIdx, if_pos hk1]
            obtain ⟨P1, hP1⟩ : ∃ P, P = w1.heap.size := ⟨_, rfl⟩
            obtain ⟨U1, hU1⟩ : ∃ U, U = w1.alloc (.cells #[.int .i64 a0, .slice (some ⟨ba, 0, none⟩) ta.length capa] 43) := ⟨_, rfl⟩
            have bU1 : Bl w1 U1 := by rw [hU1]; exact (Bl.refl _).alloc _
            have S1' := S1.step bU1 hVB.1
            have hc1' := S1'.cv
            have c2 := least_at V g1 off1 (L.length - 1) cap1 base (bare (L.eraseIdx k1)) U1 hc1' S1'.fv (by simp only [bare, List.length_map]; omega) S1'.gr (by omega) (by omega) hVB.1 S1'.sz
            have HC1 : Hid (Fl (numbers L) k1 ∧ (numbers L).getD k1 (0, []) = (a0, ta) ∧ Rl w base V (fun b => b = V ∨ b = B) U1 (.slice (some ⟨g1, off1, none⟩) (L.length - 1) cap1) (L.eraseIdx k1) ∧ RowI U1 B ls ∧ Tc U1 ba ta ∧ ba ≠ V ∧ 0 < ta.length ∧ U1.cell? ⟨P1, 0, none⟩ = some (.int .i64 a0) ∧ U1.cell? ⟨P1, 1, none⟩ = some (.slice (some ⟨ba, 0, none⟩) ta.length capa) ∧ P1 < U1.heap.size ∧ V < P1 ∧ B < P1) := by
              refine ⟨hFl1, hga1, S1', row1.step bU1, ca1.step bU1, hba2, hta, ?_, ?_, ?_, by omega, by omega⟩
              · rw [hU1, hP1]; simp
              · rw [hU1, hP1]; simp
              · rw [hU1, hP1]; simp
            have HK1 : Hid (k1 < L.length ∧ V < base ∧ w.heap.size ≤ V ∧ V ≠ B ∧ w.heap.size ≤ B) := ⟨hk1, hVB⟩
            clear hF1 hg1 hf1 hc1 hgn1 hgr1 hFl1 hga1 hgb1 hxa hFa hba hta htca hVB hBl S1 row1 ca1 hba2 hs1 el1 S1' hc1' bU1 hk1
            go_wp2_with fail
            rw [← hU1, ← hP1]
            refine c2.mono ?_
            clear c2 hU1 hP1
            rintro _ w3 ⟨k2, hF2, rfl, hg2, hf2, g2, off2, cap2, hc2, hgn2, hgr2⟩
            have el1 : (L.eraseIdx k1).length = L.length - 1 := by rw [List.length_eraseIdx, if_pos HK1.out.1]
            rw [← el1] at hF2 hc2 hgr2
            obtain ⟨hFl2, hga2, hgb2⟩ := fl_of hF2
            have hk2 : k2 < (L.eraseIdx k1).length := by have := hF2.1; simpa [bare] using this
            have HC := HC1.out
            obtain ⟨b0, bb, capb, tb, hxb, hFb, hbb, htb, htcb⟩ := ths_get HC.2.2.1.th hk2
            rw [hxb] at hga2 hgb2
            rw [hgb2]
            rw [numbers_erase] at hFl2 hga2
            have S2 := HC.2.2.1
            rw [← el1] at S2
            have S2b := S2.less (k := k2) (Or.inl rfl) HK1.out.2.2.1 (fun b hb => by have := HC.2.2.2.2.2.2.2.2.2; rcases hb with rfl | rfl <;> omega) hg2 hf2 hc2 hgn2 hgr2
            have hVB := HK1.out
            have hP := HC.2.2.2.2.2.2.2.2.2
            have row2 := row_kept HC.2.2.2.1 hg2 (by simp; omega)
            have ca2 : Tc w3 ba ta := HC.2.2.2.2.1.kept hg2 (by have := HC.2.2.2.2.2.1; simp; exact this)
            have cb2 : Tc w3 bb tb := Tc.kept ⟨hbb, htcb⟩ hg2 (fun e => hFb (Or.inr (Or.inl (by injection e))))
            obtain ⟨P2, hP2⟩ : ∃ P, P = w3.heap.size := ⟨_, rfl⟩
            obtain ⟨U, hU⟩ : ∃ U, U = w3.alloc (.cells #[.int .i64 b0, .slice (some ⟨bb, 0, none⟩) tb.length capb] 43) := ⟨_, rfl⟩
            have bU : Bl w3 U := by rw [hU]; exact (Bl.refl _).alloc _
            have hs2 := hg2.size
            have hrd : Rd w k base V B (lensOf l) U (.slice (some ⟨g2, off2, none⟩) ((L.eraseIdx k1).length - 1) cap2) ((L.eraseIdx k1).eraseIdx k2) ls a0 b0 ba bb ta tb :=
              rd_of (wr := wr) (capa := capa) (capb := capb) HM.out.pw HM.out.tgt HC.1 hFl2 hgt HC.2.1 hga2 (S2b.step bU hVB.2.1) (row2.step bU) (fun e => by simp only [bk, Option.some.injEq] at e; omega) (ca2.step bU) (cb2.step bU) HC.2.2.2.2.2.2.1
            have el2 : ((L.eraseIdx k1).eraseIdx k2).length = (L.eraseIdx k1).length - 1 := by rw [List.length_eraseIdx, if_pos hk2]
            rw [← el2] at hrd
            have e10 : U.cell? ⟨P1, 0, none⟩ = some (.int .i64 a0) := at_bl bU (by rw [hg2.cell_far ⟨P1, 0, none⟩ hP.1 (by simp; omega)]; exact HC.2.2.2.2.2.2.2.1)
            have e11 : U.cell? ⟨P1, 1, none⟩ = some (.slice (some ⟨ba, 0, none⟩) ta.length capa) := at_bl bU (by rw [hg2.cell_far ⟨P1, 1, none⟩ hP.1 (by simp; omega)]; exact HC.2.2.2.2.2.2.2.2.1)
            have e20 : U.cell? ⟨P2, 0, none⟩ = some (.int .i64 b0) := by rw [hU, hP2]; simp
            have e21 : U.cell? ⟨P2, 1, none⟩ = some (.slice (some ⟨bb, 0, none⟩) tb.length capb) := by rw [hU, hP2]; simp
            have hPU : P1 < U.heap.size ∧ P2 < U.heap.size ∧ P1 ≠ P2 := by
              have h1 : U.heap.size = w3.heap.size + 1 := by rw [hU]; simp
              omega
            obtain ⟨R, hR⟩ : ∃ R, R = (L.eraseIdx k1).eraseIdx k2 := ⟨_, rfl⟩
            rw [← hR] at hrd el2
            have hRL : R.length + 1 ≤ gk - 1 ∧ R.length + 2 = L.length := by have := HK1.out.1; omega
            have HRD : Hid _ := hrd
            clear hF2 hg2 hf2 hc2 hgn2 hgr2 hFl2 hga2 hgb2 hxb hFb hbb htb htcb S2 S2b hVB hP row2 ca2 cb2 bU hs2 hrd HC HC1 HM hk2 el2 hR cv hsz hbl
            go_wp2_with fail
            rw [← hU, ← hP2]
            clear hU hP2
            have hfew := HRD.out.few
            have hpa := HRD.out.pa
            have hbig2 := HRD.out.big
            -- the four ways in which both rows may be made
            obtain ⟨gA1, cA1, wA3, rA1, oA1, bA1, zA1⟩ := app_u (cap := capa) (l := []) (m := ta.length) (((Bl.refl U).alloc Zo).alloc Eo).drew rfl rfl (own_lit _ U U.heap.size (U.heap.size + 1) (by omega) (heap_a U).2) HRD.out.ca (by simp; exact hpa) (by simp; omega)
            obtain ⟨gA2, cA2, wA4, rA2, oA2, bA2, zA2⟩ := app_u (cap := capb) (m := tb.length) bA1 (by simp) rfl oA1 HRD.out.cb (by simp; omega) (by simp; omega)
            obtain ⟨gB1, cB1, wB3, rB1, oB1, bB1, zB1⟩ := app_u (cap := capa) (l := []) (m := ta.length) (((Bl.refl U).alloc Eo).alloc Zo).drew rfl rfl (own_lit _ U U.heap.size U.heap.size (by omega) (heap_b U).1) HRD.out.ca (by simp; exact hpa) (by simp; omega)
            obtain ⟨gB2, cB2, wB4, rB2, oB2, bB2, zB2⟩ := app_u (cap := capb) (m := tb.length) bB1 (by simp) rfl oB1 HRD.out.cb (by simp; omega) (by simp; omega)
            obtain ⟨gC1, cC1, wC3, rC1, oC1, bC1, zC1⟩ := app_u (cap := capa) (l := []) (m := ta.length) ((Bl.refl U).alloc Eo).drew rfl rfl (own_lit _ U U.heap.size U.heap.size (by omega) (heap_c U)) HRD.out.ca (by simp; exact hpa) (by simp; omega)
            obtain ⟨gC2, cC2, wC4, rC2, oC2, bC2, zC2⟩ := app_u (cap := capb) (m := tb.length) (bC1.alloc Zo) (by simp) rfl (oC1.step ((Bl.refl _).alloc Zo)) HRD.out.cb (by simp; omega) (by simp; omega)
            obtain ⟨gD2, cD2, wD4, rD2, oD2, bD2, zD2⟩ := app_u (cap := capb) (m := tb.length) bC1 (by simp) rfl oC1 HRD.out.cb (by simp; omega) (by simp; omega)
            have keep : ∀ W, Bl U W → W.cell? ⟨P1, 0, none⟩ = some (.int .i64 a0) ∧ W.cell? ⟨P1, 1, none⟩ = some (.slice (some ⟨ba, 0, none⟩) ta.length capa) ∧ W.cell? ⟨P2, 0, none⟩ = some (.int .i64 b0) ∧ W.cell? ⟨P2, 1, none⟩ = some (.slice (some ⟨bb, 0, none⟩) tb.length capb) := fun W h => ⟨at_bl h e10, at_bl h e11, at_bl h e20, at_bl h e21⟩
            have KA3 : Hid _ := keep wA3 bA1
            have KA4 : Hid _ := keep wA4 bA2
            have KB3 : Hid _ := keep wB3 bB1
            have KB4 : Hid _ := keep wB4 bB2
            have KC3 : Hid _ := keep wC3 bC1
            have KC4 : Hid _ := keep wC4 bC2
            have KD4 : Hid _ := keep wD4 bD2
            simp only [List.nil_append, List.length_nil, Nat.zero_add, List.length_append] at rA1 rA2 rB1 rB2 rC1 rC2 rD2 oA2 oB2 oC2 oD2 oA1 oB1 oC1
            have HA1 : Hid _ := rA1
            have HA2 : Hid _ := rA2
            have HB1 : Hid _ := rB1
            have HB2 : Hid _ := rB2
            have HC1 : Hid _ := rC1
            have HC2 : Hid _ := rC2
            have HD2 : Hid _ := rD2
            obtain ⟨zA0, zA1', zA2', zA3'⟩ := z_cells (zA2 _ (zA1 _ (heap_a U).1))
            obtain ⟨zB0, zB1', zB2', zB3'⟩ := z_cells (zB2 _ (zB1 _ (heap_b U).2))
            obtain ⟨zC0, zC1', zC2', zC3'⟩ := z_cells (zC2 _ (heap_alloc_new wC3 _))
            have JA : Hid (Jn U ((wA4.setCell ⟨U.heap.size, 0, none⟩ (.int .i64 (a0 + b0))).setCell ⟨U.heap.size, 1, none⟩ (.slice (some ⟨gA2, 0, none⟩) (ta.length + tb.length) cA2)) U.heap.size gA2 cA2 (a0 + b0) (ta ++ tb)) := jn_set bA2 (Nat.le_refl _) (zA2 _ (zA1 _ (heap_a U).1)) rfl oA2 (by simp)
            have JB : Hid (Jn U ((wB4.setCell ⟨U.heap.size + 1, 0, none⟩ (.int .i64 (a0 + b0))).setCell ⟨U.heap.size + 1, 1, none⟩ (.slice (some ⟨gB2, 0, none⟩) (ta.length + tb.length) cB2)) (U.heap.size + 1) gB2 cB2 (a0 + b0) (ta ++ tb)) := jn_set bB2 (by omega) (zB2 _ (zB1 _ (heap_b U).2)) rfl oB2 (by simp)
            have JC : Hid (Jn U ((wC4.setCell ⟨wC3.heap.size, 0, none⟩ (.int .i64 (a0 + b0))).setCell ⟨wC3.heap.size, 1, none⟩ (.slice (some ⟨gC2, 0, none⟩) (ta.length + tb.length) cC2)) wC3.heap.size gC2 cC2 (a0 + b0) (ta ++ tb)) := jn_set bC2 bC1.size (zC2 _ (heap_alloc_new wC3 _)) rfl oC2 (by simp)
            have JD : Hid (Jn U (wD4.alloc (.cells #[.int .i64 (a0 + b0), .slice (some ⟨gD2, 0, none⟩) (ta.length + tb.length) cD2] 43)) wD4.heap.size gD2 cD2 (a0 + b0) (ta ++ tb)) := jn_new bD2 oD2 (by simp)
            have HKP : Hid (∀ W, Bl U W → W.cell? ⟨P1, 0, none⟩ = some (.int .i64 a0) ∧ W.cell? ⟨P1, 1, none⟩ = some (.slice (some ⟨ba, 0, none⟩) ta.length capa) ∧ W.cell? ⟨P2, 0, none⟩ = some (.int .i64 b0) ∧ W.cell? ⟨P2, 1, none⟩ = some (.slice (some ⟨bb, 0, none⟩) tb.length capb)) := keep
            have HBB : Hid (Bl U wA3 ∧ Bl U wA4 ∧ Bl U wB3 ∧ Bl U wB4 ∧ Bl U wC3 ∧ Bl U wC4 ∧ Bl U wD4) := ⟨bA1, bA2, bB1, bB2, bC1, bC2, bD2⟩
            have hw64 : IntKind.i64.wrap (a0 + b0) = a0 + b0 := by rw [IntKind.wrap_i64]; omega
            clear rA1 rA2 rB1 rB2 rC1 rC2 rD2 zA1 zA2 zB1 zB2 zC1 zC2 zD2 oA1 oA2 oB1 oB2 oC1 oC2 oD2 keep bA1 bA2 bB1 bB2 bC1 bC2 bD2 KA3 KA4 KB3 KB4 KC3 KC4 KD4
            go_cut [11] from 53 to 90 (fun s11 wc => ∃ P3 g4 c4, s11 = .pointer (some ⟨P3, 0, none⟩) ∧ Hid (Jn U wc P3 g4 c4 (a0 + b0) (ta ++ tb)))
            case first =>
              go_region_held3 (fun w' => w'.cell? ⟨P1, 0, none⟩ = some (.int .i64 a0) ∧ w'.cell? ⟨P1, 1, none⟩ = some (.slice (some ⟨ba, 0, none⟩) ta.length capa) ∧ w'.cell? ⟨P2, 0, none⟩ = some (.int .i64 b0) ∧ w'.cell? ⟨P2, 1, none⟩ = some (.slice (some ⟨bb, 0, none⟩) tb.length capb)) (first
                | with_reducible assumption
                | exact HKP.out _ (by
                    obtain ⟨q1, q2, q3, q4, q5, q6, q7⟩ := HBB.out
                    repeat' (first | with_reducible assumption | exact Bl.refl _ | apply Bl.drew | apply Bl.alloc | (refine Bl.setCell ?_ (by first | exact Nat.le_refl _ | exact Nat.le_succ _ | exact q5.size) _))))
                (first
                  | (refine step_append_run rfl (.tmp 65) (.tmp 67) 22 22 rfl (.slice (some ⟨U.heap.size + 1, 0, none⟩) 0 0) (.slice (some ⟨ba, 0, none⟩) ta.length capa) rfl rfl (.slice (some ⟨gA1, 0, none⟩) ta.length cA1) wA3 ?hr ?_; (case hr => with_reducible exact HA1.out))
                  | (refine step_append_run rfl (.tmp 68) (.tmp 70) 22 22 rfl (.slice (some ⟨gA1, 0, none⟩) ta.length cA1) (.slice (some ⟨bb, 0, none⟩) tb.length capb) rfl rfl (.slice (some ⟨gA2, 0, none⟩) (ta.length + tb.length) cA2) wA4 ?hr ?_; (case hr => with_reducible exact HA2.out))
                  | (refine step_append_run rfl (.tmp 65) (.tmp 67) 22 22 rfl (.slice (some ⟨U.heap.size, 0, none⟩) 0 0) (.slice (some ⟨ba, 0, none⟩) ta.length capa) rfl rfl (.slice (some ⟨gB1, 0, none⟩) ta.length cB1) wB3 ?hr ?_; (case hr => with_reducible exact HB1.out))
                  | (refine step_append_run rfl (.tmp 68) (.tmp 70) 22 22 rfl (.slice (some ⟨gB1, 0, none⟩) ta.length cB1) (.slice (some ⟨bb, 0, none⟩) tb.length capb) rfl rfl (.slice (some ⟨gB2, 0, none⟩) (ta.length + tb.length) cB2) wB4 ?hr ?_; (case hr => with_reducible exact HB2.out))
                  | (refine step_append_run rfl (.tmp 65) (.tmp 67) 22 22 rfl (.slice (some ⟨U.heap.size, 0, none⟩) 0 0) (.slice (some ⟨ba, 0, none⟩) ta.length capa) rfl rfl (.slice (some ⟨gC1, 0, none⟩) ta.length cC1) wC3 ?hr ?_; (case hr => with_reducible exact HC1.out))
                  | (refine step_append_run rfl (.tmp 68) (.tmp 70) 22 22 rfl (.slice (some ⟨gC1, 0, none⟩) ta.length cC1) (.slice (some ⟨bb, 0, none⟩) tb.length capb) rfl rfl (.slice (some ⟨gC2, 0, none⟩) (ta.length + tb.length) cC2) wC4 ?hr ?_; (case hr => with_reducible exact HC2.out))
                  | (refine step_append_run rfl (.tmp 68) (.tmp 70) 22 22 rfl (.slice (some ⟨gC1, 0, none⟩) ta.length cC1) (.slice (some ⟨bb, 0, none⟩) tb.length capb) rfl rfl (.slice (some ⟨gD2, 0, none⟩) (ta.length + tb.length) cD2) wD4 ?hr ?_; (case hr => with_reducible exact HD2.out)))
              all_goals (
                go_wp2_with fail
                go_meet
                first | exact ⟨_, _, _, rfl, JA⟩ | exact ⟨_, _, _, rfl, JB⟩ | exact ⟨_, _, _, rfl, JC⟩ | exact ⟨_, _, _, rfl, JD⟩)
            case rest =>
              clear HA1 HA2 HB1 HB2 HC1 HC2 HD2 zA0 zA1' zA2' zA3' zB0 zB1' zB2' zB3' zC0 zC1' zC2' zC3' JA JB JC JD HKP HBB hw64
              obtain ⟨P3, g4, c4, rfl, HJ⟩ := hcut
              obtain ⟨tt, htt⟩ : ∃ tt, tt = ta ++ tb := ⟨_, rfl⟩
              rw [← htt] at HJ
              have HTT : Hid (tt = ta ++ tb) := htt
              have htl : tt.length ≤ 256 ∧ 0 < tt.length := by rw [htt, List.length_append]; omega
              have j0 := HJ.out.c0
              have j1 := HJ.out.c1
              have HBU : Hid (B < U.heap.size ∧ V < U.heap.size) := by
                have h1 := HRD.out.row.lt
                have h2 := HRD.out.rl.sz
                have h3 := HK1.out.2.1
                exact ⟨h1, by omega⟩
              obtain ⟨N, hN⟩ : ∃ N, N = tt.length := ⟨_, rfl⟩
              rw [← hN] at j1 htl
              have HTN : Hid (N = tt.length) := hN
              clear htt hN
              go_wp2
              go_loopg [13, 76] N (fun kx _ i wx => ∃ j : Nat, j ≤ N ∧ N - j ≤ kx ∧ i = .int .i64 (j : Int) ∧ Hid (RowI wx B (bump ls (tt.take j)) ∧ wc.grownBy wx (some B)))
              case atStart => exact ⟨0, Nat.zero_le _, by omega, rfl, ⟨HRD.out.row.step HJ.out.bl, World.grownBy.refl _ _⟩⟩
              case round =>
                obtain ⟨j, hj, hjk, rfl, H⟩ := hrel
                obtain ⟨hrow, hgw⟩ := H.out
                have hPB : P3 ≠ B ∧ g4 ≠ B ∧ V ≠ B := by have := HJ.out.p; have := HJ.out.g; have := HBU.out; have := HK1.out; omega
                have k0 : wr.cell? ⟨P3, 0, none⟩ = some (.int .i64 (a0 + b0)) := by rw [hgw.cell_far ⟨P3, 0, none⟩ HJ.out.pl (by simp; exact hPB.1)]; exact j0
                have k1' : wr.cell? ⟨P3, 1, none⟩ = some (.slice (some ⟨g4, 0, none⟩) N c4) := by rw [hgw.cell_far ⟨P3, 1, none⟩ HJ.out.pl (by simp; exact hPB.1)]; exact j1
                by_cases hltj : j < N
                · have hltjz : (j : Int) < (N : Int) := by omega
                  have hjt : j < tt.length := by rw [← HTN.out]; exact hltj
                  have hgc : wr.cell? ⟨g4, j, none⟩ = some (.int .i64 (tt.getD j 0)) := by rw [hgw.cell_far ⟨g4, j, none⟩ HJ.out.tc.1 (by simp; exact hPB.2.1)]; exact HJ.out.tc.2 j hjt
                  have hrg : 0 ≤ tt.getD j 0 ∧ (tt.getD j 0).toNat < k := HRD.out.rng (tt.getD j 0) (by
                    rw [← HTT.out, List.getD_eq_getElem?_getD, List.getElem?_eq_getElem hjt]
                    exact List.getElem_mem hjt)
                  have hlow := bump_bd (tt.take j) ls 65536 HRD.out.low (tt.getD j 0).toNat
                  obtain ⟨i, hi⟩ : ∃ i : Nat, tt.getD j 0 = (i : Int) := ⟨(tt.getD j 0).toNat, by omega⟩
                  have hsn := hf.bump_snoc ls tt j hjt
                  rw [hi] at hgc hrg hsn hlow
                  rw [Int.toNat_natCast] at hrg hsn hlow
                  have hbl : (bump ls (tt.take j)).length = k := by rw [bump_len]; exact HRD.out.len
                  have d1 := hrow.cell (j := i) (by rw [hbl]; exact hrg.2)
                  have f1 := hrow.frozen i
                  have hrow' := hrow.set i ((bump ls (tt.take j)).getD i 0 + 1)
                  rw [← hsn] at hrow'
                  have htk : (tt.take j).length ≤ 256 := by rw [List.length_take]; omega
                  have hib : (i : Int) < (k : Int) := by omega
                  have HF : Hid (RowI (wr.setCell ⟨B, i, none⟩ (.int .i64 ((bump ls (tt.take j)).getD i 0 + 1))) B (bump ls (tt.take (j + 1))) ∧ wc.grownBy (wr.setCell ⟨B, i, none⟩ (.int .i64 ((bump ls (tt.take j)).getD i 0 + 1))) (some B)) := ⟨hrow', hf.grown_setB hgw _ _⟩
                  have hob : 0 ≤ (bump ls (tt.take j)).getD i 0 ∧ (bump ls (tt.take j)).getD i 0 ≤ 65536 + 256 := by omega
                  generalize (bump ls (tt.take j)).getD i 0 = old at *
                  clear H hrow hrow' hgw hsn hlow hi hbl k0 k1' htk
                  go_wp2
                  go_roundg (N - (j + 1))
                  case measure => omega
                  case rel => exact ⟨j + 1, hltj, Nat.le_refl _, by go_num, HF⟩
                · have hltjz : ¬ (j : Int) < (N : Int) := by omega
                  obtain rfl : j = N := by omega
                  rw [List.take_of_length_le (by rw [← HTN.out]; omega)] at hrow
                  have hV4 := HK1.out
                  have hBu := HBU.out
                  have hbu := HJ.out.bl.size
                  have hS6 := (HRD.out.rl.step HJ.out.bl hV4.2.1).other hgw (Or.inr rfl) (Ne.symm hPB.2.2) HRD.out.ne hV4.2.2.2.2 hV4.2.1
                  obtain ⟨W6, hW6⟩ : ∃ W, W = wr.alloc (.cells #[.int .i64 (a0 + b0), .slice (some ⟨g4, 0, none⟩) j c4] 43) := ⟨_, rfl⟩
                  have bW6 : Bl wr W6 := by rw [hW6]; exact (Bl.refl _).alloc _
                  have sW6 : W6.heap.size = wr.heap.size + 1 := by rw [hW6]; simp
                  have hb2 := bk_lt HRD.out.rl.gr g2 rfl
                  have hsg := hgw.size
                  have hg4a := HJ.out.g
                  have hg4b := HJ.out.tc.1
                  obtain ⟨g5, off5, cap5, w', hr, cV, fV, hg5, hgg5, hS'⟩ := hS6.push (W2 := W6) hV4.2.1 hV4.2.2.1 (Or.inl rfl) (by omega) bW6 wr.heap.size g4 c4 (a0 + b0) tt (by rw [hW6]; simp) (by rw [hW6, ← HTN.out]; simp) (by omega) (fun e => by simp only [bk, Option.some.injEq] at e; omega) (fun h => by rcases h with h | h <;> omega) (by rw [← HTN.out]; omega) (fun i hi => at_bl bW6 (by rw [hgw.cell_far ⟨g4, i, none⟩ HJ.out.tc.1 (by simp; exact hPB.2.1)]; exact HJ.out.tc.2 i hi)) (by omega)
                  have hnumR : numbers (R ++ [((a0 + b0, some ⟨g4, 0, none⟩, tt.length, c4), tt)]) = numbers R ++ [cat (a0, ta) (b0, tb)] := by
                    simp only [numbers, List.map_append, List.map_cons, List.map_nil, cat]
                    rw [HTT.out]
                  have HF : Hid (Rm w k base V B (lensOf l) (w'.setCell ⟨V, 0, none⟩ (.slice (some ⟨g5, off5, none⟩) (R.length + 1) cap5)) (.slice (some ⟨g5, off5, none⟩) (R.length + 1) cap5) (R ++ [((a0 + b0, some ⟨g4, 0, none⟩, tt.length, c4), tt)]) (bump ls tt)) := by
                    refine ⟨hS', ?_, fun e => ?_, ?_, ?_⟩
                    · have h1 := row_kept (hrow.step bW6) hg5 (fun e => HRD.out.ne e.symm)
                      exact row_kept h1 (hf.grown_setB (World.grownBy.refl w' (some V)) 0 _) (by simp; omega)
                    · simp only [bk, Option.some.injEq] at e hgg5
                      rcases hgg5 with h | h
                      · exact HRD.out.ne (by show some g2 = some B; rw [h, e])
                      · omega
                    · rw [hnumR, HTT.out]; exact HRD.out.pw
                    · rw [hnumR, HTT.out, List.length_append, List.length_singleton]; exact HRD.out.tgt
                  have cv6 := hS6.cv
                  have HR : Hid _ := hr
                  rw [hW6] at HR
                  clear hr hS' hS6 hg5 hgg5 hb2 bW6 sW6 hW6 hrow H hgw hnumR hsg hg4a hg4b hV4 hBu hbu
                  generalize hnr : R.length + 1 = n6 at HR HF
                  have HNR : Hid (R.length + 1 = n6) := hnr
                  clear hnr
                  go_wp2_with (at_builtin; refine Lib.wpList_append_run _ rfl (.tmp 87) (.tmp 89) _ _ rfl _ _ rfl rfl _ _ HR.out ?_)
                  go_roundg (R.length + 1)
                  case measure => omega
                  case rel => exact ⟨_, _, _, by simp, HF⟩
          · have hgz : ¬ (1 : Int) < (L.length : Int) := by omega
            have HFIN : Hid (Bl w wr ∧ RowI wr B (lensOf l)) := by
              refine ⟨HM.out.rl.bl, ?_⟩
              have h := HM.out.tgt
              rw [hloop_end (by simp only [numbers, List.length_map]; omega)] at h
              rw [← h]
              exact HM.out.row
            clear HM
            go_wp2
            go_ret2
            exact ⟨HFIN.out.1, Or.inr (Or.inr ⟨by rw [← HN.out]; omega, by rw [← HN.out]; exact HOK.out, B, by rw [← HN.out]; rfl, HB.out.1, HFIN.out.2⟩)⟩
end Go.Proofs.YtkldnapbeebdkaaDoor.hr
