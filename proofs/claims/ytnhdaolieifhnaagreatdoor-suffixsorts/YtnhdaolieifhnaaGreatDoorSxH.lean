/- What Find of package suffix answers. -/
import Derived.Test.YtnhdaolieifhnaaGreatDoorSxG
import Derived.Test.YtnhdaolieifhnaaGreatDoorLayM
import Derived.Test.YtnhdaolieifhnaaGreatDoorLayN
import Derived.Shelf.SortM.Plain
import Derived.Shelf.SortM.SortNone
import Derived.Shelf.SlicesG.Clone
import Derived.Deep.RegionHeld3
namespace Go.Proofs.YtnhdaolieifhnaaGreatDoor.sx
set_option linter.unusedVariables false
open Go.ChangeShapes Go.WideShapes Go.ChangeAt Go.RowKit
open mem rows fd
open Go.Sort

theorem own_mono {w : World} {base base' : Nat} {v : Value} {l : List Int} (h : Own w base v l) (hb : base' ≤ base) : Own w base' v l := by
  refine ⟨h.1, ?_⟩
  rcases h.2 with h | ⟨g, cap, cur, h1, h2, h3⟩
  · exact Or.inl h
  · exact Or.inr ⟨g, cap, cur, h1, Nat.le_trans hb h2, h3⟩
theorem heap_put {w : World} {g n : Nat} {os : Array Obj} {cur : Array Value} {e : TypeId} {fr : Nat × Nat} (d : Array Int) (hb : w.heap[g]? = some (.cells cur e fr)) :
    (grow (putRow (Value.int .i64) (Sort.ahead w n) g 0 d) os).heap[g]? = some (.cells (putCells (Value.int .i64) 0 d cur) e fr) := by
  have hg : g < w.heap.size := (Array.getElem?_eq_some_iff.1 hb).1
  rw [heap_grow_old _ _ (by simpa using hg)]
  simp [putRow, mapBlock, Sort.ahead, Array.getElem?_modify, hb, onCells]
theorem grown_put {w : World} {g n : Nat} {os : Array Obj} (d : Array Int) : w.grownBy (grow (putRow (Value.int .i64) (Sort.ahead w n) g 0 d) os) (some g) := by
  refine ⟨rfl, rfl, rfl, by simp, fun k hk hne => ?_⟩
  rw [heap_grow_old _ _ (by simpa using hk)]
  have : g ≠ k := fun e => hne (by rw [e])
  simp [putRow, mapBlock, Sort.ahead, Array.getElem?_modify, this]
theorem cell_set_self {w : World} {O : Nat} {v u : Value} (h : w.cell? ⟨O, 0, none⟩ = some v) : (w.setCell ⟨O, 0, none⟩ u).cell? ⟨O, 0, none⟩ = some u := by
  simp only [World.cell?] at h ⊢
  cases e : w.heap[O]? with
  | none => rw [e] at h; cases h
  | some o =>
    cases o with
    | cells arr t fr =>
      rw [e] at h
      have hs : 0 < arr.size := by
        rcases Nat.eq_zero_or_pos arr.size with h' | h'
        · simp [h'] at h
        · exact h'
      simp [World.setCell, Array.getElem?_modify, e, hs]
    | _ => rw [e] at h; cases h
theorem getD_part (L : List Nat) (f k j : Nat) (h : j < k) : ((L.drop f).take k).getD j 0 = L.getD (f + j) 0 := by
  rw [List.getD_eq_getElem?_getD, List.getD_eq_getElem?_getD, List.getElem?_take_of_lt h, List.getElem?_drop]
/-- slices.Sort of a row of the call's own. -/
theorem sortI_at (v : Value) (l : List Int) (w : World) (base : Nat) (hown : Own w base v l) (hl : l.length ≤ 5000) :
    Calls Tryz.prog 28 #[v] w fun e w' => e = .returned (.tuple #[]) ∧ Own w' base v (l.mergeSort fun x y => decide (x ≤ y)) ∧ w.grownBy w' v.ownBlock := by
  rcases hown.2 with ⟨rfl, h0⟩ | ⟨g, cap, cur, rfl, hbg, hg, hnc, hcm, hcs, htake⟩
  · have hl0 : l = [] := List.eq_nil_of_length_eq_zero h0
    subst hl0
    refine (AnyM.slices_Sort_int_none layM.laid none 0 w).mono ?_
    rintro e w' ⟨rfl, rfl⟩
    exact ⟨rfl, by simpa using hown, ⟨rfl, rfl, rfl, Nat.le_refl _, fun _ _ _ => rfl⟩⟩
  · have hgl : g < w.heap.size := (Array.getElem?_eq_some_iff.1 hg).1
    have hH : Holds (Value.int .i64) w g 0 l.toArray := fun j hj => by
      have hj' : j < l.length := by simpa using hj
      refine ⟨?_, by simp [World.frozen?, hg]⟩
      rcases hown.shape with ⟨h1, _⟩ | ⟨g', cap', h1, _, _, _, _, h2⟩
      · cases h1
      · injection h1 with h1
        injection h1 with h1
        injection h1 with h1
        subst h1
        rw [Nat.zero_add, h2 j hj', getElem!_pos _ j hj]
        simp [hj']
    refine (AnyM.slices_Sort_int layM.laid g 0 cap l w hH hgl (by omega)).mono ?_
    rintro e w' ⟨rfl, n, os, rfl⟩
    have hlen : (l.mergeSort fun x y => decide (x ≤ y)).length = l.length := List.length_mergeSort _
    refine ⟨rfl, ⟨by simp [rowI], Or.inr ⟨g, cap, _, by rw [hlen], hbg, heap_put _ hg, by rw [hlen]; exact hnc, hcm, by simp [putCells, hcs], ?_⟩⟩, grown_put _⟩
    rw [Nat.mul_one]
    apply List.ext_getElem?
    intro j
    by_cases hj : j < l.length
    · have hj2 : j < (l.mergeSort fun x y => decide (x ≤ y)).length := by omega
      have hj3 : j < cur.size := by rw [hcs]; omega
      rw [List.getElem?_take_of_lt (by omega), rowI_get _ j hj2, Array.getElem?_toList]
      simp [putCells, hj, hj3]
    · rw [List.getElem?_take_eq_none (by omega), List.getElem?_eq_none (by simp [rowI]; omega)]
/-- slices.Clone of some of a row. -/
theorem clone_at (A off n c : Nat) (l : List Int) (w : World) (hn : n = l.length) (hl : l.length ≤ 5000) (hc : ∀ j, j < l.length → w.cell? ⟨A, off + j, none⟩ = some (.int .i64 (l.getD j 0))) :
    Calls Tryz.prog 27 #[.slice (some ⟨A, off, none⟩) n c] w fun e w' => ∃ v, e = .returned v ∧ Own w' w.heap.size v l ∧ Bl w w' := by
  subst hn
  refine (AnyG.slices_Clone_int layN.laid A off l.length c l w (Nat.le_refl _) (by omega) hc).mono ?_
  rintro e w' ⟨v, rfl, ho, _, hb⟩
  refine ⟨v, rfl, ?_, hb⟩
  rw [List.take_length] at ho
  exact ho
set_option maxRecDepth 10000 in
theorem Find_at (s p : ByteArray) (w : World) (hs : s.size ≤ 4000) (h0 : 0 < p.size) :
    Calls Tryz.prog 6 #[.string s, .string p] w fun e w' => ∃ v, e = .returned (.tuple #[v, .nilIface]) ∧ Own w' w.heap.size v (ints (pls (sb p) (sb s) p.size s.size)) ∧ Bl w w' := by
  have hne : p.toList.isEmpty = false := by rw [isEmpty_at]; exact decide_eq_false (by omega)
  go_enter Tryz.func6, Tryz.ntmps6
  go_wp2_with (fail)
  obtain ⟨W0, hW0⟩ : ∃ W0, W0 = (w.alloc (Obj.cells #[Value.string s] 9)).alloc (Obj.cells #[Value.string p] 9) := ⟨_, rfl⟩
  obtain ⟨X, hX⟩ : ∃ X, X = w.heap.size := ⟨_, rfl⟩
  have c1 : W0.cell? ⟨X, 0, none⟩ = some (.string s) := by rw [hW0, hX]; simp
  have c2 : W0.cell? ⟨X + 1, 0, none⟩ = some (.string p) := by rw [hW0, hX]; simp
  have hb0 : Bl w W0 := by rw [hW0]; exact ((Bl.refl w).alloc _).alloc _
  rw [← hW0, ← hX]
  have HX : Hid (X = w.heap.size) := hX
  have HW : Hid (W0.heap.size = w.heap.size + 2) := by rw [Hid, hW0]; simp
  clear hW0 hX
  refine (Sort_at s W0 hs).mono ?_
  rintro e w1 ⟨A, rfl, hA, hb1, L, hr1, hL⟩
  have d1 := at_bl hb1 c1
  have d2 := at_bl hb1 c2
  have HL : Hid (IsSort (gs s) s.size L) := hL
  have hAlt := hr1.lt
  clear c1 c2 hL
  go_wp2_with (fail)
  obtain ⟨w2, hw2⟩ : ∃ w2, w2 = w1.alloc (Obj.cells #[Value.slice (some ⟨A, 0, none⟩) s.size s.size] 22) := ⟨_, rfl⟩
  obtain ⟨O, hO⟩ : ∃ O, O = w1.heap.size := ⟨_, rfl⟩
  have hb2 : Bl w1 w2 := by rw [hw2]; exact (Bl.refl _).alloc _
  have cap2 : Cap w2 X O (X + 1) s p (.slice (some ⟨A, 0, none⟩) s.size s.size) := ⟨at_bl hb2 d1, by rw [hw2, hO]; simp, at_bl hb2 d2⟩
  have hr2 := hr1.step hb2
  have hfr : w2.frozen? ⟨O, 0, none⟩ = false := by rw [hw2, hO]; simp
  rw [← hw2, ← hO]
  have hAO : A < O := by omega
  have HB : Hid (Bl w w2) := (hb0.trans hb1).trans hb2
  have HO : Hid (w.heap.size ≤ O) := by have := hb0.size; have := hb1.size; unfold Hid; omega
  clear hw2 hO hr1 d1 d2 hb1 hb2 hb0
  have S1 := search1_at (fun k => !below s p (L.getD k 0)) X O (X + 1) s.size w2 hs (fun i j hij hj hi => by
      rcases Nat.lt_or_ge i j with h | h
      · cases e : below s p (L.getD j 0) with
        | false => rfl
        | true => rw [below_up (HL.out.lt h hj) e] at hi; exact hi
      · obtain rfl : i = j := by omega
        exact hi)
    (fun k hk W hd => find1_at s p X O (X + 1) A 0 s.size s.size k (L.getD k 0) W hs ⟨at_bl hd.bl cap2.s, at_bl hd.bl cap2.o, at_bl hd.bl cap2.p⟩ hk hs (by rw [Nat.zero_add, (hr2.step hd.bl).cell (by rw [ints_len, HL.out.len]; exact hk), ints_at]) (Nat.le_of_lt (HL.out.lt_N k hk)))
  refine S1.mono ?_
  rintro e w3 ⟨f, rfl, hf, q1, q2, hd3⟩
  have hr3 := hr2.step hd3.bl
  have cap3 : Cap w3 X O (X + 1) s p (.slice (some ⟨A, 0, none⟩) s.size s.size) := ⟨at_bl hd3.bl cap2.s, at_bl hd3.bl cap2.o, at_bl hd3.bl cap2.p⟩
  have HB3 : Hid (Bl w w3) := HB.out.trans hd3.bl
  obtain ⟨o1, o2, o3⟩ := cap3
  have HQ : Hid ((∀ i, i < f → below s p (L.getD i 0) = true) ∧ (∀ i, f ≤ i → i < s.size → below s p (L.getD i 0) = false)) := ⟨fun i hi => by simpa using q1 i hi, fun i h1 h2 => by simpa using q2 i h1 h2⟩
  have hfz : w3.frozen? ⟨O, 0, none⟩ = false := by obtain ⟨q, rfl⟩ := hd3; exact hfr
  have hOX : O ≠ X ∧ O ≠ X + 1 := by have := HX.out; have := HW.out; omega
  clear S1 cap2 hr2 hd3 q1 q2 HB hfr
  rcases Nat.lt_or_ge f s.size with hfl | hfl
  · have n1 : ¬ s.size = f := by omega
    go_wp2_with (fail)
    obtain ⟨M, hM⟩ : ∃ M, M = s.size - f := ⟨_, rfl⟩
    rw [← hM]
    have hM' : f + M = s.size := by omega
    have HM : Hid (f + M = s.size) := hM'
    have hM4 : M ≤ 4000 := by omega
    clear hM hM' n1
    obtain ⟨w4, hw4⟩ : ∃ w4, w4 = w3.setCell ⟨O, 0, none⟩ (.slice (some ⟨A, f, none⟩) M M) := ⟨_, rfl⟩
    have hr4 : RowI w4 A (ints L) := by rw [hw4]; exact rowI_other hr3 (by omega) _ _
    have p1 : w4.cell? ⟨X, 0, none⟩ = some (.string s) := by rw [hw4, World.cell?_setCell_far _ _ _ _ (by simp; omega)]; exact o1
    have p2 : w4.cell? ⟨O, 0, none⟩ = some (.slice (some ⟨A, f, none⟩) M M) := by rw [hw4]; exact cell_set_self o2
    have p3 : w4.cell? ⟨X + 1, 0, none⟩ = some (.string p) := by rw [hw4, World.cell?_setCell_far _ _ _ _ (by simp; omega)]; exact o3
    have HB4 : Hid (Bl w w4) := by rw [hw4]; exact HB3.out.setCell HO.out _
    rw [← hw4]
    clear hw4 hr3 o1 o2 o3 hfz HB3
    have S2 := search2_at (fun k => !pre (s.extract (L.getD (f + k) 0) s.size) p) X O (X + 1) M w4 (by omega) (fun i j hij hj hi => by
        have hM := HM.out
        rcases Nat.lt_or_ge i j with h | h
        · rw [Bool.not_eq_true'] at hi ⊢
          rw [← Bool.not_eq_true, pre_iff s p _ (Nat.le_of_lt (HL.out.lt_N _ (by omega))) h0] at hi ⊢
          exact fun hb => hi (begins_down (HL.out.lt (by omega) (by omega)) (HQ.out.2 _ (by omega) (by omega)) hb)
        · obtain rfl : i = j := by omega
          exact hi)
      (fun k hk W hd => find2_at s p X O (X + 1) A f M M k (L.getD (f + k) 0) W hs ⟨at_bl hd.bl p1, at_bl hd.bl p2, at_bl hd.bl p3⟩ hk (by omega) (by rw [(hr4.step hd.bl).cell (by have := HM.out; rw [ints_len, HL.out.len]; omega), ints_at]) (Nat.le_of_lt (HL.out.lt_N _ (by have := HM.out; omega))))
    refine S2.mono ?_
    rintro e w5 ⟨k, rfl, hk, q3, q4, hd5⟩
    have hr5 := hr4.step hd5.bl
    have o5 := at_bl hd5.bl p2
    have HB5 : Hid (Bl w w5) := HB4.out.trans hd5.bl
    have hM := HM.out
    have hperm : ((L.drop f).take k).Perm (pls (sb p) (sb s) p.size s.size) := by
      refine found_is HL.out h0 f k (by omega) HQ.out.1 HQ.out.2 (fun i hi => ?_) (fun i h1 h2 => ?_)
      · have := q3 i hi
        rw [Bool.not_eq_false'] at this
        exact (pre_iff s p _ (Nat.le_of_lt (HL.out.lt_N _ (by omega))) h0).1 this
      · have := q4 i h1 (by omega)
        rw [Bool.not_eq_true'] at this
        rw [← pre_iff s p _ (Nat.le_of_lt (HL.out.lt_N _ (by omega))) h0, this]
        decide
    have HP : Hid ((ints ((L.drop f).take k)).mergeSort (fun x y => decide (x ≤ y)) = ints (pls (sb p) (sb s) p.size s.size)) := sort_same _ _ (sta_rising _ _) (hperm.map _)
    clear hM hperm
    clear S2 p1 p2 p3 hr4 hd5 q3 q4 HB4
    go_wp2_with (fail)
    refine (clone_at A f k M (ints ((L.drop f).take k)) w5 (by have := HM.out; have := HL.out.len; rw [ints_len, List.length_take, List.length_drop]; omega) (by rw [ints_len]; exact Nat.le_trans (List.length_take_le _ _) (by omega)) (fun j hj => by have := HM.out; have := HL.out.len; rw [ints_len, List.length_take, List.length_drop] at hj; rw [hr5.cell (by rw [ints_len]; omega), ints_at, ints_at, getD_part L f k j (by omega)])).mono ?_
    rintro e w6 ⟨v, rfl, ho6, hb6⟩
    go_wp2_with (fail)
    refine (sortI_at v _ w6 _ ho6 (by rw [ints_len]; exact Nat.le_trans (List.length_take_le _ _) (by omega))).mono ?_
    rintro e w7 ⟨rfl, ho7, hg7⟩
    go_wp2
    go_ret2
    rw [HP.out] at ho7
    refine ⟨v, rfl, own_mono ho7 HB5.out.size, bl_grown (HB5.out.trans hb6) hg7 fun j e => ?_⟩
    exact Nat.le_trans HB5.out.size (ho6.block j e).1
  · have n1 : s.size = f := by omega
    subst n1
    go_wp2_with (fail)
    obtain ⟨w4, hw4⟩ : ∃ w4, w4 = w3.setCell ⟨O, 0, none⟩ (.slice (some ⟨A, 0, none⟩) 0 0) := ⟨_, rfl⟩
    have hr4 : RowI w4 A (ints L) := by rw [hw4]; exact rowI_other hr3 (by omega) _ _
    have p1 : w4.cell? ⟨X, 0, none⟩ = some (.string s) := by rw [hw4, World.cell?_setCell_far _ _ _ _ (by simp; omega)]; exact o1
    have p2 : w4.cell? ⟨O, 0, none⟩ = some (.slice (some ⟨A, 0, none⟩) 0 0) := by rw [hw4]; exact cell_set_self o2
    have p3 : w4.cell? ⟨X + 1, 0, none⟩ = some (.string p) := by rw [hw4, World.cell?_setCell_far _ _ _ _ (by simp; omega)]; exact o3
    have HB4 : Hid (Bl w w4) := by rw [hw4]; exact HB3.out.setCell HO.out _
    rw [← hw4]
    clear hw4 hr3 o1 o2 o3 hfz HB3
    have S2 := search2_at (fun k => !pre (s.extract (L.getD (s.size + k) 0) s.size) p) X O (X + 1) 0 w4 (by omega) (fun i j hij hj hi => by
        omega)
      (fun k hk W hd => find2_at s p X O (X + 1) A 0 0 0 k (L.getD (s.size + k) 0) W hs ⟨at_bl hd.bl p1, at_bl hd.bl p2, at_bl hd.bl p3⟩ hk (by omega) (by omega) (by omega))
    refine S2.mono ?_
    rintro e w5 ⟨k, rfl, hk, q3, q4, hd5⟩
    have hr5 := hr4.step hd5.bl
    have o5 := at_bl hd5.bl p2
    have HB5 : Hid (Bl w w5) := HB4.out.trans hd5.bl
    obtain rfl : k = 0 := by omega
    have hperm : ((L.drop s.size).take 0).Perm (pls (sb p) (sb s) p.size s.size) := found_is HL.out h0 s.size 0 (by omega) HQ.out.1 HQ.out.2 (fun i hi => by omega) (fun i h1 h2 => by omega)
    have HP : Hid ((ints ((L.drop s.size).take 0)).mergeSort (fun x y => decide (x ≤ y)) = ints (pls (sb p) (sb s) p.size s.size)) := sort_same _ _ (sta_rising _ _) (hperm.map _)
    clear hperm
    clear S2 p1 p2 p3 hr4 hd5 q3 q4 HB4
    go_wp2_with (fail)
    refine (clone_at A 0 0 0 (ints ((L.drop s.size).take 0)) w5 rfl (by rw [ints_len]; exact Nat.le_trans (List.length_take_le _ _) (by omega)) (fun j hj => absurd hj (Nat.not_lt_zero _))).mono ?_
    rintro e w6 ⟨v, rfl, ho6, hb6⟩
    go_wp2_with (fail)
    refine (sortI_at v _ w6 _ ho6 (by rw [ints_len]; exact Nat.le_trans (List.length_take_le _ _) (by omega))).mono ?_
    rintro e w7 ⟨rfl, ho7, hg7⟩
    go_wp2
    go_ret2
    rw [HP.out] at ho7
    refine ⟨v, rfl, own_mono ho7 HB5.out.size, bl_grown (HB5.out.trans hb6) hg7 fun j e => ?_⟩
    exact Nat.le_trans HB5.out.size (ho6.block j e).1
end Go.Proofs.YtnhdaolieifhnaaGreatDoor.sx
