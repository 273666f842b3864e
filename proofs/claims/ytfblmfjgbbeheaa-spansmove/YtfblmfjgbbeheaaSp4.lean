/- What sorted of package spans answers: the spans that have a place from 0 on, in the order of where they begin. -/
import Derived.Test.YtfblmfjgbbeheaaSp3
import Derived.OwnWalk
namespace Go.Proofs.Ytfblmfjgbbeheaa.sp
set_option linter.unusedVariables false
open Go.ChangeShapes Go.WideShapes Go.ChangeAt Go.RowKit
open mem rows span

theorem bl_grown {w0 w w' : World} {row : Option Nat} (h : Bl w0 w) (hg : w.grownBy w' row) (hrow : ∀ k, row = some k → w0.heap.size ≤ k) : Bl w0 w' := by
  refine ⟨hg.os.trans h.os, hg.tape.trans h.tape, hg.output.trans h.output, Nat.le_trans h.size hg.size, fun k hk => ?_⟩
  rw [hg.block k (Nat.lt_of_lt_of_le hk h.size) (fun e => by have := hrow k e.symm; omega)]
  exact h.block k hk
theorem _root_.Go.Proofs.Ytfblmfjgbbeheaa.rows.OwnS.alloc {w : World} {base : Nat} {v : Value} {l : List (Int × Int)} (h : OwnS w base v l) (o : Obj) : OwnS (w.alloc o) base v l := h.step ((Bl.refl w).alloc o)
theorem _root_.Go.Proofs.Ytfblmfjgbbeheaa.rows.OwnS.set_other {w : World} {base : Nat} {v : Value} {l : List (Int × Int)} (h : OwnS w base v l) {a : Addr} (ha : ∀ k, v.ownBlock = some k → a.block ≠ k) (x : Value) : OwnS (w.setCell a x) base v l := by
  refine ⟨h.1, ?_⟩
  rcases h.2 with h | ⟨g, cap, cur, h1, h2, h3, h4⟩
  · exact Or.inl h
  · refine Or.inr ⟨g, cap, cur, h1, h2, ?_, h4⟩
    have hne : ¬ a.block = g := ha g (by rw [h1]; rfl)
    simp [World.setCell, Array.getElem?_modify, hne, h3]
theorem _root_.Go.Proofs.Ytfblmfjgbbeheaa.rows.OwnS.set_new {w : World} {base : Nat} {v : Value} {l : List (Int × Int)} (h : OwnS w base v l) (o : Obj) (k : Nat) (x : Value) : OwnS ((w.alloc o).setCell ⟨w.heap.size, k, none⟩ x) base v l :=
  (h.alloc o).set_other (fun j e e' => by have := (h.block j e).2; simp only at e'; omega) x
theorem _root_.Go.Proofs.Ytfblmfjgbbeheaa.rows.OwnS.slice {w : World} {base : Nat} {v : Value} {l : List (Int × Int)} (h : OwnS w base v l) : ∃ p c, v = .slice p l.length c := by
  rcases h.shape with ⟨rfl, rfl⟩ | ⟨g, cap, rfl, _⟩
  · exact ⟨_, _, rfl⟩
  · exact ⟨_, _, rfl⟩
/-- Those that have a place from 0 on. -/
def keepS (l : List (Int × Int)) : List (Int × Int) := (l.map fun x => (max x.1 0, x.2)).filter fun x => decide (x.1 < x.2)
theorem take_nth (l : List (Int × Int)) (k : Nat) (h : k < l.length) : l.take (k + 1) = l.take k ++ [nth l k] := by
  rw [List.take_succ_eq_append_getElem h]
  unfold nth
  rw [List.getD_eq_getElem?_getD, List.getElem?_eq_getElem h]
  rfl
theorem keepS_yes (l : List (Int × Int)) (k : Nat) (h : k < l.length) (hy : max (nth l k).1 0 < (nth l k).2) : keepS (l.take (k + 1)) = keepS (l.take k) ++ [(max (nth l k).1 0, (nth l k).2)] := by
  unfold keepS
  rw [take_nth l k h, List.map_append, List.filter_append]
  congr 1
  simp only [List.map_cons, List.map_nil, List.filter_cons, List.filter_nil]
  rw [if_pos (decide_eq_true hy)]
theorem keepS_no (l : List (Int × Int)) (k : Nat) (h : k < l.length) (hy : ¬ max (nth l k).1 0 < (nth l k).2) : keepS (l.take (k + 1)) = keepS (l.take k) := by
  unfold keepS
  rw [take_nth l k h, List.map_append, List.filter_append]
  simp only [List.map_cons, List.map_nil, List.filter_cons, List.filter_nil]
  rw [if_neg (by simpa using hy), List.append_nil]
theorem keepS_len (l : List (Int × Int)) : (keepS l).length ≤ l.length := by
  unfold keepS
  refine Nat.le_trans (List.length_filter_le _ _) ?_
  rw [List.length_map]
  exact Nat.le_refl _
theorem sorted_at (v : Value) (l : List (Int × Int)) (w : World) (hv : View w v l) (hl : l.length ≤ 4000) :
    Calls Try.prog 34 #[v] w fun e w' => ∃ v' l', e = .returned v' ∧ OwnS w' w.heap.size v' l' ∧ l'.Perm (keepS l) ∧ l'.Pairwise (fun x y => x.1 ≤ y.1) ∧ Bl w w' := by
  obtain ⟨q, c, rfl, hq⟩ := hv
  obtain ⟨m, hm⟩ : ∃ m, m = l.length := ⟨_, rfl⟩
  obtain ⟨base, hbase⟩ : ∃ b, b = w.heap.size := ⟨_, rfl⟩
  rw [← hbase]
  rw [← hm] at hl ⊢
  have HM : Hid (m = l.length) := hm
  have HB : Hid (base = w.heap.size) := hbase
  have HP : Hid (InS w q l) := hq
  clear hm hq hbase
  have cS := fun v L wq h1 h2 => sort_at v L wq base h1 h2
  go_enter Try.func34, Try.ntmps34
  go_wp2
  go_loopw [3, 8] (fun sv i wr => ∃ k : Nat, k ≤ m ∧ i = .int .i64 (k : Int) ∧ OwnS wr base sv (keepS (l.take k)) ∧ Bl w wr) (fun _ i _ => m - (intOf i).toNat)
  case atStart => exact ⟨0, Nat.zero_le _, rfl, OwnS.nil _ _, Bl.refl _⟩
  case round =>
    obtain ⟨k, hk, rfl, hown, hbl⟩ := hrel
    have hkl := keepS_len (l.take k)
    rw [List.length_take] at hkl
    by_cases hlt : k < m
    · have hlz : (k : Int) < (m : Int) := by omega
      obtain ⟨x, rfl, hc1, hc2⟩ := (HP.out.step hbl).at k (by rw [← HM.out]; exact hlt)
      have HY : Hid (max (nth l k).1 0 < (nth l k).2 → keepS (l.take (k + 1)) = keepS (l.take k) ++ [(max (nth l k).1 0, (nth l k).2)]) := keepS_yes l k (by rw [← HM.out]; exact hlt)
      have HN : Hid (¬ max (nth l k).1 0 < (nth l k).2 → keepS (l.take (k + 1)) = keepS (l.take k)) := keepS_no l k (by rw [← HM.out]; exact hlt)
      generalize keepS (l.take k) = L at hown hkl HY HN
      generalize (nth l k).1 = a at hc1 HN HY
      generalize (nth l k).2 = b at hc2 HN HY
      obtain ⟨M, hM⟩ : ∃ M, max a 0 = M := ⟨_, rfl⟩
      rw [hM] at HY HN
      by_cases h1 : M < b
      · have HY' := HY.out h1
        clear HY
        have HY : Hid (keepS (l.take (k + 1)) = L ++ [(M, b)]) := HY'
        clear HY'
        clear HN
        have hL : L.length ≤ 4000 := by omega
        clear hkl
        go_wp2_with (at_builtin; refine wpL_appS rfl (.tmp 21) (.tmp 23) rfl rfl _ _ (M, b) (wr.heap.size + 1) rfl rfl _ ((hown.alloc _).alloc _) (by go_simp) (by go_simp) (by omega) (by have := hbl.size; rw [← HB.out] at this; simp; omega) ?_; intro v' w3 hw3 hg3; have hb3 : Bl w w3 := bl_grown ((hbl.alloc _).alloc _) hg3 (fun k e => by rw [← HB.out]; exact (hown.block k e).1); clear hg3)
        go_roundw
        case rel => exact ⟨k + 1, by omega, by go_num, by rw [HY.out]; exact hw3, hb3⟩
        case measure => simp [intOf]; omega
      · have HN' := HN.out h1
        clear HN
        have HN : Hid (keepS (l.take (k + 1)) = L) := HN'
        clear HN'
        clear HY
        go_wp2
        go_roundw
        case rel => exact ⟨k + 1, by omega, by go_num, by rw [HN.out]; exact hown.alloc _, hbl.alloc _⟩
        case measure => simp [intOf]; omega
    · obtain rfl : k = m := by omega
      have hL : keepS (l.take k) = keepS l := by rw [HM.out, List.take_length]
      rw [hL] at hown
      have hkl2 := keepS_len l
      have HL : Hid ((keepS l).length ≤ 5000) := by rw [← HM.out] at hkl2; exact Nat.le_trans hkl2 (by omega)
      clear hkl hkl2 hL
      go_wp2_with (go_at_call 36; refine (cS _ _ _ hown HL.out).mono ?_; rintro e w3 ⟨rfl, l', hp, hs, ho, hg⟩; have hb3 : Bl w w3 := bl_grown hbl hg (fun k e => by rw [← HB.out]; exact (hown.block k e).1))
      go_ret
      exact ⟨_, l', rfl, ho, hp, hs, hb3⟩
end Go.Proofs.Ytfblmfjgbbeheaa.sp
