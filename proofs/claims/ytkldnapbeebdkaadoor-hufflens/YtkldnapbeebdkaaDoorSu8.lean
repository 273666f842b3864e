/- What the document's own HuffSigns answers: what it has at hand. -/
import Derived.Test.YtkldnapbeebdkaaDoorSu7
import Derived.Test.YtkldnapbeebdkaaDoorHg2
import Derived.Test.YtkldnapbeebdkaaDoorHf5
import Derived.Deep.RegionHeld3
import Derived.Deep.RegionWith
namespace Go.Proofs.YtkldnapbeebdkaaDoor.su
set_option linter.unusedVariables false
open Go.ChangeShapes Go.WideShapes Go.ChangeAt Go.RowKit
open mem rows hg
theorem within_at (n a b : Int) (w : World) : Calls Tryd.prog 17 #[.int .i64 n, .int .i64 a, .int .i64 b] w fun e w' => e = .returned (.bool (decide (a ≤ n ∧ n ≤ b))) ∧ w' = w := by
  by_cases h1 : a ≤ n
  · by_cases h2 : n ≤ b
    · rw [decide_eq_true ⟨h1, h2⟩]
      go_enter Tryd.func17, Tryd.ntmps17
      go_wp2
      go_ret
      exact ⟨rfl, rfl⟩
    · rw [decide_eq_false (fun h => h2 h.2)]
      go_enter Tryd.func17, Tryd.ntmps17
      go_wp2
      go_ret
      exact ⟨rfl, rfl⟩
  · rw [decide_eq_false (fun h => h1 h.1)]
    go_enter Tryd.func17, Tryd.ntmps17
    go_wp2
    go_ret
    exact ⟨rfl, rfl⟩
theorem wrap_u6 (n : Int) (h0 : 0 ≤ n) (h1 : n < 18446744073709551616) : IntKind.u64.wrap n = n := by rw [IntKind.wrap_u64]; omega
theorem wrap_i6 (n : Int) (h0 : -9223372036854775808 ≤ n) (h1 : n < 9223372036854775808) : IntKind.i64.wrap n = n := by rw [IntKind.wrap_i64]; omega
theorem pow2_at (n r : Nat) (hn : n ≤ 63) (hr : 2 ^ n = r) (w : World) : Calls Tryd.prog 24 #[.int .i64 n] w fun e w' => e = .returned (.int .u64 r) ∧ w' = w := by
  go_enter Tryd.func24, Tryd.ntmps24
  go_wp2
  go_loop [0, 3] (fun i o => ∃ k y : Nat, k ≤ n ∧ i = .int .i64 (k : Int) ∧ o = .int .u64 (y : Int) ∧ Hid (y = 2 ^ (n - k))) (fun i _ => (intOf i).toNat)
  case atStart => exact ⟨n, 1, Nat.le_refl _, rfl, rfl, by simp [Hid]⟩
  case round =>
    obtain ⟨k, y, hk, rfl, rfl, HY⟩ := hrel
    by_cases h0 : 0 < k
    · have t1 : (0 : Int) < (k : Int) := by omega
      obtain ⟨k', hk'⟩ : ∃ k', k = k' + 1 := ⟨k - 1, by omega⟩
      obtain ⟨y', hy'⟩ : ∃ y', y' = y * 2 := ⟨_, rfl⟩
      have hyl : y ≤ 2 ^ 62 := by rw [HY.out]; exact Nat.pow_le_pow_right (by omega) (by omega)
      have t2 : IntKind.u64.wrap ((y : Int) * 2) = (y' : Int) := (wrap_u6 _ (by omega) (by omega)).trans (by omega)
      have t3 : IntKind.i64.wrap ((k : Int) - 1) = (k' : Int) := (wrap_i6 _ (by omega) (by omega)).trans (by omega)
      have HY' : Hid (y' = 2 ^ (n - k')) := by
        have e : n - k' = (n - k) + 1 := by omega
        rw [hy', e, Nat.pow_succ, ← HY.out]; rfl
      have HK : Hid (k = k' + 1) := hk'
      clear hk' hy'
      go_wp2
      go_round
      case rel => exact ⟨k', y', by have := HK.out; omega, by simp [*], by simp [*], HY'⟩
      case measure => have := HK.out; simp [intOf]; omega
    · obtain rfl : k = 0 := by omega
      have hyr : y = r := by rw [HY.out, ← hr]; rfl
      clear HY
      subst hyr
      go_wp2
      go_ret
      exact ⟨rfl, rfl⟩
/-- Both variables that lie in boxes: the lengths, and the things that have bits; O's row lies apart. -/
structure Sg (w : World) (p : Option Addr) (n c base X O : Nat) (wr : World) (v : Value) (L : List Nat) : Prop where
  x : wr.cell? ⟨X, 0, none⟩ = some (.slice p n c)
  o : wr.cell? ⟨O, 0, none⟩ = some v
  fo : wr.frozen? ⟨O, 0, none⟩ = false
  own : Own wr base v (ints L)
  bl : Bl w wr
  sz : base ≤ wr.heap.size
theorem frozen_far {w w' : World} {row : Option Nat} (hg : w.grownBy w' row) (a : Addr) (hlt : a.block < w.heap.size) (hne : some a.block ≠ row) : w'.frozen? a = w.frozen? a := by
  have := hg.block a.block hlt hne
  unfold World.frozen?
  rw [this]
theorem Sg.push {w wr : World} {p : Option Addr} {n c base X O : Nat} {v : Value} {L : List Nat} (S : Sg w p n c base X O wr v L) (hX : X < base) (hO : O < base) (hwO : w.heap.size ≤ O) (hne : X ≠ O) (hwb : w.heap.size ≤ base) (z : Nat) (hL : L.length ≤ 4000) :
    ∃ v' w', (Builtin.append_ #[22, 22] 22 #[v, .slice (some ⟨wr.heap.size, 0, none⟩) 1 1]).run Tryd.prog (wr.alloc (.cells #[.int .i64 (z : Int)] 3)) = .ok v' w' ∧ w'.cell? ⟨O, 0, none⟩ = some v ∧ w'.frozen? ⟨O, 0, none⟩ = false ∧ (∃ g cap, v' = .slice (some ⟨g, 0, none⟩) (L.length + 1) cap) ∧ Sg w p n c base X O (w'.setCell ⟨O, 0, none⟩ v') v' (L ++ [z]) := by
  have hb2 : Bl wr (wr.alloc (.cells #[.int .i64 (z : Int)] 3)) := (Bl.refl wr).alloc _
  have s2 := S.sz
  obtain ⟨v', w', hr, ho, hg, hbk⟩ := app_one (wr.alloc (.cells #[.int .i64 (z : Int)] 3)) base v (ints L) (z : Int) wr.heap.size (S.own.step hb2) (by simp) (by rw [ints_len]; omega) (Nat.le_trans s2 hb2.size)
  have hrow : ∀ k, v.ownBlock = some k → base ≤ k := fun k e => (S.own.block k e).1
  have neX : some X ≠ v.ownBlock := fun e => by have := hrow X e.symm; omega
  have neO : some O ≠ v.ownBlock := fun e => by have := hrow O e.symm; omega
  have sz2 := hb2.size
  have cO : w'.cell? ⟨O, 0, none⟩ = some v := by rw [hg.cell_far ⟨O, 0, none⟩ (by show O < _; omega) neO]; exact at_bl hb2 S.o
  have cX : w'.cell? ⟨X, 0, none⟩ = some (.slice p n c) := by rw [hg.cell_far ⟨X, 0, none⟩ (by show X < _; omega) neX]; exact at_bl hb2 S.x
  have fO : w'.frozen? ⟨O, 0, none⟩ = false := by
    rw [frozen_far hg ⟨O, 0, none⟩ (by show O < _; omega) neO, hf.fz_bl hb2 (by show O < _; omega)]
    exact S.fo
  have hbl : Bl w w' := bl_grown (S.bl.trans hb2) hg (fun k e => by have := hrow k e; omega)
  have hv' : ∃ g cap, v' = .slice (some ⟨g, 0, none⟩) (L.length + 1) cap := by
    rcases ho.shape with ⟨_, h⟩ | ⟨g, cap, h, _⟩
    · simp at h
    · exact ⟨g, cap, by rw [h, List.length_append, ints_len]; rfl⟩
  refine ⟨v', w', hr, cO, fO, hv', ?_, ?_, ?_, ?_, hbl.setCell hwO _, ?_⟩
  · rw [World.cell?_setCell_far _ _ _ _ (by simp; omega)]; exact cX
  · exact World.cell?_setCell_same _ _ _ cO
  · simp [fO]
  · have e : ints (L ++ [z]) = ints L ++ [(z : Int)] := by simp [ints]
    rw [e]
    refine ho.kept (row := some O) (hf.grown_setB (World.grownBy.refl w' (some O)) 0 v') (fun k e h => ?_)
    injection h with h
    have := (ho.block k e).1
    omega
  · have := hg.size
    simp
    omega
theorem Sg.kept {w wr w2 : World} {p : Option Addr} {n c base X O : Nat} {v : Value} {L M : List Nat} {row : Option Nat} (S : Sg w p n c base X O wr v L) (hg : wr.grownBy w2 row) (hr : ∀ k, row = some k → base ≤ k) (hX : X < base) (hO : O < base) (hwb : w.heap.size ≤ base) (ho : Own w2 base v (ints M)) : Sg w p n c base X O w2 v M := by
  have s2 := S.sz
  have neX : some X ≠ row := fun e => by have := hr X e.symm; omega
  have neO : some O ≠ row := fun e => by have := hr O e.symm; omega
  refine ⟨?_, ?_, ?_, ho, bl_grown S.bl hg (fun k e => by have := hr k e; omega), Nat.le_trans s2 hg.size⟩
  · rw [hg.cell_far ⟨X, 0, none⟩ (by show X < _; omega) neX]; exact S.x
  · rw [hg.cell_far ⟨O, 0, none⟩ (by show O < _; omega) neO]; exact S.o
  · rw [frozen_far hg ⟨O, 0, none⟩ (by show O < _; omega) neO]; exact S.fo
/-- The row that is sorted: what the sort answers. -/
theorem Sg.sort {w wr : World} {p : Option Addr} {n c base X O : Nat} {v : Value} {L : List Nat} (l : List Int) (S : Sg w p n c base X O wr v L) (hin : In w p l) (hn : n = l.length) (hn2 : n ≤ 256) (hX : X < base) (hO : O < base) (hwb : w.heap.size ≤ base) (hL : L.Pairwise (· < ·)) (hm : ∀ x, x ∈ L ↔ x < l.length ∧ 0 < l.getD x 0) (hl : L.length ≤ 256) :
    Calls Tryd.prog 25 #[.iface 22 v, .func (.func 26) #[] #[.pointer (some ⟨X, 0, none⟩), .pointer (some ⟨O, 0, none⟩)]] wr fun e w' => e = .returned (.tuple #[]) ∧ ∃ M, Sg w p n c base X O w' v M ∧ hg.IsM l M ∧ M.length = L.length := by
  obtain ⟨q, c', hv, hq⟩ : ∃ q c', v = .slice q L.length c' ∧ (0 < L.length → ∃ A, q = some ⟨A, 0, none⟩ ∧ base ≤ A) := by
    rcases S.own.shape with ⟨h, h0⟩ | ⟨g, cap, h, hb, _⟩
    · have : L = [] := by simpa [ints] using h0
      subst this
      exact ⟨none, 0, h, fun h => by simp at h⟩
    · exact ⟨_, cap, by rw [h, ints_len], fun _ => ⟨g, rfl, hb⟩⟩
  subst hv
  by_cases h0 : 0 < L.length
  · obtain ⟨A, rfl, hA⟩ := hq h0
    have hl0 : ∃ px, p = some px ∧ ∀ k, k < l.length → w.cell? (px.add k) = some (.int .i64 (l.getD k 0)) := by
      rcases hin with h | h
      · have := (hm (L[0]'h0)).1 (List.getElem_mem _)
        rw [h] at this
        simp at this
      · exact h
    obtain ⟨px, rfl, hpx⟩ := hl0
    have hpb : px.block < w.heap.size := by
      have hx := (hm (L[0]'h0)).1 (List.getElem_mem _)
      have h := hpx (L[0]'h0) hx.1
      have e : (px.add (L[0]'h0)).block = px.block := by unfold Addr.add; split <;> rfl
      rcases Nat.lt_or_ge px.block w.heap.size with h1 | h1
      · exact h1
      · unfold World.cell? at h
        rw [e, Array.getElem?_eq_none h1] at h
        simp at h
    have hx := S.x
    rw [hn] at hx
    refine (stable_ints l X O A c' c base px L wr (by omega) hL (fun x hx => ((hm x).1 hx).1) (by omega) S.own hx S.o (fun k hk => at_bl S.bl (hpx k hk)) (by omega) (by omega) (by omega)).mono ?_
    rintro e w' ⟨rfl, hg, M, hp, hpw, ho⟩
    have hml := hp.length_eq
    exact ⟨rfl, M, S.kept hg (fun k e => by injection e with e; omega) hX hO hwb ho, ⟨hpw, fun x => by rw [hp.mem_iff]; exact hm x⟩, hml⟩
  · have hL0 : L = [] := List.eq_nil_of_length_eq_zero (by omega)
    subst hL0
    refine (tiny_at q 0 c' (by omega) _ _ _ wr).mono ?_
    rintro e w' ⟨rfl, os, rfl⟩
    exact ⟨rfl, [], S.kept (grown_grow wr os none) (fun k e => by cases e) hX hO hwb (Own.grown S.own (grown_grow _ _ _)), ⟨List.Pairwise.nil, hm⟩, rfl⟩
end Go.Proofs.YtkldnapbeebdkaaDoor.su
