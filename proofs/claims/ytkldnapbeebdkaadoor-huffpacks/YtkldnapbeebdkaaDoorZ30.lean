/- Texts laid together: Su8, Hr2. -/
import Derived.Test.YtkldnapbeebdkaaDoorZ29
import Derived.Test.YtkldnapbeebdkaaDoorZ18
import Derived.Test.YtkldnapbeebdkaaDoorZ14
import Derived.Deep.RegionHeld3
import Derived.Deep.RegionWith
import Derived.Test.YtkldnapbeebdkaaDoorZ24
import Derived.Test.YtkldnapbeebdkaaDoorZ25
import Derived.Deep.RegionLaw
/- What the document's own HuffSigns answers: what it has at hand. -/
namespace Go.Proofs.YtkldnapbeebdkaaDoor.su
set_option linter.unusedVariables false
open Go.ChangeShapes Go.WideShapes Go.ChangeAt Go.RowKit
open mem rows hg
theorem within_at (n a b : Int) (w : World) : Calls Tryd.prog 17 #[.int .i64 n, .int .i64 a, .int .i64 b] w fun e w' => e = .returned (.bool (decide (a ≤ n ∧ n ≤ b))) ∧ w' = w := by
  by_cases h1 : a ≤ n
  · by_cases h2 : n ≤ b
    · rw [decide_eq_true ⟨h1, h2⟩]
      go_enter Tryd.func17, Tryd.ntmps17
      go_wp2
      go_ret
      exact ⟨rfl, rfl⟩
    · rw [decide_eq_false (fun h => h2 h.2)]
      go_enter Tryd.func17, Tryd.ntmps17
      go_wp2
      go_ret
      exact ⟨rfl, rfl⟩
  · rw [decide_eq_false (fun h => h1 h.1)]
    go_enter Tryd.func17, Tryd.ntmps17
    go_wp2
    go_ret
    exact ⟨rfl, rfl⟩
theorem wrap_u6 (n : Int) (h0 : 0 ≤ n) (h1 : n < 18446744073709551616) : IntKind.u64.wrap n = n := by rw [IntKind.wrap_u64]; omega
theorem wrap_i6 (n : Int) (h0 : -9223372036854775808 ≤ n) (h1 : n < 9223372036854775808) : IntKind.i64.wrap n = n := by rw [IntKind.wrap_i64]; omega
theorem pow2_at (n r : Nat) (hn : n ≤ 63) (hr : 2 ^ n = r) (w : World) : Calls Tryd.prog 24 #[.int .i64 n] w fun e w' => e = .returned (.int .u64 r) ∧ w' = w := by
  go_enter Tryd.func24, Tryd.ntmps24
  go_wp2
  go_loop [0, 3] (fun i o => ∃ k y : Nat, k ≤ n ∧ i = .int .i64 (k : Int) ∧ o = .int .u64 (y : Int) ∧ Hid (y = 2 ^ (n - k))) (fun i _ => (intOf i).toNat)
  case atStart => exact ⟨n, 1, Nat.le_refl _, rfl, rfl, by simp [Hid]⟩
  case round =>
    obtain ⟨k, y, hk, rfl, rfl, HY⟩ := hrel
    by_cases h0 : 0 < k
    · have t1 : (0 : Int) < (k : Int) := by omega
      obtain ⟨k', hk'⟩ : ∃ k', k = k' + 1 := ⟨k - 1, by omega⟩
      obtain ⟨y', hy'⟩ : ∃ y', y' = y * 2 := ⟨_, rfl⟩
      have hyl : y ≤ 2 ^ 62 := by rw [HY.out]; exact Nat.pow_le_pow_right (by omega) (by omega)
      have t2 : IntKind.u64.wrap ((y : Int) * 2) = (y' : Int) := (wrap_u6 _ (by omega) (by omega)).trans (by omega)
      have t3 : IntKind.i64.wrap ((k : Int) - 1) = (k' : Int) := (wrap_i6 _ (by omega) (by omega)).trans (by omega)
      have HY' : Hid (y' = 2 ^ (n - k')) := by
        have e : n - k' = (n - k) + 1 := by omega
        rw [hy', e, Nat.pow_succ, ← HY.out]; rfl
      have HK : Hid (k = k' + 1) := hk'
      clear hk' hy'
      go_wp2
      go_round
      case rel => exact ⟨k', y', by have := HK.out; omega, by simp [*], by simp [*], HY'⟩
      case measure => have := HK.out; simp [intOf]; omega
    · obtain rfl : k = 0 := by omega
      have hyr : y = r := by rw [HY.out, ← hr]; rfl
      clear HY
      subst hyr
      go_wp2
      go_ret
      exact ⟨rfl, rfl⟩
/-- Both variables that lie in boxes: the lengths, and the things that have bits; O's row lies apart. -/
structure Sg (w : World) (p : Option Addr) (n c base X O : Nat) (wr : World) (v : Value) (L : List Nat) : Prop where
  x : wr.cell? ⟨X, 0, none⟩ = some (.slice p n c)
  o : wr.cell? ⟨O, 0, none⟩ = some v
  fo : wr.frozen? ⟨O, 0, none⟩ = false
  own : Own wr base v (ints L)
  bl : Bl w wr
  sz : base ≤ wr.heap.size
theorem frozen_far {w w' : World} {row : Option Nat} (hg : w.grownBy w' row) (a : Addr) (hlt : a.block < w.heap.size) (hne : some a.block ≠ row) : w'.frozen? a = w.frozen? a := by
  have := hg.block a.block hlt hne
  unfold World.frozen?
  rw [this]
theorem Sg.push {w wr : World} {p : Option Addr} {n c base X O : Nat} {v : Value} {L : List Nat} (S : Sg w p n c base X O wr v L) (hX : X < base) (hO : O < base) (hwO : w.heap.size ≤ O) (hne : X ≠ O) (hwb : w.heap.size ≤ base) (z : Nat) (hL : L.length ≤ 4000) :
    ∃ v' w', (Builtin.append_ #[22, 22] 22 #[v, .slice (some ⟨wr.heap.size, 0, none⟩) 1 1]).run Tryd.prog (wr.alloc (.cells #[.int .i64 (z : Int)] 3)) = .ok v' w' ∧ w'.cell? ⟨O, 0, none⟩ = some v ∧ w'.frozen? ⟨O, 0, none⟩ = false ∧ (∃ g cap, v' = .slice (some ⟨g, 0, none⟩) (L.length + 1) cap) ∧ Sg w p n c base X O (w'.setCell ⟨O, 0, none⟩ v') v' (L ++ [z]) := by
  have hb2 : Bl wr (wr.alloc (.cells #[.int .i64 (z : Int)] 3)) := (Bl.refl wr).alloc _
  have s2 := S.sz
  obtain ⟨v', w', hr, ho, hg, hbk⟩ := app_one (wr.alloc (.cells #[.int .i64 (z : Int)] 3)) base v (ints L) (z : Int) wr.heap.size (S.own.step hb2) (by simp) (by rw [ints_len]; omega) (Nat.le_trans s2 hb2.size)
  have hrow : ∀ k, v.ownBlock = some k → base ≤ k := fun k e => (S.own.block k e).1
  have neX : some X ≠ v.ownBlock := fun e => by have := hrow X e.symm; omega
  have neO : some O ≠ v.ownBlock := fun e => by have := hrow O e.symm; omega
  have sz2 := hb2.size
  have cO : w'.cell? ⟨O, 0, none⟩ = some v := by rw [hg.cell_far ⟨O, 0, none⟩ (by show O < _; omega) neO]; exact at_bl hb2 S.o
  have cX : w'.cell? ⟨X, 0, none⟩ = some (.slice p n c) := by rw [hg.cell_far ⟨X, 0, none⟩ (by show X < _; omega) neX]; exact at_bl hb2 S.x
  have fO : w'.frozen? ⟨O, 0, none⟩ = false := by
    rw [frozen_far hg ⟨O, 0, none⟩ (by show O < _; omega) neO, hf.fz_bl hb2 (by show O < _; omega)]
    exact S.fo
  have hbl : Bl w w' := bl_grown (S.bl.trans hb2) hg (fun k e => by have := hrow k e; omega)
  have hv' : ∃ g cap, v' = .slice (some ⟨g, 0, none⟩) (L.length + 1) cap := by
    rcases ho.shape with ⟨_, h⟩ | ⟨g, cap, h, _⟩
    · simp at h
    · exact ⟨g, cap, by rw [h, List.length_append, ints_len]; rfl⟩
  refine ⟨v', w', hr, cO, fO, hv', ?_, ?_, ?_, ?_, hbl.setCell hwO _, ?_⟩
  · rw [World.cell?_setCell_far _ _ _ _ (by simp; omega)]; exact cX
  · exact World.cell?_setCell_same _ _ _ cO
  · simp [fO]
  · have e : ints (L ++ [z]) = ints L ++ [(z : Int)] := by simp [ints]
    rw [e]
    refine ho.kept (row := some O) (hf.grown_setB (World.grownBy.refl w' (some O)) 0 v') (fun k e h => ?_)
    injection h with h
    have := (ho.block k e).1
    omega
  · have := hg.size
    simp
    omega
theorem Sg.kept {w wr w2 : World} {p : Option Addr} {n c base X O : Nat} {v : Value} {L M : List Nat} {row : Option Nat} (S : Sg w p n c base X O wr v L) (hg : wr.grownBy w2 row) (hr : ∀ k, row = some k → base ≤ k) (hX : X < base) (hO : O < base) (hwb : w.heap.size ≤ base) (ho : Own w2 base v (ints M)) : Sg w p n c base X O w2 v M := by
  have s2 := S.sz
  have neX : some X ≠ row := fun e => by have := hr X e.symm; omega
  have neO : some O ≠ row := fun e => by have := hr O e.symm; omega
  refine ⟨?_, ?_, ?_, ho, bl_grown S.bl hg (fun k e => by have := hr k e; omega), Nat.le_trans s2 hg.size⟩
  · rw [hg.cell_far ⟨X, 0, none⟩ (by show X < _; omega) neX]; exact S.x
  · rw [hg.cell_far ⟨O, 0, none⟩ (by show O < _; omega) neO]; exact S.o
  · rw [frozen_far hg ⟨O, 0, none⟩ (by show O < _; omega) neO]; exact S.fo
/-- The row that is sorted: what the sort answers. -/
theorem Sg.sort {w wr : World} {p : Option Addr} {n c base X O : Nat} {v : Value} {L : List Nat} (l : List Int) (S : Sg w p n c base X O wr v L) (hin : In w p l) (hn : n = l.length) (hn2 : n ≤ 256) (hX : X < base) (hO : O < base) (hwb : w.heap.size ≤ base) (hL : L.Pairwise (· < ·)) (hm : ∀ x, x ∈ L ↔ x < l.length ∧ 0 < l.getD x 0) (hl : L.length ≤ 256) :
    Calls Tryd.prog 25 #[.iface 22 v, .func (.func 26) #[] #[.pointer (some ⟨X, 0, none⟩), .pointer (some ⟨O, 0, none⟩)]] wr fun e w' => e = .returned (.tuple #[]) ∧ ∃ M, Sg w p n c base X O w' v M ∧ hg.IsM l M ∧ M.length = L.length := by
  obtain ⟨q, c', hv, hq⟩ : ∃ q c', v = .slice q L.length c' ∧ (0 < L.length → ∃ A, q = some ⟨A, 0, none⟩ ∧ base ≤ A) := by
    rcases S.own.shape with ⟨h, h0⟩ | ⟨g, cap, h, hb, _⟩
    · have : L = [] := by simpa [ints] using h0
      subst this
      exact ⟨none, 0, h, fun h => by simp at h⟩
    · exact ⟨_, cap, by rw [h, ints_len], fun _ => ⟨g, rfl, hb⟩⟩
  subst hv
  by_cases h0 : 0 < L.length
  · obtain ⟨A, rfl, hA⟩ := hq h0
    have hl0 : ∃ px, p = some px ∧ ∀ k, k < l.length → w.cell? (px.add k) = some (.int .i64 (l.getD k 0)) := by
      rcases hin with h | h
      · have := (hm (L[0]'h0)).1 (List.getElem_mem _)
        rw [h] at this
        simp at this
      · exact h
    obtain ⟨px, rfl, hpx⟩ := hl0
    have hpb : px.block < w.heap.size := by
      have hx := (hm (L[0]'h0)).1 (List.getElem_mem _)
      have h := hpx (L[0]'h0) hx.1
      have e : (px.add (L[0]'h0)).block = px.block := by unfold Addr.add; split <;> rfl
      rcases Nat.lt_or_ge px.block w.heap.size with h1 | h1
      · exact h1
      · unfold World.cell? at h
        rw [e, Array.getElem?_eq_none h1] at h
        simp at h
    have hx := S.x
    rw [hn] at hx
    refine (stable_ints l X O A c' c base px L wr (by omega) hL (fun x hx => ((hm x).1 hx).1) (by omega) S.own hx S.o (fun k hk => at_bl S.bl (hpx k hk)) (by omega) (by omega) (by omega)).mono ?_
    rintro e w' ⟨rfl, hg, M, hp, hpw, ho⟩
    have hml := hp.length_eq
    exact ⟨rfl, M, S.kept hg (fun k e => by injection e with e; omega) hX hO hwb ho, ⟨hpw, fun x => by rw [hp.mem_iff]; exact hm x⟩, hml⟩
  · have hL0 : L = [] := List.eq_nil_of_length_eq_zero (by omega)
    subst hL0
    refine (tiny_at q 0 c' (by omega) _ _ _ wr).mono ?_
    rintro e w' ⟨rfl, os, rfl⟩
    exact ⟨rfl, [], S.kept (grown_grow wr os none) (fun k e => by cases e) hX hO hwb (Own.grown S.own (grown_grow _ _ _)), ⟨List.Pairwise.nil, hm⟩, rfl⟩
end Go.Proofs.YtkldnapbeebdkaaDoor.su
/- The document's own groups: the first of the least ones is taken out. -/
namespace Go.Proofs.YtkldnapbeebdkaaDoor.hr
set_option linter.unusedVariables false
open Go.ChangeShapes Go.WideShapes Go.ChangeAt Go.RowKit
open mem rows
open hf (step_append_run)
abbrev Gv := st.Gv
def g0 : Gv := (0, none, 0, 0)
/-- The first of the least numbers stands at k, of the first m. -/
def Fk (l : List Gv) (m k : Nat) : Prop := k < l.length ∧ (∀ i, i < m → (l.getD k g0).1 ≤ (l.getD i g0).1) ∧ ∀ i, i < k → (l.getD k g0).1 < (l.getD i g0).1
theorem get_g (l : List Gv) (k : Nat) (h : k < l.length) : l.getD k g0 = l[k] := by rw [List.getD_eq_getElem?_getD, List.getElem?_eq_getElem h]; rfl
theorem Gr.cells {w : World} {base g off n cap : Nat} {l : List Gv} (h : Gr w base (.slice (some ⟨g, off, none⟩) n cap) l) (k : Nat) (hk : k < l.length) : w.cell? ⟨g, off + k * 2, none⟩ = some (.int .i64 (l.getD k g0).1) ∧ w.cell? ⟨g, off + k * 2 + 1, none⟩ = some (.slice (l.getD k g0).2.1 (l.getD k g0).2.2.1 (l.getD k g0).2.2.2) := by
  obtain ⟨g', off', cap', e, _, _, _, hc⟩ := h.shape (by omega)
  simp only [Value.slice.injEq, Option.some.injEq, Addr.mk.injEq] at e
  obtain ⟨⟨rfl, rfl, _⟩, _⟩ := e
  rw [get_g l k hk]
  exact hc k hk
/-- An empty row that was just made. -/
theorem Gr.lit (w : World) (base : Nat) (hb : base ≤ w.heap.size) : Gr (w.alloc (.cells #[] 43)).drew base (.slice (some ⟨w.heap.size, 0, none⟩) 0 0) [] :=
  Or.inr ⟨w.heap.size, 0, 0, #[], rfl, hb, by show (w.alloc _).heap[w.heap.size]? = _; exact heap_alloc_new w _, Nat.le_refl _, Nat.le_refl _, fun j u hu => by simp [rowG] at hu⟩
theorem Gr.lies {w : World} {base g off n cap : Nat} {l : List Gv} (h : Gr w base (.slice (some ⟨g, off, none⟩) n cap) l) (d : Nat) : Lies w ⟨g, off + d * 2, none⟩ (l.drop d) := by
  rcases h with ⟨h, _⟩ | ⟨g', off', cap', cur, h, _, h3, _, _, h6⟩
  · cases h
  simp only [Value.slice.injEq, Option.some.injEq, Addr.mk.injEq] at h
  obtain ⟨⟨rfl, rfl, _⟩, _⟩ := h
  intro j u hu
  rw [Addr.add_mid, cell_of h3, Nat.add_assoc]
  have hd : d < l.length := by
    have := (List.getElem?_eq_some_iff.1 hu).1
    rw [rowG_len, List.length_drop] at this
    omega
  refine h6 (d * 2 + j) u ?_
  have e : rowG l = rowG (l.take d) ++ rowG (l.drop d) := by rw [← rowG_append, List.take_append_drop]
  rw [e, List.getElem?_append_right (by rw [rowG_len, List.length_take]; omega), rowG_len, List.length_take, show d * 2 + j - min d l.length * 2 = j by omega]
  exact hu
theorem Lies.take {w : World} {x : Addr} {l : List Gv} (h : Lies w x l) (m : Nat) : Lies w x (l.take m) := fun j u hu => h j u (by
  have e : rowG l = rowG (l.take m) ++ rowG (l.drop m) := by rw [← rowG_append, List.take_append_drop]
  rw [e, List.getElem?_append_left (List.getElem?_eq_some_iff.1 hu).1]
  exact hu)
theorem Lies.kept {w w' : World} {x : Addr} {l : List Gv} (h : Lies w x l) (hb : ∀ a v, a.block = x.block → w.cell? a = some v → w'.cell? a = some v) : Lies w' x l := fun j u hu => hb _ _ (by unfold Addr.add; split <;> rfl) (h j u hu)
theorem Lies.none (w : World) (x : Addr) : Lies w x [] := fun j u hu => by simp [rowG] at hu
theorem bl_set {w w3 : World} {V R : Nat} (hb : Bl w w3) (hR : w.heap.size ≤ R) (a b c : Value) : w.grownBy (((w3.setCell ⟨V, 0, none⟩ a).setCell ⟨R, 0, none⟩ b).setCell ⟨R, 1, none⟩ c) (some V) := by
  refine ⟨hb.os, hb.tape, hb.output, by simpa using hb.size, fun k hk hne => ?_⟩
  rw [← Below.block hb k hk]
  have h1 : V ≠ k := fun e => hne (by rw [e])
  have h2 : R ≠ k := by omega
  simp [World.setCell, Array.getElem?_modify, h1, h2]
theorem gr_set {w : World} {base g off n cap b o : Nat} {l : List Gv} (h : Gr w base (.slice (some ⟨g, off, none⟩) n cap) l) (hb : b ≠ g) (v : Value) : Gr (w.setCell ⟨b, o, none⟩ v) base (.slice (some ⟨g, off, none⟩) n cap) l := by
  rcases h with h | ⟨g', off', cap', cur, h1, h2, h3, h4⟩
  · exact Or.inl h
  · refine Or.inr ⟨g', off', cap', cur, h1, h2, ?_, h4⟩
    simp only [Value.slice.injEq, Option.some.injEq, Addr.mk.injEq] at h1
    have : b ≠ g' := by rw [← h1.1.1]; exact hb
    simp [World.setCell, Array.getElem?_modify, this]
    exact h3
set_option maxHeartbeats 8000000 in
set_option maxRecDepth 100000 in
theorem least_at (V g off n cap base : Nat) (gs : List Gv) (w : World) (hV : w.cell? ⟨V, 0, none⟩ = some (.slice (some ⟨g, off, none⟩) n cap)) (hfz : w.frozen? ⟨V, 0, none⟩ = false) (hn : n = gs.length) (hgr : Gr w base (.slice (some ⟨g, off, none⟩) n cap) gs) (h0 : 0 < n) (hn2 : n ≤ 256) (hVb : V < base) (hb : base ≤ w.heap.size) :
    Calls Tryd.prog 18 #[.pointer (some ⟨V, 0, none⟩)] w fun e w' => ∃ k, Fk gs n k ∧ e = .returned (.agg #[.int .i64 (gs.getD k g0).1, .slice (gs.getD k g0).2.1 (gs.getD k g0).2.2.1 (gs.getD k g0).2.2.2]) ∧
      w.grownBy w' (some V) ∧ w'.frozen? ⟨V, 0, none⟩ = false ∧ ∃ g' off' cap', w'.cell? ⟨V, 0, none⟩ = some (.slice (some ⟨g', off', none⟩) (n - 1) cap') ∧ w.heap.size ≤ g' ∧ Gr w' base (.slice (some ⟨g', off', none⟩) (n - 1) cap') (gs.eraseIdx k) := by
  have HN : Hid (n = gs.length) := hn
  have HG : Hid (Gr w base (.slice (some ⟨g, off, none⟩) n cap) gs) := hgr
  have hgw : g < w.heap.size := by
    rcases hgr with ⟨h, _⟩ | ⟨g', off', cap', cur, h, _, h3, _⟩
    · cases h
    · simp only [Value.slice.injEq, Option.some.injEq, Addr.mk.injEq] at h
      rw [h.1.1]; exact lt_of_heap h3
  clear hn hgr
  obtain ⟨R, hR⟩ : ∃ R, R = w.heap.size := ⟨_, rfl⟩
  obtain ⟨w1, hw1⟩ : ∃ w1, w1 = w.alloc (.cells #[.int .i64 0, .slice none 0 0] 43) := ⟨_, rfl⟩
  have HB1 : Hid (Bl w w1 ∧ w1.heap.size = R + 1 ∧ R = w.heap.size) := by rw [hw1, hR]; exact ⟨(Bl.refl w).alloc _, by simp, rfl⟩
  have HRW : Hid (w1.cell? ⟨R, 0, none⟩ = some (.int .i64 0) ∧ w1.cell? ⟨R, 1, none⟩ = some (.slice none 0 0) ∧ w1.frozen? ⟨R, 0, none⟩ = false ∧ w1.frozen? ⟨R, 1, none⟩ = false) := by rw [hw1, hR]; exact ⟨by simp, by simp, by simp, by simp⟩
  have hVa : (w.alloc (.cells #[.int .i64 0, .slice none 0 0] 43)).cell? ⟨V, 0, none⟩ = some (.slice (some ⟨g, off, none⟩) n cap) := at_bl ((Bl.refl w).alloc _) hV
  go_enter Tryd.func18, Tryd.ntmps18
  go_wp2
  rw [← hw1, ← hR]
  clear hw1 hR hVa
  go_loopw [2, 3, 7] (fun a _ i wr => ∃ (k j : Nat), a = .int .i64 (k : Int) ∧ i = .int .i64 (j : Int) ∧ j ≤ n ∧ k < n ∧ Hid (Fk gs j k ∧ Dr w1 wr)) (fun _ _ i _ => n - (intOf i).toNat)
  case atStart => exact ⟨0, 0, rfl, rfl, Nat.zero_le _, h0, ⟨⟨by rw [← HN.out]; exact h0, fun i hi => by omega, fun i hi => by omega⟩, Dr.refl _⟩⟩
  case round =>
    obtain ⟨k, j, rfl, rfl, hj, hk, H⟩ := hrel
    obtain ⟨hF, q, rfl⟩ := H.out
    have HF : Hid (Fk gs j k) := hF
    clear H hF
    have hV1 : (w1.drewN q).cell? ⟨V, 0, none⟩ = some (.slice (some ⟨g, off, none⟩) n cap) := at_bl HB1.out.1 hV
    by_cases hlt : j < n
    · have hltz : (j : Int) < n := by omega
      have ck : (w1.drewN q).cell? ⟨g, off + k * 2, none⟩ = some (.int .i64 (gs.getD k g0).1) := at_bl HB1.out.1 (HG.out.cells k (by rw [← HN.out]; exact hk)).1
      have cj : (w1.drewN q).cell? ⟨g, off + j * 2, none⟩ = some (.int .i64 (gs.getD j g0).1) := at_bl HB1.out.1 (HG.out.cells j (by rw [← HN.out]; exact hlt)).1
      have HW : Hid (w1.drewN q = w1.drewN q) := rfl
      have HD : Hid (Dr w1 (w1.drewN q)) := ⟨q, rfl⟩
      have i1 : 0 ≤ (j : Int) ∧ (j : Int) < (n : Int) := by omega
      have i2 : 0 ≤ (k : Int) ∧ (k : Int) < (n : Int) := by omega
      generalize w1.drewN q = wq at *
      by_cases hl : (gs.getD j g0).1 < (gs.getD k g0).1
      · have HF2 : Hid (Fk gs (j + 1) j) := by
          refine ⟨by rw [← HN.out]; exact hlt, fun i hi => ?_, fun i hi => ?_⟩
          · by_cases e : i = j
            · rw [e]; exact Int.le_refl _
            · have := HF.out.2.1 i (by omega); omega
          · have := HF.out.2.1 i hi; omega
        generalize (gs.getD k g0).1 = xk at *
        generalize (gs.getD j g0).1 = xj at *
        go_wp2
        go_quiet (fail)
        go_wp2
        go_roundw
        case rel => exact ⟨j, j + 1, rfl, by go_num, by omega, hlt, ⟨HF2.out, Dr.drewN _ HD.out⟩⟩
        case measure => simp [intOf]; omega
      · have HF2 : Hid (Fk gs (j + 1) k) := by
          refine ⟨by rw [← HN.out]; exact hk, fun i hi => ?_, HF.out.2.2⟩
          by_cases e : i = j
          · rw [e]; omega
          · exact HF.out.2.1 i (by omega)
        generalize (gs.getD k g0).1 = xk at *
        generalize (gs.getD j g0).1 = xj at *
        go_wp2
        go_quiet (fail)
        go_wp2
        go_roundw
        case rel => exact ⟨k, j + 1, rfl, by go_num, by omega, hk, ⟨HF2.out, Dr.drewN _ HD.out⟩⟩
        case measure => simp [intOf]; omega
    · have hltz : ¬ (j : Int) < n := by omega
      obtain rfl : j = n := by omega
      obtain ⟨c0, c1⟩ := HG.out.cells k (by rw [← HN.out]; exact hk)
      have ck0 : (w1.drewN q).cell? ⟨g, off + k * 2, none⟩ = some (.int .i64 (gs.getD k g0).1) := at_bl HB1.out.1 c0
      have ck1 : (w1.drewN q).cell? ⟨g, off + k * 2 + 1, none⟩ = some (.slice (gs.getD k g0).2.1 (gs.getD k g0).2.2.1 (gs.getD k g0).2.2.2) := at_bl HB1.out.1 c1
      clear c0 c1
      have i2 : 0 ≤ (k : Int) ∧ (k : Int) < (j : Int) := by omega
      have HQ : Hid (Bl w (w1.drewN q) ∧ (w1.drewN q).heap.size = R + 1 ∧ R = w.heap.size) := ⟨HB1.out.1.drewN q, HB1.out.2.1, HB1.out.2.2⟩
      have HGE : Hid ((gs.getD k g0).1 = (gs.getD k g0).1) := rfl
      obtain ⟨x0, hx0⟩ : ∃ x, x = (gs.getD k g0).1 := ⟨_, rfl⟩
      obtain ⟨x1, hx1⟩ : ∃ x, x = (gs.getD k g0).2.1 := ⟨_, rfl⟩
      obtain ⟨x2, hx2⟩ : ∃ x, x = (gs.getD k g0).2.2.1 := ⟨_, rfl⟩
      obtain ⟨x3, hx3⟩ : ∃ x, x = (gs.getD k g0).2.2.2 := ⟨_, rfl⟩
      rw [← hx0] at ck0
      rw [← hx1, ← hx2, ← hx3] at ck1
      have HX : Hid (x0 = (gs.getD k g0).1 ∧ x1 = (gs.getD k g0).2.1 ∧ x2 = (gs.getD k g0).2.2.1 ∧ x3 = (gs.getD k g0).2.2.2) := ⟨hx0, hx1, hx2, hx3⟩
      clear HGE hx0 hx1 hx2 hx3
      have HRC : Hid ((w1.drewN q).cell? ⟨R, 0, none⟩ = some (.int .i64 0) ∧ (w1.drewN q).cell? ⟨R, 1, none⟩ = some (.slice none 0 0) ∧ (w1.drewN q).frozen? ⟨R, 0, none⟩ = false ∧ (w1.drewN q).frozen? ⟨R, 1, none⟩ = false) := HRW.out
      generalize w1.drewN q = wq at *
      obtain ⟨W0, hW0⟩ : ∃ W, W = wq.alloc (.cells #[.int .i64 x0, .slice x1 x2 x3] 43) := ⟨_, rfl⟩
      obtain ⟨WL, hWL⟩ : ∃ W, W = (W0.alloc (.cells #[] 43)).drew := ⟨_, rfl⟩
      have s0 : W0.heap.size = R + 2 := by rw [hW0]; simp [HQ.out.2.1]
      have sL : WL.heap.size = R + 3 := by rw [hWL]; simp [s0]
      have bL : Bl w WL := by rw [hWL, hW0]; exact ((HQ.out.1.alloc _).alloc _).drew
      have hRw := HQ.out.2.2
      have hgL : Gr WL base (.slice (some ⟨g, off, none⟩) j cap) gs := HG.out.step bL
      have hli : Lies WL ⟨g, off, none⟩ (gs.take k) := by have := (hgL.lies 0).take k; simpa using this
      have hkl : (gs.take k).length = k := by rw [List.length_take, ← HN.out]; omega
      obtain ⟨v1, w2, hr1, ho1, hg1, g1, off1, cap1, hv1, hgg1⟩ := app_grs WL base W0.heap.size 0 0 0 [] (gs.take k) ⟨g, off, none⟩ k cap rfl (by rw [hWL]; exact Gr.lit W0 base (by omega)) hkl.symm hli (by rw [hkl]; simp; omega) (by omega)
      subst hv1
      rw [List.nil_append] at ho1
      simp only [List.length_nil, Nat.zero_add, hkl] at ho1 hr1
      have hne1 : ∀ b, b < w.heap.size → b ≠ W0.heap.size := fun b hb => by omega
      have b2 : Bl w w2 := bl_grown bL hg1 (fun b e => by injection e with e; omega)
      have hg2 : Gr w2 base (.slice (some ⟨g, off, none⟩) j cap) gs := HG.out.step b2
      -- what stands behind it
      have hlast : ∃ y : Addr, (if cap - (k + 1) = 0 then y = ⟨g, off, none⟩ else y = ⟨g, off + (k + 1) * 2, none⟩) ∧ Lies w2 y (gs.drop (k + 1)) := by
        by_cases hc : cap - (k + 1) = 0
        · refine ⟨⟨g, off, none⟩, by rw [if_pos hc], ?_⟩
          have hle : gs.length ≤ cap := by
            rcases HG.out with ⟨h, _⟩ | ⟨g', off', cap', cur, h, _, _, h4, _⟩
            · cases h
            · simp only [Value.slice.injEq, Option.some.injEq, Addr.mk.injEq] at h
              rw [h.2.2]; exact h4
          have : gs.drop (k + 1) = [] := List.drop_eq_nil_of_le (by omega)
          rw [this]
          exact Lies.none _ _
        · exact ⟨⟨g, off + (k + 1) * 2, none⟩, by rw [if_neg hc], hg2.lies (k + 1)⟩
      obtain ⟨y, hy, hlies⟩ := hlast
      have hdl : (gs.drop (k + 1)).length = j - (k + 1) := by rw [List.length_drop, ← HN.out]
      have sz2 := hg1.size
      obtain ⟨v2, w3, hr2, ho2, hg3, g2, off2, cap2, hv2, hgg2⟩ := app_grs w2 base g1 off1 cap1 k (gs.take k) (gs.drop (k + 1)) y (j - (k + 1)) (cap - (k + 1)) hkl.symm ho1 hdl.symm hlies (by rw [hkl, hdl]; omega) (by omega)
      subst hv2
      rw [hkl, hdl, show k + (j - (k + 1)) = j - 1 by omega] at ho2 hr2
      rw [← List.eraseIdx_eq_take_drop_succ] at ho2
      have b3 : Bl w w3 := bl_grown b2 hg3 (fun b e => by injection e with e; omega)
      have hcap : j ≤ cap := by
        rcases HG.out with ⟨h, _⟩ | ⟨g', off', cap', cur, h, _, _, h4, _⟩
        · cases h
        · simp only [Value.slice.injEq, Option.some.injEq, Addr.mk.injEq] at h
          rw [h.2.2, HN.out]; exact h4
      -- what lies in the variables
      have vW0 : W0.cell? ⟨V, 0, none⟩ = some (.slice (some ⟨g, off, none⟩) j cap) := by rw [hW0]; exact at_bl ((Bl.refl wq).alloc _) hV1
      have vWL : WL.cell? ⟨V, 0, none⟩ = some (.slice (some ⟨g, off, none⟩) j cap) := at_bl bL hV
      have v2' : w2.cell? ⟨V, 0, none⟩ = some (.slice (some ⟨g, off, none⟩) j cap) := at_bl b2 hV
      have v3' : w3.cell? ⟨V, 0, none⟩ = some (.slice (some ⟨g, off, none⟩) j cap) := at_bl b3 hV
      have vf3 : w3.frozen? ⟨V, 0, none⟩ = false := by rw [hf.fz_bl b3 (by show V < _; omega)]; exact hfz
      have hRq : WL.cell? ⟨R, 0, none⟩ = some (.int .i64 0) ∧ WL.cell? ⟨R, 1, none⟩ = some (.slice none 0 0) ∧ WL.frozen? ⟨R, 0, none⟩ = false ∧ WL.frozen? ⟨R, 1, none⟩ = false ∧ WL.cell? ⟨wq.heap.size, 0, none⟩ = some (.int .i64 x0) ∧ WL.cell? ⟨wq.heap.size, 1, none⟩ = some (.slice x1 x2 x3) := by
        have hbq : Bl wq WL := by rw [hWL, hW0]; exact (((Bl.refl wq).alloc _).alloc _).drew
        refine ⟨at_bl hbq HRC.out.1, at_bl hbq HRC.out.2.1, ?_, ?_, ?_, ?_⟩
        · rw [hf.fz_bl hbq (by have := HQ.out.2.1; show R < _; omega)]; exact HRC.out.2.2.1
        · rw [hf.fz_bl hbq (by have := HQ.out.2.1; show R < _; omega)]; exact HRC.out.2.2.2
        · rw [hWL, hW0]; exact at_bl (((Bl.refl _).alloc _).drew) (by simp)
        · rw [hWL, hW0]; exact at_bl (((Bl.refl _).alloc _).drew) (by simp)
      have far : ∀ b o, b < R + 2 → w3.cell? ⟨b, o, none⟩ = WL.cell? ⟨b, o, none⟩ := fun b o h => by
        rw [hg3.cell_far ⟨b, o, none⟩ (by show b < _; omega) (by simp; omega), hg1.cell_far ⟨b, o, none⟩ (by show b < _; omega) (by simp; omega)]
      have farz : ∀ b o, b < R + 2 → w3.frozen? ⟨b, o, none⟩ = WL.frozen? ⟨b, o, none⟩ := fun b o h => by
        rw [su.frozen_far hg3 ⟨b, o, none⟩ (by show b < _; omega) (by simp; omega), su.frozen_far hg1 ⟨b, o, none⟩ (by show b < _; omega) (by simp; omega)]
      have hq1 := HQ.out.2.1
      have c0 : w3.cell? ⟨R, 0, none⟩ = some (.int .i64 0) := by rw [far _ _ (by omega)]; exact hRq.1
      have c1 : w3.cell? ⟨R, 1, none⟩ = some (.slice none 0 0) := by rw [far _ _ (by omega)]; exact hRq.2.1
      have f0 : w3.frozen? ⟨R, 0, none⟩ = false := by rw [farz _ _ (by omega)]; exact hRq.2.2.1
      have f1 : w3.frozen? ⟨R, 1, none⟩ = false := by rw [farz _ _ (by omega)]; exact hRq.2.2.2.1
      have e0 : w3.cell? ⟨wq.heap.size, 0, none⟩ = some (.int .i64 x0) := by rw [far _ _ (by omega)]; exact hRq.2.2.2.2.1
      have e1 : w3.cell? ⟨wq.heap.size, 1, none⟩ = some (.slice x1 x2 x3) := by rw [far _ _ (by omega)]; exact hRq.2.2.2.2.2
      have n1 : V ≠ R := by omega
      have n2 : V ≠ wq.heap.size := by omega
      have n3 : R ≠ wq.heap.size := by omega
      have HFIN : Hid (w.grownBy (((w3.setCell ⟨V, 0, none⟩ (.slice (some ⟨g2, off2, none⟩) (j - 1) cap2)).setCell ⟨R, 0, none⟩ (.int .i64 x0)).setCell ⟨R, 1, none⟩ (.slice x1 x2 x3)) (some V) ∧
          (((w3.setCell ⟨V, 0, none⟩ (.slice (some ⟨g2, off2, none⟩) (j - 1) cap2)).setCell ⟨R, 0, none⟩ (.int .i64 x0)).setCell ⟨R, 1, none⟩ (.slice x1 x2 x3)).frozen? ⟨V, 0, none⟩ = false ∧
          (((w3.setCell ⟨V, 0, none⟩ (.slice (some ⟨g2, off2, none⟩) (j - 1) cap2)).setCell ⟨R, 0, none⟩ (.int .i64 x0)).setCell ⟨R, 1, none⟩ (.slice x1 x2 x3)).cell? ⟨V, 0, none⟩ = some (.slice (some ⟨g2, off2, none⟩) (j - 1) cap2) ∧ w.heap.size ≤ g2 ∧
          Gr (((w3.setCell ⟨V, 0, none⟩ (.slice (some ⟨g2, off2, none⟩) (j - 1) cap2)).setCell ⟨R, 0, none⟩ (.int .i64 x0)).setCell ⟨R, 1, none⟩ (.slice x1 x2 x3)) base (.slice (some ⟨g2, off2, none⟩) (j - 1) cap2) (gs.eraseIdx k)) := by
        refine ⟨bl_set b3 (by omega) _ _ _, by simp [vf3], ?_, by omega, gr_set (gr_set (gr_set ho2 (by omega) _) (by omega) _) (by omega) _⟩
        rw [World.cell?_setCell_far _ _ _ _ n1.symm, World.cell?_setCell_far _ _ _ _ n1.symm]
        exact World.cell?_setCell_same _ _ _ v3'
      have hv0 : (((w3.setCell ⟨V, 0, none⟩ (.slice (some ⟨g2, off2, none⟩) (j - 1) cap2)).setCell ⟨R, 0, none⟩ (.int .i64 x0)).setCell ⟨R, 1, none⟩ (.slice x1 x2 x3)).cell? ⟨R, 0, none⟩ = some (.int .i64 x0) := by
        rw [World.cell?_setCell_other _ _ _ _ (by simp)]
        exact World.cell?_setCell_same _ _ _ ((World.cell?_setCell_far _ _ _ _ n1).trans c0)
      have hv1 : (((w3.setCell ⟨V, 0, none⟩ (.slice (some ⟨g2, off2, none⟩) (j - 1) cap2)).setCell ⟨R, 0, none⟩ (.int .i64 x0)).setCell ⟨R, 1, none⟩ (.slice x1 x2 x3)).cell? ⟨R, 1, none⟩ = some (.slice x1 x2 x3) :=
        World.cell?_setCell_same _ _ _ ((World.cell?_setCell_other _ _ _ _ (by simp)).trans ((World.cell?_setCell_far _ _ _ _ n1).trans c1))
      have HV : Hid (_ ∧ _) := ⟨hv0, hv1⟩
      clear hv0 hv1
      have HR1 : Hid _ := hr1
      have HR2 : Hid _ := hr2
      rw [hWL] at HR1 vWL
      clear hRq far farz hg1 hg3 b2 b3 bL hg2 hgL hli hlies ho1 ho2 hr1 hr2 hgg1 hgg2 hne1 hdl hkl sz2
      have HQ2 : Hid (wq.heap.size = R + 1 ∧ W0.heap.size = R + 2 ∧ WL.heap.size = R + 3) := ⟨hq1, s0, sL⟩
      have HW0 : Hid (W0 = wq.alloc (.cells #[.int .i64 x0, .slice x1 x2 x3] 43)) := hW0
      clear hW0 hq1 s0 sL hRw hWL
      have k1 : (k : Int) ≤ (cap : Int) := by omega
      have k2 : (k : Int) + 1 ≤ (j : Int) := by omega
      have k3 : ((k : Int) + 1).toNat = k + 1 := by omega
      have k4 : (0 : Int) ≤ (k : Int) + 1 := by omega
      have k5 : IntKind.i64.wrap ((k : Int) + 1) = (k : Int) + 1 := by rw [IntKind.wrap_i64]; omega
      by_cases hc : cap - (k + 1) = 0
      · rw [if_pos hc] at hy
        subst hy
        obtain rfl : cap = k + 1 := by omega
        obtain rfl : j = k + 1 := by omega
        simp only [Nat.sub_self, Nat.add_sub_cancel] at HR2 HFIN HV
        clear hc hcap i2 k1
        have k1 : (k : Int) ≤ (k : Int) + 1 := by omega
        have i2 : 0 ≤ (k : Int) ∧ (k : Int) < (k : Int) + 1 := by omega
        go_wp2
        rw [← HW0.out]
        go_region_law (first
          | (refine step_append_run rfl (.tmp 27) (.tmp 30) 40 40 rfl _ _ rfl rfl _ _ HR1.out ?_)
          | (refine step_append_run rfl (.tmp 31) (.tmp 35) 40 40 rfl _ _ rfl rfl _ _ HR2.out ?_))
        all_goals (
          go_wp2
          clear HR1 HR2 HW0 vWL vW0 v2' v3' c0 c1 e0 e1
          generalize (((w3.setCell ⟨V, 0, none⟩ (.slice (some ⟨g2, off2, none⟩) (k) cap2)).setCell ⟨R, 0, none⟩ (.int .i64 x0)).setCell ⟨R, 1, none⟩ (.slice x1 x2 x3)) = w5 at HFIN HV ⊢
          obtain ⟨hv0, hv1⟩ := HV.out
          refine bodyPost_ret (v := .agg #[.int .i64 x0, .slice x1 x2 x3]) (by simp [results, Tryd.f18, go_sem, hv0, hv1]) rfl ?_
          exact ⟨k, HF.out, by rw [← HX.out.1, ← HX.out.2.1, ← HX.out.2.2.1, ← HX.out.2.2.2], HFIN.out.1, HFIN.out.2.1, g2, off2, cap2, HFIN.out.2.2.1, HFIN.out.2.2.2.1, HFIN.out.2.2.2.2⟩)
      · rw [if_neg hc] at hy
        subst hy
        have hce : ¬ cap = k + 1 := by omega
        clear hc
        go_wp2
        rw [← HW0.out]
        go_region_law (first
          | (refine step_append_run rfl (.tmp 27) (.tmp 30) 40 40 rfl _ _ rfl rfl _ _ HR1.out ?_)
          | (refine step_append_run rfl (.tmp 31) (.tmp 35) 40 40 rfl _ _ rfl rfl _ _ HR2.out ?_))
        all_goals (
          go_wp2
          clear HR1 HR2 HW0 vWL vW0 v2' v3' c0 c1 e0 e1
          generalize (((w3.setCell ⟨V, 0, none⟩ (.slice (some ⟨g2, off2, none⟩) (j - 1) cap2)).setCell ⟨R, 0, none⟩ (.int .i64 x0)).setCell ⟨R, 1, none⟩ (.slice x1 x2 x3)) = w5 at HFIN HV ⊢
          obtain ⟨hv0, hv1⟩ := HV.out
          refine bodyPost_ret (v := .agg #[.int .i64 x0, .slice x1 x2 x3]) (by simp [results, Tryd.f18, go_sem, hv0, hv1]) rfl ?_
          exact ⟨k, HF.out, by rw [← HX.out.1, ← HX.out.2.1, ← HX.out.2.2.1, ← HX.out.2.2.2], HFIN.out.1, HFIN.out.2.1, g2, off2, cap2, HFIN.out.2.2.1, HFIN.out.2.2.2.1, HFIN.out.2.2.2.2⟩)
end Go.Proofs.YtkldnapbeebdkaaDoor.hr
