/- The document's own groups that lie in a row: one more, or many more, behind them. -/
import Derived.Test.YtkldnapbeebdkaaDoorSt1
import Derived.Test.YtkldnapbeebdkaaDoorFdV
import Derived.Deep.Upon
import Derived.Deep.MidRow
namespace Go.Proofs.YtkldnapbeebdkaaDoor.hr
set_option linter.unusedVariables false
open Go.ChangeShapes Go.WideShapes Go.ChangeAt Go.RowKit
open Go.Sort
open mem rows st
def rowG (l : List Gv) : List Value := l.flatMap fun x => [.int .i64 x.1, .slice x.2.1 x.2.2.1 x.2.2.2]
theorem rowG_len (l : List Gv) : (rowG l).length = l.length * 2 := by
  induction l with
  | nil => rfl
  | cons x l ih => unfold rowG at ih ⊢; rw [List.flatMap_cons, List.length_append, ih]; simp; omega
theorem rowG_append (a b : List Gv) : rowG (a ++ b) = rowG a ++ rowG b := by unfold rowG; rw [List.flatMap_append]
theorem rowG_get (l : List Gv) (k : Nat) (h : k < l.length) : (rowG l)[k * 2]? = some (.int .i64 l[k].1) ∧ (rowG l)[k * 2 + 1]? = some (.slice l[k].2.1 l[k].2.2.1 l[k].2.2.2) := by
  induction l generalizing k with
  | nil => exact absurd h (Nat.not_lt_zero _)
  | cons x l ih =>
    have e : rowG (x :: l) = [.int .i64 x.1, .slice x.2.1 x.2.2.1 x.2.2.2] ++ rowG l := by unfold rowG; rw [List.flatMap_cons]
    rw [e]
    cases k with
    | zero => exact ⟨rfl, rfl⟩
    | succ k =>
      have := ih k (by simpa using h)
      rw [show (k + 1) * 2 = k * 2 + 2 by omega]
      exact this
theorem rowG_one (l : List Gv) (u : Value) (hu : u ∈ rowG l) : u.oneCell' = true := by
  unfold rowG at hu
  rw [List.mem_flatMap] at hu
  obtain ⟨y, _, hy⟩ := hu
  simp at hy
  rcases hy with rfl | rfl <;> rfl
theorem infoG : (Tryd.prog.info? 43).map (fun i => (i.zero, i.size, i.bytes)) = some (some (.agg #[.int .i64 0, .slice none 0 0]), 2, 32) := by kernel_rfl
theorem infoG' : ∃ i, Tryd.prog.info? 43 = some i ∧ i.zero = some (.agg #[.int .i64 0, .slice none 0 0]) ∧ i.size = 2 ∧ i.bytes = 32 := by
  obtain ⟨i, h1, h2⟩ := Option.map_eq_some_iff.1 infoG
  simp only [Prod.mk.injEq] at h2
  exact ⟨i, h1, h2.1, h2.2.1, h2.2.2⟩
/-- The block of a row. -/
def bk : Value → Option Nat
  | .slice (some a) _ _ => some a.block
  | _ => none
/-- A row of the call's own, somewhere in a block, that holds just these groups. -/
def Gr (w : World) (base : Nat) (v : Value) (l : List Gv) : Prop :=
  (v = .slice none 0 0 ∧ l = []) ∨ ∃ g off cap cur, v = .slice (some ⟨g, off, none⟩) l.length cap ∧ base ≤ g ∧ w.heap[g]? = some (.cells cur 43 (0, 0)) ∧ l.length ≤ cap ∧ off + cap * 2 ≤ cur.size ∧ ∀ j u, (rowG l)[j]? = some u → cur[off + j]? = some u
theorem cell_of {w : World} {g : Nat} {cur : Array Value} {e : TypeId} {fr : Nat × Nat} (h : w.heap[g]? = some (.cells cur e fr)) (j : Nat) : w.cell? ⟨g, j, none⟩ = cur[j]? := by
  simp [World.cell?, h]
theorem lt_of_heap {w : World} {g : Nat} {o : Obj} (h : w.heap[g]? = some o) : g < w.heap.size := (Array.getElem?_eq_some_iff.1 h).1
theorem Gr.nil (w : World) (base : Nat) : Gr w base (.slice none 0 0) [] := Or.inl ⟨rfl, rfl⟩
/-- It stays as it is while its block does. -/
theorem Gr.kept {w w' : World} {base : Nat} {v : Value} {l : List Gv} {row : Option Nat} (h : Gr w base v l) (hg : w.grownBy w' row) (hne : ∀ k, bk v = some k → row ≠ some k) : Gr w' base v l := by
  rcases h with h | ⟨g, off, cap, cur, h1, h2, h3, h4⟩
  · exact Or.inl h
  · refine Or.inr ⟨g, off, cap, cur, h1, h2, ?_, h4⟩
    subst h1
    rw [hg.block g (lt_of_heap h3) (fun e => hne g rfl e.symm)]
    exact h3
theorem Gr.step {w w' : World} {base : Nat} {v : Value} {l : List Gv} (h : Gr w base v l) (hb : Bl w w') : Gr w' base v l := by
  rcases h with h | ⟨g, off, cap, cur, h1, h2, h3, h4⟩
  · exact Or.inl h
  · exact Or.inr ⟨g, off, cap, cur, h1, h2, by rw [Below.block hb g (lt_of_heap h3)]; exact h3, h4⟩
theorem Gr.shape {w : World} {base : Nat} {v : Value} {l : List Gv} (h : Gr w base v l) (h0 : 0 < l.length) : ∃ g off cap, v = .slice (some ⟨g, off, none⟩) l.length cap ∧ base ≤ g ∧ g < w.heap.size ∧ l.length ≤ cap ∧
    ∀ k, (hk : k < l.length) → w.cell? ⟨g, off + k * 2, none⟩ = some (.int .i64 l[k].1) ∧ w.cell? ⟨g, off + k * 2 + 1, none⟩ = some (.slice l[k].2.1 l[k].2.2.1 l[k].2.2.2) := by
  rcases h with ⟨_, rfl⟩ | ⟨g, off, cap, cur, h1, h2, h3, h4, h5, h6⟩
  · exact absurd h0 (Nat.lt_irrefl _)
  · refine ⟨g, off, cap, h1, h2, lt_of_heap h3, h4, fun k hk => ?_⟩
    obtain ⟨a, b⟩ := rowG_get l k hk
    rw [cell_of h3, cell_of h3, Nat.add_assoc]
    exact ⟨h6 _ _ a, h6 _ _ b⟩
/-- Without its first two groups. -/
theorem Gr.drop2 {w : World} {base g off cap : Nat} {l : List Gv} {a b : Gv} (h : Gr w base (.slice (some ⟨g, off, none⟩) (l.length + 2) cap) (a :: b :: l)) : Gr w base (.slice (some ⟨g, off + 4, none⟩) l.length (cap - 2)) l := by
  rcases h with ⟨h, _⟩ | ⟨g', off', cap', cur, h1, h2, h3, h4, h5, h6⟩
  · cases h
  · simp only [Value.slice.injEq, Option.some.injEq, Addr.mk.injEq] at h1
    obtain ⟨⟨rfl, rfl, _⟩, _, rfl⟩ := h1
    simp only [List.length_cons] at h4
    refine Or.inr ⟨g, off + 4, cap - 2, cur, rfl, h2, h3, by omega, by omega, fun j u hu => ?_⟩
    have e : rowG (a :: b :: l) = rowG [a, b] ++ rowG l := rowG_append [a, b] l
    have := h6 (4 + j) u (by rw [e, List.getElem?_append_right (by rw [rowG_len]; show 2 * 2 ≤ _; omega), rowG_len]; simpa using hu)
    rwa [← Nat.add_assoc] at this
theorem set_heap {w : World} {g : Nat} {cur : Array Value} {e : TypeId} (h : w.heap[g]? = some (.cells cur e (0, 0))) : ∀ (vs : List Value) (o : Nat), ∃ cur', (w.setCells g o vs).heap[g]? = some (.cells cur' e (0, 0)) ∧ cur'.size = cur.size ∧ (∀ j, j < o ∨ o + vs.length ≤ j → cur'[j]? = cur[j]?) ∧ (∀ j, j < vs.length → o + j < cur.size → cur'[o + j]? = vs[j]?) := by
  intro vs
  induction vs generalizing w cur with
  | nil => exact fun o => ⟨cur, h, rfl, fun _ _ => rfl, fun j hj => absurd hj (Nat.not_lt_zero _)⟩
  | cons v vs ih =>
    intro o
    have h1 : (w.setCell ⟨g, o, none⟩ v).heap[g]? = some (.cells (cur.setIfInBounds o v) e (0, 0)) := by
      simp [World.setCell, h, Array.getElem?_modify]
    obtain ⟨cur', a1, a2, a3, a4⟩ := ih h1 (o + 1)
    refine ⟨cur', a1, by rw [a2]; simp, fun j hj => ?_, fun j hj hs => ?_⟩
    · rw [a3 j (by simp only [List.length_cons] at hj; omega), Array.getElem?_setIfInBounds]
      simp only [List.length_cons] at hj
      rw [if_neg (by omega)]
    · cases j with
      | zero =>
        rw [Nat.add_zero, a3 o (by omega), Array.getElem?_setIfInBounds, if_pos rfl]
        simp at hs ⊢
        exact hs
      | succ j =>
        have := a4 j (by simpa using hj) (by simpa [Nat.add_assoc, Nat.add_comm 1 j] using hs)
        rw [show o + 1 + j = o + (j + 1) by omega] at this
        rw [this]
        rfl
theorem set_frame (g : Nat) : ∀ (vs : List Value) (o : Nat) (w : World), (w.setCells g o vs).os = w.os ∧ (w.setCells g o vs).tape = w.tape ∧ (w.setCells g o vs).output = w.output ∧ (w.setCells g o vs).heap.size = w.heap.size
  | [], _, _ => ⟨rfl, rfl, rfl, rfl⟩
  | v :: vs, o, w => by
    obtain ⟨a, b, c, d⟩ := set_frame g vs (o + 1) (w.setCell ⟨g, o, none⟩ v)
    exact ⟨a, b, c, d.trans (by simp)⟩
theorem app_gr (w : World) (base : Nat) (v : Value) (l : List Gv) (z : Gv) (X : Nat) (hown : Gr w base v l) (hX : w.cell? ⟨X, 0, none⟩ = some (.int .i64 z.1)) (hX1 : w.cell? ⟨X, 1, none⟩ = some (.slice z.2.1 z.2.2.1 z.2.2.2)) (hn : l.length ≤ 5000) (hb : base ≤ w.heap.size) :
    ∃ v' w', (Builtin.append_ #[40, 40] 40 #[v, .slice (some ⟨X, 0, none⟩) 1 1]).run Tryd.prog w = .ok v' w' ∧ Gr w' base v' (l ++ [z]) ∧ w.grownBy w' (bk v) ∧ (bk v' = bk v ∨ bk v' = some w.heap.size) := by
  obtain ⟨i, hi, hz, h1, h2⟩ := infoG'
  have hnews : ∀ j u, (rowG [z])[j]? = some u → w.cell? ((⟨X, 0, none⟩ : Addr).add j) = some u := fun j u hu => by
    rcases j with _ | _ | j
    · simp [rowG] at hu; subst hu; simpa [Addr.add] using hX
    · simp [rowG] at hu; subst hu; simpa [Addr.add] using hX1
    · simp [rowG] at hu
  have hsrc : Src Tryd.prog i.size 40 (.slice (some ⟨X, 0, none⟩) 1 1) 1 (rowG [z]) w := Src.ofSlice w Tryd.underlying40 ⟨X, 0, none⟩ 1 1 (rowG [z]) (by rw [h1]; rfl) hnews (rowG_one _)
  have hgrow : ∀ (p : Option Addr) (n c : Nat), n = l.length → c < n + 1 → (Builtin.firstCells i.size n (.slice p n c)).run Tryd.prog w.drew = .ok (rowG l).toArray w.drew →
      ∃ v' w', (Builtin.append_ #[40, 40] 40 #[.slice p n c, .slice (some ⟨X, 0, none⟩) 1 1]).run Tryd.prog w = .ok v' w' ∧ Gr w' base v' (l ++ [z]) ∧ w.grownBy w' (bk (.slice p n c)) ∧ bk v' = some w.heap.size := by
    intro p n c hnl hc hold
    have hr := run_append_grow_src (P := Tryd.prog) w 40 40 40 43 i (.agg #[.int .i64 0, .slice none 0 0]) Tryd.underlying40 hi hz p n c (rowG l) hold _ 1 (rowG [z]) hsrc hc (by omega) (growslice_fits hc (by rw [h2]; omega))
    have hge := grownCap_ge w (n + 1) c 43
    refine ⟨_, _, hr, Or.inr ⟨w.heap.size, 0, grownCap w (n + 1) c 43, _, by simp [hnl], hb, heap_alloc_new w.drew _, by simp [← hnl]; exact hge, ?_, fun j u hu => ?_⟩, ⟨rfl, rfl, rfl, by simp, fun k hk _ => Below.heap_alloc w.drew _ k hk⟩, rfl⟩
    · simp only [Array.size_append, List.size_toArray, List.length_append, rowG_len, size_zeroCells, List.length_singleton]
      show 0 + _ ≤ l.length * 2 + 1 * 2 + _ * 2
      omega
    · rw [Nat.zero_add, ← rowG_append, Array.getElem?_append_left (by rw [List.size_toArray]; exact (List.getElem?_eq_some_iff.1 hu).1), List.getElem?_toArray]
      exact hu
  rcases hown with ⟨rfl, rfl⟩ | ⟨g, off, cap, cur, rfl, h3, h4, h5, h6, h7⟩
  · obtain ⟨v', w', a1, a2, a3, a4⟩ := hgrow none 0 0 rfl (by omega) (run_firstCells_none w.drew i.size 0 0 0)
    exact ⟨v', w', a1, a2, a3, Or.inr a4⟩
  · by_cases hroom : l.length + 1 ≤ cap
    · have hc : ∀ j, j < (rowG [z]).length → off + l.length * i.size + j < cur.size := fun j hj => by
        rw [rowG_len] at hj
        simp only [List.length_singleton] at hj
        rw [h1]
        omega
      have hr := run_append_room_src (P := Tryd.prog) w 40 40 40 43 i Tryd.underlying40 hi g off l.length cap _ 1 (rowG [z]) hsrc hroom
        (fun j hj => by rw [cell_of h4, Array.getElem?_eq_getElem (hc j hj)]; rfl) (fun j hj => by simp [World.frozen?, h4])
      rw [h1] at hr hc
      obtain ⟨cur', b1, b2, b3, b4⟩ := set_heap h4 (rowG [z]) (off + l.length * 2)
      refine ⟨_, _, hr, Or.inr ⟨g, off, cap, cur', by simp, h3, b1, by simpa using hroom, by rw [b2]; exact h6, fun j u hu => ?_⟩, ⟨(set_frame g _ _ w).1, (set_frame g _ _ w).2.1, (set_frame g _ _ w).2.2.1, Nat.le_of_eq (set_frame g _ _ w).2.2.2.symm, fun k hk hne => World.heap_setCells_other w g _ _ hk (fun e => hne (by rw [e]; rfl))⟩, Or.inl rfl⟩
      · rw [rowG_append] at hu
        by_cases hj : j < l.length * 2
        · rw [List.getElem?_append_left (by rw [rowG_len]; exact hj)] at hu
          rw [b3 _ (by omega)]
          exact h7 j u hu
        · rw [List.getElem?_append_right (by rw [rowG_len]; omega), rowG_len] at hu
          have hj2 : j - l.length * 2 < (rowG [z]).length := (List.getElem?_eq_some_iff.1 hu).1
          have := b4 (j - l.length * 2) hj2 (hc _ hj2)
          rw [show off + l.length * 2 + (j - l.length * 2) = off + j by omega] at this
          rw [this]
          exact hu
    · obtain ⟨v', w', a1, a2, a3, a4⟩ := hgrow (some ⟨g, off, none⟩) l.length cap rfl (by omega) (run_firstCells_some (P := Tryd.prog) w.drew i.size l.length ⟨g, off, none⟩ l.length cap (rowG l) (by rw [h1, rowG_len]) (fun j u hu => by rw [Addr.add_mid]; show w.cell? _ = _; rw [cell_of h4]; exact h7 j u hu))
      exact ⟨v', w', a1, a2, a3, Or.inr a4⟩
/-- Some groups, as they lie at a place. -/
def Lies (w : World) (x : Addr) (zs : List Gv) : Prop := ∀ j u, (rowG zs)[j]? = some u → w.cell? (x.add j) = some u
theorem app_grs (w : World) (base : Nat) (g off cap n : Nat) (l zs : List Gv) (x : Addr) (m c : Nat) (hn : n = l.length) (hown : Gr w base (.slice (some ⟨g, off, none⟩) n cap) l) (hm : m = zs.length) (hnews : Lies w x zs) (hl : l.length + zs.length ≤ 5000) (hb : base ≤ w.heap.size) :
    ∃ v' w', (Builtin.append_ #[40, 40] 40 #[.slice (some ⟨g, off, none⟩) n cap, .slice (some x) m c]).run Tryd.prog w = .ok v' w' ∧ Gr w' base v' (l ++ zs) ∧ w.grownBy w' (some g) ∧ (∃ g' off' cap', v' = .slice (some ⟨g', off', none⟩) (l.length + zs.length) cap' ∧ (g' = g ∨ g' = w.heap.size)) := by
  obtain ⟨i, hi, hz, h1, h2⟩ := infoG'
  subst hn hm
  have hsrc : Src Tryd.prog i.size 40 (.slice (some x) zs.length c) zs.length (rowG zs) w := Src.ofSlice w Tryd.underlying40 x zs.length c (rowG zs) (by rw [h1, rowG_len]) hnews (rowG_one _)
  rcases hown with ⟨h, _⟩ | ⟨g', off', cap', cur, h, h3, h4, h5, h6, h7⟩
  · cases h
  simp only [Value.slice.injEq, Option.some.injEq, Addr.mk.injEq] at h
  obtain ⟨⟨rfl, rfl, _⟩, _, rfl⟩ := h
  by_cases hroom : l.length + zs.length ≤ cap
  · have hc : ∀ j, j < (rowG zs).length → off + l.length * i.size + j < cur.size := fun j hj => by
      rw [rowG_len] at hj
      rw [h1]
      omega
    have hr := run_append_room_src (P := Tryd.prog) w 40 40 40 43 i Tryd.underlying40 hi g off l.length cap _ zs.length (rowG zs) hsrc hroom
      (fun j hj => by rw [cell_of h4, Array.getElem?_eq_getElem (hc j hj)]; rfl) (fun j hj => by simp [World.frozen?, h4])
    rw [h1] at hr hc
    obtain ⟨cur', b1, b2, b3, b4⟩ := set_heap h4 (rowG zs) (off + l.length * 2)
    refine ⟨_, _, hr, Or.inr ⟨g, off, cap, cur', by simp, h3, b1, by simpa using hroom, by rw [b2]; exact h6, fun j u hu => ?_⟩, ⟨(set_frame g _ _ w).1, (set_frame g _ _ w).2.1, (set_frame g _ _ w).2.2.1, Nat.le_of_eq (set_frame g _ _ w).2.2.2.symm, fun k hk hne => World.heap_setCells_other w g _ _ hk (fun e => hne (by rw [e]))⟩, g, off, cap, rfl, Or.inl rfl⟩
    rw [rowG_append] at hu
    by_cases hj : j < l.length * 2
    · rw [List.getElem?_append_left (by rw [rowG_len]; exact hj)] at hu
      rw [b3 _ (by omega)]
      exact h7 j u hu
    · rw [List.getElem?_append_right (by rw [rowG_len]; omega), rowG_len] at hu
      have hj2 : j - l.length * 2 < (rowG zs).length := (List.getElem?_eq_some_iff.1 hu).1
      have := b4 (j - l.length * 2) hj2 (hc _ hj2)
      rw [show off + l.length * 2 + (j - l.length * 2) = off + j by omega] at this
      rw [this]
      exact hu
  · have hold := run_firstCells_some (P := Tryd.prog) w.drew i.size l.length ⟨g, off, none⟩ l.length cap (rowG l) (by rw [h1, rowG_len]) (fun j u hu => by rw [Addr.add_mid]; show w.cell? _ = _; rw [cell_of h4]; exact h7 j u hu)
    have hr := run_append_grow_src (P := Tryd.prog) w 40 40 40 43 i (.agg #[.int .i64 0, .slice none 0 0]) Tryd.underlying40 hi hz (some ⟨g, off, none⟩) l.length cap (rowG l) hold _ zs.length (rowG zs) hsrc (by omega) (by omega) (growslice_fits (by omega) (by rw [h2]; omega))
    have hge := grownCap_ge w (l.length + zs.length) cap 43
    refine ⟨_, _, hr, Or.inr ⟨w.heap.size, 0, grownCap w (l.length + zs.length) cap 43, _, by simp, hb, heap_alloc_new w.drew _, by simpa using hge, ?_, fun j u hu => ?_⟩, ⟨rfl, rfl, rfl, by simp, fun k hk _ => Below.heap_alloc w.drew _ k hk⟩, w.heap.size, 0, _, rfl, Or.inr rfl⟩
    · simp only [Array.size_append, List.size_toArray, List.length_append, rowG_len, size_zeroCells]
      show 0 + _ ≤ l.length * 2 + zs.length * 2 + _ * 2
      omega
    · rw [Nat.zero_add, ← rowG_append, Array.getElem?_append_left (by rw [List.size_toArray]; exact (List.getElem?_eq_some_iff.1 hu).1), List.getElem?_toArray]
      exact hu
end Go.Proofs.YtkldnapbeebdkaaDoor.hr
