/- A row of tokens that grows: what append makes of it, what lies in it, what is put into it. -/
import Derived.Test.YtfngcphklfjhjaaDoorLxV
import Derived.Deep.Upon
namespace Go.Proofs.YtfngcphklfjhjaaDoor.tr
set_option linter.unusedVariables false
open Go.ChangeShapes Go.WideShapes Go.ChangeAt Go.RowKit
open mem lx

/-- Triples, as cells. -/
def rowE (l : List Tk) : List Value := l.flatMap fun x => [.string (tx x.t), .int .i64 (x.a : Int)]
theorem rowE_cons (x : Tk) (l : List Tk) : rowE (x :: l) = [.string (tx x.t), .int .i64 (x.a : Int)] ++ rowE l := by unfold rowE; rw [List.flatMap_cons]
theorem rowE_len (l : List Tk) : (rowE l).length = l.length * 2 := by
  induction l with
  | nil => rfl
  | cons x l ih => rw [rowE_cons, List.length_append, ih]; simp; omega
theorem rowE_append (a b : List Tk) : rowE (a ++ b) = rowE a ++ rowE b := by unfold rowE; rw [List.flatMap_append]
theorem rowE_get (l : List Tk) (k : Nat) (h : k < l.length) : (rowE l)[k * 2]? = some (.string (tx l[k].t)) ∧ (rowE l)[k * 2 + 1]? = some (.int .i64 (l[k].a : Int)) := by
  induction l generalizing k with
  | nil => exact absurd h (Nat.not_lt_zero _)
  | cons x l ih =>
    rw [rowE_cons]
    cases k with
    | zero => exact ⟨rfl, rfl⟩
    | succ k =>
      have := ih k (by simpa using h)
      rw [show (k + 1) * 2 = k * 2 + 2 by omega]
      exact this
theorem rowE_one (l : List Tk) (u : Value) (hu : u ∈ rowE l) : u.oneCell' = true := by
  unfold rowE at hu
  rw [List.mem_flatMap] at hu
  obtain ⟨y, _, hy⟩ := hu
  simp at hy
  rcases hy with rfl | rfl <;> rfl
theorem infoE : (Tryd.prog.info? 35).map (fun i => (i.zero, i.size, i.bytes)) = some (some (.agg #[.string ⟨#[]⟩, .int .i64 0]), 2, 24) := by kernel_rfl
theorem infoE' : ∃ i, Tryd.prog.info? 35 = some i ∧ i.zero = some (.agg #[.string ⟨#[]⟩, .int .i64 0]) ∧ i.size = 2 ∧ i.bytes = 24 := by
  obtain ⟨i, h1, h2⟩ := Option.map_eq_some_iff.1 infoE
  simp only [Prod.mk.injEq] at h2
  exact ⟨i, h1, h2.1, h2.2.1, h2.2.2⟩
/-- These triples lie at p. -/
def In (w : World) (p : Option Addr) (l : List Tk) : Prop :=
  l = [] ∨ ∃ x : Addr, p = some x ∧ ∀ j u, (rowE l)[j]? = some u → w.cell? (x.add j) = some u
theorem In.step {w w' : World} {p : Option Addr} {l : List Tk} (h : In w p l) (hb : Bl w w') : In w' p l := by
  rcases h with h | ⟨x, h1, h2⟩
  · exact Or.inl h
  · exact Or.inr ⟨x, h1, fun k u hk => at_bl hb (h2 k u hk)⟩
theorem In.at {w : World} {p : Option Addr} {l : List Tk} (h : In w p l) (k : Nat) (hk : k < l.length) : ∃ x : Addr, p = some x ∧ w.cell? (x.add (k * 2)) = some (.string (tx l[k].t)) ∧ w.cell? (x.add (k * 2 + 1)) = some (.int .i64 (l[k].a : Int)) := by
  rcases h with h | ⟨x, h1, h2⟩
  · subst h; exact absurd hk (Nat.not_lt_zero _)
  · obtain ⟨a, b⟩ := rowE_get l k hk
    exact ⟨x, h1, h2 _ _ a, h2 _ _ b⟩
theorem add_next (x : Addr) (m j : Nat) : x.add (m + (j + 1)) = ⟨(x.add m).block, (x.add m).off + (j + 1), none⟩ := by
  cases m with
  | zero => rw [Nat.zero_add, Addr.add_succ', Addr.add_zero']
  | succ m => rw [show m + 1 + (j + 1) = (m + 1 + j) + 1 by omega, Addr.add_succ', Addr.add_succ']; simp; omega
/-- .. as a walk asks for them. -/
theorem In.at' {w : World} {p : Option Addr} {l : List Tk} (h : In w p l) (k : Nat) (hk : k < l.length) : ∃ x : Addr, p = some x ∧ w.cell? (x.add (k * 2)) = some (.string (tx l[k].t)) ∧ w.cell? ⟨(x.add (k * 2)).block, (x.add (k * 2)).off + 1, none⟩ = some (.int .i64 (l[k].a : Int)) := by
  obtain ⟨x, h1, h2, h3⟩ := h.at k hk
  rw [add_next x (k * 2) 0] at h3
  exact ⟨x, h1, h2, h3⟩
theorem In.tail {w : World} {x : Addr} {e : Tk} {l : List Tk} (h : In w (some x) (e :: l)) : In w (some (x.add 2)) l := by
  rcases h with h | ⟨y, h1, h2⟩
  · cases h
  · injection h1 with h1
    subst h1
    refine Or.inr ⟨_, rfl, fun j u hu => ?_⟩
    have := h2 (2 + j) u (by rw [rowE_cons, List.getElem?_append_right (by simp)]; simpa using hu)
    rw [Addr.add_add]
    exact this
theorem In.cut {w : World} {x : Addr} {e : Tk} {l : List Tk} {m c : Nat} (h : In w (some x) (e :: l)) (hm : (e :: l).length = m) (hc : m ≤ c) : In w (if c = 1 then some x else some ⟨x.block, x.off + 2, none⟩) l ∧ m - 1 = l.length ∧ l.length ≤ c - 1 := by
  have hl : m = l.length + 1 := by rw [← hm]; simp
  refine ⟨?_, by omega, by omega⟩
  by_cases h1 : c = 1
  · exact Or.inl (List.eq_nil_of_length_eq_zero (by omega))
  · rw [if_neg h1]
    have := h.tail
    rw [Addr.add_succ'] at this
    exact this
/-- A slice that reads so. -/
def View (w : World) (v : Value) (l : List Tk) : Prop := ∃ p c, v = .slice p l.length c ∧ l.length ≤ c ∧ In w p l
theorem View.step {w w' : World} {v : Value} {l : List Tk} (h : View w v l) (hb : Bl w w') : View w' v l := by
  obtain ⟨p, c, h1, h0, h2⟩ := h
  exact ⟨p, c, h1, h0, h2.step hb⟩
/-- A row of the call's own that holds just these. -/
def Own (w : World) (base : Nat) (v : Value) (l : List Tk) : Prop := w.ownsRow base 35 2 v l.length (rowE l)
theorem Own.nil (w : World) (base : Nat) : Own w base (.slice none 0 0) [] := World.ownsRow_nil _ _ _ _
theorem Own.shape {w : World} {base : Nat} {v : Value} {l : List Tk} (h : Own w base v l) : (v = .slice none 0 0 ∧ l = []) ∨
    ∃ g cap, v = .slice (some ⟨g, 0, none⟩) l.length cap ∧ base ≤ g ∧ g < w.heap.size ∧ l.length ≤ cap ∧ cap ≤ maxLen ∧ (∀ j, w.frozen? ⟨g, j, none⟩ = false) ∧ ∀ j u, (rowE l)[j]? = some u → w.cell? ⟨g, j, none⟩ = some u := by
  rcases h.2 with ⟨h1, h2⟩ | ⟨g, cap, cur, rfl, hbg, hg, hnc, hcm, hcs, htake⟩
  · exact Or.inl ⟨h1, List.eq_nil_of_length_eq_zero h2⟩
  · refine Or.inr ⟨g, cap, rfl, hbg, lt_of_heap hg, hnc, hcm, fun j => by simp [World.frozen?, hg], fun j u hu => ?_⟩
    have hj : j < l.length * 2 := by
      have := (List.getElem?_eq_some_iff.1 hu).1
      rw [rowE_len] at this
      exact this
    rw [← htake, List.getElem?_take, if_pos hj] at hu
    rw [cell_of hg]
    simpa using hu
theorem Own.kind {w : World} {base g n cap : Nat} {l : List Tk} (h : Own w base (.slice (some ⟨g, 0, none⟩) n cap) l) : ∃ cur, w.heap[g]? = some (.cells cur 35 (0, 0)) := by
  rcases h.2 with ⟨h1, _⟩ | ⟨g', cap', cur, h1, h2, h3, _⟩
  · cases h1
  · simp only [Value.slice.injEq, Option.some.injEq, Addr.mk.injEq] at h1
    obtain ⟨⟨rfl, _, _⟩, _, _⟩ := h1
    exact ⟨cur, h3⟩
theorem Own.view {w : World} {base : Nat} {v : Value} {l : List Tk} (h : Own w base v l) : View w v l := by
  rcases h.shape with ⟨rfl, rfl⟩ | ⟨g, cap, rfl, _, _, h4, _, _, hc⟩
  · exact ⟨none, 0, rfl, Nat.le_refl _, Or.inl rfl⟩
  · exact ⟨_, cap, rfl, h4, Or.inr ⟨_, rfl, fun j u hu => by rw [Addr.add_lit, Nat.zero_add]; exact hc j u hu⟩⟩
theorem Own.block {w : World} {base : Nat} {v : Value} {l : List Tk} (h : Own w base v l) : ∀ k, v.ownBlock = some k → base ≤ k ∧ k < w.heap.size := World.ownsRow.lt h
theorem Own.step {w w' : World} {base : Nat} {v : Value} {l : List Tk} (h : Own w base v l) (hb : Bl w w') : Own w' base v l := by
  refine ⟨h.1, ?_⟩
  rcases h.2 with h | ⟨g, cap, cur, h1, h2, h3, h4⟩
  · exact Or.inl h
  · refine Or.inr ⟨g, cap, cur, h1, h2, ?_, h4⟩
    rw [Below.block hb g (lt_of_heap h3)]
    exact h3
theorem Own.low {w : World} {base base' : Nat} {v : Value} {l : List Tk} (h : Own w base v l) (hb : base' ≤ base) : Own w base' v l := by
  refine ⟨h.1, ?_⟩
  rcases h.2 with h | ⟨g, cap, cur, h1, h2, h3⟩
  · exact Or.inl h
  · exact Or.inr ⟨g, cap, cur, h1, by omega, h3⟩
theorem Own.kept {w w' : World} {base : Nat} {v : Value} {l : List Tk} {row : Option Nat} (h : Own w base v l) (hg : w.grownBy w' row) (hne : ∀ k, v.ownBlock = some k → row ≠ some k) : Own w' base v l :=
  World.ownsRow.kept h hg (by
    cases e : v.ownBlock with
    | none => exact Or.inl rfl
    | some k => exact Or.inr (fun e' => hne k e e'.symm))
theorem Own.set {w : World} {base g cap j : Nat} {l l' : List Tk} {u : Value} (h : Own w base (.slice (some ⟨g, 0, none⟩) l.length cap) l) (hl : l'.length = l.length) (hr : rowE l' = (rowE l).set j u) : Own (w.setCell ⟨g, j, none⟩ u) base (.slice (some ⟨g, 0, none⟩) l'.length cap) l' := by
  refine ⟨by rw [rowE_len], ?_⟩
  rcases h.2 with ⟨h1, _⟩ | ⟨g', cap', cur, h1, h2, h3, h4, h5, h6, h7⟩
  · cases h1
  · simp only [Value.slice.injEq, Option.some.injEq, Addr.mk.injEq] at h1
    obtain ⟨⟨rfl, _, _⟩, _, rfl⟩ := h1
    refine Or.inr ⟨g, cap, cur.setIfInBounds j u, rfl, h2, ?_, by omega, h5, by simpa using h6, ?_⟩
    · simp [World.setCell, h3, Array.getElem?_modify]
    · rw [hr, ← h7, hl, Array.toList_setIfInBounds, List.take_set]
theorem app_many (w : World) (base : Nat) (v : Value) (l : List Tk) (z : List Tk) (x : Addr) (c : Nat) (hown : Own w base v l) (hX : ∀ j u, (rowE z)[j]? = some u → w.cell? (x.add j) = some u) (hn : l.length + z.length ≤ 100000) (hb : base ≤ w.heap.size) :
    ∃ v' w', (Builtin.append_ #[23, 23] 23 #[v, .slice (some x) z.length c]).run Tryd.prog w = .ok v' w' ∧ Own w' base v' (l ++ z) ∧ w.grownBy w' v.ownBlock := by
  obtain ⟨i, hi, hz, h1, h2⟩ := infoE'
  obtain ⟨v', w', hr, ho, hg, _⟩ := run_append_own (P := Tryd.prog) w base 23 23 35 i (.agg #[.string ⟨#[]⟩, .int .i64 0]) 2 24 Tryd.underlying23 hi hz h1 h2 rfl (by decide) v l.length (rowE l) hown
    x z.length c (rowE z) (rowE_len z) hX (rowE_one z) (by simp [maxLen]; omega) (by omega) hb
  refine ⟨v', w', hr, ?_, hg⟩
  unfold Own
  rw [rowE_append, List.length_append]
  exact ho
theorem app_one (w : World) (base : Nat) (v : Value) (l : List Tk) (z : Tk) (X : Nat) (hown : Own w base v l) (hX : w.cell? ⟨X, 0, none⟩ = some (.string (tx z.t))) (hX1 : w.cell? ⟨X, 1, none⟩ = some (.int .i64 (z.a : Int))) (hn : l.length ≤ 20000) (hb : base ≤ w.heap.size) :
    ∃ v' w', (Builtin.append_ #[23, 23] 23 #[v, .slice (some ⟨X, 0, none⟩) 1 1]).run Tryd.prog w = .ok v' w' ∧ Own w' base v' (l ++ [z]) ∧ w.grownBy w' v.ownBlock :=
  app_many w base v l [z] ⟨X, 0, none⟩ 1 hown (fun j u hu => by
    rcases j with _ | _ | j
    · simp [rowE] at hu; subst hu; simpa [Addr.add] using hX
    · simp [rowE] at hu; subst hu; simpa [Addr.add] using hX1
    · simp [rowE] at hu) (by simp; omega) hb
/-- All of a slice behind a row. -/
theorem app_view (w : World) (base : Nat) (v u : Value) (l z : List Tk) (hown : Own w base v l) (hv : View w u z) (hn : l.length + z.length ≤ 100000) (hb : base ≤ w.heap.size) :
    ∃ v' w', (Builtin.append_ #[23, 23] 23 #[v, u]).run Tryd.prog w = .ok v' w' ∧ Own w' base v' (l ++ z) ∧ w.grownBy w' v.ownBlock := by
  obtain ⟨p, c, rfl, hc, hin⟩ := hv
  cases p with
  | some x =>
    refine app_many w base v l z x c hown ?_ hn hb
    rcases hin with rfl | ⟨y, h1, h2⟩
    · intro j u hu; simp [rowE] at hu
    · injection h1 with h1; subst h1; exact h2
  | none =>
    have hz : z = [] := by
      rcases hin with h | ⟨y, h1, _⟩
      · exact h
      · cases h1
    subst hz
    obtain ⟨i, hi, hzz, h1, h2⟩ := infoE'
    have hvs : ∃ b m c, v = .slice b m c ∧ m ≤ c := by
      rcases hown.shape with ⟨rfl, _⟩ | ⟨g, cap, rfl, _, _, h4, _⟩
      · exact ⟨_, _, _, rfl, Nat.le_refl _⟩
      · exact ⟨_, _, _, rfl, h4⟩
    obtain ⟨b, m, cc, rfl, hm⟩ := hvs
    refine ⟨_, w, run_append_nothing (P := Tryd.prog) w 23 23 23 35 i Tryd.underlying23 hi b m cc hm _ (Src.ofNil w Tryd.underlying23 c), by rw [List.append_nil]; exact hown, ⟨rfl, rfl, rfl, Nat.le_refl _, fun _ _ _ => rfl⟩⟩
end Go.Proofs.YtfngcphklfjhjaaDoor.tr
