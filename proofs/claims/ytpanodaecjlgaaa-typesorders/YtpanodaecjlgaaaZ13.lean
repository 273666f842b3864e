/- Texts laid together: ItRow, ExV, Tm1, Tm2. -/
import Derived.Test.YtpanodaecjlgaaaZ6
import Derived.Test.YtpanodaecjlgaaaZ2
import Derived.Deep.Upon
import Derived.Test.YtpanodaecjlgaaaZ11
import Derived.Maps.OwnSet
import Derived.StringKeys
import Derived.Test.YtpanodaecjlgaaaZ3
/- Rows of items, and of structs, as they lie. -/
namespace Go.Proofs.Ytpanodaecjlgaaa.tm
set_option linter.unusedVariables false
open Go.ChangeShapes Go.WideShapes Go.ChangeAt Go.RowKit
open mem lx ex

/-- An item's cells. -/
structure C where
  d : D
  pc : Option Addr
  p : Option Addr
  n : Nat
  c : Nat
def cl (x : C) : List Value := [.int .i64 (x.d.kd : Int), .int .i64 (x.d.at_ : Int), .string (tx x.d.nm), .string (tx x.d.ty), .int .i64 (x.d.wd : Int), .int .i64 (x.d.od : Int), .bool x.d.sg, .bool x.d.mn, .pointer x.pc, .int .i64 (x.d.ru : Int), .string (tx x.d.f1), .string (tx x.d.l1), .slice x.p x.n x.c]
/-- A struct's cells. -/
structure CT where
  nm : List UInt8
  a : Nat
  p : Option Addr
  n : Nat
  c : Nat
def clT (x : CT) : List Value := [.string (tx x.nm), .int .i64 (x.a : Int), .slice x.p x.n x.c]
namespace ir
abbrev E := C
def rowE (l : List C) : List Value := l.flatMap cl
theorem rowE_cons (x : C) (l : List C) : rowE (x :: l) = cl x ++ rowE l := by unfold rowE; rw [List.flatMap_cons]
theorem cl_len (x : C) : (cl x).length = 13 := rfl
theorem rowE_len (l : List C) : (rowE l).length = l.length * 13 := by
  induction l with
  | nil => rfl
  | cons x l ih => rw [rowE_cons, List.length_append, ih, cl_len]; simp only [List.length_cons]; omega
theorem rowE_append (a b : List C) : rowE (a ++ b) = rowE a ++ rowE b := by unfold rowE; rw [List.flatMap_append]
theorem rowE_get (l : List C) (k : Nat) (h : k < l.length) (j : Nat) (hj : j < 13) : (rowE l)[k * 13 + j]? = (cl l[k])[j]? := by
  induction l generalizing k with
  | nil => exact absurd h (Nat.not_lt_zero _)
  | cons x l ih =>
    rw [rowE_cons]
    cases k with
    | zero => rw [Nat.zero_mul, Nat.zero_add, List.getElem?_append_left (by rw [cl_len]; exact hj)]; rfl
    | succ k =>
      rw [List.getElem?_append_right (by rw [cl_len]; omega), cl_len, show (k + 1) * 13 + j - 13 = k * 13 + j by omega]
      exact ih k (by simpa using h)
theorem rowE_one (l : List C) (u : Value) (hu : u ∈ rowE l) : u.oneCell' = true := by
  unfold rowE at hu
  rw [List.mem_flatMap] at hu
  obtain ⟨y, _, hy⟩ := hu
  simp only [cl, List.mem_cons, List.not_mem_nil, or_false] at hy
  rcases hy with rfl | rfl | rfl | rfl | rfl | rfl | rfl | rfl | rfl | rfl | rfl | rfl | rfl <;> rfl
theorem infoE : (Try.prog.info? 42).map (fun i => (i.zero, i.size, i.bytes)) = some (some (.agg #[.int .i64 0, .int .i64 0, .string ⟨#[]⟩, .string ⟨#[]⟩, .int .i64 0, .int .i64 0, .bool false, .bool false, .pointer none, .int .i64 0, .string ⟨#[]⟩, .string ⟨#[]⟩, .slice none 0 0]), 13, 144) := by kernel_rfl
theorem infoE' : ∃ i, Try.prog.info? 42 = some i ∧ i.zero = some (.agg #[.int .i64 0, .int .i64 0, .string ⟨#[]⟩, .string ⟨#[]⟩, .int .i64 0, .int .i64 0, .bool false, .bool false, .pointer none, .int .i64 0, .string ⟨#[]⟩, .string ⟨#[]⟩, .slice none 0 0]) ∧ i.size = 13 ∧ i.bytes = 144 := by
  obtain ⟨i, h1, h2⟩ := Option.map_eq_some_iff.1 infoE
  simp only [Prod.mk.injEq] at h2
  exact ⟨i, h1, h2.1, h2.2.1, h2.2.2⟩
/-- A row of the call's own that holds just these. -/
def Own (w : World) (base : Nat) (v : Value) (l : List C) : Prop := w.ownsRow base 42 13 v l.length (rowE l)
theorem Own.nil (w : World) (base : Nat) : Own w base (.slice none 0 0) [] := World.ownsRow_nil _ _ _ _
theorem Own.shape {w : World} {base : Nat} {v : Value} {l : List C} (h : Own w base v l) : (v = .slice none 0 0 ∧ l = []) ∨
    ∃ g cap, v = .slice (some ⟨g, 0, none⟩) l.length cap ∧ base ≤ g ∧ g < w.heap.size ∧ l.length ≤ cap ∧ cap ≤ maxLen ∧ (∀ j, w.frozen? ⟨g, j, none⟩ = false) ∧ ∀ j u, (rowE l)[j]? = some u → w.cell? ⟨g, j, none⟩ = some u := by
  rcases h.2 with ⟨h1, h2⟩ | ⟨g, cap, cur, rfl, hbg, hg, hnc, hcm, hcs, htake⟩
  · exact Or.inl ⟨h1, List.eq_nil_of_length_eq_zero h2⟩
  · refine Or.inr ⟨g, cap, rfl, hbg, lt_of_heap hg, hnc, hcm, fun j => by simp [World.frozen?, hg], fun j u hu => ?_⟩
    have hj : j < l.length * 13 := by
      have := (List.getElem?_eq_some_iff.1 hu).1
      rw [rowE_len] at this
      exact this
    rw [← htake, List.getElem?_take, if_pos hj] at hu
    rw [cell_of hg]
    simpa using hu
theorem Own.kind {w : World} {base g n cap : Nat} {l : List C} (h : Own w base (.slice (some ⟨g, 0, none⟩) n cap) l) : ∃ cur, w.heap[g]? = some (.cells cur 42 (0, 0)) := by
  rcases h.2 with ⟨h1, _⟩ | ⟨g', cap', cur, h1, h2, h3, _⟩
  · cases h1
  · simp only [Value.slice.injEq, Option.some.injEq, Addr.mk.injEq] at h1
    obtain ⟨⟨rfl, _, _⟩, _, _⟩ := h1
    exact ⟨cur, h3⟩
theorem Own.block {w : World} {base : Nat} {v : Value} {l : List C} (h : Own w base v l) : ∀ k, v.ownBlock = some k → base ≤ k ∧ k < w.heap.size := World.ownsRow.lt h
theorem Own.step {w w' : World} {base : Nat} {v : Value} {l : List C} (h : Own w base v l) (hb : ∀ g, base ≤ g → g < w.heap.size → w'.heap[g]? = w.heap[g]?) : Own w' base v l := by
  refine ⟨h.1, ?_⟩
  rcases h.2 with h | ⟨g, cap, cur, h1, h2, h3, h4⟩
  · exact Or.inl h
  · refine Or.inr ⟨g, cap, cur, h1, h2, ?_, h4⟩
    rw [hb g h2 (lt_of_heap h3)]
    exact h3
theorem Own.bl {w w' : World} {base : Nat} {v : Value} {l : List C} (h : Own w base v l) (hb : Bl w w') : Own w' base v l := h.step (fun g _ hg => Below.block hb g hg)
theorem Own.gp {w w' : World} {base P : Nat} {v : Value} {l : List C} (h : Own w base v l) (hb : Gp P w w') (hP : P < base) : Own w' base v l := h.step (fun g h1 hg => hb.block g hg (by omega))
theorem app_one (w : World) (base : Nat) (v : Value) (l : List C) (z : C) (x : Addr) (hown : Own w base v l) (hX : ∀ j u, (cl z)[j]? = some u → w.cell? (x.add j) = some u) (hn : l.length ≤ 20000) (hb : base ≤ w.heap.size) :
    ∃ v' w', (Builtin.append_ #[26, 26] 26 #[v, .slice (some x) 1 1]).run Try.prog w = .ok v' w' ∧ Own w' base v' (l ++ [z]) ∧ w.grownBy w' v.ownBlock := by
  obtain ⟨i, hi, hz, h1, h2⟩ := infoE'
  obtain ⟨v', w', hr, ho, hg, _⟩ := run_append_own (P := Try.prog) w base 26 26 42 i (.agg #[.int .i64 0, .int .i64 0, .string ⟨#[]⟩, .string ⟨#[]⟩, .int .i64 0, .int .i64 0, .bool false, .bool false, .pointer none, .int .i64 0, .string ⟨#[]⟩, .string ⟨#[]⟩, .slice none 0 0]) 13 144 Try.underlying26 hi hz h1 h2 rfl (by decide) v l.length (rowE l) hown
    x 1 1 (cl z) rfl hX (fun u hu => rowE_one [z] u (by rw [rowE_cons]; simp [hu])) (by simp [maxLen]; omega) (by omega) hb
  refine ⟨v', w', hr, ?_, hg⟩
  unfold Own
  rw [rowE_append, List.length_append]
  have e : rowE [z] = cl z := by rw [rowE_cons]; simp [rowE]
  rw [e]
  exact ho
/-- A row that lies so. -/
def Lie (w : World) (ok : Nat → Prop) (p : Option Addr) (n c : Nat) (l : List C) : Prop :=
  n = l.length ∧ n ≤ c ∧ (l = [] ∨ ∃ g, p = some ⟨g, 0, none⟩ ∧ ok g ∧ g < w.heap.size ∧ ∀ j u, (rowE l)[j]? = some u → w.cell? ⟨g, j, none⟩ = some u)
theorem Own.lie {w : World} {base : Nat} {v : Value} {l : List C} (h : Own w base v l) : ∃ p c, v = .slice p l.length c ∧ Lie w (fun g => base ≤ g) p l.length c l := by
  rcases h.shape with ⟨rfl, rfl⟩ | ⟨g, cap, rfl, h1, h2, h4, _, _, hc⟩
  · exact ⟨none, 0, rfl, rfl, Nat.le_refl _, Or.inl rfl⟩
  · exact ⟨_, cap, rfl, rfl, h4, Or.inr ⟨g, rfl, h1, h2, hc⟩⟩
theorem Lie.keep {w w' : World} {ok : Nat → Prop} {p : Option Addr} {n c : Nat} {l : List C} (h : Lie w ok p n c l) (hk : ∀ g, ok g → g < w.heap.size → w'.heap[g]? = w.heap[g]?) (hs : w.heap.size ≤ w'.heap.size) : Lie w' ok p n c l := by
  obtain ⟨h1, h2, h3⟩ := h
  refine ⟨h1, h2, ?_⟩
  rcases h3 with h3 | ⟨g, e, h4, h5, h6⟩
  · exact Or.inl h3
  · refine Or.inr ⟨g, e, h4, by omega, fun j u hu => ?_⟩
    have := h6 j u hu
    unfold World.cell? at this ⊢
    rw [hk g h4 h5]
    exact this
theorem Lie.mono {w : World} {ok ok' : Nat → Prop} {p : Option Addr} {n c : Nat} {l : List C} (h : Lie w ok p n c l) (ho : ∀ g, ok g → g < w.heap.size → ok' g) : Lie w ok' p n c l := by
  obtain ⟨h1, h2, h3⟩ := h
  refine ⟨h1, h2, ?_⟩
  rcases h3 with h3 | ⟨g, e, h4, h5, h6⟩
  · exact Or.inl h3
  · exact Or.inr ⟨g, e, ho g h4 h5, h5, h6⟩
/-- .. as a walk asks for it. -/
theorem Lie.at {w : World} {ok : Nat → Prop} {p : Option Addr} {n c : Nat} {l : List C} (h : Lie w ok p n c l) (k : Nat) (hk : k < l.length) : ∃ x : Addr, p = some x ∧ x.block < w.heap.size ∧ ok x.block ∧ ∀ j u, (cl l[k])[j]? = some u → w.cell? ⟨(x.add (k * 13)).block, (x.add (k * 13)).off + j, none⟩ = some u := by
  obtain ⟨h1, h2, h3⟩ := h
  rcases h3 with h3 | ⟨g, e, h4, h5, h6⟩
  · subst h3; exact absurd hk (Nat.not_lt_zero _)
  · refine ⟨_, e, h5, h4, fun j u hu => ?_⟩
    rw [Addr.add_lit, Nat.zero_add]
    have hj : j < 13 := by
      have := (List.getElem?_eq_some_iff.1 hu).1
      rw [cl_len] at this
      exact this
    exact h6 (k * 13 + j) u (by rw [rowE_get l k hk j hj]; exact hu)
end ir
namespace sr
abbrev E := CT
def rowE (l : List CT) : List Value := l.flatMap clT
theorem rowE_cons (x : CT) (l : List CT) : rowE (x :: l) = clT x ++ rowE l := by unfold rowE; rw [List.flatMap_cons]
theorem cl_len (x : CT) : (clT x).length = 3 := rfl
theorem rowE_len (l : List CT) : (rowE l).length = l.length * 3 := by
  induction l with
  | nil => rfl
  | cons x l ih => rw [rowE_cons, List.length_append, ih, cl_len]; simp only [List.length_cons]; omega
theorem rowE_append (a b : List CT) : rowE (a ++ b) = rowE a ++ rowE b := by unfold rowE; rw [List.flatMap_append]
theorem rowE_get (l : List CT) (k : Nat) (h : k < l.length) (j : Nat) (hj : j < 3) : (rowE l)[k * 3 + j]? = (clT l[k])[j]? := by
  induction l generalizing k with
  | nil => exact absurd h (Nat.not_lt_zero _)
  | cons x l ih =>
    rw [rowE_cons]
    cases k with
    | zero => rw [Nat.zero_mul, Nat.zero_add, List.getElem?_append_left (by rw [cl_len]; exact hj)]; rfl
    | succ k =>
      rw [List.getElem?_append_right (by rw [cl_len]; omega), cl_len, show (k + 1) * 3 + j - 3 = k * 3 + j by omega]
      exact ih k (by simpa using h)
theorem rowE_one (l : List CT) (u : Value) (hu : u ∈ rowE l) : u.oneCell' = true := by
  unfold rowE at hu
  rw [List.mem_flatMap] at hu
  obtain ⟨y, _, hy⟩ := hu
  simp only [clT, List.mem_cons, List.not_mem_nil, or_false] at hy
  rcases hy with rfl | rfl | rfl <;> rfl
theorem infoE : (Try.prog.info? 28).map (fun i => (i.zero, i.size, i.bytes)) = some (some (.agg #[.string ⟨#[]⟩, .int .i64 0, .slice none 0 0]), 3, 48) := by kernel_rfl
theorem infoE' : ∃ i, Try.prog.info? 28 = some i ∧ i.zero = some (.agg #[.string ⟨#[]⟩, .int .i64 0, .slice none 0 0]) ∧ i.size = 3 ∧ i.bytes = 48 := by
  obtain ⟨i, h1, h2⟩ := Option.map_eq_some_iff.1 infoE
  simp only [Prod.mk.injEq] at h2
  exact ⟨i, h1, h2.1, h2.2.1, h2.2.2⟩
/-- A row of the call's own that holds just these. -/
def Own (w : World) (base : Nat) (v : Value) (l : List CT) : Prop := w.ownsRow base 28 3 v l.length (rowE l)
theorem Own.nil (w : World) (base : Nat) : Own w base (.slice none 0 0) [] := World.ownsRow_nil _ _ _ _
theorem Own.shape {w : World} {base : Nat} {v : Value} {l : List CT} (h : Own w base v l) : (v = .slice none 0 0 ∧ l = []) ∨
    ∃ g cap, v = .slice (some ⟨g, 0, none⟩) l.length cap ∧ base ≤ g ∧ g < w.heap.size ∧ l.length ≤ cap ∧ cap ≤ maxLen ∧ (∀ j, w.frozen? ⟨g, j, none⟩ = false) ∧ ∀ j u, (rowE l)[j]? = some u → w.cell? ⟨g, j, none⟩ = some u := by
  rcases h.2 with ⟨h1, h2⟩ | ⟨g, cap, cur, rfl, hbg, hg, hnc, hcm, hcs, htake⟩
  · exact Or.inl ⟨h1, List.eq_nil_of_length_eq_zero h2⟩
  · refine Or.inr ⟨g, cap, rfl, hbg, lt_of_heap hg, hnc, hcm, fun j => by simp [World.frozen?, hg], fun j u hu => ?_⟩
    have hj : j < l.length * 3 := by
      have := (List.getElem?_eq_some_iff.1 hu).1
      rw [rowE_len] at this
      exact this
    rw [← htake, List.getElem?_take, if_pos hj] at hu
    rw [cell_of hg]
    simpa using hu
theorem Own.kind {w : World} {base g n cap : Nat} {l : List CT} (h : Own w base (.slice (some ⟨g, 0, none⟩) n cap) l) : ∃ cur, w.heap[g]? = some (.cells cur 28 (0, 0)) := by
  rcases h.2 with ⟨h1, _⟩ | ⟨g', cap', cur, h1, h2, h3, _⟩
  · cases h1
  · simp only [Value.slice.injEq, Option.some.injEq, Addr.mk.injEq] at h1
    obtain ⟨⟨rfl, _, _⟩, _, _⟩ := h1
    exact ⟨cur, h3⟩
theorem Own.block {w : World} {base : Nat} {v : Value} {l : List CT} (h : Own w base v l) : ∀ k, v.ownBlock = some k → base ≤ k ∧ k < w.heap.size := World.ownsRow.lt h
theorem Own.step {w w' : World} {base : Nat} {v : Value} {l : List CT} (h : Own w base v l) (hb : ∀ g, base ≤ g → g < w.heap.size → w'.heap[g]? = w.heap[g]?) : Own w' base v l := by
  refine ⟨h.1, ?_⟩
  rcases h.2 with h | ⟨g, cap, cur, h1, h2, h3, h4⟩
  · exact Or.inl h
  · refine Or.inr ⟨g, cap, cur, h1, h2, ?_, h4⟩
    rw [hb g h2 (lt_of_heap h3)]
    exact h3
theorem Own.bl {w w' : World} {base : Nat} {v : Value} {l : List CT} (h : Own w base v l) (hb : Bl w w') : Own w' base v l := h.step (fun g _ hg => Below.block hb g hg)
theorem Own.gp {w w' : World} {base P : Nat} {v : Value} {l : List CT} (h : Own w base v l) (hb : Gp P w w') (hP : P < base) : Own w' base v l := h.step (fun g h1 hg => hb.block g hg (by omega))
theorem app_one (w : World) (base : Nat) (v : Value) (l : List CT) (z : CT) (x : Addr) (hown : Own w base v l) (hX : ∀ j u, (clT z)[j]? = some u → w.cell? (x.add j) = some u) (hn : l.length ≤ 20000) (hb : base ≤ w.heap.size) :
    ∃ v' w', (Builtin.append_ #[22, 22] 22 #[v, .slice (some x) 1 1]).run Try.prog w = .ok v' w' ∧ Own w' base v' (l ++ [z]) ∧ w.grownBy w' v.ownBlock := by
  obtain ⟨i, hi, hz, h1, h2⟩ := infoE'
  obtain ⟨v', w', hr, ho, hg, _⟩ := run_append_own (P := Try.prog) w base 22 22 28 i (.agg #[.string ⟨#[]⟩, .int .i64 0, .slice none 0 0]) 3 48 Try.underlying22 hi hz h1 h2 rfl (by decide) v l.length (rowE l) hown
    x 1 1 (clT z) rfl hX (fun u hu => rowE_one [z] u (by rw [rowE_cons]; simp [hu])) (by simp [maxLen]; omega) (by omega) hb
  refine ⟨v', w', hr, ?_, hg⟩
  unfold Own
  rw [rowE_append, List.length_append]
  have e : rowE [z] = clT z := by rw [rowE_cons]; simp [rowE]
  rw [e]
  exact ho
/-- A row that lies so. -/
def Lie (w : World) (ok : Nat → Prop) (p : Option Addr) (n c : Nat) (l : List CT) : Prop :=
  n = l.length ∧ n ≤ c ∧ (l = [] ∨ ∃ g, p = some ⟨g, 0, none⟩ ∧ ok g ∧ g < w.heap.size ∧ ∀ j u, (rowE l)[j]? = some u → w.cell? ⟨g, j, none⟩ = some u)
theorem Own.lie {w : World} {base : Nat} {v : Value} {l : List CT} (h : Own w base v l) : ∃ p c, v = .slice p l.length c ∧ Lie w (fun g => base ≤ g) p l.length c l := by
  rcases h.shape with ⟨rfl, rfl⟩ | ⟨g, cap, rfl, h1, h2, h4, _, _, hc⟩
  · exact ⟨none, 0, rfl, rfl, Nat.le_refl _, Or.inl rfl⟩
  · exact ⟨_, cap, rfl, rfl, h4, Or.inr ⟨g, rfl, h1, h2, hc⟩⟩
theorem Lie.keep {w w' : World} {ok : Nat → Prop} {p : Option Addr} {n c : Nat} {l : List CT} (h : Lie w ok p n c l) (hk : ∀ g, ok g → g < w.heap.size → w'.heap[g]? = w.heap[g]?) (hs : w.heap.size ≤ w'.heap.size) : Lie w' ok p n c l := by
  obtain ⟨h1, h2, h3⟩ := h
  refine ⟨h1, h2, ?_⟩
  rcases h3 with h3 | ⟨g, e, h4, h5, h6⟩
  · exact Or.inl h3
  · refine Or.inr ⟨g, e, h4, by omega, fun j u hu => ?_⟩
    have := h6 j u hu
    unfold World.cell? at this ⊢
    rw [hk g h4 h5]
    exact this
theorem Lie.mono {w : World} {ok ok' : Nat → Prop} {p : Option Addr} {n c : Nat} {l : List CT} (h : Lie w ok p n c l) (ho : ∀ g, ok g → g < w.heap.size → ok' g) : Lie w ok' p n c l := by
  obtain ⟨h1, h2, h3⟩ := h
  refine ⟨h1, h2, ?_⟩
  rcases h3 with h3 | ⟨g, e, h4, h5, h6⟩
  · exact Or.inl h3
  · exact Or.inr ⟨g, e, ho g h4 h5, h5, h6⟩
/-- .. as a walk asks for it. -/
theorem Lie.at {w : World} {ok : Nat → Prop} {p : Option Addr} {n c : Nat} {l : List CT} (h : Lie w ok p n c l) (k : Nat) (hk : k < l.length) : ∃ x : Addr, p = some x ∧ x.block < w.heap.size ∧ ok x.block ∧ ∀ j u, (clT l[k])[j]? = some u → w.cell? ⟨(x.add (k * 3)).block, (x.add (k * 3)).off + j, none⟩ = some u := by
  obtain ⟨h1, h2, h3⟩ := h
  rcases h3 with h3 | ⟨g, e, h4, h5, h6⟩
  · subst h3; exact absurd hk (Nat.not_lt_zero _)
  · refine ⟨_, e, h5, h4, fun j u hu => ?_⟩
    rw [Addr.add_lit, Nat.zero_add]
    have hj : j < 3 := by
      have := (List.getElem?_eq_some_iff.1 hu).1
      rw [cl_len] at this
      exact this
    exact h6 (k * 3 + j) u (by rw [rowE_get l k hk j hj]; exact hu)
end sr
/-- How many, of an expression that is there, or not. -/
def IsO (w : World) : Option Addr → Option Ex → Prop
  | pc, none => pc = none
  | pc, some x => IsX w (.pointer pc) x
theorem IsO.keep {w w' : World} {pc : Option Addr} {o : Option Ex} (h : IsO w pc o) (hk : Kx w w') : IsO w' pc o := by
  cases o with
  | none => exact h
  | some x => exact IsX.keep hk h
/-- Items, as they lie. -/
def Rep (w : World) (ok : Nat → Prop) : Its → List C → Prop
  | .nil, cs => cs = []
  | .cons d s t, cs => ∃ c r, cs = c :: r ∧ c.d = d ∧ IsO w c.pc d.ct ∧ (∃ cs2, ir.Lie w ok c.p c.n c.c cs2 ∧ Rep w ok s cs2) ∧ Rep w ok t r
theorem Rep.keep {w w' : World} {ok : Nat → Prop} (hk : ∀ g, ok g → g < w.heap.size → w'.heap[g]? = w.heap[g]?) (hs : w.heap.size ≤ w'.heap.size) (hx : Kx w w') {l : Its} : ∀ {cs : List C}, Rep w ok l cs → Rep w' ok l cs := by
  induction l with
  | nil => intro cs h; exact h
  | cons d s t is it =>
    intro cs h
    obtain ⟨c, r, h1, h2, h3, ⟨cs2, h4, h5⟩, h6⟩ := h
    exact ⟨c, r, h1, h2, h3.keep hx, ⟨cs2, h4.keep hk hs, is h5⟩, it h6⟩
theorem Rep.mono {w : World} {ok ok' : Nat → Prop} (ho : ∀ g, ok g → g < w.heap.size → ok' g) {l : Its} : ∀ {cs : List C}, Rep w ok l cs → Rep w ok' l cs := by
  induction l with
  | nil => intro cs h; exact h
  | cons d s t is it =>
    intro cs h
    obtain ⟨c, r, h1, h2, h3, ⟨cs2, h4, h5⟩, h6⟩ := h
    exact ⟨c, r, h1, h2, h3, ⟨cs2, h4.mono ho, is h5⟩, it h6⟩
theorem Rep.len {w : World} {ok : Nat → Prop} {l : Its} : ∀ {cs : List C}, Rep w ok l cs → cs.length = l.len ∧ cs.map C.d = l.ds := by
  induction l with
  | nil => intro cs h; subst h; exact ⟨rfl, rfl⟩
  | cons d s t _ it =>
    intro cs h
    obtain ⟨c, r, rfl, h2, h3, _, h6⟩ := h
    obtain ⟨g1, g2⟩ := it h6
    exact ⟨by simp [Its.len, g1], by simp [Its.ds, g2, h2]⟩
/-- Items behind others. -/
def Its.app : Its → D → Its → Its
  | .nil, d, s => .cons d s .nil
  | .cons e u t, d, s => .cons e u (t.app d s)
theorem Rep.app {w : World} {ok : Nat → Prop} {c : C} {s : Its} (hc : IsO w c.pc c.d.ct) (hs : ∃ cs2, ir.Lie w ok c.p c.n c.c cs2 ∧ Rep w ok s cs2) {l : Its} : ∀ {cs : List C}, Rep w ok l cs → Rep w ok (l.app c.d s) (cs ++ [c]) := by
  induction l with
  | nil => intro cs h; subst h; exact ⟨c, [], rfl, rfl, hc, hs, rfl⟩
  | cons d u t _ it =>
    intro cs h
    obtain ⟨e, r, rfl, h2, h3, h4, h6⟩ := h
    exact ⟨e, r ++ [c], rfl, h2, h3, h4, it h6⟩
/-- A slice of items. -/
def IsL (w : World) (ok : Nat → Prop) (v : Value) (l : Its) : Prop := ∃ p c cs, v = .slice p l.len c ∧ ir.Lie w ok p l.len c cs ∧ Rep w ok l cs
/-- Structs, as they lie. -/
def RepT (w : World) (ok : Nat → Prop) : List Ty → List CT → Prop
  | [], cs => cs = []
  | t :: l, cs => ∃ c r, cs = c :: r ∧ c.nm = t.nm ∧ c.a = t.at_ ∧ (∃ cs2, ir.Lie w ok c.p c.n c.c cs2 ∧ Rep w ok t.l cs2) ∧ RepT w ok l r
theorem RepT.keep {w w' : World} {ok : Nat → Prop} (hk : ∀ g, ok g → g < w.heap.size → w'.heap[g]? = w.heap[g]?) (hs : w.heap.size ≤ w'.heap.size) (hx : Kx w w') {l : List Ty} : ∀ {cs : List CT}, RepT w ok l cs → RepT w' ok l cs := by
  induction l with
  | nil => intro cs h; exact h
  | cons t l it =>
    intro cs h
    obtain ⟨c, r, h1, h2, h3, ⟨cs2, h4, h5⟩, h6⟩ := h
    exact ⟨c, r, h1, h2, h3, ⟨cs2, h4.keep hk hs, h5.keep hk hs hx⟩, it h6⟩
theorem RepT.mono {w : World} {ok ok' : Nat → Prop} (ho : ∀ g, ok g → g < w.heap.size → ok' g) {l : List Ty} : ∀ {cs : List CT}, RepT w ok l cs → RepT w ok' l cs := by
  induction l with
  | nil => intro cs h; exact h
  | cons t l it =>
    intro cs h
    obtain ⟨c, r, h1, h2, h3, ⟨cs2, h4, h5⟩, h6⟩ := h
    exact ⟨c, r, h1, h2, h3, ⟨cs2, h4.mono ho, h5.mono ho⟩, it h6⟩
theorem RepT.len {w : World} {ok : Nat → Prop} {l : List Ty} : ∀ {cs : List CT}, RepT w ok l cs → cs.length = l.length := by
  induction l with
  | nil => intro cs h; subst h; rfl
  | cons t l it =>
    intro cs h
    obtain ⟨c, r, rfl, _, _, _, h6⟩ := h
    simp [it h6]
theorem RepT.app {w : World} {ok : Nat → Prop} {c : CT} {s : Its} (hs : ∃ cs2, ir.Lie w ok c.p c.n c.c cs2 ∧ Rep w ok s cs2) {l : List Ty} : ∀ {cs : List CT}, RepT w ok l cs → RepT w ok (l ++ [⟨c.nm, c.a, s⟩]) (cs ++ [c]) := by
  induction l with
  | nil => intro cs h; subst h; exact ⟨c, [], rfl, rfl, rfl, hs, rfl⟩
  | cons t l it =>
    intro cs h
    obtain ⟨e, r, rfl, h2, h3, h4, h6⟩ := h
    exact ⟨e, r ++ [c], rfl, h2, h3, h4, it h6⟩
/-- A slice of structs. -/
def IsTs (w : World) (ok : Nat → Prop) (v : Value) (l : List Ty) : Prop := ∃ p c cs, v = .slice p l.length c ∧ sr.Lie w ok p l.length c cs ∧ RepT w ok l cs
theorem IsTs.bl {w w' : World} {ok : Nat → Prop} {v : Value} {l : List Ty} (h : IsTs w ok v l) (hb : Bl w w') : IsTs w' ok v l := by
  obtain ⟨p, c, cs, h1, h2, h3⟩ := h
  exact ⟨p, c, cs, h1, h2.keep (fun g _ hg => Below.block hb g hg) hb.size, h3.keep (fun g _ hg => Below.block hb g hg) hb.size (Kx.bl hb)⟩
theorem IsL.bl {w w' : World} {ok : Nat → Prop} {v : Value} {l : Its} (h : IsL w ok v l) (hb : Bl w w') : IsL w' ok v l := by
  obtain ⟨p, c, cs, h1, h2, h3⟩ := h
  exact ⟨p, c, cs, h1, h2.keep (fun g _ hg => Below.block hb g hg) hb.size, h3.keep (fun g _ hg => Below.block hb g hg) hb.size (Kx.bl hb)⟩
end Go.Proofs.Ytpanodaecjlgaaa.tm
/- Maps of texts of the call's own; what the laws lean on. -/
namespace Go.Proofs.Ytpanodaecjlgaaa.ex
set_option linter.unusedVariables false
open Go.ChangeShapes Go.WideShapes Go.ChangeAt Go.RowKit
open mem lx
open Go.Maps

theorem lawS : Keyed Try.prog 9 := string_keyed Try.underlying9
def skey (x : List UInt8) : Lit := .string x
theorem skey_is (x : List UInt8) : WideAt.IsKeyLit (skey x) := trivial
theorem skey_inj {a b : List UInt8} (h : a ≠ b) : skey a ≠ skey b := fun e => h (by unfold skey at e; injection e)
/-- A map of the call's own that tells these numbers by texts. -/
def Om (w : World) (b : Nat) (f : List UInt8 → Option Int) (c : Nat) : Prop :=
  ∃ D : DataW Unit, w.ownsMap Try.prog 9 (plainElem Try.prog 3) b c D ∧ ∀ x, x.length ≤ 5000 → Maps.has D (skey x) = (f x).isSome ∧ D.atKey (skey x) (.lit (.int .i64 0)) = .lit (.int .i64 ((f x).getD 0))
theorem Om.step {w w' : World} {b c : Nat} {f : List UInt8 → Option Int} {row : Option Nat} (h : Om w b f c) (hg : w.grownBy w' row) (hne : some b ≠ row) : Om w' b f c := by
  obtain ⟨D, h1, h2⟩ := h
  exact ⟨D, h1.kept hg hne, h2⟩
theorem Om.made (w : World) : Om (w.alloc (.map #[] 0)) w.heap.size (fun _ => none) 0 :=
  ⟨_, World.ownsMap_made w Try.prog 9 _, fun x _ => ⟨rfl, rfl⟩⟩
theorem zero_int (w : World) : (zeroValue 3).run Try.prog w = .ok (.int .i64 0) w := by kernel_rfl
end Go.Proofs.Ytpanodaecjlgaaa.ex
/- A reader of a template's tokens: next, take, throw, want, name. -/
namespace Go.Proofs.Ytpanodaecjlgaaa.tm
set_option linter.unusedVariables false
open Go.ChangeShapes Go.WideShapes Go.ChangeAt Go.RowKit
open mem lx ex

/-- Words that are no names, and where those for numbers stand. -/
def wdV (t : List UInt8) : Int := match numW.findIdx? (fun p => p.1 == t) with | some i => (i : Int) | none => -1
def Wds (w : World) (mb : Nat) : Prop := ∃ n, Om w mb (fun t => if resv t = true then some (wdV t) else none) n
theorem gp_grown {P : Nat} {w w' : World} (h : Gp P w w') : w.grownBy w' (some P) := ⟨h.os, h.tape, h.output, h.size, fun k hk hne => h.block k hk (fun e => hne (by rw [e]))⟩
theorem suf_len {s : ByteArray} {pre ts : List Tk} (h : lx (L s) 0 = (pre ++ ts, none)) : ts.length ≤ s.size ∧ (∀ t ∈ ts, t.t.length ≤ s.size) ∧ (∀ t ∈ ts, IsT t.t) := by
  have h1 := lx_len (L s) _ 0 (Nat.le_refl _)
  have h2 := lx_ch (L s) _ 0 (Nat.le_refl _) (Nat.zero_le _)
  rw [List.drop_zero] at h2
  rw [h] at h1 h2
  dsimp only at h1 h2
  rw [L_len, List.length_append] at h1
  have h3 := tok_len h2
  rw [L_len] at h3
  refine ⟨by omega, fun t ht => h3 t (by simp [ht]), ?_⟩
  have h4 : ∀ (l : List Tk) (p : Nat), Ch (L s) p l → ∀ t ∈ l, IsT t.t := by
    intro l
    induction l with
    | nil => intro p h t ht; cases ht
    | cons u r ih =>
      intro p h t ht
      obtain ⟨_, _, _, h4, h5⟩ := (show p ≤ u.a ∧ u.a + u.t.length ≤ (L s).length ∧ ((L s).drop u.a).take u.t.length = u.t ∧ IsT u.t ∧ Ch (L s) (u.a + u.t.length) r from h)
      rw [List.mem_cons] at ht
      rcases ht with rfl | ht
      · exact h4
      · exact ih _ h5 t ht
  exact fun t ht => h4 _ _ h2 t (by simp [ht])
theorem tail_sx {s : ByteArray} {ts : List Tk} (h : ∃ pre, lx (L s) 0 = (pre ++ ts, none)) : ∃ pre, lx (L s) 0 = (pre ++ ts.tail, none) := by
  obtain ⟨pre, hp⟩ := h
  cases ts with
  | nil => exact ⟨pre, hp⟩
  | cons t r => exact ⟨pre ++ [t], by rw [hp]; simp⟩
def tkA (t : List UInt8) (a : Nat) (v : Value) : Prop := v = tkV ⟨t, a⟩
end Go.Proofs.Ytpanodaecjlgaaa.tm
/- A reader of a template's tokens: want, name; what lies where it is laid. -/
namespace Go.Proofs.Ytpanodaecjlgaaa.tm
set_option linter.unusedVariables false
open Go.ChangeShapes Go.WideShapes Go.ChangeAt Go.RowKit
open mem lx ex

theorem tk_eq (t m : List UInt8) : ((tx t).toList == m) = decide (t = m) := by
  rw [tl_tx, Bool.eq_iff_iff]; simp
def wantU (en : Nat) (m : List UInt8) (ts : List Tk) : Rs Unit := match want en m ts with | .ok r => .ok ((), r) | .error e => .error e
theorem wantU_yes {en : Nat} {m : List UInt8} {ts : List Tk} (h : (hd en ts).t = m) : wantU en m ts = .ok ((), ts.tail) := by unfold wantU want; rw [if_pos h]
theorem wantU_no {en : Nat} {m : List UInt8} {ts : List Tk} (h : ¬ (hd en ts).t = m) : wantU en m ts = .error (3, (hd en ts).a) := by unfold wantU want; rw [if_neg h]
/-- A token's variable. -/
structure Tv (w : World) (N : Nat) (S : ByteArray) (a : Int) : Prop where
  h : w.heap[N]? = some (.cells #[.string S, .int .i64 a] 67 (0, 0))
theorem Tv.facts {w : World} {N : Nat} {S : ByteArray} {a : Int} (h : Tv w N S a) : w.cell? ⟨N, 0, none⟩ = some (.string S) ∧ w.cell? ⟨N, 1, none⟩ = some (.int .i64 a) ∧ w.frozen? ⟨N, 0, none⟩ = false ∧ w.frozen? ⟨N, 1, none⟩ = false ∧ N < w.heap.size := by
  obtain ⟨h⟩ := h
  exact ⟨by rw [cell_of h]; rfl, by rw [cell_of h]; rfl, by simp [World.frozen?, h], by simp [World.frozen?, h], lt_of_heap h⟩
theorem Tv.new (w : World) (S : ByteArray) (a : Int) : Tv (w.alloc (.cells #[.string S, .int .i64 a] 67)) w.heap.size S a := ⟨new_at _ _⟩
theorem Tv.bl {w w' : World} {N : Nat} {S : ByteArray} {a : Int} (h : Tv w N S a) (hb : Bl w w') : Tv w' N S a := ⟨by rw [Below.block hb N (lt_of_heap h.h)]; exact h.h⟩
theorem Tv.gp {w w' : World} {P N : Nat} {S : ByteArray} {a : Int} (h : Tv w N S a) (hb : Gp P w w') (hne : N ≠ P) : Tv w' N S a := ⟨by rw [hb.block N (lt_of_heap h.h) hne]; exact h.h⟩
theorem Tv.set {w : World} {N : Nat} {S S' : ByteArray} {a a' : Int} (h : Tv w N S a) : Tv ((w.setCell ⟨N, 0, none⟩ (.string S')).setCell ⟨N, 1, none⟩ (.int .i64 a')) N S' a' := ⟨by simp [World.setCell, Array.getElem?_modify, h.h]⟩
theorem Gp.two {P N : Nat} {w0 w : World} {x y : Value} (h : Gp P w0 w) (hN : w0.heap.size ≤ N) : Gp P w0 ((w.setCell ⟨N, 0, none⟩ x).setCell ⟨N, 1, none⟩ y) := (h.setNew hN x).setNew hN y
theorem ret_tok {P : Program} {w : World} {N : Nat} {S : ByteArray} {a : Int} (h : Tv w N S a) : w.heap[N]? = some (.cells #[.string S, .int .i64 a] 67 (0, 0)) := h.h
end Go.Proofs.Ytpanodaecjlgaaa.tm
