/- Texts laid together: TmZ, TmV, ItRow, Tm1, Tm2. -/
import Derived.Test.YtpanodaecjlgaaaGreatDoorXTmplReads10
import Derived.Test.YtpanodaecjlgaaaGreatDoorXTmplReads4
import Derived.Deep.Upon
import Derived.Test.YtpanodaecjlgaaaGreatDoorXTmplReads9
/- Templates: what is written is read (pure). -/
namespace Go.Proofs.YtpanodaecjlgaaaGreatDoor.tm
set_option linter.unusedVariables false
open lx ex

section
variable {en : Nat}
theorem kw_num {d : D} (h1 : d.kd = 1) (h : ∃ t, numOf t = some (d.wd, d.od, d.sg)) : numOf (kw d) = some (d.wd, d.od, d.sg) := by
  have key : ∀ p ∈ numW, numOf (((numW.find? (fun q => q.2.1 == p.2.1 && q.2.2.1 == p.2.2.1 && q.2.2.2 == p.2.2.2)).map (·.1)).getD []) = some (p.2.1, p.2.2.1, p.2.2.2) := by decide
  obtain ⟨t, ht⟩ := h
  unfold numOf at ht
  cases hf : numW.find? (fun p => p.1 == t) with
  | none => rw [hf] at ht; cases ht
  | some p =>
    rw [hf] at ht
    injection ht with ht
    have ht' : p.2 = (d.wd, d.od, d.sg) := ht
    have := key p (List.mem_of_find?_eq_some hf)
    rw [ht'] at this
    unfold kw
    rw [if_neg (by rw [h1]; decide), if_neg (by rw [h1]; decide)]
    exact this
end
end Go.Proofs.YtpanodaecjlgaaaGreatDoor.tm
/- Templates: what is written is read, whole (pure). -/
namespace Go.Proofs.YtpanodaecjlgaaaGreatDoor.tm
set_option linter.unusedVariables false
open lx ex

section
variable {en : Nat}
end
end Go.Proofs.YtpanodaecjlgaaaGreatDoor.tm
/- Rows of items, and of structs, as they lie. -/
namespace Go.Proofs.YtpanodaecjlgaaaGreatDoor.tm
set_option linter.unusedVariables false
open Go.ChangeShapes Go.WideShapes Go.ChangeAt Go.RowKit
open mem lx ex

/-- An item's cells. -/
structure C where
  d : D
  pc : Option Addr
  p : Option Addr
  n : Nat
  c : Nat
def cl (x : C) : List Value := [.int .i64 (x.d.kd : Int), .int .i64 (x.d.at_ : Int), .string (tx x.d.nm), .string (tx x.d.ty), .int .i64 (x.d.wd : Int), .int .i64 (x.d.od : Int), .bool x.d.sg, .bool x.d.mn, .pointer x.pc, .int .i64 (x.d.ru : Int), .string (tx x.d.f1), .string (tx x.d.l1), .slice x.p x.n x.c]
/-- A struct's cells. -/
structure CT where
  nm : List UInt8
  a : Nat
  p : Option Addr
  n : Nat
  c : Nat
def clT (x : CT) : List Value := [.string (tx x.nm), .int .i64 (x.a : Int), .slice x.p x.n x.c]
namespace ir
abbrev E := C
def rowE (l : List C) : List Value := l.flatMap cl
theorem rowE_cons (x : C) (l : List C) : rowE (x :: l) = cl x ++ rowE l := by unfold rowE; rw [List.flatMap_cons]
theorem cl_len (x : C) : (cl x).length = 13 := rfl
theorem rowE_len (l : List C) : (rowE l).length = l.length * 13 := by
  induction l with
  | nil => rfl
  | cons x l ih => rw [rowE_cons, List.length_append, ih, cl_len]; simp only [List.length_cons]; omega
theorem rowE_append (a b : List C) : rowE (a ++ b) = rowE a ++ rowE b := by unfold rowE; rw [List.flatMap_append]
theorem rowE_get (l : List C) (k : Nat) (h : k < l.length) (j : Nat) (hj : j < 13) : (rowE l)[k * 13 + j]? = (cl l[k])[j]? := by
  induction l generalizing k with
  | nil => exact absurd h (Nat.not_lt_zero _)
  | cons x l ih =>
    rw [rowE_cons]
    cases k with
    | zero => rw [Nat.zero_mul, Nat.zero_add, List.getElem?_append_left (by rw [cl_len]; exact hj)]; rfl
    | succ k =>
      rw [List.getElem?_append_right (by rw [cl_len]; omega), cl_len, show (k + 1) * 13 + j - 13 = k * 13 + j by omega]
      exact ih k (by simpa using h)
theorem rowE_one (l : List C) (u : Value) (hu : u ∈ rowE l) : u.oneCell' = true := by
  unfold rowE at hu
  rw [List.mem_flatMap] at hu
  obtain ⟨y, _, hy⟩ := hu
  simp only [cl, List.mem_cons, List.not_mem_nil, or_false] at hy
  rcases hy with rfl | rfl | rfl | rfl | rfl | rfl | rfl | rfl | rfl | rfl | rfl | rfl | rfl <;> rfl
theorem infoE : (Tryz.prog.info? 75).map (fun i => (i.zero, i.size, i.bytes)) = some (some (.agg #[.int .i64 0, .int .i64 0, .string ⟨#[]⟩, .string ⟨#[]⟩, .int .i64 0, .int .i64 0, .bool false, .bool false, .pointer none, .int .i64 0, .string ⟨#[]⟩, .string ⟨#[]⟩, .slice none 0 0]), 13, 144) := by kernel_rfl
theorem infoE' : ∃ i, Tryz.prog.info? 75 = some i ∧ i.zero = some (.agg #[.int .i64 0, .int .i64 0, .string ⟨#[]⟩, .string ⟨#[]⟩, .int .i64 0, .int .i64 0, .bool false, .bool false, .pointer none, .int .i64 0, .string ⟨#[]⟩, .string ⟨#[]⟩, .slice none 0 0]) ∧ i.size = 13 ∧ i.bytes = 144 := by
  obtain ⟨i, h1, h2⟩ := Option.map_eq_some_iff.1 infoE
  simp only [Prod.mk.injEq] at h2
  exact ⟨i, h1, h2.1, h2.2.1, h2.2.2⟩
/-- A row of the call's own that holds just these. -/
def Own (w : World) (base : Nat) (v : Value) (l : List C) : Prop := w.ownsRow base 75 13 v l.length (rowE l)
theorem Own.nil (w : World) (base : Nat) : Own w base (.slice none 0 0) [] := World.ownsRow_nil _ _ _ _
theorem Own.shape {w : World} {base : Nat} {v : Value} {l : List C} (h : Own w base v l) : (v = .slice none 0 0 ∧ l = []) ∨
    ∃ g cap, v = .slice (some ⟨g, 0, none⟩) l.length cap ∧ base ≤ g ∧ g < w.heap.size ∧ l.length ≤ cap ∧ cap ≤ maxLen ∧ (∀ j, w.frozen? ⟨g, j, none⟩ = false) ∧ ∀ j u, (rowE l)[j]? = some u → w.cell? ⟨g, j, none⟩ = some u := by
  rcases h.2 with ⟨h1, h2⟩ | ⟨g, cap, cur, rfl, hbg, hg, hnc, hcm, hcs, htake⟩
  · exact Or.inl ⟨h1, List.eq_nil_of_length_eq_zero h2⟩
  · refine Or.inr ⟨g, cap, rfl, hbg, lt_of_heap hg, hnc, hcm, fun j => by simp [World.frozen?, hg], fun j u hu => ?_⟩
    have hj : j < l.length * 13 := by
      have := (List.getElem?_eq_some_iff.1 hu).1
      rw [rowE_len] at this
      exact this
    rw [← htake, List.getElem?_take, if_pos hj] at hu
    rw [cell_of hg]
    simpa using hu
theorem Own.kind {w : World} {base g n cap : Nat} {l : List C} (h : Own w base (.slice (some ⟨g, 0, none⟩) n cap) l) : ∃ cur, w.heap[g]? = some (.cells cur 75 (0, 0)) := by
  rcases h.2 with ⟨h1, _⟩ | ⟨g', cap', cur, h1, h2, h3, _⟩
  · cases h1
  · simp only [Value.slice.injEq, Option.some.injEq, Addr.mk.injEq] at h1
    obtain ⟨⟨rfl, _, _⟩, _, _⟩ := h1
    exact ⟨cur, h3⟩
theorem Own.block {w : World} {base : Nat} {v : Value} {l : List C} (h : Own w base v l) : ∀ k, v.ownBlock = some k → base ≤ k ∧ k < w.heap.size := World.ownsRow.lt h
theorem Own.step {w w' : World} {base : Nat} {v : Value} {l : List C} (h : Own w base v l) (hb : ∀ g, base ≤ g → g < w.heap.size → w'.heap[g]? = w.heap[g]?) : Own w' base v l := by
  refine ⟨h.1, ?_⟩
  rcases h.2 with h | ⟨g, cap, cur, h1, h2, h3, h4⟩
  · exact Or.inl h
  · refine Or.inr ⟨g, cap, cur, h1, h2, ?_, h4⟩
    rw [hb g h2 (lt_of_heap h3)]
    exact h3
theorem Own.bl {w w' : World} {base : Nat} {v : Value} {l : List C} (h : Own w base v l) (hb : Bl w w') : Own w' base v l := h.step (fun g _ hg => Below.block hb g hg)
theorem Own.gp {w w' : World} {base P : Nat} {v : Value} {l : List C} (h : Own w base v l) (hb : Gp P w w') (hP : P < base) : Own w' base v l := h.step (fun g h1 hg => hb.block g hg (by omega))
theorem app_one (w : World) (base : Nat) (v : Value) (l : List C) (z : C) (x : Addr) (hown : Own w base v l) (hX : ∀ j u, (cl z)[j]? = some u → w.cell? (x.add j) = some u) (hn : l.length ≤ 20000) (hb : base ≤ w.heap.size) :
    ∃ v' w', (Builtin.append_ #[34, 34] 34 #[v, .slice (some x) 1 1]).run Tryz.prog w = .ok v' w' ∧ Own w' base v' (l ++ [z]) ∧ w.grownBy w' v.ownBlock := by
  obtain ⟨i, hi, hz, h1, h2⟩ := infoE'
  obtain ⟨v', w', hr, ho, hg, _⟩ := run_append_own (P := Tryz.prog) w base 34 34 75 i (.agg #[.int .i64 0, .int .i64 0, .string ⟨#[]⟩, .string ⟨#[]⟩, .int .i64 0, .int .i64 0, .bool false, .bool false, .pointer none, .int .i64 0, .string ⟨#[]⟩, .string ⟨#[]⟩, .slice none 0 0]) 13 144 Tryz.underlying34 hi hz h1 h2 rfl (by decide) v l.length (rowE l) hown
    x 1 1 (cl z) rfl hX (fun u hu => rowE_one [z] u (by rw [rowE_cons]; simp [hu])) (by simp [maxLen]; omega) (by omega) hb
  refine ⟨v', w', hr, ?_, hg⟩
  unfold Own
  rw [rowE_append, List.length_append]
  have e : rowE [z] = cl z := by rw [rowE_cons]; simp [rowE]
  rw [e]
  exact ho
/-- A row that lies so. -/
def Lie (w : World) (ok : Nat → Prop) (p : Option Addr) (n c : Nat) (l : List C) : Prop :=
  n = l.length ∧ n ≤ c ∧ (l = [] ∨ ∃ g, p = some ⟨g, 0, none⟩ ∧ ok g ∧ g < w.heap.size ∧ ∀ j u, (rowE l)[j]? = some u → w.cell? ⟨g, j, none⟩ = some u)
theorem Own.lie {w : World} {base : Nat} {v : Value} {l : List C} (h : Own w base v l) : ∃ p c, v = .slice p l.length c ∧ Lie w (fun g => base ≤ g) p l.length c l := by
  rcases h.shape with ⟨rfl, rfl⟩ | ⟨g, cap, rfl, h1, h2, h4, _, _, hc⟩
  · exact ⟨none, 0, rfl, rfl, Nat.le_refl _, Or.inl rfl⟩
  · exact ⟨_, cap, rfl, rfl, h4, Or.inr ⟨g, rfl, h1, h2, hc⟩⟩
theorem Lie.keep {w w' : World} {ok : Nat → Prop} {p : Option Addr} {n c : Nat} {l : List C} (h : Lie w ok p n c l) (hk : ∀ g, ok g → g < w.heap.size → w'.heap[g]? = w.heap[g]?) (hs : w.heap.size ≤ w'.heap.size) : Lie w' ok p n c l := by
  obtain ⟨h1, h2, h3⟩ := h
  refine ⟨h1, h2, ?_⟩
  rcases h3 with h3 | ⟨g, e, h4, h5, h6⟩
  · exact Or.inl h3
  · refine Or.inr ⟨g, e, h4, by omega, fun j u hu => ?_⟩
    have := h6 j u hu
    unfold World.cell? at this ⊢
    rw [hk g h4 h5]
    exact this
theorem Lie.mono {w : World} {ok ok' : Nat → Prop} {p : Option Addr} {n c : Nat} {l : List C} (h : Lie w ok p n c l) (ho : ∀ g, ok g → g < w.heap.size → ok' g) : Lie w ok' p n c l := by
  obtain ⟨h1, h2, h3⟩ := h
  refine ⟨h1, h2, ?_⟩
  rcases h3 with h3 | ⟨g, e, h4, h5, h6⟩
  · exact Or.inl h3
  · exact Or.inr ⟨g, e, ho g h4 h5, h5, h6⟩
/-- .. as a walk asks for it. -/
theorem Lie.at {w : World} {ok : Nat → Prop} {p : Option Addr} {n c : Nat} {l : List C} (h : Lie w ok p n c l) (k : Nat) (hk : k < l.length) : ∃ x : Addr, p = some x ∧ x.block < w.heap.size ∧ ok x.block ∧ ∀ j u, (cl l[k])[j]? = some u → w.cell? ⟨(x.add (k * 13)).block, (x.add (k * 13)).off + j, none⟩ = some u := by
  obtain ⟨h1, h2, h3⟩ := h
  rcases h3 with h3 | ⟨g, e, h4, h5, h6⟩
  · subst h3; exact absurd hk (Nat.not_lt_zero _)
  · refine ⟨_, e, h5, h4, fun j u hu => ?_⟩
    rw [Addr.add_lit, Nat.zero_add]
    have hj : j < 13 := by
      have := (List.getElem?_eq_some_iff.1 hu).1
      rw [cl_len] at this
      exact this
    exact h6 (k * 13 + j) u (by rw [rowE_get l k hk j hj]; exact hu)
end ir
namespace sr
abbrev E := CT
def rowE (l : List CT) : List Value := l.flatMap clT
theorem rowE_cons (x : CT) (l : List CT) : rowE (x :: l) = clT x ++ rowE l := by unfold rowE; rw [List.flatMap_cons]
theorem cl_len (x : CT) : (clT x).length = 3 := rfl
theorem rowE_len (l : List CT) : (rowE l).length = l.length * 3 := by
  induction l with
  | nil => rfl
  | cons x l ih => rw [rowE_cons, List.length_append, ih, cl_len]; simp only [List.length_cons]; omega
theorem rowE_append (a b : List CT) : rowE (a ++ b) = rowE a ++ rowE b := by unfold rowE; rw [List.flatMap_append]
theorem rowE_get (l : List CT) (k : Nat) (h : k < l.length) (j : Nat) (hj : j < 3) : (rowE l)[k * 3 + j]? = (clT l[k])[j]? := by
  induction l generalizing k with
  | nil => exact absurd h (Nat.not_lt_zero _)
  | cons x l ih =>
    rw [rowE_cons]
    cases k with
    | zero => rw [Nat.zero_mul, Nat.zero_add, List.getElem?_append_left (by rw [cl_len]; exact hj)]; rfl
    | succ k =>
      rw [List.getElem?_append_right (by rw [cl_len]; omega), cl_len, show (k + 1) * 3 + j - 3 = k * 3 + j by omega]
      exact ih k (by simpa using h)
theorem rowE_one (l : List CT) (u : Value) (hu : u ∈ rowE l) : u.oneCell' = true := by
  unfold rowE at hu
  rw [List.mem_flatMap] at hu
  obtain ⟨y, _, hy⟩ := hu
  simp only [clT, List.mem_cons, List.not_mem_nil, or_false] at hy
  rcases hy with rfl | rfl | rfl <;> rfl
theorem infoE : (Tryz.prog.info? 36).map (fun i => (i.zero, i.size, i.bytes)) = some (some (.agg #[.string ⟨#[]⟩, .int .i64 0, .slice none 0 0]), 3, 48) := by kernel_rfl
theorem infoE' : ∃ i, Tryz.prog.info? 36 = some i ∧ i.zero = some (.agg #[.string ⟨#[]⟩, .int .i64 0, .slice none 0 0]) ∧ i.size = 3 ∧ i.bytes = 48 := by
  obtain ⟨i, h1, h2⟩ := Option.map_eq_some_iff.1 infoE
  simp only [Prod.mk.injEq] at h2
  exact ⟨i, h1, h2.1, h2.2.1, h2.2.2⟩
/-- A row of the call's own that holds just these. -/
def Own (w : World) (base : Nat) (v : Value) (l : List CT) : Prop := w.ownsRow base 36 3 v l.length (rowE l)
theorem Own.nil (w : World) (base : Nat) : Own w base (.slice none 0 0) [] := World.ownsRow_nil _ _ _ _
theorem Own.shape {w : World} {base : Nat} {v : Value} {l : List CT} (h : Own w base v l) : (v = .slice none 0 0 ∧ l = []) ∨
    ∃ g cap, v = .slice (some ⟨g, 0, none⟩) l.length cap ∧ base ≤ g ∧ g < w.heap.size ∧ l.length ≤ cap ∧ cap ≤ maxLen ∧ (∀ j, w.frozen? ⟨g, j, none⟩ = false) ∧ ∀ j u, (rowE l)[j]? = some u → w.cell? ⟨g, j, none⟩ = some u := by
  rcases h.2 with ⟨h1, h2⟩ | ⟨g, cap, cur, rfl, hbg, hg, hnc, hcm, hcs, htake⟩
  · exact Or.inl ⟨h1, List.eq_nil_of_length_eq_zero h2⟩
  · refine Or.inr ⟨g, cap, rfl, hbg, lt_of_heap hg, hnc, hcm, fun j => by simp [World.frozen?, hg], fun j u hu => ?_⟩
    have hj : j < l.length * 3 := by
      have := (List.getElem?_eq_some_iff.1 hu).1
      rw [rowE_len] at this
      exact this
    rw [← htake, List.getElem?_take, if_pos hj] at hu
    rw [cell_of hg]
    simpa using hu
theorem Own.kind {w : World} {base g n cap : Nat} {l : List CT} (h : Own w base (.slice (some ⟨g, 0, none⟩) n cap) l) : ∃ cur, w.heap[g]? = some (.cells cur 36 (0, 0)) := by
  rcases h.2 with ⟨h1, _⟩ | ⟨g', cap', cur, h1, h2, h3, _⟩
  · cases h1
  · simp only [Value.slice.injEq, Option.some.injEq, Addr.mk.injEq] at h1
    obtain ⟨⟨rfl, _, _⟩, _, _⟩ := h1
    exact ⟨cur, h3⟩
theorem Own.block {w : World} {base : Nat} {v : Value} {l : List CT} (h : Own w base v l) : ∀ k, v.ownBlock = some k → base ≤ k ∧ k < w.heap.size := World.ownsRow.lt h
theorem Own.step {w w' : World} {base : Nat} {v : Value} {l : List CT} (h : Own w base v l) (hb : ∀ g, base ≤ g → g < w.heap.size → w'.heap[g]? = w.heap[g]?) : Own w' base v l := by
  refine ⟨h.1, ?_⟩
  rcases h.2 with h | ⟨g, cap, cur, h1, h2, h3, h4⟩
  · exact Or.inl h
  · refine Or.inr ⟨g, cap, cur, h1, h2, ?_, h4⟩
    rw [hb g h2 (lt_of_heap h3)]
    exact h3
theorem Own.bl {w w' : World} {base : Nat} {v : Value} {l : List CT} (h : Own w base v l) (hb : Bl w w') : Own w' base v l := h.step (fun g _ hg => Below.block hb g hg)
theorem Own.gp {w w' : World} {base P : Nat} {v : Value} {l : List CT} (h : Own w base v l) (hb : Gp P w w') (hP : P < base) : Own w' base v l := h.step (fun g h1 hg => hb.block g hg (by omega))
theorem app_one (w : World) (base : Nat) (v : Value) (l : List CT) (z : CT) (x : Addr) (hown : Own w base v l) (hX : ∀ j u, (clT z)[j]? = some u → w.cell? (x.add j) = some u) (hn : l.length ≤ 20000) (hb : base ≤ w.heap.size) :
    ∃ v' w', (Builtin.append_ #[23, 23] 23 #[v, .slice (some x) 1 1]).run Tryz.prog w = .ok v' w' ∧ Own w' base v' (l ++ [z]) ∧ w.grownBy w' v.ownBlock := by
  obtain ⟨i, hi, hz, h1, h2⟩ := infoE'
  obtain ⟨v', w', hr, ho, hg, _⟩ := run_append_own (P := Tryz.prog) w base 23 23 36 i (.agg #[.string ⟨#[]⟩, .int .i64 0, .slice none 0 0]) 3 48 Tryz.underlying23 hi hz h1 h2 rfl (by decide) v l.length (rowE l) hown
    x 1 1 (clT z) rfl hX (fun u hu => rowE_one [z] u (by rw [rowE_cons]; simp [hu])) (by simp [maxLen]; omega) (by omega) hb
  refine ⟨v', w', hr, ?_, hg⟩
  unfold Own
  rw [rowE_append, List.length_append]
  have e : rowE [z] = clT z := by rw [rowE_cons]; simp [rowE]
  rw [e]
  exact ho
/-- A row that lies so. -/
def Lie (w : World) (ok : Nat → Prop) (p : Option Addr) (n c : Nat) (l : List CT) : Prop :=
  n = l.length ∧ n ≤ c ∧ (l = [] ∨ ∃ g, p = some ⟨g, 0, none⟩ ∧ ok g ∧ g < w.heap.size ∧ ∀ j u, (rowE l)[j]? = some u → w.cell? ⟨g, j, none⟩ = some u)
theorem Own.lie {w : World} {base : Nat} {v : Value} {l : List CT} (h : Own w base v l) : ∃ p c, v = .slice p l.length c ∧ Lie w (fun g => base ≤ g) p l.length c l := by
  rcases h.shape with ⟨rfl, rfl⟩ | ⟨g, cap, rfl, h1, h2, h4, _, _, hc⟩
  · exact ⟨none, 0, rfl, rfl, Nat.le_refl _, Or.inl rfl⟩
  · exact ⟨_, cap, rfl, rfl, h4, Or.inr ⟨g, rfl, h1, h2, hc⟩⟩
theorem Lie.keep {w w' : World} {ok : Nat → Prop} {p : Option Addr} {n c : Nat} {l : List CT} (h : Lie w ok p n c l) (hk : ∀ g, ok g → g < w.heap.size → w'.heap[g]? = w.heap[g]?) (hs : w.heap.size ≤ w'.heap.size) : Lie w' ok p n c l := by
  obtain ⟨h1, h2, h3⟩ := h
  refine ⟨h1, h2, ?_⟩
  rcases h3 with h3 | ⟨g, e, h4, h5, h6⟩
  · exact Or.inl h3
  · refine Or.inr ⟨g, e, h4, by omega, fun j u hu => ?_⟩
    have := h6 j u hu
    unfold World.cell? at this ⊢
    rw [hk g h4 h5]
    exact this
theorem Lie.mono {w : World} {ok ok' : Nat → Prop} {p : Option Addr} {n c : Nat} {l : List CT} (h : Lie w ok p n c l) (ho : ∀ g, ok g → g < w.heap.size → ok' g) : Lie w ok' p n c l := by
  obtain ⟨h1, h2, h3⟩ := h
  refine ⟨h1, h2, ?_⟩
  rcases h3 with h3 | ⟨g, e, h4, h5, h6⟩
  · exact Or.inl h3
  · exact Or.inr ⟨g, e, ho g h4 h5, h5, h6⟩
/-- .. as a walk asks for it. -/
theorem Lie.at {w : World} {ok : Nat → Prop} {p : Option Addr} {n c : Nat} {l : List CT} (h : Lie w ok p n c l) (k : Nat) (hk : k < l.length) : ∃ x : Addr, p = some x ∧ x.block < w.heap.size ∧ ok x.block ∧ ∀ j u, (clT l[k])[j]? = some u → w.cell? ⟨(x.add (k * 3)).block, (x.add (k * 3)).off + j, none⟩ = some u := by
  obtain ⟨h1, h2, h3⟩ := h
  rcases h3 with h3 | ⟨g, e, h4, h5, h6⟩
  · subst h3; exact absurd hk (Nat.not_lt_zero _)
  · refine ⟨_, e, h5, h4, fun j u hu => ?_⟩
    rw [Addr.add_lit, Nat.zero_add]
    have hj : j < 3 := by
      have := (List.getElem?_eq_some_iff.1 hu).1
      rw [cl_len] at this
      exact this
    exact h6 (k * 3 + j) u (by rw [rowE_get l k hk j hj]; exact hu)
end sr
/-- How many, of an expression that is there, or not. -/
def IsO (w : World) : Option Addr → Option Ex → Prop
  | pc, none => pc = none
  | pc, some x => IsX w (.pointer pc) x
theorem IsO.keep {w w' : World} {pc : Option Addr} {o : Option Ex} (h : IsO w pc o) (hk : Kx w w') : IsO w' pc o := by
  cases o with
  | none => exact h
  | some x => exact IsX.keep hk h
/-- Items, as they lie. -/
def Rep (w : World) (ok : Nat → Prop) : Its → List C → Prop
  | .nil, cs => cs = []
  | .cons d s t, cs => ∃ c r, cs = c :: r ∧ c.d = d ∧ IsO w c.pc d.ct ∧ (∃ cs2, ir.Lie w ok c.p c.n c.c cs2 ∧ Rep w ok s cs2) ∧ Rep w ok t r
theorem Rep.keep {w w' : World} {ok : Nat → Prop} (hk : ∀ g, ok g → g < w.heap.size → w'.heap[g]? = w.heap[g]?) (hs : w.heap.size ≤ w'.heap.size) (hx : Kx w w') {l : Its} : ∀ {cs : List C}, Rep w ok l cs → Rep w' ok l cs := by
  induction l with
  | nil => intro cs h; exact h
  | cons d s t is it =>
    intro cs h
    obtain ⟨c, r, h1, h2, h3, ⟨cs2, h4, h5⟩, h6⟩ := h
    exact ⟨c, r, h1, h2, h3.keep hx, ⟨cs2, h4.keep hk hs, is h5⟩, it h6⟩
theorem Rep.mono {w : World} {ok ok' : Nat → Prop} (ho : ∀ g, ok g → g < w.heap.size → ok' g) {l : Its} : ∀ {cs : List C}, Rep w ok l cs → Rep w ok' l cs := by
  induction l with
  | nil => intro cs h; exact h
  | cons d s t is it =>
    intro cs h
    obtain ⟨c, r, h1, h2, h3, ⟨cs2, h4, h5⟩, h6⟩ := h
    exact ⟨c, r, h1, h2, h3, ⟨cs2, h4.mono ho, is h5⟩, it h6⟩
theorem Rep.len {w : World} {ok : Nat → Prop} {l : Its} : ∀ {cs : List C}, Rep w ok l cs → cs.length = l.len ∧ cs.map C.d = l.ds := by
  induction l with
  | nil => intro cs h; subst h; exact ⟨rfl, rfl⟩
  | cons d s t _ it =>
    intro cs h
    obtain ⟨c, r, rfl, h2, h3, _, h6⟩ := h
    obtain ⟨g1, g2⟩ := it h6
    exact ⟨by simp [Its.len, g1], by simp [Its.ds, g2, h2]⟩
/-- Items behind others. -/
def Its.app : Its → D → Its → Its
  | .nil, d, s => .cons d s .nil
  | .cons e u t, d, s => .cons e u (t.app d s)
theorem Rep.app {w : World} {ok : Nat → Prop} {c : C} {s : Its} (hc : IsO w c.pc c.d.ct) (hs : ∃ cs2, ir.Lie w ok c.p c.n c.c cs2 ∧ Rep w ok s cs2) {l : Its} : ∀ {cs : List C}, Rep w ok l cs → Rep w ok (l.app c.d s) (cs ++ [c]) := by
  induction l with
  | nil => intro cs h; subst h; exact ⟨c, [], rfl, rfl, hc, hs, rfl⟩
  | cons d u t _ it =>
    intro cs h
    obtain ⟨e, r, rfl, h2, h3, h4, h6⟩ := h
    exact ⟨e, r ++ [c], rfl, h2, h3, h4, it h6⟩
/-- A slice of items. -/
def IsL (w : World) (ok : Nat → Prop) (v : Value) (l : Its) : Prop := ∃ p c cs, v = .slice p l.len c ∧ ir.Lie w ok p l.len c cs ∧ Rep w ok l cs
/-- Structs, as they lie. -/
def RepT (w : World) (ok : Nat → Prop) : List Ty → List CT → Prop
  | [], cs => cs = []
  | t :: l, cs => ∃ c r, cs = c :: r ∧ c.nm = t.nm ∧ c.a = t.at_ ∧ (∃ cs2, ir.Lie w ok c.p c.n c.c cs2 ∧ Rep w ok t.l cs2) ∧ RepT w ok l r
theorem RepT.keep {w w' : World} {ok : Nat → Prop} (hk : ∀ g, ok g → g < w.heap.size → w'.heap[g]? = w.heap[g]?) (hs : w.heap.size ≤ w'.heap.size) (hx : Kx w w') {l : List Ty} : ∀ {cs : List CT}, RepT w ok l cs → RepT w' ok l cs := by
  induction l with
  | nil => intro cs h; exact h
  | cons t l it =>
    intro cs h
    obtain ⟨c, r, h1, h2, h3, ⟨cs2, h4, h5⟩, h6⟩ := h
    exact ⟨c, r, h1, h2, h3, ⟨cs2, h4.keep hk hs, h5.keep hk hs hx⟩, it h6⟩
theorem RepT.mono {w : World} {ok ok' : Nat → Prop} (ho : ∀ g, ok g → g < w.heap.size → ok' g) {l : List Ty} : ∀ {cs : List CT}, RepT w ok l cs → RepT w ok' l cs := by
  induction l with
  | nil => intro cs h; exact h
  | cons t l it =>
    intro cs h
    obtain ⟨c, r, h1, h2, h3, ⟨cs2, h4, h5⟩, h6⟩ := h
    exact ⟨c, r, h1, h2, h3, ⟨cs2, h4.mono ho, h5.mono ho⟩, it h6⟩
theorem RepT.len {w : World} {ok : Nat → Prop} {l : List Ty} : ∀ {cs : List CT}, RepT w ok l cs → cs.length = l.length := by
  induction l with
  | nil => intro cs h; subst h; rfl
  | cons t l it =>
    intro cs h
    obtain ⟨c, r, rfl, _, _, _, h6⟩ := h
    simp [it h6]
theorem RepT.app {w : World} {ok : Nat → Prop} {c : CT} {s : Its} (hs : ∃ cs2, ir.Lie w ok c.p c.n c.c cs2 ∧ Rep w ok s cs2) {l : List Ty} : ∀ {cs : List CT}, RepT w ok l cs → RepT w ok (l ++ [⟨c.nm, c.a, s⟩]) (cs ++ [c]) := by
  induction l with
  | nil => intro cs h; subst h; exact ⟨c, [], rfl, rfl, rfl, hs, rfl⟩
  | cons t l it =>
    intro cs h
    obtain ⟨e, r, rfl, h2, h3, h4, h6⟩ := h
    exact ⟨e, r ++ [c], rfl, h2, h3, h4, it h6⟩
/-- A slice of structs. -/
def IsTs (w : World) (ok : Nat → Prop) (v : Value) (l : List Ty) : Prop := ∃ p c cs, v = .slice p l.length c ∧ sr.Lie w ok p l.length c cs ∧ RepT w ok l cs
theorem IsTs.bl {w w' : World} {ok : Nat → Prop} {v : Value} {l : List Ty} (h : IsTs w ok v l) (hb : Bl w w') : IsTs w' ok v l := by
  obtain ⟨p, c, cs, h1, h2, h3⟩ := h
  exact ⟨p, c, cs, h1, h2.keep (fun g _ hg => Below.block hb g hg) hb.size, h3.keep (fun g _ hg => Below.block hb g hg) hb.size (Kx.bl hb)⟩
theorem IsL.bl {w w' : World} {ok : Nat → Prop} {v : Value} {l : Its} (h : IsL w ok v l) (hb : Bl w w') : IsL w' ok v l := by
  obtain ⟨p, c, cs, h1, h2, h3⟩ := h
  exact ⟨p, c, cs, h1, h2.keep (fun g _ hg => Below.block hb g hg) hb.size, h3.keep (fun g _ hg => Below.block hb g hg) hb.size (Kx.bl hb)⟩
end Go.Proofs.YtpanodaecjlgaaaGreatDoor.tm
/- A reader of a template's tokens: next, take, throw, want, name. -/
namespace Go.Proofs.YtpanodaecjlgaaaGreatDoor.tm
set_option linter.unusedVariables false
open Go.ChangeShapes Go.WideShapes Go.ChangeAt Go.RowKit
open mem lx ex

/-- What is thrown. -/
def thrownT (B : Nat) : Ending := .panicked [{ v := .iface 63 (.agg #[.iface 110 (.pointer (some ⟨B, 0, none⟩))]), recovered := false }]
/-- Words that are no names, and where those for numbers stand. -/
def wdV (t : List UInt8) : Int := match numW.findIdx? (fun p => p.1 == t) with | some i => (i : Int) | none => -1
def Wds (w : World) (mb : Nat) : Prop := ∃ n, Om w mb (fun t => if resv t = true then some (wdV t) else none) n
theorem gp_grown {P : Nat} {w w' : World} (h : Gp P w w') : w.grownBy w' (some P) := ⟨h.os, h.tape, h.output, h.size, fun k hk hne => h.block k hk (fun e => hne (by rw [e]))⟩
/-- A reader of these tokens, with so many blocks open. -/
structure RdT (w : World) (P : Nat) (s : ByteArray) (ts : List Tk) (d mb : Nat) : Prop where
  ex : ∃ (p : Option Addr) (c : Nat), w.heap[P]? = some (.cells #[.string s, .slice p ts.length c, .int .i64 (d : Int), .map (some mb)] 69 (0, 0)) ∧ ts.length ≤ c ∧ tr.In w p ts ∧ (∀ x, p = some x → x.block < P)
  mp : Wds w mb ∧ mb < P
  sx : ∃ pre, lx (L s) 0 = (pre ++ ts, none)
  sz : s.size ≤ 3000
theorem RdT.step {w w' : World} {P d mb : Nat} {s : ByteArray} {ts : List Tk} (h : RdT w P s ts d mb) (hb : Bl w w') : RdT w' P s ts d mb := by
  obtain ⟨p, c, h1, h2, h3, h4⟩ := h.ex
  obtain ⟨⟨n, hm⟩, hne⟩ := h.mp
  refine ⟨⟨p, c, by rw [Below.block hb P (lt_of_heap h1)]; exact h1, h2, h3.step hb, h4⟩, ⟨⟨n, hm.step (row := none) ⟨hb.os, hb.tape, hb.output, hb.size, fun k hk _ => Below.block hb k hk⟩ (by simp)⟩, hne⟩, h.sx, h.sz⟩
theorem RdT.is {w : World} {P d mb : Nat} {s : ByteArray} {ts : List Tk} (h : RdT w P s ts d mb) : ∃ cs, w.heap[P]? = some (.cells cs 69 (0, 0)) := by
  obtain ⟨p, c, h1, _⟩ := h.ex
  exact ⟨_, h1⟩
theorem RdT.lt {w : World} {P d mb : Nat} {s : ByteArray} {ts : List Tk} (h : RdT w P s ts d mb) : P < w.heap.size := by
  obtain ⟨cs, h1⟩ := h.is
  exact lt_of_heap h1
/-- What lies behind a reader is nothing to it. -/
theorem RdT.behind {w w' : World} {P N d mb : Nat} {s : ByteArray} {ts : List Tk} (h : RdT w P s ts d mb) (hg : w.grownBy w' (some N)) (hN : P < N) : RdT w' P s ts d mb := by
  obtain ⟨p, c, h1, h2, h3, h4⟩ := h.ex
  obtain ⟨⟨n, hm⟩, hne⟩ := h.mp
  have hP := lt_of_heap h1
  have hb : ∀ k, k ≤ P → w'.heap[k]? = w.heap[k]? := fun k hk => hg.block k (by omega) (fun e => by injection e with e; omega)
  refine ⟨⟨p, c, by rw [hb P (Nat.le_refl _)]; exact h1, h2, ?_, h4⟩, ⟨⟨n, hm.step hg (fun e => by injection e with e; omega)⟩, hne⟩, h.sx, h.sz⟩
  rcases h3 with h | ⟨x, k1, k2⟩
  · exact Or.inl h
  · refine Or.inr ⟨x, k1, fun k u hk => ?_⟩
    have h5 := k2 k u hk
    have hbk : (x.add k).block = x.block := by cases k <;> rfl
    have h6 := h4 x k1
    unfold World.cell? at h5 ⊢
    rw [hbk] at h5 ⊢
    rw [hb _ (by omega)]
    exact h5
theorem suf_len {s : ByteArray} {pre ts : List Tk} (h : lx (L s) 0 = (pre ++ ts, none)) : ts.length ≤ s.size ∧ (∀ t ∈ ts, t.t.length ≤ s.size) ∧ (∀ t ∈ ts, IsT t.t) := by
  have h1 := lx_len (L s) _ 0 (Nat.le_refl _)
  have h2 := lx_ch (L s) _ 0 (Nat.le_refl _) (Nat.zero_le _)
  rw [List.drop_zero] at h2
  rw [h] at h1 h2
  dsimp only at h1 h2
  rw [L_len, List.length_append] at h1
  have h3 := tok_len h2
  rw [L_len] at h3
  refine ⟨by omega, fun t ht => h3 t (by simp [ht]), ?_⟩
  have h4 : ∀ (l : List Tk) (p : Nat), Ch (L s) p l → ∀ t ∈ l, IsT t.t := by
    intro l
    induction l with
    | nil => intro p h t ht; cases ht
    | cons u r ih =>
      intro p h t ht
      obtain ⟨_, _, _, h4, h5⟩ := (show p ≤ u.a ∧ u.a + u.t.length ≤ (L s).length ∧ ((L s).drop u.a).take u.t.length = u.t ∧ IsT u.t ∧ Ch (L s) (u.a + u.t.length) r from h)
      rw [List.mem_cons] at ht
      rcases ht with rfl | ht
      · exact h4
      · exact ih _ h5 t ht
  exact fun t ht => h4 _ _ h2 t (by simp [ht])
theorem RdT.len {w : World} {P d mb : Nat} {s : ByteArray} {ts : List Tk} (h : RdT w P s ts d mb) : ts.length ≤ 3000 ∧ (∀ t ∈ ts, t.t.length ≤ 3000) ∧ (∀ t ∈ ts, IsT t.t) := by
  obtain ⟨pre, hp⟩ := h.sx
  obtain ⟨h1, h2, h3⟩ := suf_len hp
  have := h.sz
  exact ⟨by omega, fun t ht => by have := h2 t ht; omega, h3⟩
theorem RdT.hdlen {w : World} {P d mb : Nat} {s : ByteArray} {ts : List Tk} (h : RdT w P s ts d mb) : (hd s.size ts).t.length ≤ 3000 := by
  cases ts with
  | nil => exact Nat.zero_le _
  | cons t r => exact h.len.2.1 t (by simp)
set_option maxRecDepth 10000 in
theorem next_at (w : World) (P d mb : Nat) (s : ByteArray) (ts : List Tk) (h : RdT w P s ts d mb) :
    Calls Tryz.prog 90 #[.pointer (some ⟨P, 0, none⟩)] w fun e w' => e = .returned (tkV (hd s.size ts)) ∧ Bl w w' := by
  have hl := h.len.1
  obtain ⟨p, c, h1, h2, h3, h4⟩ := h.ex
  have hP := lt_of_heap h1
  have c0 : w.cell? ⟨P, 1, none⟩ = some (.slice p ts.length c) := by rw [cell_of h1]; rfl
  have c1 : w.cell? ⟨P, 0, none⟩ = some (.string s) := by rw [cell_of h1]; rfl
  cases ts with
  | nil =>
    rw [show ([] : List Tk).length = 0 from rfl] at c0
    clear h1 h2 h3 h4 hl h
    go_enter Tryz.func90, Tryz.ntmps90
    go_wp2
    exact bodyPost_ret (v := tkV ⟨[], s.size⟩) (results_cell_row rfl _ _ w.heap.size 49 #[.string ⟨#[]⟩, .int .i64 (s.size : Int)] (0, 0) _ rfl (new_at w _) Tryz.underlying49 rfl infoT) rfl ⟨rfl, (Bl.refl _).alloc _⟩
  | cons t ts =>
    obtain ⟨x, rfl, g0, g1⟩ := h3.at' 0 (by simp)
    obtain ⟨n, hn⟩ : ∃ n, n = ts.length := ⟨_, rfl⟩
    rw [show (t :: ts).length = n + 1 by simp [hn]] at c0 h2 hl
    simp only [Nat.zero_mul, Addr.add_zero'] at g0 g1
    rw [show (t :: ts)[0] = t from rfl] at g0 g1
    have q1 := h4 x rfl
    have hne : ((((n + 1 : Nat) : Int)) == 0) = false := by rw [beq_eq_false_iff_ne]; omega
    have hxs : ¬ x.block = w.heap.size := by omega
    have g0' := at_bl ((Bl.refl w).alloc (.cells #[.string ⟨#[]⟩, .int .i64 0] 49)) g0
    have g1' := at_bl ((Bl.refl w).alloc (.cells #[.string ⟨#[]⟩, .int .i64 0] 49)) g1
    clear h1 h3 h4 hn h
    go_enter Tryz.func90, Tryz.ntmps90
    go_wp2
    exact bodyPost_ret (v := tkV t) (results_cell_row rfl _ _ w.heap.size 49 #[.string (tx t.t), .int .i64 (t.a : Int)] (0, 0) _ rfl (new_at w _) Tryz.underlying49 rfl infoT) rfl ⟨rfl, (Bl.refl _).alloc _⟩
theorem tail_sx {s : ByteArray} {ts : List Tk} (h : ∃ pre, lx (L s) 0 = (pre ++ ts, none)) : ∃ pre, lx (L s) 0 = (pre ++ ts.tail, none) := by
  obtain ⟨pre, hp⟩ := h
  cases ts with
  | nil => exact ⟨pre, hp⟩
  | cons t r => exact ⟨pre ++ [t], by rw [hp]; simp⟩
/-- What another world keeps of a reader. -/
theorem RdT.gp' {w w' : World} {P d mb : Nat} {s : ByteArray} {ts ts' : List Tk} (h : RdT w P s ts d mb) (hg : Gp P w w') (hx : ∃ (p : Option Addr) (c : Nat), w'.heap[P]? = some (.cells #[.string s, .slice p ts'.length c, .int .i64 (d : Int), .map (some mb)] 69 (0, 0)) ∧ ts'.length ≤ c ∧ tr.In w' p ts' ∧ (∀ x, p = some x → x.block < P))
    (hs : ∃ pre, lx (L s) 0 = (pre ++ ts', none)) : RdT w' P s ts' d mb := by
  obtain ⟨⟨n, hm⟩, hne⟩ := h.mp
  exact ⟨hx, ⟨⟨n, hm.step (gp_grown hg) (fun e => by injection e with e; omega)⟩, hne⟩, hs, h.sz⟩
set_option maxRecDepth 10000 in
theorem take_at (w : World) (P d mb : Nat) (s : ByteArray) (ts : List Tk) (h : RdT w P s ts d mb) :
    Calls Tryz.prog 89 #[.pointer (some ⟨P, 0, none⟩)] w fun e w' => e = .returned (tkV (hd s.size ts)) ∧ RdT w' P s ts.tail d mb ∧ Gp P w w' := by
  have hl := h.len.1
  have cN := fun wx (hb : Bl w wx) => next_at wx P d mb s ts (h.step hb)
  obtain ⟨p, c, h1, h2, h3, h4⟩ := h.ex
  have hP := lt_of_heap h1
  have HR : Hid (RdT w P s ts d mb) := h
  clear h
  obtain ⟨N, hN⟩ : ∃ N, N = w.heap.size := ⟨_, rfl⟩
  have hPN : ¬ P = N := by omega
  have keep : ∀ w2 : World, Bl (w.alloc (.cells #[.string ⟨#[]⟩, .int .i64 0] 49)) w2 → w2.heap[N]? = some (.cells #[.string ⟨#[]⟩, .int .i64 0] 49 (0, 0)) ∧ Bl w w2 ∧ N < w2.heap.size := by
    intro w2 hb
    have h0 := new_at w (.cells #[.string ⟨#[]⟩, .int .i64 0] 49)
    rw [← hN] at h0
    have h1 := Below.block hb N (lt_of_heap h0)
    rw [h0] at h1
    exact ⟨h1, ((Bl.refl _).alloc _).trans hb, lt_of_heap h1⟩
  cases ts with
  | nil =>
    unfold tkV at cN ⊢
    have e0 : hd s.size ([] : List Tk) = ⟨[], s.size⟩ := rfl
    rw [e0] at cN ⊢
    generalize tx ([] : List UInt8) = S at *
    go_enter Tryz.func89, Tryz.ntmps89
    go_wp2_with fail
    refine (cN _ ((Bl.refl _).alloc _)).mono ?_
    rintro e w2 ⟨rfl, hb2⟩
    obtain ⟨k1, k2, k3⟩ := keep w2 hb2
    have c0 : w2.cell? ⟨P, 1, none⟩ = some (.slice p 0 c) := at_bl k2 (by rw [cell_of h1]; rfl)
    have hPs : P < w2.heap.size := by have := k2.size; omega
    have n0 : w2.cell? ⟨N, 0, none⟩ = some (.string ⟨#[]⟩) := by rw [cell_of k1]; rfl
    have n1 : w2.cell? ⟨N, 1, none⟩ = some (.int .i64 0) := by rw [cell_of k1]; rfl
    have z0 : w2.frozen? ⟨N, 0, none⟩ = false := by simp [World.frozen?, k1]
    have z1 : w2.frozen? ⟨N, 1, none⟩ = false := by simp [World.frozen?, k1]
    have HK : Hid (Bl w w2 ∧ w2.heap[N]? = some (.cells #[.string ⟨#[]⟩, .int .i64 0] 49 (0, 0))) := ⟨k2, k1⟩
    rw [← hN]
    have HN : Hid (N = w.heap.size) := hN
    clear k1 k2 hb2 cN keep h1 h2 h3 h4 hN hP
    go_wp2
    have hw : w.heap.size ≤ N := by have := HN.out; omega
    have hbl : Bl w (((w2.setCell ⟨N, 0, none⟩ (.string S)).setCell ⟨N, 1, none⟩ (.int .i64 (s.size : Int))).alloc (.cells #[.string S, .int .i64 (s.size : Int)] 49)) := ((HK.out.1.setCell hw _).setCell hw _).alloc _
    have hcl : (((w2.setCell ⟨N, 0, none⟩ (.string S)).setCell ⟨N, 1, none⟩ (.int .i64 (s.size : Int))).alloc (.cells #[.string S, .int .i64 (s.size : Int)] 49)).heap[N]? = some (.cells #[.string S, .int .i64 (s.size : Int)] 49 (0, 0)) := by
      have h1 : ((w2.setCell ⟨N, 0, none⟩ (.string S)).setCell ⟨N, 1, none⟩ (.int .i64 (s.size : Int))).heap[N]? = some (.cells #[.string S, .int .i64 (s.size : Int)] 49 (0, 0)) := by simp [World.setCell, Array.getElem?_modify, HK.out.2]
      rw [Below.block ((Bl.refl _).alloc _) N (lt_of_heap h1)]
      exact h1
    exact bodyPost_ret (v := .agg #[.string S, .int .i64 (s.size : Int)]) (results_cell_row rfl _ _ N 49 #[.string S, .int .i64 (s.size : Int)] (0, 0) _ rfl hcl Tryz.underlying49 rfl infoT) rfl ⟨rfl, HR.out.step hbl, Gp.bl hbl⟩
  | cons t ts =>
    unfold tkV at cN ⊢
    have e0 : hd s.size (t :: ts) = t := rfl
    rw [e0] at cN ⊢
    obtain ⟨n, hn⟩ : ∃ n, n = ts.length := ⟨_, rfl⟩
    have hx : ∃ x, p = some x := by
      rcases h3 with h | ⟨x, h, _⟩
      · cases h
      · exact ⟨x, h⟩
    obtain ⟨x, rfl⟩ := hx
    obtain ⟨q1, q2, q3⟩ := h3.cut rfl h2
    have hc1 : 1 ≤ c := by simp at h2; omega
    have hlc : (t :: ts).length = n + 1 := by simp [hn]
    rw [hlc] at h1 h2 hl
    have xb1 := h4 x rfl
    obtain ⟨S, hS⟩ : ∃ S, S = tx t.t := ⟨_, rfl⟩
    obtain ⟨A, hA⟩ : ∃ A, A = t.a := ⟨_, rfl⟩
    rw [← hS, ← hA] at cN ⊢
    go_enter Tryz.func89, Tryz.ntmps89
    go_wp2_with fail
    refine (cN _ ((Bl.refl _).alloc _)).mono ?_
    rintro e w2 ⟨rfl, hb2⟩
    obtain ⟨k1, k2, k3⟩ := keep w2 hb2
    have h1' : w2.heap[P]? = _ := (Below.block k2 P hP).trans h1
    have c0 : w2.cell? ⟨P, 1, none⟩ = some (.slice (some x) (n + 1) c) := by rw [cell_of h1']; rfl
    have z2 : w2.frozen? ⟨P, 1, none⟩ = false := by simp [World.frozen?, h1']
    have hPs : P < w2.heap.size := by have := k2.size; omega
    have n0 : w2.cell? ⟨N, 0, none⟩ = some (.string ⟨#[]⟩) := by rw [cell_of k1]; rfl
    have n1 : w2.cell? ⟨N, 1, none⟩ = some (.int .i64 0) := by rw [cell_of k1]; rfl
    have z0 : w2.frozen? ⟨N, 0, none⟩ = false := by simp [World.frozen?, k1]
    have z1 : w2.frozen? ⟨N, 1, none⟩ = false := by simp [World.frozen?, k1]
    have HK : Hid (Bl w w2 ∧ w2.heap[N]? = some (.cells #[.string ⟨#[]⟩, .int .i64 0] 49 (0, 0)) ∧ w2.heap[P]? = some (.cells #[.string s, .slice (some x) (n + 1) c, .int .i64 (d : Int), .map (some mb)] 69 (0, 0))) := ⟨k2, k1, h1'⟩
    rw [← hN]
    have HN : Hid (N = w.heap.size ∧ P < w.heap.size ∧ x.block < P) := ⟨hN, hP, xb1⟩
    obtain ⟨Q, hQ⟩ : ∃ Q, Q = (if c = 1 then some x else some ⟨x.block, x.off + 2, none⟩) := ⟨_, rfl⟩
    have hQ' : (if c = 1 then some x else some ⟨x.block, x.off + 2, none⟩) = Q := hQ.symm
    rw [← hQ] at q1
    have HQ : Hid (tr.In w Q ts ∧ n = ts.length ∧ ts.length ≤ c - 1 ∧ (∀ y, Q = some y → y.block = x.block)) := by
      refine ⟨q1, hn, q3, fun y hy => ?_⟩
      rw [hQ] at hy
      split at hy
      · injection hy with hy; rw [← hy]
      · injection hy with hy; rw [← hy]
    clear k1 k2 hb2 cN keep h1 h1' h3 h4 hN hP q1 q2 q3 hQ hn hlc xb1 hS hA
    go_wp2
    obtain ⟨r1, r2, r3⟩ := HN.out
    have hw : w.heap.size ≤ N := by omega
    obtain ⟨W, hW⟩ : ∃ W, W = (((w2.setCell ⟨P, 1, none⟩ (.slice Q n (c - 1))).setCell ⟨N, 0, none⟩ (.string S)).setCell ⟨N, 1, none⟩ (.int .i64 (A : Int))) := ⟨_, rfl⟩
    have hg : Gp P w (W.alloc (.cells #[.string S, .int .i64 (A : Int)] 49)) := by
      rw [hW]
      exact ((((Gp.bl HK.out.1).trans (Gp.set _)).setNew hw _).setNew hw _).alloc _
    have hcN : W.heap[N]? = some (.cells #[.string S, .int .i64 (A : Int)] 49 (0, 0)) := by
      rw [hW]
      simp [World.setCell, Array.getElem?_modify, HK.out.2.1, hPN]
    have hcP : W.heap[P]? = some (.cells #[.string s, .slice Q n (c - 1), .int .i64 (d : Int), .map (some mb)] 69 (0, 0)) := by
      rw [hW]
      have hNP : ¬ N = P := fun e => hPN e.symm
      simp [World.setCell, Array.getElem?_modify, HK.out.2.2, hNP]
    have hbW : Bl W (W.alloc (.cells #[.string S, .int .i64 (A : Int)] 49)) := (Bl.refl _).alloc _
    have hcl := (Below.block hbW N (lt_of_heap hcN)).trans hcN
    have hcP' := (Below.block hbW P (lt_of_heap hcP)).trans hcP
    rw [← hW]
    clear hW
    obtain ⟨s1, s2, s3, s4⟩ := HQ.out
    refine bodyPost_ret (v := .agg #[.string S, .int .i64 (A : Int)]) (results_cell_row rfl _ _ N 49 #[.string S, .int .i64 (A : Int)] (0, 0) _ rfl hcl Tryz.underlying49 rfl infoT) rfl ⟨rfl, HR.out.gp' hg ⟨Q, c - 1, ?_, s3, ?_, ?_⟩ (tail_sx HR.out.sx), hg⟩
    · show _ = some (Obj.cells #[_, .slice Q ts.length (c - 1), _, _] _ _)
      rw [← s2]; exact hcP'
    · exact In.gp s1 hg (fun y hy => by have := s4 y hy; rw [this]; exact ⟨by omega, by omega⟩)
    · intro y hy
      have := s4 y hy
      rw [this]
      exact r3
theorem throw_at (t : Tk) (c : Int) (w : World) : Calls Tryz.prog 58 #[tkV t, .int .i64 c] w fun e w' => ∃ B, e = thrownT B ∧ w.heap.size ≤ B ∧ AtX w' B c t.a ∧ Bl w w' := by
  unfold tkV
  go_enter Tryz.func58, Tryz.ntmps58
  go_wp2
  have hn := new_at (w.alloc (.cells #[.string (tx t.t), .int .i64 (t.a : Int)] 49)) (.cells #[.int .i64 c, .int .i64 (t.a : Int)] 113)
  have hs : (w.alloc (.cells #[.string (tx t.t), .int .i64 (t.a : Int)] 49)).heap.size = w.heap.size + 1 := by simp
  rw [hs] at hn
  exact ⟨rfl, _, rfl, Nat.le_succ _, hn, ((Bl.refl _).alloc _).alloc _⟩
/-- What reading answers. -/
def Ans {α : Type} (V : World → Value → α → Prop) (P : Nat) (s : ByteArray) (d mb : Nat) (w : World) (q : Except (Int × Nat) (α × List Tk)) (e : Ending) (w' : World) : Prop :=
  Gp P w w' ∧ match q with
  | .ok (x, r) => ∃ v, e = .returned v ∧ V w' v x ∧ RdT w' P s r d mb
  | .error (c, p) => ∃ B : Nat, e = thrownT B ∧ w.heap.size ≤ B ∧ AtX w' B c (p : Int)
end Go.Proofs.YtpanodaecjlgaaaGreatDoor.tm
/- A reader of a template's tokens: want, name; what lies where it is laid. -/
namespace Go.Proofs.YtpanodaecjlgaaaGreatDoor.tm
set_option linter.unusedVariables false
open Go.ChangeShapes Go.WideShapes Go.ChangeAt Go.RowKit
open mem lx ex

theorem Ans.err {α : Type} {V : World → Value → α → Prop} {P d mb : Nat} {s : ByteArray} {w w' : World} {c : Int} {p B : Nat} (hg : Gp P w w') (hB : w.heap.size ≤ B) (hA : AtX w' B c (p : Int)) : Ans (α := α) V P s d mb w (.error (c, p)) (thrownT B) w' := ⟨hg, B, rfl, hB, hA⟩
def wantU (en : Nat) (m : List UInt8) (ts : List Tk) : Rs Unit := match want en m ts with | .ok r => .ok ((), r) | .error e => .error e
theorem wantU_yes {en : Nat} {m : List UInt8} {ts : List Tk} (h : (hd en ts).t = m) : wantU en m ts = .ok ((), ts.tail) := by unfold wantU want; rw [if_pos h]
theorem wantU_no {en : Nat} {m : List UInt8} {ts : List Tk} (h : ¬ (hd en ts).t = m) : wantU en m ts = .error (3, (hd en ts).a) := by unfold wantU want; rw [if_neg h]
/-- A token's variable. -/
structure Tv (w : World) (N : Nat) (S : ByteArray) (a : Int) : Prop where
  h : w.heap[N]? = some (.cells #[.string S, .int .i64 a] 49 (0, 0))
theorem Tv.facts {w : World} {N : Nat} {S : ByteArray} {a : Int} (h : Tv w N S a) : w.cell? ⟨N, 0, none⟩ = some (.string S) ∧ w.cell? ⟨N, 1, none⟩ = some (.int .i64 a) ∧ w.frozen? ⟨N, 0, none⟩ = false ∧ w.frozen? ⟨N, 1, none⟩ = false ∧ N < w.heap.size := by
  obtain ⟨h⟩ := h
  exact ⟨by rw [cell_of h]; rfl, by rw [cell_of h]; rfl, by simp [World.frozen?, h], by simp [World.frozen?, h], lt_of_heap h⟩
theorem Tv.new (w : World) (S : ByteArray) (a : Int) : Tv (w.alloc (.cells #[.string S, .int .i64 a] 49)) w.heap.size S a := ⟨new_at _ _⟩
theorem Tv.bl {w w' : World} {N : Nat} {S : ByteArray} {a : Int} (h : Tv w N S a) (hb : Bl w w') : Tv w' N S a := ⟨by rw [Below.block hb N (lt_of_heap h.h)]; exact h.h⟩
theorem Tv.gp {w w' : World} {P N : Nat} {S : ByteArray} {a : Int} (h : Tv w N S a) (hb : Gp P w w') (hne : N ≠ P) : Tv w' N S a := ⟨by rw [hb.block N (lt_of_heap h.h) hne]; exact h.h⟩
theorem Tv.set {w : World} {N : Nat} {S S' : ByteArray} {a a' : Int} (h : Tv w N S a) : Tv ((w.setCell ⟨N, 0, none⟩ (.string S')).setCell ⟨N, 1, none⟩ (.int .i64 a')) N S' a' := ⟨by simp [World.setCell, Array.getElem?_modify, h.h]⟩
theorem Gp.two {P N : Nat} {w0 w : World} {x y : Value} (h : Gp P w0 w) (hN : w0.heap.size ≤ N) : Gp P w0 ((w.setCell ⟨N, 0, none⟩ x).setCell ⟨N, 1, none⟩ y) := (h.setNew hN x).setNew hN y
theorem RdT.two {w : World} {P N d mb : Nat} {s : ByteArray} {ts : List Tk} (h : RdT w P s ts d mb) (hN : P < N) (x y : Value) : RdT ((w.setCell ⟨N, 0, none⟩ x).setCell ⟨N, 1, none⟩ y) P s ts d mb := (h.behind (grown_set w N 0 x) hN).behind (grown_set _ N 1 y) hN
set_option maxRecDepth 10000 in
theorem want_at (m : ByteArray) (w : World) (P d mb : Nat) (s : ByteArray) (ts : List Tk) (h : RdT w P s ts d mb) :
    Calls Tryz.prog 57 #[.pointer (some ⟨P, 0, none⟩), .string m] w fun e w' => Ans (fun _ v (x : Unit) => v = tkV (hd s.size ts)) P s d mb w (wantU s.size (L m) ts) e w' := by
  have hb0 : Bl w (w.alloc (.cells #[.string ⟨#[]⟩, .int .i64 0] 49)) := (Bl.refl _).alloc _
  have cT := take_at _ P d mb s ts (h.step hb0)
  have hn0 := Tv.new w ⟨#[]⟩ 0
  obtain ⟨N, hN⟩ : ∃ N, N = w.heap.size := ⟨_, rfl⟩
  obtain ⟨w1, hw1⟩ : ∃ w1, w1 = w.alloc (.cells #[.string ⟨#[]⟩, .int .i64 0] 49) := ⟨_, rfl⟩
  have hPw := h.lt
  rw [← hw1] at cT hb0
  rw [← hw1, ← hN] at hn0
  obtain ⟨T, hT⟩ : ∃ T, T = hd s.size ts := ⟨_, rfl⟩
  rw [← hT] at cT ⊢
  have hthr := throw_at T 3
  have htl := tl_tx T.t
  have hPN : P < N := by omega
  unfold tkV at cT hthr ⊢
  obtain ⟨q, hq⟩ : ∃ q, q = wantU s.size (L m) ts := ⟨_, rfl⟩
  rw [← hq]
  have hqq : (T.t = L m → q = .ok ((), ts.tail)) ∧ (¬ T.t = L m → q = .error (3, T.a)) := by
    rw [hq, hT]
    exact ⟨fun h => wantU_yes h, fun h => wantU_no h⟩
  obtain ⟨S, hS⟩ : ∃ S, S = tx T.t := ⟨_, rfl⟩
  rw [← hS] at cT hthr htl ⊢
  have HR : Hid (RdT w P s ts d mb ∧ N = w.heap.size) := ⟨h, hN⟩
  clear h hPw hS hT hq
  go_enter Tryz.func57, Tryz.ntmps57
  go_wp2_with fail
  rw [← hw1]
  refine cT.mono ?_
  rintro e w2 ⟨rfl, hR2, hg2⟩
  have hT2 := hn0.gp hg2 (by omega)
  obtain ⟨g0, g1, z0, z1, hNs⟩ := hT2.facts
  have HG : Hid (Gp P w w2 ∧ RdT w2 P s ts.tail d mb ∧ Tv w2 N ⟨#[]⟩ 0) := ⟨(Gp.bl hb0).trans hg2, hR2, hT2⟩
  rw [← hN]
  clear hw1 hb0 hN hn0 hT2 hg2 hR2 cT
  have hml : m.toList = L m := ByteArray.toList_eq m
  by_cases hm : T.t = L m
  · have HQ : Hid (q = .ok ((), ts.tail)) := hqq.1 hm
    have hb : (S.toList == m.toList) = true := by rw [htl, hml, hm]; simp
    clear hm hqq htl hml hthr
    go_wp2
    have h0 : w.heap.size ≤ N := by have := HR.out.2; omega
    have hv := HG.out.2.2.set (S' := S) (a' := (T.a : Int))
    have hg := Gp.two (x := .string S) (y := .int .i64 (T.a : Int)) HG.out.1 h0
    have hr := HG.out.2.1.two hPN (.string S) (.int .i64 (T.a : Int))
    have hbl : Bl ((w2.setCell ⟨N, 0, none⟩ (.string S)).setCell ⟨N, 1, none⟩ (.int .i64 (T.a : Int))) (((w2.setCell ⟨N, 0, none⟩ (.string S)).setCell ⟨N, 1, none⟩ (.int .i64 (T.a : Int))).alloc (.cells #[.string S, .int .i64 (T.a : Int)] 49)) := (Bl.refl _).alloc _
    rw [HQ.out]
    exact bodyPost_ret (v := .agg #[.string S, .int .i64 (T.a : Int)]) (results_cell_row rfl _ _ N 49 #[.string S, .int .i64 (T.a : Int)] (0, 0) _ rfl (hv.bl hbl).h Tryz.underlying49 rfl infoT) rfl ⟨hg.trans (Gp.bl hbl), _, rfl, rfl, hr.step hbl⟩
  · have HQ : Hid (q = .error (3, T.a)) := hqq.2 hm
    have hb : (S.toList == m.toList) = false := by rw [htl, hml, beq_eq_false_iff_ne]; exact hm
    clear hm hqq htl hml
    go_wp2_with fail
    refine (hthr _).mono ?_
    rintro e w4 ⟨B, rfl, k1, k2, k3⟩
    unfold thrownT
    go_wp2
    have hs := HG.out.1.size
    have hs2 : w2.heap.size ≤ (w2.alloc (.cells #[.string S, .int .i64 (T.a : Int)] 49)).heap.size := ((Bl.refl _).alloc _).size
    refine ⟨rfl, ?_⟩
    rw [HQ.out]
    exact Ans.err (HG.out.1.trans (Gp.bl (((Bl.refl _).alloc _).trans k3))) (by omega) k2
end Go.Proofs.YtpanodaecjlgaaaGreatDoor.tm
