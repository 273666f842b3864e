/- All beginnings of several patterns: which one ends a text last, and which patterns it ends with. -/
import Derived.Test.YtehmjffbfgnijabDoorFdP
namespace Go.Proofs.YtehmjffbfgnijabDoor.fd
set_option linter.unusedVariables false

/-- Which of the first m is this one. -/
def ix (tx : Nat → List Int) (m : Nat) (u : List Int) : Option Nat := (List.range m).find? fun j => decide (tx j = u)
theorem ix_some {tx : Nat → List Int} {m : Nat} {u : List Int} {j : Nat} (h : ix tx m u = some j) : j < m ∧ tx j = u := by
  unfold ix at h
  have h1 := List.find?_some h
  have h2 := List.mem_of_find?_eq_some h
  exact ⟨List.mem_range.1 h2, by simpa using h1⟩
theorem ix_none {tx : Nat → List Int} {m : Nat} {u : List Int} (h : ix tx m u = none) : ∀ j, j < m → tx j ≠ u := fun j hj e => by
  unfold ix at h
  rw [List.find?_eq_none] at h
  exact h j (List.mem_range.2 hj) (by simpa using e)
theorem ix_is {tx : Nat → List Int} {m : Nat} {u : List Int} (h : ∃ j, j < m ∧ tx j = u) : ∃ j, ix tx m u = some j := by
  cases e : ix tx m u with
  | some j => exact ⟨j, rfl⟩
  | none =>
    obtain ⟨j, h1, h2⟩ := h
    exact absurd h2 (ix_none e j h1)
theorem ix_grow (tx : Nat → List Int) (m : Nat) (t u : List Int) (h : ix tx m t = none) : ix (fun j => if j = m then t else tx j) (m + 1) u = if u = t then some m else ix tx m u := by
  unfold ix at h ⊢
  rw [List.range_succ, List.find?_append]
  have e : (List.range m).find? (fun j => decide ((if j = m then t else tx j) = u)) = (List.range m).find? fun j => decide (tx j = u) := by
    have : ∀ l : List Nat, (∀ j ∈ l, j < m) → l.find? (fun j => decide ((if j = m then t else tx j) = u)) = l.find? fun j => decide (tx j = u) := by
      intro l
      induction l with
      | nil => intro _; rfl
      | cons a l ih =>
        intro hl
        have ha := hl a (List.mem_cons_self ..)
        rw [List.find?_cons, List.find?_cons, if_neg (by omega), ih fun j hj => hl j (List.mem_cons_of_mem _ hj)]
    exact this _ fun j hj => List.mem_range.1 hj
  rw [e]
  by_cases hu : u = t
  · subst hu
    rw [h, if_pos rfl]
    simp
  · rw [if_neg hu]
    have hu' : ¬ t = u := fun e => hu e.symm
    cases (List.range m).find? fun j => decide (tx j = u) with
    | none => simp [hu']
    | some j => rfl
/-- Of the first m the j-th is the longest that the text t ends with. -/
structure LS (tx : Nat → List Int) (m : Nat) (t : List Int) (j : Nat) : Prop where
  lt : j < m
  suf : tx j <:+ t
  longest : ∀ i, i < m → tx i <:+ t → (tx i).length ≤ (tx j).length
/-- Beginnings that stand together. -/
structure Tr (tx : Nat → List Int) (E : Nat → Nat) (m : Nat) : Prop where
  pos : 0 < m
  root : tx 0 = []
  inj : ∀ i j, i < m → j < m → tx i = tx j → i = j
  closed : ∀ j, j < m → ∀ u c, tx j = u ++ [c] → ∃ i, i < m ∧ tx i = u
  ends : ∀ i, i < m → LS tx m ((tx i).drop 1) (E i)
theorem suf_snoc {u t : List Int} {c d : Int} : u ++ [c] <:+ t ++ [d] ↔ u <:+ t ∧ c = d := by
  constructor
  · rintro ⟨l, h⟩
    rw [← List.append_assoc] at h
    obtain ⟨h1, h2⟩ := List.append_inj' h rfl
    exact ⟨⟨l, h1⟩, by simpa using h2⟩
  · rintro ⟨⟨l, rfl⟩, rfl⟩
    exact ⟨l, by simp⟩
theorem suf_of_len {u v t : List Int} (hu : u <:+ t) (hv : v <:+ t) (h : u.length ≤ v.length) : u <:+ v := List.suffix_of_suffix_length_le hu hv h
/-- On the way: none longer goes on with c. -/
structure Way (tx : Nat → List Int) (m : Nat) (t : List Int) (c : Int) (j : Nat) : Prop where
  lt : j < m
  suf : tx j <:+ t
  off : ∀ i, i < m → tx i <:+ t → (tx j).length < (tx i).length → ix tx m (tx i ++ [c]) = none
theorem LS.way {tx : Nat → List Int} {m : Nat} {t : List Int} {j : Nat} (h : LS tx m t j) (c : Int) : Way tx m t c j := ⟨h.lt, h.suf, fun i hi hs hl => by have := h.longest i hi hs; omega⟩
theorem Way.hit {tx : Nat → List Int} {E : Nat → Nat} {m : Nat} {t : List Int} {c : Int} {j k : Nat} (T : Tr tx E m) (h : Way tx m t c j) (hk : ix tx m (tx j ++ [c]) = some k) : LS tx m (t ++ [c]) k := by
  obtain ⟨h1, h2⟩ := ix_some hk
  refine ⟨h1, by rw [h2]; exact suf_snoc.2 ⟨h.suf, rfl⟩, fun i hi hs => ?_⟩
  rcases List.eq_nil_or_concat (tx i) with e | ⟨u, d, e⟩
  · rw [e]; exact Nat.zero_le _
  · rw [List.concat_eq_append] at e
    rw [e] at hs
    obtain ⟨hu, rfl⟩ := suf_snoc.1 hs
    obtain ⟨i', hi', rfl⟩ := T.closed i hi u d e
    rcases Nat.lt_or_ge (tx j).length (tx i').length with hl | hl
    · exact absurd e (ix_none (h.off i' hi' hu hl) i hi)
    · rw [e, h2, List.length_append, List.length_append]; simp; omega
theorem Way.root {tx : Nat → List Int} {E : Nat → Nat} {m : Nat} {t : List Int} {c : Int} (T : Tr tx E m) (h : Way tx m t c 0) (hk : ix tx m (tx 0 ++ [c]) = none) : LS tx m (t ++ [c]) 0 := by
  refine ⟨T.pos, by rw [T.root]; exact List.nil_suffix, fun i hi hs => ?_⟩
  rcases List.eq_nil_or_concat (tx i) with e | ⟨u, d, e⟩
  · rw [e]; exact Nat.zero_le _
  · rw [List.concat_eq_append] at e
    rw [e] at hs
    obtain ⟨hu, rfl⟩ := suf_snoc.1 hs
    obtain ⟨i', hi', rfl⟩ := T.closed i hi u d e
    rcases Nat.eq_zero_or_pos (tx i').length with hl | hl
    · have e0 : tx i' = tx 0 := by rw [T.root]; exact List.eq_nil_of_length_eq_zero hl
      rw [e0] at e
      exact absurd e (ix_none hk i hi)
    · exact absurd e (ix_none (h.off i' hi' hu (by rw [T.root]; exact hl)) i hi)
theorem Way.next {tx : Nat → List Int} {E : Nat → Nat} {m : Nat} {t : List Int} {c : Int} {j : Nat} (T : Tr tx E m) (h : Way tx m t c j) (hj : j ≠ 0) (hk : ix tx m (tx j ++ [c]) = none) : Way tx m t c (E j) ∧ (tx (E j)).length < (tx j).length := by
  have hE := T.ends j h.lt
  have hne : 0 < (tx j).length := by
    rcases Nat.eq_zero_or_pos (tx j).length with hl | hl
    · exact absurd (T.inj j 0 h.lt T.pos (by rw [T.root]; exact List.eq_nil_of_length_eq_zero hl)) hj
    · exact hl
  have hlen : (tx (E j)).length < (tx j).length := by
    have := hE.suf.length_le
    rw [List.length_drop] at this
    omega
  refine ⟨⟨hE.lt, hE.suf.trans ((List.drop_suffix 1 _).trans h.suf), fun i hi hs hl => ?_⟩, hlen⟩
  rcases Nat.lt_trichotomy (tx i).length (tx j).length with g | g | g
  · have hij : tx i <:+ (tx j).drop 1 := by
      have h1 := suf_of_len hs h.suf (by omega)
      exact suf_of_len h1 (List.drop_suffix 1 _) (by rw [List.length_drop]; omega)
    have := hE.longest i hi hij
    omega
  · have h1 := suf_of_len hs h.suf (by omega)
    have e : tx i = tx j := h1.eq_of_length g
    rw [e]; exact hk
  · exact h.off i hi hs g
/-- A beginning more. -/
theorem Tr.grow {tx : Nat → List Int} {E : Nat → Nat} {m : Nat} (T : Tr tx E m) (a e : Nat) (c : Int) (ha : a < m) (hn : ix tx m (tx a ++ [c]) = none) (hl : ∀ i, i < m → (tx i).length ≤ (tx a).length + 1)
    (he : LS tx m ((tx a ++ [c]).drop 1) e) : Tr (fun j => if j = m then tx a ++ [c] else tx j) (fun j => if j = m then e else E j) (m + 1) := by
  have low : ∀ i, i < m → (if i = m then tx a ++ [c] else tx i) = tx i := fun i hi => if_neg (by omega)
  have up : ∀ t j, LS tx m t j → t.length ≤ (tx a).length → LS (fun j => if j = m then tx a ++ [c] else tx j) (m + 1) t j := fun t j h ht => by
    refine ⟨by have := h.lt; omega, by rw [low j h.lt]; exact h.suf, fun i hi hs => ?_⟩
    rw [low j h.lt]
    rcases Nat.lt_or_ge i m with h' | h'
    · rw [low i h'] at hs ⊢
      exact h.longest i h' hs
    · obtain rfl : i = m := by omega
      rw [if_pos rfl] at hs
      have := hs.length_le
      rw [List.length_append] at this
      simp at this
      omega
  refine ⟨by omega, by rw [low 0 T.pos]; exact T.root, fun i j hi hj h => ?_, fun j hj u d h => ?_, fun i hi => ?_⟩
  · skip
    rcases Nat.lt_or_ge i m with h1 | h1 <;> rcases Nat.lt_or_ge j m with h2 | h2
    · rw [low i h1, low j h2] at h; exact T.inj i j h1 h2 h
    · obtain rfl : j = m := by omega
      rw [low i h1, if_pos rfl] at h; exact absurd h (ix_none hn i h1)
    · obtain rfl : i = m := by omega
      rw [low j h2, if_pos rfl] at h; exact absurd h.symm (ix_none hn j h2)
    · omega
  · skip
    rcases Nat.lt_or_ge j m with h2 | h2
    · rw [low j h2] at h
      obtain ⟨i, h3, h4⟩ := T.closed j h2 u d h
      exact ⟨i, by omega, by rw [low i h3]; exact h4⟩
    · obtain rfl : j = m := by omega
      rw [if_pos rfl] at h
      obtain ⟨h5, _⟩ := List.append_inj' h rfl
      exact ⟨a, by omega, by rw [low a ha]; exact h5⟩
  · skip
    rcases Nat.lt_or_ge i m with h2 | h2
    · rw [low i h2, if_neg (by omega)]
      have := hl i h2
      exact up _ _ (T.ends i h2) (by rw [List.length_drop]; omega)
    · obtain rfl : i = m := by omega
      rw [if_pos rfl, if_pos rfl]
      exact up _ _ he (by rw [List.length_drop, List.length_append]; simp)
/-- The one beginning that has no bytes. -/
theorem Tr.one : Tr (fun _ => []) (fun _ => 0) 1 :=
  ⟨by decide, rfl, fun i j hi hj _ => by omega, fun j _ u c h => by simp at h, fun i hi => ⟨by decide, List.nil_suffix, fun _ _ _ => Nat.le_refl _⟩⟩
end Go.Proofs.YtehmjffbfgnijabDoor.fd
