/- Plain facts: a pattern among the ends of a text in their order. -/
import Derived.Test.YtnhdaolieifhnaaGreatDoorSxT
namespace Go.Proofs.YtnhdaolieifhnaaGreatDoor.sx
set_option linter.unusedVariables false
open Go.ChangeShapes Go.WideShapes Go.ChangeAt Go.RowKit
open mem rows fd

/-- The end at x stands ahead of the pattern. -/
def below (s p : ByteArray) (x : Nat) : Bool := Op.bytesLess (s.extract x s.size).toList p.toList
/-- The end at x begins with the pattern. -/
def begins (s p : ByteArray) (x : Nat) : Prop := ∀ t, t < p.size → gs s (x + t) = sb p t + 1
instance (s p : ByteArray) (x : Nat) : Decidable (begins s p x) := by unfold begins; infer_instance
theorem below_iff (s p : ByteArray) (x : Nat) : below s p x = true ↔ ∃ k, (∀ t, t < k → gs s (x + t) = gl p.toList t) ∧ gs s (x + k) < gl p.toList k := by
  unfold below
  rw [less_iff]
  simp only [gl_end]
theorem gl_in (p : ByteArray) (t : Nat) (h : t < p.size) : gl p.toList t = sb p t + 1 := by rw [gl_text, if_pos h]
theorem gl_out (p : ByteArray) (t : Nat) (h : p.size ≤ t) : gl p.toList t = 0 := by rw [gl_text, if_neg (by omega)]
theorem gs_nonneg (s : ByteArray) (k : Nat) : 0 ≤ gs s k := by
  unfold gs
  have := sb_bd s k
  split <;> omega
theorem below_up {s p : ByteArray} {x y : Nat} (h : lt (gs s) x y) (hy : below s p y = true) : below s p x = true := by
  rw [below_iff] at *
  obtain ⟨a, h1, h2⟩ := h
  obtain ⟨b, h3, h4⟩ := hy
  rcases Nat.lt_trichotomy a b with hab | hab | hab
  · exact ⟨a, fun t ht => (h1 t ht).trans (h3 t (by omega)), by rw [← h3 a hab]; exact h2⟩
  · subst hab; exact ⟨a, fun t ht => (h1 t ht).trans (h3 t ht), Int.lt_trans h2 h4⟩
  · exact ⟨b, fun t ht => (h1 t (by omega)).trans (h3 t ht), by rw [h1 b hab]; exact h4⟩
theorem begins_not {s p : ByteArray} {x : Nat} (h : begins s p x) : below s p x = false := by
  rw [← Bool.not_eq_true, below_iff]
  rintro ⟨k, _, h2⟩
  rcases Nat.lt_or_ge k p.size with hk | hk
  · rw [gl_in _ _ hk, h k hk] at h2; omega
  · rw [gl_out _ _ hk] at h2
    have := gs_nonneg s (x + k)
    omega
theorem begins_down {s p : ByteArray} {x y : Nat} (h : lt (gs s) x y) (hx : below s p x = false) (hy : begins s p y) : begins s p x := by
  obtain ⟨k, h1, h2⟩ := h
  rcases Nat.lt_or_ge k p.size with hk | hk
  · exfalso
    rw [← Bool.not_eq_true, below_iff] at hx
    refine hx ⟨k, fun t ht => ?_, ?_⟩
    · rw [h1 t ht, hy t (by omega), gl_in _ _ (by omega)]
    · rw [gl_in _ _ hk, ← hy k hk]; exact h2
  · intro t ht
    rw [h1 t (by omega)]
    exact hy t ht
theorem begins_iff {s p : ByteArray} {x : Nat} (h0 : 0 < p.size) : begins s p x ↔ x + p.size ≤ s.size ∧ St (sb p) (sb s) p.size x = true := by
  unfold begins St
  rw [decide_eq_true_eq]
  constructor
  · intro h
    have hx : ∀ t, t < p.size → x + t < s.size := fun t ht => by
      have h1 := h t ht
      have h2 := sb_bd p t
      rcases Nat.lt_or_ge (x + t) s.size with h3 | h3
      · exact h3
      · rw [(gs_tx s).zero _ h3] at h1; omega
    refine ⟨by have := hx (p.size - 1) (by omega); omega, fun t ht => ?_⟩
    have := h t ht
    rw [gs_at _ _ (hx t ht)] at this
    omega
  · rintro ⟨h1, h2⟩ t ht
    rw [gs_at _ _ (by omega), h2 t ht]
/-- The ends that begin with the pattern stand together. -/
theorem found_is {s p : ByteArray} {L : List Nat} (hL : IsSort (gs s) s.size L) (h0 : 0 < p.size) (a n : Nat) (han : a + n ≤ s.size) (h1 : ∀ i, i < a → below s p (L.getD i 0) = true) (h2 : ∀ i, a ≤ i → i < s.size → below s p (L.getD i 0) = false)
    (h3 : ∀ i, i < n → begins s p (L.getD (a + i) 0)) (h4 : ∀ i, n ≤ i → a + i < s.size → ¬ begins s p (L.getD (a + i) 0)) :
    ((L.drop a).take n).Perm (pls (sb p) (sb s) p.size s.size) := by
  have hlen := hL.len
  have hnd : L.Nodup := hL.perm.nodup_iff.2 List.nodup_range
  refine (List.perm_ext_iff_of_nodup (List.Nodup.sublist ((List.take_sublist _ _).trans (List.drop_sublist _ _)) hnd) ?_).2 fun x => ?_
  · have := sta_rising (St (sb p) (sb s) p.size) (s.size + 1 - p.size)
    exact this.imp fun h e => by omega
  · have e1 : x ∈ pls (sb p) (sb s) p.size s.size ↔ begins s p x := by
      rw [begins_iff h0]
      unfold pls
      rw [mem_sta]
      constructor
      · rintro ⟨e1, e2⟩; exact ⟨by omega, e2⟩
      · rintro ⟨e1, e2⟩; exact ⟨by omega, e2⟩
    rw [e1]
    constructor
    · intro hx
      obtain ⟨i, hi, e⟩ := List.mem_iff_getElem.1 hx
      rw [List.getElem_take, List.getElem_drop] at e
      rw [List.length_take, List.length_drop] at hi
      have := h3 i (by omega)
      rw [List.getD_eq_getElem?_getD, List.getElem?_eq_getElem (by omega)] at this
      rw [← e]
      exact this
    · intro hb
      have hx : x < s.size := by have := (begins_iff h0).1 hb; omega
      obtain ⟨k, hk, rfl⟩ := hL.at x hx
      have hka : a ≤ k := by
        rcases Nat.lt_or_ge k a with h | h
        · have := h1 k h; rw [begins_not hb] at this; exact absurd this (by decide)
        · exact h
      obtain ⟨i, rfl⟩ : ∃ i, k = a + i := ⟨k - a, by omega⟩
      have hin : i < n := by
        rcases Nat.lt_or_ge i n with h | h
        · exact h
        · exact absurd hb (h4 i h hk)
      refine List.mem_iff_getElem.2 ⟨i, by rw [List.length_take, List.length_drop]; omega, ?_⟩
      rw [List.getElem_take, List.getElem_drop, List.getD_eq_getElem?_getD, List.getElem?_eq_getElem (by omega)]
      rfl
/-- What is sorted and has just these is these, rising. -/
theorem sort_same (l : List Int) (m : List Nat) (hm : m.Pairwise (· < ·)) (hp : l.Perm (ints m)) : (l.mergeSort fun x y => decide (x ≤ y)) = ints m := by
  refine List.Perm.eq_of_pairwise (le := fun x y : Int => x ≤ y) (fun a b _ _ h1 h2 => by omega) ?_ ?_ ((List.mergeSort_perm _ _).trans hp)
  · have := List.pairwise_mergeSort (le := fun x y : Int => decide (x ≤ y)) (fun a b c h1 h2 => by simp at *; omega) (fun a b => by simp; omega) l
    exact this.imp fun h => by simpa using h
  · unfold ints
    rw [List.pairwise_map]
    exact hm.imp fun h => by omega
end Go.Proofs.YtnhdaolieifhnaaGreatDoor.sx
