/- The document's own side: the right spans of chosen places (plain facts). -/
import Derived.Test.YtfblmfjgbbeheaaSp5
namespace Go.Proofs.Ytfblmfjgbbeheaa.sp
set_option linter.unusedVariables false
open mem rows span

/-- The k-th one of some numbers. -/
def nu (e : List Int) (k : Nat) : Int := e.getD k 0
/-- What is made of the first k of rising ends. -/
structure Cg (e : List Int) (f : Int → Bool) (k : Nat) (R : List (Int × Int)) : Prop where
  r : right R
  h : ∀ p, has R p ↔ ∃ i, i < k ∧ f (nu e i) = true ∧ nu e i ≤ p ∧ p < nu e (i + 1)
  n : R.length ≤ k
  c : ∀ pre c d, R = pre ++ [(c, d)] → d ≤ nu e k
theorem nu_lt {e : List Int} (h : e.Pairwise fun x y => x < y) {i j : Nat} (hij : i < j) (hj : j < e.length) : nu e i < nu e j := by
  have := (List.pairwise_iff_getElem.1 h) i j (by omega) hj hij
  unfold nu
  rw [List.getD_eq_getElem?_getD, List.getD_eq_getElem?_getD, List.getElem?_eq_getElem (by omega), List.getElem?_eq_getElem hj]
  exact this
theorem Cg.start (e : List Int) (f : Int → Bool) : Cg e f 0 [] := ⟨trivial, fun p => ⟨fun h => absurd h (has_nil p), fun ⟨i, hi, _⟩ => absurd hi (Nat.not_lt_zero _)⟩, Nat.zero_le _, fun pre c d h => by simp at h⟩
theorem step_iff (e : List Int) (f : Int → Bool) (k : Nat) (p : Int) : (∃ i, i < k + 1 ∧ f (nu e i) = true ∧ nu e i ≤ p ∧ p < nu e (i + 1)) ↔ (∃ i, i < k ∧ f (nu e i) = true ∧ nu e i ≤ p ∧ p < nu e (i + 1)) ∨ (f (nu e k) = true ∧ nu e k ≤ p ∧ p < nu e (k + 1)) := by
  constructor
  · rintro ⟨i, hi, h⟩
    rcases Nat.lt_or_ge i k with h' | h'
    · exact Or.inl ⟨i, h', h⟩
    · obtain rfl : i = k := by omega
      exact Or.inr h
  · rintro (⟨i, hi, h⟩ | h)
    · exact ⟨i, by omega, h⟩
    · exact ⟨k, by omega, h⟩
theorem Cg.no {e : List Int} {f : Int → Bool} {k : Nat} {R : List (Int × Int)} (h : Cg e f k R) (he : e.Pairwise fun x y => x < y) (hk : k + 1 < e.length) (hf : f (nu e k) = false) : Cg e f (k + 1) R := by
  refine ⟨h.r, fun p => ?_, by have := h.n; omega, fun pre c d e' => ?_⟩
  · rw [h.h p, step_iff, hf]
    simp
  · have := h.c pre c d e'
    have := nu_lt he (show k < k + 1 by omega) hk
    omega
theorem Cg.on {e : List Int} {f : Int → Bool} {k : Nat} {pre : List (Int × Int)} {c d : Int} (h : Cg e f k (pre ++ [(c, d)])) (he : e.Pairwise fun x y => x < y) (hk : k + 1 < e.length) (hf : f (nu e k) = true) (hd : d = nu e k) : Cg e f (k + 1) (pre ++ [(c, nu e (k + 1))]) := by
  have hlt := nu_lt he (show k < k + 1 by omega) hk
  have hcd := right_ends h.r
  obtain ⟨hr, hh⟩ := put_on (m := -1) (b := nu e (k + 1)) h.r (show c ≤ d by omega) (Int.le_refl d)
  rw [show max d (nu e (k + 1)) = nu e (k + 1) by omega] at hr hh
  refine ⟨hr, fun p => ?_, by have := h.n; simp at this ⊢; omega, fun pre' c' d' e' => ?_⟩
  · rw [hh p, h.h p, step_iff, hf, hd]
    simp
  · have := (List.append_inj' e' rfl).2
    simp at this
    rw [← this.2]
    exact Int.le_refl _
theorem Cg.newS {e : List Int} {f : Int → Bool} {k : Nat} {R : List (Int × Int)} (h : Cg e f k R) (he : e.Pairwise fun x y => x < y) (h0 : ∀ i, i < e.length → 0 ≤ nu e i) (hk : k + 1 < e.length) (hf : f (nu e k) = true) (hd : ∀ pre c d, R = pre ++ [(c, d)] → d ≠ nu e k) : Cg e f (k + 1) (R ++ [(nu e k, nu e (k + 1))]) := by
  have hlt := nu_lt he (show k < k + 1 by omega) hk
  have hk0 := h0 k (by omega)
  have key : right (R ++ [(nu e k, nu e (k + 1))]) ∧ ∀ p, has (R ++ [(nu e k, nu e (k + 1))]) p ↔ has R p ∨ (nu e k ≤ p ∧ p < nu e (k + 1)) := by
    by_cases hR : R = []
    · subst hR
      exact put_first (m := -1) (by omega) hlt
    · obtain ⟨pre, c, d, rfl⟩ := snoc_of hR
      have h1 := h.c pre c d rfl
      have h2 := hd pre c d rfl
      exact put_new (m := -1) h.r (by omega) hlt
  refine ⟨key.1, fun p => ?_, by have := h.n; simp; omega, fun pre' c' d' e' => ?_⟩
  · rw [key.2 p, h.h p, step_iff, hf]
    simp
  · have := (List.append_inj' e' rfl).2
    simp at this
    rw [← this.2]
    exact Int.le_refl _
/-- In which piece a place lies. -/
theorem piece_of {e : List Int} (he : e.Pairwise fun x y => x < y) (h0 : nu e 0 = 0) (hn : 0 < e.length) (p : Int) (hp : 0 ≤ p) : (∃ i, i + 1 < e.length ∧ nu e i ≤ p ∧ p < nu e (i + 1)) ∨ nu e (e.length - 1) ≤ p := by
  have : ∀ k, k < e.length → (∃ i, i + 1 < e.length ∧ nu e i ≤ p ∧ p < nu e (i + 1)) ∨ nu e k ≤ p := by
    intro k
    induction k with
    | zero => intro _; exact Or.inr (by omega)
    | succ k ih =>
      intro hk
      rcases ih (by omega) with h | h
      · exact Or.inl h
      · rcases Int.lt_or_le p (nu e (k + 1)) with h' | h'
        · exact Or.inl ⟨k, hk, h, h'⟩
        · exact Or.inr h'
  exact this (e.length - 1) (by omega)
/-- What is the same between ends, and beyond the last one is not so, is had just so. -/
theorem Cg.all {e : List Int} {f : Int → Bool} {k : Nat} {R : List (Int × Int)} (h : Cg e f k R) (hk : k + 1 = e.length) (he : e.Pairwise fun x y => x < y) (h0 : nu e 0 = 0)
    (hs : ∀ p q, 0 ≤ p → p ≤ q → (∀ z ∈ e, ¬ (p < z ∧ z ≤ q)) → f p = f q) (hl : ∀ p, (∀ z ∈ e, z ≤ p) → f p = false) : IsOf (fun p => f p = true) R := by
  have hmem : ∀ i, i < e.length → nu e i ∈ e := fun i hi => by
    unfold nu
    rw [List.getD_eq_getElem?_getD, List.getElem?_eq_getElem hi]
    exact List.getElem_mem hi
  have hle : ∀ i j, i ≤ j → j < e.length → nu e i ≤ nu e j := fun i j hij hj => by
    rcases Nat.lt_or_ge i j with h | h
    · have := nu_lt he h hj; omega
    · obtain rfl : i = j := by omega
      exact Int.le_refl _
  have hidx : ∀ z ∈ e, ∃ j, j < e.length ∧ z = nu e j := fun z hz => by
    obtain ⟨j, hj, rfl⟩ := List.getElem_of_mem hz
    refine ⟨j, hj, ?_⟩
    unfold nu
    rw [List.getD_eq_getElem?_getD, List.getElem?_eq_getElem hj]
    rfl
  have hsame : ∀ i, i + 1 < e.length → ∀ p, nu e i ≤ p → p < nu e (i + 1) → f (nu e i) = f p := fun i hi p h1 h2 => by
    refine hs _ _ ?_ h1 (fun z hz hz2 => ?_)
    · have := hle 0 i (Nat.zero_le _) (by omega); omega
    · obtain ⟨j, hj, rfl⟩ := hidx z hz
      rcases Nat.lt_or_ge i j with h' | h'
      · have := hle (i + 1) j h' hj; omega
      · have := hle j i h' (by omega); omega
  refine ⟨h.r, fun p => ?_⟩
  rw [h.h p]
  constructor
  · rintro ⟨i, hi, hf, h1, h2⟩
    have := hle 0 i (Nat.zero_le _) (by omega)
    exact ⟨by omega, by show f p = true; rw [← hsame i (by omega) p h1 h2]; exact hf⟩
  · rintro ⟨hp, hf⟩
    have hf : f p = true := hf
    rcases piece_of he h0 (by omega) p hp with ⟨i, hi, h1, h2⟩ | h'
    · exact ⟨i, by omega, by rw [hsame i hi p h1 h2]; exact hf, h1, h2⟩
    · rw [hl p (fun z hz => by
        obtain ⟨j, hj, rfl⟩ := hidx z hz
        have := hle j (e.length - 1) (by omega) (by omega)
        omega)] at hf
      cases hf
end Go.Proofs.Ytfblmfjgbbeheaa.sp
