/- Signs in one row, each behind the one ahead, in plain numbers. -/
import Derived.Test.YtkldnapbeebdkaaDoorHgP
namespace Go.Proofs.YtkldnapbeebdkaaDoor.hg
set_option linter.unusedVariables false
/-- By length, then by number. -/
def lx (l : List Int) (a b : Nat) : Prop := l.getD a 0 < l.getD b 0 ∨ (l.getD a 0 = l.getD b 0 ∧ a < b)
theorem lx.irrefl {l : List Int} {a : Nat} (h : lx l a a) : False := by unfold lx at h; omega
theorem lx.asymm {l : List Int} {a b : Nat} (h : lx l a b) (k : lx l b a) : False := by unfold lx at h k; omega
theorem lx.trans {l : List Int} {a b c : Nat} (h : lx l a b) (k : lx l b c) : lx l a c := by unfold lx at h k ⊢; omega
/-- All things that have bits, in their order. -/
def IsM (l : List Int) (M : List Nat) : Prop := M.Pairwise (lx l) ∧ ∀ x, x ∈ M ↔ x < l.length ∧ 0 < l.getD x 0
theorem cnt_none (l : List Int) (m : Nat) : ∀ k i, i ≤ k → (∀ x, i ≤ x → x < k → l.getD x 0 ≠ (m : Int)) → cnt l m k = cnt l m i
  | 0, i, h, _ => by rw [Nat.le_zero.1 h]
  | k + 1, i, h, hx => by
    by_cases e : i = k + 1
    · rw [e]
    · rw [cnt, if_neg (hx k (by omega) (by omega)), cnt_none l m k i (by omega) fun x h1 h2 => hx x h1 (by omega)]
      rfl
theorem E_skip (l : List Int) (n : Nat) : ∀ d m, (∀ j, m < j → j ≤ m + d → cnt l j n = 0) → E l n (m + d) = E l n m * 2 ^ d
  | 0, m, _ => by simp
  | d + 1, m, h => by
    rw [← Nat.add_assoc, E, E_skip l n d m (fun j h1 h2 => h j h1 (by omega)), h (m + d + 1) (by omega) (by omega), Nat.pow_succ, Nat.add_zero, Nat.mul_comm 2, Nat.mul_assoc]
theorem IsM.at {l : List Int} {M : List Nat} (h : IsM l M) {i j : Nat} (hij : i < j) (hj : j < M.length) : lx l (M.getD i 0) (M.getD j 0) := by
  have := List.pairwise_iff_getElem.1 h.1 i j (by omega) hj hij
  rw [List.getD_eq_getElem?_getD, List.getD_eq_getElem?_getD, List.getElem?_eq_getElem hj, List.getElem?_eq_getElem (by omega : i < M.length)]
  exact this
theorem IsM.get {l : List Int} {M : List Nat} (h : IsM l M) {i : Nat} (hi : i < M.length) : M.getD i 0 < l.length ∧ 0 < l.getD (M.getD i 0) 0 := by
  refine (h.2 _).1 ?_
  rw [List.getD_eq_getElem?_getD, List.getElem?_eq_getElem hi]
  exact List.getElem_mem hi
theorem IsM.find {l : List Int} {M : List Nat} (h : IsM l M) {x : Nat} (hx : x < l.length) (h0 : 0 < l.getD x 0) : ∃ i, i < M.length ∧ M.getD i 0 = x := by
  obtain ⟨i, hi, e⟩ := List.mem_iff_getElem.1 ((h.2 x).2 ⟨hx, h0⟩)
  exact ⟨i, hi, by rw [List.getD_eq_getElem?_getD, List.getElem?_eq_getElem hi]; exact e⟩
/-- What stands ahead of place k: just those at the places ahead. -/
theorem IsM.ahead {l : List Int} {M : List Nat} (h : IsM l M) {k x : Nat} (hk : k < M.length) (hx : x < l.length) (h0 : 0 < l.getD x 0) (hl : lx l x (M.getD k 0)) : ∃ i, i < k ∧ M.getD i 0 = x := by
  obtain ⟨i, hi, e⟩ := h.find hx h0
  refine ⟨i, ?_, e⟩
  rcases Nat.lt_trichotomy i k with h1 | h1 | h1
  · exact h1
  · rw [← h1, e] at hl; exact hl.irrefl.elim
  · have := h.at h1 hi
    rw [e] at this
    exact (this.asymm hl).elim
theorem sgn_val {l : List Int} {n x m : Nat} (h : l.getD x 0 = ((m + 1 : Nat) : Int)) : sgn l n x = ((2 * E l n m + cnt l (m + 1) x : Nat) : Int) := by
  unfold sgn
  rw [if_pos (by omega), h]
  rfl
theorem cnt_zero {l : List Int} {m : Nat} : ∀ {k}, (∀ x, x < k → l.getD x 0 ≠ (m : Int)) → cnt l m k = 0 := fun {k} h => (cnt_none l m k 0 (Nat.zero_le _) fun x _ h2 => h x h2).trans rfl
/-- The first one is 0. -/
theorem IsM.first {l : List Int} {M : List Nat} (h : IsM l M) (h0 : 0 < M.length) : sgn l l.length (M.getD 0 0) = 0 := by
  obtain ⟨hx, hp⟩ := h.get h0
  obtain ⟨m, hm⟩ : ∃ m : Nat, l.getD (M.getD 0 0) 0 = ((m + 1 : Nat) : Int) := ⟨(l.getD (M.getD 0 0) 0).toNat - 1, by omega⟩
  have no : ∀ x, x < l.length → 0 < l.getD x 0 → ¬ lx l x (M.getD 0 0) := fun x hx h1 h2 => by
    obtain ⟨i, hi, _⟩ := h.ahead h0 hx h1 h2
    omega
  rw [sgn_val hm]
  have e1 : cnt l (m + 1) (M.getD 0 0) = 0 := cnt_zero fun x hx' e => no x (by omega) (by omega) (Or.inr ⟨by omega, hx'⟩)
  have e2 : E l l.length m = 0 := by
    have := E_skip l l.length m 0 (fun j h1 h2 => cnt_zero fun x hx' e => no x hx' (by omega) (Or.inl (by omega)))
    rw [Nat.zero_add] at this
    rw [this]
    simp [E]
  rw [e1, e2]
  rfl
/-- Each other one: the one ahead and one, with noughts behind it. -/
theorem IsM.next {l : List Int} {M : List Nat} (h : IsM l M) {k : Nat} (hk : k + 1 < M.length) :
    l.getD (M.getD k 0) 0 ≤ l.getD (M.getD (k + 1) 0) 0 ∧ sgn l l.length (M.getD (k + 1) 0) = (sgn l l.length (M.getD k 0) + 1) * 2 ^ (l.getD (M.getD (k + 1) 0) 0 - l.getD (M.getD k 0) 0).toNat := by
  obtain ⟨ha, hpa⟩ := h.get (i := k) (by omega)
  obtain ⟨hb, hpb⟩ := h.get hk
  have hab := h.at (i := k) (j := k + 1) (by omega) hk
  -- nothing stands between them
  have no : ∀ x, x < l.length → 0 < l.getD x 0 → lx l (M.getD k 0) x → lx l x (M.getD (k + 1) 0) → False := fun x hx h0 h1 h2 => by
    obtain ⟨i, hi, e⟩ := h.ahead hk hx h0 h2
    by_cases hik : i = k
    · rw [← e, hik] at h1; exact h1.irrefl
    · have := h.at (i := i) (j := k) (by omega) (by omega)
      rw [e] at this
      exact this.asymm h1
  generalize M.getD k 0 = a at *
  generalize M.getD (k + 1) 0 = b at *
  obtain ⟨m, hm⟩ : ∃ m : Nat, l.getD a 0 = ((m + 1 : Nat) : Int) := ⟨(l.getD a 0).toNat - 1, by omega⟩
  obtain ⟨q, hq⟩ : ∃ q : Nat, l.getD b 0 = ((q + 1 : Nat) : Int) := ⟨(l.getD b 0).toNat - 1, by omega⟩
  refine ⟨by unfold lx at hab; omega, ?_⟩
  rw [sgn_val hm, sgn_val hq, hm, hq]
  rcases hab with h1 | ⟨h1, h2⟩
  · have hmq : m < q := by omega
    have e1 : cnt l (q + 1) b = 0 := cnt_zero fun x hx e => no x (by omega) (by omega) (Or.inl (by omega)) (Or.inr ⟨by omega, hx⟩)
    have e2 : cnt l (m + 1) l.length = cnt l (m + 1) a + 1 := by
      have h3 : cnt l (m + 1) (a + 1) = cnt l (m + 1) a + 1 := by rw [cnt, if_pos hm]
      rw [← h3]
      exact cnt_none l (m + 1) l.length (a + 1) ha fun x h4 h5 e => no x h5 (by omega) (Or.inr ⟨by omega, by omega⟩) (Or.inl (by omega))
    have e3 : E l l.length q = E l l.length (m + 1) * 2 ^ (q - (m + 1)) := by
      have := E_skip l l.length (q - (m + 1)) (m + 1) fun j h4 h5 => cnt_zero fun x hx e => no x hx (by omega) (Or.inl (by omega)) (Or.inl (by omega))
      rw [show m + 1 + (q - (m + 1)) = q by omega] at this
      exact this
    have e4 : E l l.length (m + 1) = 2 * E l l.length m + cnt l (m + 1) a + 1 := by rw [E, e2]; omega
    rw [e1, e3, e4, show (((q + 1 : Nat) : Int) - ((m + 1 : Nat) : Int)).toNat = (q - (m + 1)) + 1 by omega]
    generalize 2 * E l l.length m + cnt l (m + 1) a = V
    rw [show (2 : Int) ^ (q - (m + 1) + 1) = ((2 ^ (q - (m + 1) + 1) : Nat) : Int) by simp]
    rw [show ((V : Nat) : Int) + 1 = ((V + 1 : Nat) : Int) by simp, ← Int.natCast_mul]
    congr 1
    rw [Nat.pow_succ, Nat.add_zero, Nat.mul_comm 2, Nat.mul_assoc]
  · obtain rfl : m = q := by omega
    have e1 : cnt l (m + 1) b = cnt l (m + 1) a + 1 := by
      have h3 : cnt l (m + 1) (a + 1) = cnt l (m + 1) a + 1 := by rw [cnt, if_pos hm]
      rw [← h3]
      exact cnt_none l (m + 1) b (a + 1) h2 fun x h4 h5 e => no x (by omega) (by omega) (Or.inr ⟨by omega, by omega⟩) (Or.inr ⟨by omega, by omega⟩)
    rw [e1, Int.sub_self]
    simp
    omega
theorem sgn_bd {l : List Int} {n x : Nat} (hok : okS l n) (ht : tk l n ≤ 16777216) (hx : x < n) : 0 ≤ sgn l n x ∧ sgn l n x < 16777216 := by
  by_cases ha : 0 < l.getD x 0
  · obtain ⟨a, hA⟩ : ∃ a : Nat, l.getD x 0 = ((a + 1 : Nat) : Int) := ⟨(l.getD x 0).toNat - 1, by omega⟩
    have hxo := hok x hx
    have ex : sgn l n x = ((2 * E l n a + cnt l (a + 1) x : Nat) : Int) := by unfold sgn; rw [if_pos ha, hA]; rfl
    have hE := E_le (l := l) (n := n) (m := a + 1) (by omega) ht
    have h1 : 2 * E l n a + cnt l (a + 1) x + 1 ≤ E l n (a + 1) := by
      rw [E]
      have := cnt_lt (l := l) (m := a + 1) hx hA
      omega
    have h2 : (2 : Nat) ^ (a + 1) ≤ 2 ^ 24 := Nat.pow_le_pow_right (by decide) (by omega)
    have h3 : (2 : Nat) ^ 24 = 16777216 := by decide
    rw [ex]
    generalize (2 : Nat) ^ (a + 1) = q at hE h2
    omega
  · have ex : sgn l n x = 0 := by unfold sgn; rw [if_neg ha]
    rw [ex]
    omega
end Go.Proofs.YtkldnapbeebdkaaDoor.hg
