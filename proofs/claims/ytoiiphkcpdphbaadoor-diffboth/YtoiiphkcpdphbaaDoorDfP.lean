/- Two texts: what they have in common at most, how far they are apart, and MYERS's way (pure). -/
import Derived.Test.YtoiiphkcpdphbaaDoorMem
namespace Go.Proofs.YtoiiphkcpdphbaaDoor.df
set_option linter.unusedVariables false


/-- How many things two rows have in common at most, in their order. -/
def lcs : List UInt8 → List UInt8 → Nat
  | [], _ => 0
  | _ :: _, [] => 0
  | x :: xs, y :: ys => if x = y then lcs xs ys + 1 else max (lcs xs (y :: ys)) (lcs (x :: xs) ys)
termination_by a b => a.length + b.length

theorem lcs_nil (a : List UInt8) : lcs a [] = 0 := by cases a <;> simp [lcs]
theorem nil_lcs (a : List UInt8) : lcs [] a = 0 := by simp [lcs]
theorem lcs_cons (x y : UInt8) (xs ys : List UInt8) : lcs (x :: xs) (y :: ys) = if x = y then lcs xs ys + 1 else max (lcs xs (y :: ys)) (lcs (x :: xs) ys) := by rw [lcs]
/-- There is a row that both have, so long. -/
theorem lcs_has (a b : List UInt8) : ∃ l, List.Sublist l a ∧ List.Sublist l b ∧ l.length = lcs a b := by
  fun_induction lcs a b with
  | case1 b => exact ⟨[], List.Sublist.slnil, List.nil_sublist _, rfl⟩
  | case2 x xs => exact ⟨[], List.nil_sublist _, List.Sublist.slnil, rfl⟩
  | case3 xs x ys ih =>
    obtain ⟨l, h1, h2, h3⟩ := ih
    exact ⟨x :: l, h1.cons_cons x, h2.cons_cons x, by simp [h3]⟩
  | case4 x xs y ys hne ih1 ih2 =>
    obtain ⟨l, h1, h2, h3⟩ := ih1
    obtain ⟨l', h1', h2', h3'⟩ := ih2
    rcases Nat.le_total (lcs xs (y :: ys)) (lcs (x :: xs) ys) with h | h
    · exact ⟨l', h1', h2'.cons y, by rw [h3', Nat.max_eq_right h]⟩
    · exact ⟨l, h1.cons x, h2, by rw [h3, Nat.max_eq_left h]⟩
/-- And no longer one. -/
theorem lcs_most (a b l : List UInt8) (h1 : List.Sublist l a) (h2 : List.Sublist l b) : l.length ≤ lcs a b := by
  fun_induction lcs a b generalizing l with
  | case1 b => simp [List.sublist_nil.mp h1]
  | case2 x xs => simp [List.sublist_nil.mp h2]
  | case3 xs x ys ih =>
    cases l with
    | nil => simp
    | cons z zs =>
      have e1 : List.Sublist zs xs := by
        cases h1 with
        | cons _ h => exact (List.sublist_cons_self z zs).trans h
        | cons_cons _ h => exact h
      have e2 : List.Sublist zs ys := by
        cases h2 with
        | cons _ h => exact (List.sublist_cons_self z zs).trans h
        | cons_cons _ h => exact h
      have := ih zs e1 e2
      simp only [List.length_cons]
      omega
  | case4 x xs y ys hne ih1 ih2 =>
    cases h1 with
    | cons _ h => have := ih1 l h h2; omega
    | cons_cons _ h =>
      cases h2 with
      | cons _ h' => have := ih2 _ (h.cons_cons x) h'; omega
      | cons_cons _ h' => exact absurd rfl hne
theorem lcs_comm (a b : List UInt8) : lcs a b = lcs b a := by
  obtain ⟨l, h1, h2, h3⟩ := lcs_has a b
  obtain ⟨k, g1, g2, g3⟩ := lcs_has b a
  have := lcs_most b a l h2 h1
  have := lcs_most a b k g2 g1
  omega
theorem lcs_rev (a b : List UInt8) : lcs a.reverse b.reverse = lcs a b := by
  obtain ⟨l, h1, h2, h3⟩ := lcs_has a b
  obtain ⟨k, g1, g2, g3⟩ := lcs_has a.reverse b.reverse
  have := lcs_most _ _ l.reverse h1.reverse h2.reverse
  have q := lcs_most _ _ k.reverse g1.reverse g2.reverse
  simp only [List.reverse_reverse, List.length_reverse] at *
  omega
theorem lcs_le_left (a b : List UInt8) : lcs a b ≤ a.length := by
  obtain ⟨l, h1, h2, h3⟩ := lcs_has a b
  rw [← h3]; exact h1.length_le
theorem lcs_le_right (a b : List UInt8) : lcs a b ≤ b.length := by
  obtain ⟨l, h1, h2, h3⟩ := lcs_has a b
  rw [← h3]; exact h2.length_le
theorem lcs_up (x : UInt8) (a b : List UInt8) : lcs a b ≤ lcs (x :: a) b := by
  obtain ⟨l, h1, h2, h3⟩ := lcs_has a b
  rw [← h3]; exact lcs_most _ _ l (h1.cons x) h2
theorem lcs_up' (y : UInt8) (a b : List UInt8) : lcs a b ≤ lcs a (y :: b) := by
  rw [lcs_comm a b, lcs_comm a (y :: b)]; exact lcs_up y b a
theorem lcs_down (x : UInt8) (a b : List UInt8) : lcs (x :: a) b ≤ lcs a b + 1 := by
  obtain ⟨l, h1, h2, h3⟩ := lcs_has (x :: a) b
  rw [← h3]
  cases h1 with
  | cons _ h => have := lcs_most _ _ l h h2; omega
  | @cons_cons l' _ _ h =>
    have := lcs_most _ _ l' h ((List.sublist_cons_self x l').trans h2)
    simp only [List.length_cons]; omega
theorem lcs_down' (y : UInt8) (a b : List UInt8) : lcs a (y :: b) ≤ lcs a b + 1 := by
  rw [lcs_comm a b, lcs_comm a (y :: b)]; exact lcs_down y b a
theorem lcs_self (a : List UInt8) : lcs a a = a.length := by
  have := lcs_most a a a (List.Sublist.refl a) (List.Sublist.refl a)
  have := lcs_le_left a a
  omega
theorem lcs_eq (a b : List UInt8) (h1 : lcs a b = a.length) (h2 : lcs a b = b.length) : a = b := by
  obtain ⟨l, g1, g2, g3⟩ := lcs_has a b
  rw [← g1.eq_of_length (by omega), ← g2.eq_of_length (by omega)]
/-- Of two rows within one there is one within both, as long as it must be. -/
theorem meet : ∀ (b l k : List UInt8), List.Sublist l b → List.Sublist k b → ∃ r, List.Sublist r l ∧ List.Sublist r k ∧ l.length + k.length ≤ b.length + r.length := by
  intro b
  induction b with
  | nil => intro l k h1 h2; exact ⟨[], List.nil_sublist _, List.nil_sublist _, by simp [List.sublist_nil.mp h1, List.sublist_nil.mp h2]⟩
  | cons x b ih =>
    intro l k h1 h2
    cases h1 with
    | cons _ h =>
      cases h2 with
      | cons _ h' => obtain ⟨r, a1, a2, a3⟩ := ih l k h h'; exact ⟨r, a1, a2, by simp only [List.length_cons]; omega⟩
      | @cons_cons k' _ _ h' => obtain ⟨r, a1, a2, a3⟩ := ih l k' h h'; exact ⟨r, a1, a2.cons x, by simp only [List.length_cons]; omega⟩
    | @cons_cons l' _ _ h =>
      cases h2 with
      | cons _ h' => obtain ⟨r, a1, a2, a3⟩ := ih l' k h h'; exact ⟨r, a1.cons x, a2, by simp only [List.length_cons]; omega⟩
      | @cons_cons k' _ _ h' => obtain ⟨r, a1, a2, a3⟩ := ih l' k' h h'; exact ⟨x :: r, a1.cons_cons x, a2.cons_cons x, by simp only [List.length_cons]; omega⟩
theorem lcs_tri (a b c : List UInt8) : lcs a b + lcs b c ≤ b.length + lcs a c := by
  obtain ⟨l, h1, h2, h3⟩ := lcs_has a b
  obtain ⟨k, g1, g2, g3⟩ := lcs_has b c
  obtain ⟨r, a1, a2, a3⟩ := meet b l k h2 g1
  have := lcs_most a c r (a1.trans h1) (a2.trans g2)
  omega

/-- How far one text is from another one. -/
def far (a b : List UInt8) : Nat := a.length + b.length - 2 * lcs a b
theorem far_eq (a b : List UInt8) : (far a b : Int) = a.length + b.length - 2 * lcs a b := by
  have := lcs_le_left a b
  have := lcs_le_right a b
  unfold far; omega
theorem far_comm (a b : List UInt8) : far a b = far b a := by unfold far; rw [lcs_comm a b]; omega
theorem far_zero (a b : List UInt8) : far a b = 0 ↔ a = b := by
  have h1 := lcs_le_left a b
  have h2 := lcs_le_right a b
  constructor
  · intro h; unfold far at h; exact lcs_eq a b (by omega) (by omega)
  · intro h; subst h; unfold far; rw [lcs_self]; omega
theorem far_tri (a b c : List UInt8) : far a c ≤ far a b + far b c := by
  have := lcs_tri a b c
  have h1 := far_eq a b
  have h2 := far_eq b c
  have h3 := far_eq a c
  omega

/-- How far the first bytes of one are from the first bytes of the other one. -/
def C (x y : List UInt8) (i j : Nat) : Nat := lcs (x.take i).reverse (y.take j).reverse
def D (x y : List UInt8) (i j : Nat) : Int := i + j - 2 * (C x y i j : Int)
theorem C_le_left (x y : List UInt8) (i j : Nat) : C x y i j ≤ i := by
  unfold C; have := lcs_le_left (x.take i).reverse (y.take j).reverse; simp at this; omega
theorem C_le_right (x y : List UInt8) (i j : Nat) : C x y i j ≤ j := by
  unfold C; have := lcs_le_right (x.take i).reverse (y.take j).reverse; simp at this; omega
theorem take_rev (x : List UInt8) (i : Nat) (h : i < x.length) : (x.take (i + 1)).reverse = x[i] :: (x.take i).reverse := by
  rw [List.take_add_one, List.getElem?_eq_getElem h]; simp
theorem take_over (x : List UInt8) (i : Nat) (h : x.length ≤ i) : (x.take (i + 1)).reverse = (x.take i).reverse := by
  rw [List.take_of_length_le h, List.take_of_length_le (by omega)]
theorem C_left (x y : List UInt8) (i j : Nat) : C x y i j ≤ C x y (i + 1) j := by
  unfold C
  rcases Nat.lt_or_ge i x.length with h | h
  · rw [take_rev x i h]; exact lcs_up _ _ _
  · rw [take_over x i h]; exact Nat.le_refl _
theorem C_right (x y : List UInt8) (i j : Nat) : C x y i j ≤ C x y i (j + 1) := by
  unfold C
  rcases Nat.lt_or_ge j y.length with h | h
  · rw [take_rev y j h]; exact lcs_up' _ _ _
  · rw [take_over y j h]; exact Nat.le_refl _
theorem D_left (x y : List UInt8) (i j : Nat) : D x y (i + 1) j ≤ D x y i j + 1 := by
  have := C_left x y i j; unfold D; omega
theorem D_right (x y : List UInt8) (i j : Nat) : D x y i (j + 1) ≤ D x y i j + 1 := by
  have := C_right x y i j; unfold D; omega
/-- The next bytes of both are the same. -/
def Eqb (x y : List UInt8) (i j : Nat) : Prop := ∃ (h1 : i < x.length) (h2 : j < y.length), x[i] = y[j]
theorem D_match (x y : List UInt8) (i j : Nat) (h : Eqb x y i j) : D x y (i + 1) (j + 1) = D x y i j := by
  obtain ⟨h1, h2, h3⟩ := h
  have e : C x y (i + 1) (j + 1) = C x y i j + 1 := by
    unfold C; rw [take_rev x i h1, take_rev y j h2, lcs_cons, if_pos h3]
  unfold D; omega
theorem D_mis (x y : List UInt8) (i j : Nat) (h : ¬ Eqb x y i j) : D x y (i + 1) (j + 1) = D x y i (j + 1) + 1 ∨ D x y (i + 1) (j + 1) = D x y (i + 1) j + 1 := by
  rcases Nat.lt_or_ge i x.length with h1 | h1
  · rcases Nat.lt_or_ge j y.length with h2 | h2
    · have hne : x[i] ≠ y[j] := fun e => h ⟨h1, h2, e⟩
      have e : C x y (i + 1) (j + 1) = max (C x y i (j + 1)) (C x y (i + 1) j) := by
        unfold C; rw [take_rev x i h1, take_rev y j h2, lcs_cons, if_neg hne]
      unfold D; omega
    · right
      have e : C x y (i + 1) (j + 1) = C x y (i + 1) j := by unfold C; rw [take_over y j h2]
      unfold D; omega
  · left
    have e : C x y (i + 1) (j + 1) = C x y i (j + 1) := by unfold C; rw [take_over x i h1]
    unfold D; omega
theorem D_ge (x y : List UInt8) (i j : Nat) : (i : Int) - j ≤ D x y i j ∧ (j : Int) - i ≤ D x y i j := by
  have := C_le_left x y i j
  have := C_le_right x y i j
  unfold D; omega
theorem D_zero_r (x y : List UInt8) (i : Nat) : D x y i 0 = i := by
  have := C_le_right x y i 0; unfold D; omega
theorem D_over (x y : List UInt8) (i j : Nat) (h1 : x.length ≤ i) (h2 : y.length ≤ j) : D x y i j = (far x y : Int) + (i - x.length) + (j - y.length) := by
  have e : C x y i j = lcs x y := by unfold C; rw [List.take_of_length_le h1, List.take_of_length_le h2, lcs_rev]
  rw [far_eq]; unfold D; omega

/-- So far on its diagonal. -/
def Good (x y : List UInt8) (s k v : Int) : Prop :=
  0 ≤ v ∧ 0 ≤ v - k ∧ D x y v.toNat (v - k).toNat ≤ s ∧ ∀ i j : Nat, (i : Int) - j = k → D x y i j ≤ s → (i : Int) ≤ v
/-- Diagonals of a round. -/
def Inr (n m s k : Int) : Prop := ∃ c : Int, s + k = 2 * c ∧ 0 ≤ c ∧ c ≤ n ∧ 0 ≤ s - c ∧ s - c ≤ m
theorem good_step (x y : List UInt8) (s k p q v : Int) (sm : Nat) (hr : Inr x.length y.length s k)
    (hp : (s = -k ∧ p = -1) ∨ Good x y (s - 1) (k - 1) p) (hq : (s = k ∧ q = -1) ∨ Good x y (s - 1) (k + 1) q)
    (hv : v = max (p + 1) q) (hm : ∀ t, t < sm → Eqb x y (v.toNat + t) ((v - k).toNat + t)) (he : ¬ Eqb x y (v.toNat + sm) ((v - k).toNat + sm)) :
    Good x y s k (v + sm) := by
  obtain ⟨c, hc1, hc2, hc3, hc4, hc5⟩ := hr
  have b1 : 0 ≤ v ∧ 0 ≤ v - k ∧ D x y v.toNat (v - k).toNat ≤ s := by
    rcases hp with ⟨hp1, hp2⟩ | ⟨p1, p2, p3, p4⟩
    · rcases hq with ⟨hq1, hq2⟩ | ⟨q1, q2, q3, q4⟩
      · have e1 : v = 0 := by omega
        have e2 : k = 0 := by omega
        subst e1; subst e2
        refine ⟨by omega, by omega, ?_⟩
        show D x y 0 0 ≤ s
        rw [D_zero_r]; omega
      · have e1 : v = q := by omega
        subst e1
        refine ⟨by omega, by omega, ?_⟩
        have := D_right x y v.toNat (v - (k + 1)).toNat
        rw [show (v - k).toNat = (v - (k + 1)).toNat + 1 by omega]; omega
    · rcases hq with ⟨hq1, hq2⟩ | ⟨q1, q2, q3, q4⟩
      · have e1 : v = p + 1 := by omega
        subst e1
        refine ⟨by omega, by omega, ?_⟩
        have := D_left x y p.toNat (p - (k - 1)).toNat
        rw [show (p + 1 - k).toNat = (p - (k - 1)).toNat by omega, show (p + 1).toNat = p.toNat + 1 by omega]; omega
      · rcases Int.lt_or_le (p + 1) q with h | h
        · have e1 : v = q := by omega
          subst e1
          refine ⟨by omega, by omega, ?_⟩
          have := D_right x y v.toNat (v - (k + 1)).toNat
          rw [show (v - k).toNat = (v - (k + 1)).toNat + 1 by omega]; omega
        · have e1 : v = p + 1 := by omega
          subst e1
          refine ⟨by omega, by omega, ?_⟩
          have := D_left x y p.toNat (p - (k - 1)).toNat
          rw [show (p + 1 - k).toNat = (p - (k - 1)).toNat by omega, show (p + 1).toNat = p.toNat + 1 by omega]; omega
  obtain ⟨b1, b2, b3⟩ := b1
  have run : ∀ t, t ≤ sm → D x y (v.toNat + t) ((v - k).toNat + t) ≤ s := by
    intro t
    induction t with
    | zero => intro _; exact b3
    | succ t ih => intro ht; have := D_match x y _ _ (hm t (by omega)); have := ih (by omega); rw [← Nat.add_assoc, ← Nat.add_assoc]; omega
  refine ⟨by omega, by omega, ?_, ?_⟩
  · have := run sm (Nat.le_refl _)
    rw [show (v + (sm : Int)).toNat = v.toNat + sm by omega, show (v + (sm : Int) - k).toNat = (v - k).toNat + sm by omega]; exact this
  · intro i
    induction i with
    | zero => intro j _ _; omega
    | succ i ih =>
      intro j hij hd
      have left : ∀ j : Nat, ((i + 1 : Nat) : Int) - j = k → D x y i j ≤ s - 1 → ((i + 1 : Nat) : Int) ≤ v + sm := by
        intro j hij hd
        rcases hp with ⟨hp1, hp2⟩ | ⟨p1, p2, p3, p4⟩
        · have := (D_ge x y i j).2; omega
        · have := p4 i j (by omega) hd; omega
      cases j with
      | zero =>
        refine left 0 hij ?_
        rw [D_zero_r] at hd ⊢; omega
      | succ j =>
        by_cases he' : Eqb x y i j
        · have := ih j (by omega) (by rw [← D_match x y i j he']; exact hd)
          rcases Int.lt_or_le i (v + sm) with h | h
          · omega
          · exfalso
            have e1 : i = v.toNat + sm := by omega
            have e2 : j = (v - k).toNat + sm := by omega
            subst e1; subst e2; exact he he'
        · rcases D_mis x y i j he' with h | h
          · exact left (j + 1) hij (by omega)
          · rcases hq with ⟨hq1, hq2⟩ | ⟨q1, q2, q3, q4⟩
            · have := (D_ge x y (i + 1) j).1; omega
            · have := q4 (i + 1) j (by omega) (by omega); omega
/-- Who comes to the end has come so far as must be. -/
theorem good_end (x y : List UInt8) (s k v : Int) (h : Good x y s k v) (h1 : (x.length : Int) ≤ v) (h2 : (y.length : Int) ≤ v - k) : (far x y : Int) ≤ s := by
  obtain ⟨g1, g2, g3, g4⟩ := h
  have := D_over x y v.toNat (v - k).toNat (by omega) (by omega)
  omega
theorem far_le (x y : List UInt8) : far x y ≤ x.length + y.length := by unfold far; omega
theorem far_inr (x y : List UInt8) : Inr x.length y.length (far x y) (x.length - y.length) := by
  have := far_eq x y
  have h1 := lcs_le_left x y
  have h2 := lcs_le_right x y
  exact ⟨x.length - lcs x y, by omega, by omega, by omega, by omega, by omega⟩
/-- And whoever goes so far is at the end. -/
theorem good_far (x y : List UInt8) (v : Int) (h : Good x y (far x y) (x.length - y.length) v) : (x.length : Int) ≤ v := by
  obtain ⟨g1, g2, g3, g4⟩ := h
  have := D_over x y x.length y.length (Nat.le_refl _) (Nat.le_refl _)
  exact g4 x.length y.length rfl (by omega)
end Go.Proofs.YtoiiphkcpdphbaaDoor.df
