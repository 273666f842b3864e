/- Patterns of half bytes: which bytes fit, and all places tried at once, by bits. -/
import Derived.Test.YtnhdaolieifhnaaFdP
namespace Go.Proofs.Ytnhdaolieifhnaa.fd
set_option linter.unusedVariables false

/-- A half of a pattern is any, or just this one. -/
def hf (h c : Int) : Bool := decide (h < 0) || decide (h = c)
/-- A byte fits a pattern's j-th one. -/
def Fi (m : Nat → Int) (j : Nat) (c : Int) : Bool := hf (m (2 * j)) (c / 16) && hf (m (2 * j + 1)) (c % 16)
/-- At which bytes of the first n a byte may stand, a bit each. -/
def FV (m : Nat → Int) (c : Int) : Nat → Nat
  | 0 => 0
  | n + 1 => if Fi m n c then FV m c n ||| 2 ^ n else FV m c n
theorem FV_bit (m : Nat → Int) (c : Int) (n k : Nat) : (FV m c n).testBit k = (decide (k < n) && Fi m k c) := by
  induction n with
  | zero => simp [FV]
  | succ n ih =>
    rw [FV]
    split
    · rename_i h
      rw [Nat.testBit_or, ih, Nat.testBit_two_pow]
      rcases Nat.lt_trichotomy k n with h1 | h1 | h1
      · simp [h1, show k < n + 1 by omega, show ¬ n = k by omega]
      · subst h1; simp [h]
      · simp [show ¬ k < n by omega, show ¬ k < n + 1 by omega, show ¬ n = k by omega]
    · rename_i h
      rw [ih]
      rcases Nat.lt_trichotomy k n with h1 | h1 | h1
      · simp [h1, show k < n + 1 by omega]
      · subst h1; simp [h]
      · simp [show ¬ k < n by omega, show ¬ k < n + 1 by omega]
theorem FV_lt (m : Nat → Int) (c : Int) (n : Nat) (hn : n ≤ 64) : FV m c n < 18446744073709551616 := by
  refine Nat.lt_pow_two_of_testBit (n := 64) _ fun i hi => ?_
  rw [FV_bit]
  simp [show ¬ i < n by omega]
/-- Which beginnings of a pattern end behind the first i. -/
def bg (m f : Nat → Int) (n : Nat) : Nat → Nat
  | 0 => 0
  | i + 1 => (bg m f n i * 2 % 18446744073709551616 ||| 1) &&& FV m (f i) n
theorem bg_lt (m f : Nat → Int) (n i : Nat) (hn : n ≤ 64) : bg m f n i < 18446744073709551616 := by
  cases i with
  | zero => show 0 < _; decide
  | succ i => exact Nat.lt_of_le_of_lt Nat.and_le_right (FV_lt m (f i) n hn)
theorem two_bit (x k : Nat) (hk : k < 64) : (x * 2 % 18446744073709551616 ||| 1).testBit k = (decide (k = 0) || x.testBit (k - 1)) := by
  rw [Nat.testBit_or, show (18446744073709551616 : Nat) = 2 ^ 64 by rfl, Nat.testBit_mod_two_pow]
  cases k with
  | zero => simp
  | succ k =>
    rw [Nat.testBit_succ (x := x * 2), Nat.mul_div_cancel x (by decide)]
    simp [hk, Nat.testBit_succ]
theorem bg_bit (m f : Nat → Int) (n : Nat) (hn : n ≤ 64) (i k : Nat) (hk : k < n) : (bg m f n i).testBit k = decide (k + 1 ≤ i ∧ ∀ j, j < k + 1 → Fi m j (f (i - (k + 1) + j)) = true) := by
  induction i generalizing k with
  | zero => simp [bg]
  | succ i ih =>
    rw [bg, Nat.testBit_and, two_bit _ _ (by omega), FV_bit]
    simp only [hk, decide_true, Bool.true_and]
    cases k with
    | zero =>
      simp only [decide_true, Bool.true_or, Bool.true_and]
      rw [Bool.eq_iff_iff, decide_eq_true_iff]
      constructor
      · intro h
        refine ⟨by omega, fun j hj => ?_⟩
        obtain rfl : j = 0 := by omega
        rw [show i + 1 - (0 + 1) + 0 = i by omega]; exact h
      · intro h
        have := h.2 0 (by omega)
        rwa [show i + 1 - (0 + 1) + 0 = i by omega] at this
    | succ k =>
      rw [Nat.add_sub_cancel, ih k (by omega)]
      rw [Bool.eq_iff_iff, decide_eq_true_iff]
      simp only [Nat.add_eq_zero_iff, Nat.succ_ne_self, and_false, decide_false, Bool.false_or, Bool.and_eq_true, decide_eq_true_eq]
      constructor
      · rintro ⟨⟨h1, h2⟩, h3⟩
        refine ⟨by omega, fun j hj => ?_⟩
        rcases Nat.lt_or_ge j (k + 1) with h | h
        · rw [show i + 1 - (k + 1 + 1) + j = i - (k + 1) + j by omega]; exact h2 j h
        · obtain rfl : j = k + 1 := by omega
          rw [show i + 1 - (k + 1 + 1) + (k + 1) = i by omega]; exact h3
      · rintro ⟨h1, h2⟩
        refine ⟨⟨by omega, fun j hj => ?_⟩, ?_⟩
        · have := h2 j (by omega)
          rwa [show i + 1 - (k + 1 + 1) + j = i - (k + 1) + j by omega] at this
        · have := h2 (k + 1) (by omega)
          rwa [show i + 1 - (k + 1 + 1) + (k + 1) = i by omega] at this
/-- A pattern of n bytes' halves stands at x. -/
def SM (m f : Nat → Int) (n x : Nat) : Bool := decide (∀ j, j < n → Fi m j (f (x + j)) = true)
/-- Where it stands in the first N. -/
def lks (m f : Nat → Int) (n N : Nat) : List Nat := sta (SM m f n) (N + 1 - n)
theorem lks_zero (m f : Nat → Int) (n : Nat) (hn : 0 < n) : lks m f n 0 = [] := by
  unfold lks
  rw [show 0 + 1 - n = 0 by omega]
  rfl
theorem lks_len (m f : Nat → Int) (n N : Nat) (hn : 0 < n) : (lks m f n N).length ≤ N := by
  have := sta_len (SM m f n) (N + 1 - n)
  unfold lks
  omega
theorem last_bit (x k : Nat) : (x &&& 2 ^ k ≠ 0) ↔ x.testBit k = true := by
  constructor
  · intro h
    cases hb : x.testBit k with
    | true => rfl
    | false =>
      refine absurd (Nat.eq_of_testBit_eq fun i => ?_) h
      rw [Nat.testBit_and, Nat.testBit_two_pow, Nat.zero_testBit]
      by_cases e : k = i
      · subst e; rw [hb]; rfl
      · simp [e]
  · intro h e
    have : (x &&& 2 ^ k).testBit k = true := by rw [Nat.testBit_and, Nat.testBit_two_pow, h]; simp
    rw [e, Nat.zero_testBit] at this
    cases this
theorem lks_yes (m f : Nat → Int) (n i : Nat) (hn : 0 < n) (hn' : n ≤ 64) (h : bg m f n (i + 1) &&& 2 ^ (n - 1) ≠ 0) : n ≤ i + 1 ∧ lks m f n (i + 1) = lks m f n i ++ [i + 1 - n] := by
  rw [last_bit, bg_bit m f n hn' (i + 1) (n - 1) (by omega), decide_eq_true_iff, show n - 1 + 1 = n by omega] at h
  refine ⟨h.1, ?_⟩
  unfold lks
  have := h.1
  rw [show i + 1 + 1 - n = (i + 1 - n) + 1 by omega]
  exact sta_yes _ _ (decide_eq_true h.2)
theorem lks_no (m f : Nat → Int) (n i : Nat) (hn : 0 < n) (hn' : n ≤ 64) (h : bg m f n (i + 1) &&& 2 ^ (n - 1) = 0) : lks m f n (i + 1) = lks m f n i := by
  have h' : ¬ (bg m f n (i + 1)).testBit (n - 1) = true := fun e => (last_bit _ _).2 e h
  rw [bg_bit m f n hn' (i + 1) (n - 1) (by omega), decide_eq_true_iff, show n - 1 + 1 = n by omega] at h'
  unfold lks
  rcases Nat.lt_or_ge (i + 1) n with h1 | h1
  · rw [show i + 1 + 1 - n = 0 by omega, show i + 1 - n = 0 by omega]
  · rw [show i + 1 + 1 - n = (i + 1 - n) + 1 by omega]
    exact sta_no _ _ (decide_eq_false fun e => h' ⟨h1, e⟩)
/-- With nothing open a pattern stands where its bytes do. -/
theorem SM_plain (m p f : Nat → Int) (n x : Nat) (h0 : ∀ j, j < n → m (2 * j) = p j / 16) (h1 : ∀ j, j < n → m (2 * j + 1) = p j % 16) (hp : ∀ j, 0 ≤ p j) (hf' : ∀ j, 0 ≤ f j) : SM m f n x = St p f n x := by
  unfold SM St
  refine decide_eq_decide.2 ⟨fun h j hj => ?_, fun h j hj => ?_⟩
  · have := h j hj
    unfold Fi hf at this
    rw [h0 j hj, h1 j hj] at this
    simp only [Bool.and_eq_true, Bool.or_eq_true, decide_eq_true_eq] at this
    have := hp j
    have := hf' (x + j)
    omega
  · unfold Fi hf
    rw [h0 j hj, h1 j hj, h j hj]
    simp
theorem SM_more (m m' f : Nat → Int) (n x : Nat) (h : ∀ k, m' k = m k ∨ m' k < 0) (hx : SM m f n x = true) : SM m' f n x = true := by
  unfold SM at hx ⊢
  rw [decide_eq_true_iff] at hx ⊢
  intro j hj
  have := hx j hj
  unfold Fi hf at this ⊢
  simp only [Bool.and_eq_true, Bool.or_eq_true, decide_eq_true_eq] at this ⊢
  rcases h (2 * j) with e | e <;> rcases h (2 * j + 1) with e' | e'
  · rw [e, e']; exact this
  · rw [e]; exact ⟨this.1, Or.inl e'⟩
  · rw [e']; exact ⟨Or.inl e, this.2⟩
  · exact ⟨Or.inl e, Or.inl e'⟩
end Go.Proofs.Ytnhdaolieifhnaa.fd
