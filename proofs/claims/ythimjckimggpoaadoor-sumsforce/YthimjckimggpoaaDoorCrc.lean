/- Registers that bits come into, one by one: linear, and gone back; and what fills one at once. No program. -/
import Derived.Test.YthimjckimggpoaaDoorBit
namespace Go.Proofs.YthimjckimggpoaaDoor.crc
open bit

/-- A step of a register of W bits, by polynomial P. -/
def step (W P r : Nat) : Nat := ((2 * r) ^^^ (if r.testBit (W - 1) then P else 0)) % 2 ^ W
/-- The step back. -/
def unstep (W P r : Nat) : Nat := ((r ^^^ (if r.testBit 0 then P else 0)) / 2) ||| (if r.testBit 0 then 2 ^ (W - 1) else 0)
theorem test_if (c : Bool) (x i : Nat) : (if c then x else 0).testBit i = (c && x.testBit i) := by cases c <;> simp
theorem test_double (r i : Nat) : (2 * r).testBit i = (decide (1 ≤ i) && r.testBit (i - 1)) := by
  cases i with
  | zero => simp
  | succ i => simp [Nat.testBit_succ]
theorem test_pow (n i : Nat) : (2 ^ n).testBit i = decide (i = n) := by
  rw [Nat.testBit_two_pow]; exact decide_eq_decide.2 ⟨fun h => h.symm, fun h => h.symm⟩
theorem test_ge (x n i : Nat) (h : x < 2 ^ n) (hi : n ≤ i) : x.testBit i = false :=
  Nat.testBit_lt_two_pow (Nat.lt_of_lt_of_le h (Nat.pow_le_pow_right (by decide) hi))
theorem lt_of_test (x n : Nat) (h : ∀ i, n ≤ i → x.testBit i = false) : x < 2 ^ n := Nat.lt_pow_two_of_testBit x h
theorem step_test (W P r i : Nat) : (step W P r).testBit i = (decide (i < W) && ((decide (1 ≤ i) && r.testBit (i - 1)) ^^ (r.testBit (W - 1) && P.testBit i))) := by
  rw [step, Nat.testBit_mod_two_pow, Nat.testBit_xor, test_double, test_if]
theorem unstep_test (W P r i : Nat) : (unstep W P r).testBit i = ((r.testBit (i + 1) ^^ (r.testBit 0 && P.testBit (i + 1))) || (r.testBit 0 && decide (i = W - 1))) := by
  rw [unstep, Nat.testBit_or, test_if, test_pow, ← Nat.testBit_succ, Nat.testBit_xor, test_if]
theorem step_lt (W P r : Nat) : step W P r < 2 ^ W := Nat.mod_lt _ (Nat.two_pow_pos W)
theorem unstep_lt (W P r : Nat) (hW : 0 < W) (hP : P < 2 ^ W) (hr : r < 2 ^ W) : unstep W P r < 2 ^ W := by
  apply lt_of_test
  intro i hi
  rw [unstep_test, test_ge r W (i + 1) hr (by omega), test_ge P W (i + 1) hP (by omega), decide_eq_false (by omega)]
  simp
theorem step_xor (W P a b : Nat) : step W P (a ^^^ b) = step W P a ^^^ step W P b := by
  apply Nat.eq_of_testBit_eq
  intro i
  rw [Nat.testBit_xor, step_test, step_test, step_test, Nat.testBit_xor, Nat.testBit_xor]
  cases decide (i < W) <;> cases decide (1 ≤ i) <;> cases a.testBit (i - 1) <;> cases b.testBit (i - 1) <;> cases a.testBit (W - 1) <;> cases b.testBit (W - 1) <;> cases P.testBit i <;> rfl
theorem step_unstep (W P r : Nat) (hW : 0 < W) (hP : P < 2 ^ W) (h1 : P % 2 = 1) (hr : r < 2 ^ W) : step W P (unstep W P r) = r := by
  apply Nat.eq_of_testBit_eq
  intro i
  have hP0 : P.testBit 0 = true := by simp [Nat.testBit_zero, h1]
  have hU : (unstep W P r).testBit (W - 1) = r.testBit 0 := by
    rw [unstep_test, test_ge r W _ hr (by omega), test_ge P W _ hP (by omega)]; simp
  rw [step_test, hU]
  by_cases hi : i < W
  · rcases Nat.eq_zero_or_pos i with h0 | h0
    · subst h0
      simp [hP0, hW]
    · rw [unstep_test, show i - 1 + 1 = i from by omega, decide_eq_false (show ¬ i - 1 = W - 1 by omega), decide_eq_true hi, decide_eq_true (show 1 ≤ i by omega)]
      cases r.testBit 0 <;> cases r.testBit i <;> cases P.testBit i <;> rfl
  · rw [test_ge r W i hr (by omega), decide_eq_false hi]; rfl
theorem unstep_step (W P r : Nat) (hW : 0 < W) (hP : P < 2 ^ W) (h1 : P % 2 = 1) (hr : r < 2 ^ W) : unstep W P (step W P r) = r := by
  apply Nat.eq_of_testBit_eq
  intro i
  have hP0 : P.testBit 0 = true := by simp [Nat.testBit_zero, h1]
  have hS : (step W P r).testBit 0 = r.testBit (W - 1) := by rw [step_test, hP0]; simp [hW]
  rw [unstep_test, hS, step_test]
  by_cases hi : i + 1 < W
  · rw [decide_eq_true hi, decide_eq_true (show 1 ≤ i + 1 by omega), decide_eq_false (show ¬ i = W - 1 by omega)]
    simp only [Nat.add_sub_cancel]
    cases r.testBit i <;> cases r.testBit (W - 1) <;> cases P.testBit (i + 1) <;> rfl
  · rw [decide_eq_false hi, test_ge P W (i + 1) hP (by omega)]
    by_cases e : i = W - 1
    · rw [decide_eq_true e, e]; simp
    · rw [decide_eq_false e, test_ge r W i hr (by omega)]; simp

/-- The register behind k bits. -/
def R (W P : Nat) (b : Nat → Bool) (r : Nat) : Nat → Nat
  | 0 => r
  | k + 1 => step W P (R W P b r k ^^^ (if b k then 2 ^ (W - 1) else 0))
/-- The register behind k bits that are 0. -/
def Z (W P r : Nat) : Nat → Nat
  | 0 => r
  | k + 1 => step W P (Z W P r k)
/-- The register ahead of k bits that are 0. -/
def U (W P r : Nat) : Nat → Nat
  | 0 => r
  | k + 1 => unstep W P (U W P r k)
theorem Z_lt (W P r k : Nat) (hr : r < 2 ^ W) : Z W P r k < 2 ^ W := by
  cases k with
  | zero => exact hr
  | succ k => exact step_lt _ _ _
theorem R_lt (W P : Nat) (b : Nat → Bool) (r k : Nat) (hr : r < 2 ^ W) : R W P b r k < 2 ^ W := by
  cases k with
  | zero => exact hr
  | succ k => exact step_lt _ _ _
theorem U_lt (W P r k : Nat) (hW : 0 < W) (hP : P < 2 ^ W) (hr : r < 2 ^ W) : U W P r k < 2 ^ W := by
  induction k with
  | zero => exact hr
  | succ k ih => exact unstep_lt W P _ hW hP ih
theorem Z_xor (W P a b k : Nat) : Z W P (a ^^^ b) k = Z W P a k ^^^ Z W P b k := by
  induction k with
  | zero => rfl
  | succ k ih => rw [Z, Z, Z, ih, step_xor]
theorem Z_front (W P r k : Nat) : Z W P r (k + 1) = Z W P (step W P r) k := by
  induction k with
  | zero => rfl
  | succ k ih => rw [Z, ih, Z]
theorem U_front (W P r k : Nat) : U W P r (k + 1) = U W P (unstep W P r) k := by
  induction k with
  | zero => rfl
  | succ k ih => rw [U, ih, U]
theorem Z_add (W P r j k : Nat) : Z W P r (j + k) = Z W P (Z W P r j) k := by
  induction k with
  | zero => rfl
  | succ k ih => rw [← Nat.add_assoc, Z, ih, Z]
theorem U_add (W P r j k : Nat) : U W P r (j + k) = U W P (U W P r j) k := by
  induction k with
  | zero => rfl
  | succ k ih => rw [← Nat.add_assoc, U, ih, U]
theorem Z_U (W P r k : Nat) (hW : 0 < W) (hP : P < 2 ^ W) (h1 : P % 2 = 1) (hr : r < 2 ^ W) : Z W P (U W P r k) k = r := by
  induction k generalizing r with
  | zero => rfl
  | succ k ih => rw [U_front, Z, ih _ (unstep_lt W P r hW hP hr), step_unstep W P r hW hP h1 hr]
theorem U_Z (W P r k : Nat) (hW : 0 < W) (hP : P < 2 ^ W) (h1 : P % 2 = 1) (hr : r < 2 ^ W) : U W P (Z W P r k) k = r := by
  induction k generalizing r with
  | zero => rfl
  | succ k ih => rw [Z_front, U, ih _ (step_lt _ _ _), unstep_step W P r hW hP h1 hr]
theorem Z_inj (W P a b k : Nat) (hW : 0 < W) (hP : P < 2 ^ W) (h1 : P % 2 = 1) (ha : a < 2 ^ W) (hb : b < 2 ^ W) (h : Z W P a k = Z W P b k) : a = b := by
  rw [← U_Z W P a k hW hP h1 ha, h, U_Z W P b k hW hP h1 hb]
theorem if_xor (a b : Bool) (x : Nat) : (if a ^^ b then x else 0) = (if a then x else 0) ^^^ (if b then x else 0) := by cases a <;> cases b <;> simp
theorem xor4 (a b c d : Nat) : a ^^^ b ^^^ (c ^^^ d) = a ^^^ c ^^^ (b ^^^ d) := by
  rw [Nat.xor_assoc, Nat.xor_assoc, ← Nat.xor_assoc b c d, Nat.xor_comm b c, Nat.xor_assoc c b d]
theorem R_xor (W P : Nat) (b c : Nat → Bool) (r s k : Nat) : R W P (fun i => b i ^^ c i) (r ^^^ s) k = R W P b r k ^^^ R W P c s k := by
  induction k with
  | zero => rfl
  | succ k ih => rw [R, R, R, ih, if_xor, xor4, step_xor]
theorem R_congr (W P : Nat) (b c : Nat → Bool) (r k : Nat) (h : ∀ i, i < k → b i = c i) : R W P b r k = R W P c r k := by
  induction k with
  | zero => rfl
  | succ k ih => rw [R, R, ih (fun i hi => h i (by omega)), h k (by omega)]
theorem R_zero (W P : Nat) (r k : Nat) : R W P (fun _ => false) r k = Z W P r k := by
  induction k with
  | zero => rfl
  | succ k ih => rw [R, Z, ih]; simp
theorem R_add (W P : Nat) (b : Nat → Bool) (r j k : Nat) : R W P b r (j + k) = R W P (fun i => b (j + i)) (R W P b r j) k := by
  induction k with
  | zero => rfl
  | succ k ih => rw [← Nat.add_assoc, R, R, ih]
theorem R_split (W P : Nat) (b : Nat → Bool) (r k : Nat) : R W P b r k = R W P b 0 k ^^^ Z W P r k := by
  have h := R_xor W P b (fun _ => false) 0 r k
  rw [R_zero] at h
  rw [← h, Nat.zero_xor]
  exact R_congr _ _ _ _ _ _ (fun i _ => by simp)
theorem xor_cancel (a x y : Nat) (h : a ^^^ x = a ^^^ y) : x = y := by
  have := congrArg (fun z => a ^^^ z) h
  simpa [← Nat.xor_assoc] using this
theorem R_inj (W P : Nat) (b : Nat → Bool) (r s k : Nat) (hW : 0 < W) (hP : P < 2 ^ W) (h1 : P % 2 = 1) (hr : r < 2 ^ W) (hs : s < 2 ^ W) (h : R W P b r k = R W P b s k) : r = s := by
  rw [R_split W P b r, R_split W P b s] at h
  exact Z_inj W P r s k hW hP h1 hr hs (xor_cancel _ _ _ h)
/-- What the first k bits are, from the greatest one of a register on. -/
def T (W : Nat) (b : Nat → Bool) : Nat → Nat
  | 0 => 0
  | k + 1 => T W b k ^^^ (if b k then 2 ^ (W - 1 - k) else 0)
theorem T_test (W : Nat) (b : Nat → Bool) (k i : Nat) (hk : k ≤ W) : (T W b k).testBit i = (decide (i < W ∧ W ≤ i + k) && b (W - 1 - i)) := by
  induction k with
  | zero => simp [T]; omega
  | succ k ih =>
    rw [T, Nat.testBit_xor, ih (by omega), test_if, test_pow]
    by_cases e : i = W - 1 - k
    · have : W - 1 - i = k := by omega
      rw [this, decide_eq_true e, decide_eq_false (show ¬ (i < W ∧ W ≤ i + k) by omega), decide_eq_true (show i < W ∧ W ≤ i + (k + 1) by omega)]
      simp
    · rw [decide_eq_false e, show decide (i < W ∧ W ≤ i + k) = decide (i < W ∧ W ≤ i + (k + 1)) from decide_eq_decide.2 (by omega)]
      simp
theorem step_pow (W P j : Nat) (h : j + 1 < W) : step W P (2 ^ j) = 2 ^ (j + 1) := by
  apply Nat.eq_of_testBit_eq
  intro i
  rw [step_test, test_pow, test_pow, test_pow, decide_eq_false (show ¬ W - 1 = j by omega)]
  by_cases e : i = j + 1
  · subst e; simp; omega
  · rw [decide_eq_false e]
    by_cases h0 : 1 ≤ i
    · rw [decide_eq_false (show ¬ i - 1 = j by omega)]; simp
    · rw [decide_eq_false h0]; simp
theorem step_zero (W P : Nat) : step W P 0 = 0 := by simp [step]
theorem Z_zero (W P k : Nat) : Z W P 0 k = 0 := by
  induction k with
  | zero => rfl
  | succ k ih => rw [Z, ih, step_zero]
theorem Z_pow (W P k : Nat) (h : k < W) : Z W P (2 ^ (W - 1 - k)) k = 2 ^ (W - 1) := by
  have g : ∀ j, j ≤ k → Z W P (2 ^ (W - 1 - k)) j = 2 ^ (W - 1 - k + j) := by
    intro j
    induction j with
    | zero => intro _; rfl
    | succ j ih => intro hj; rw [Z, ih (by omega), step_pow W P _ (by omega)]; rfl
  rw [g k (Nat.le_refl _), show W - 1 - k + k = W - 1 from by omega]
/-- Bits that come in one by one are as if they had been there at once. -/
theorem R_T (W P : Nat) (b : Nat → Bool) (r k : Nat) (hk : k ≤ W) : R W P b r k = Z W P (r ^^^ T W b k) k := by
  induction k with
  | zero => simp [R, Z, T]
  | succ k ih =>
    rw [R, ih (by omega), T, Z, ← Nat.xor_assoc, Z_xor W P (r ^^^ T W b k)]
    congr 2
    cases b k with
    | false => simp [Z_zero]
    | true => simp only [if_true]; rw [Z_pow W P k (by omega)]

/-- A number of W bits, the other way round. -/
def rev (W x : Nat) : Nat := nb (fun i => x.testBit (W - 1 - i)) W
theorem rev_test (W x i : Nat) : (rev W x).testBit i = (decide (i < W) && x.testBit (W - 1 - i)) := nb_test _ _ _
theorem rev_lt (W x : Nat) : rev W x < 2 ^ W := nb_lt _ _
theorem rev_rev (W x : Nat) (h : x < 2 ^ W) : rev W (rev W x) = x := by
  apply Nat.eq_of_testBit_eq
  intro i
  rw [rev_test, rev_test]
  by_cases hi : i < W
  · rw [decide_eq_true hi, decide_eq_true (show W - 1 - i < W by omega), show W - 1 - (W - 1 - i) = i from by omega]; simp
  · rw [decide_eq_false hi, test_ge x W i h (by omega)]; rfl
theorem rev_xor (W a b : Nat) : rev W (a ^^^ b) = rev W a ^^^ rev W b := by
  apply Nat.eq_of_testBit_eq
  intro i
  rw [Nat.testBit_xor, rev_test, rev_test, rev_test, Nat.testBit_xor]
  cases decide (i < W) <;> simp
/-- A number, turned round or not. -/
def trn (t : Bool) (W x : Nat) : Nat := if t then rev W x else x
theorem trn_lt (t : Bool) (W x : Nat) (h : x < 2 ^ W) : trn t W x < 2 ^ W := by cases t; exact h; exact rev_lt _ _
theorem trn_trn (t : Bool) (W x : Nat) (h : x < 2 ^ W) : trn t W (trn t W x) = x := by cases t; rfl; exact rev_rev W x h
theorem trn_xor (t : Bool) (W a b : Nat) : trn t W (a ^^^ b) = trn t W a ^^^ trn t W b := by cases t; rfl; exact rev_xor W a b
theorem trn_inj (t : Bool) (W a b : Nat) (ha : a < 2 ^ W) (hb : b < 2 ^ W) (h : trn t W a = trn t W b) : a = b := by
  rw [← trn_trn t W a ha, h, trn_trn t W b hb]
/-- The register behind a byte. -/
def fw (W P : Nat) (t : Bool) (r c : Nat) : Nat := Z W P (r ^^^ trn t 8 c * 2 ^ (W - 8)) 8
/-- The register ahead of a byte. -/
def bw (W P : Nat) (t : Bool) (r c : Nat) : Nat := U W P r 8 ^^^ trn t 8 c * 2 ^ (W - 8)
/-- The register behind the first k bytes of a text. -/
def fr (W P : Nat) (t : Bool) (s : ByteArray) (r : Nat) : Nat → Nat
  | 0 => r
  | k + 1 => fw W P t (fr W P t s r k) (byteN s k)
theorem trn8_test (t : Bool) (c j : Nat) (hj : j < 8) : (trn t 8 c).testBit (7 - j) = c.testBit (ib (!t) j) := by
  cases t
  · simp [trn, ib]; rw [Nat.mod_eq_of_lt hj]
  · simp only [trn, if_true, rev_test]
    rw [decide_eq_true (show 7 - j < 8 by omega), show 8 - 1 - (7 - j) = j from by omega]
    simp [ib]; rw [Nat.mod_eq_of_lt hj]
theorem trn8_lt (t : Bool) (c : Nat) (h : c < 256) : trn t 8 c < 256 := trn_lt t 8 c h
theorem T8 (W : Nat) (t : Bool) (s : ByteArray) (k : Nat) (hW : 8 ≤ W) : T W (fun i => tbit s (!t) (8 * k + i)) 8 = trn t 8 (byteN s k) * 2 ^ (W - 8) := by
  apply Nat.eq_of_testBit_eq
  intro i
  rw [T_test _ _ _ _ hW, Nat.mul_comm (trn t 8 (byteN s k)), Nat.testBit_two_pow_mul]
  have hc := trn8_lt t (byteN s k) (byteN_lt s k)
  by_cases hi : i < W ∧ W ≤ i + 8
  · rw [decide_eq_true hi, decide_eq_true (show i ≥ W - 8 by omega), show i - (W - 8) = 7 - (W - 1 - i) from by omega, trn8_test t _ _ (by omega)]
    unfold tbit
    rw [show (8 * k + (W - 1 - i)) / 8 = k from by omega]
    have e : ib (!t) (8 * k + (W - 1 - i)) = ib (!t) (W - 1 - i) := by unfold ib; rw [Nat.mul_add_mod]
    rw [e]
  · rw [decide_eq_false hi]
    by_cases h2 : i ≥ W - 8
    · rw [test_ge _ 8 (i - (W - 8)) hc (by omega)]; simp
    · rw [decide_eq_false h2]; rfl
theorem fr_R (W P : Nat) (t : Bool) (s : ByteArray) (r k : Nat) (hW : 8 ≤ W) : fr W P t s r k = R W P (fun i => tbit s (!t) i) r (8 * k) := by
  induction k with
  | zero => rfl
  | succ k ih =>
    rw [fr, ih, Nat.mul_succ, R_add, R_T W P _ _ 8 hW, T8 W t s k hW]
    rfl
theorem fw_lt (W P : Nat) (t : Bool) (r c : Nat) : fw W P t r c < 2 ^ W := step_lt _ _ _
theorem fr_lt (W P : Nat) (t : Bool) (s : ByteArray) (r k : Nat) (hr : r < 2 ^ W) : fr W P t s r k < 2 ^ W := by
  cases k with
  | zero => exact hr
  | succ k => exact fw_lt _ _ _ _ _
/-- A text's sum. -/
def sumV (W P : Nat) (t : Bool) (I O : Nat) (s : ByteArray) : Nat := trn t W (fr W P t s I s.size) ^^^ O
theorem sumV_lt (W P : Nat) (t : Bool) (I O : Nat) (s : ByteArray) (hI : I < 2 ^ W) (hO : O < 2 ^ W) : sumV W P t I O s < 2 ^ W :=
  Nat.xor_lt_two_pow (trn_lt t W _ (fr_lt W P t s I s.size hI)) hO
end Go.Proofs.YthimjckimggpoaaDoor.crc
