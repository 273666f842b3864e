/- A long division of bits: what is left behind each step is the register. No program. -/
import Derived.Test.YthimjckimggpoaaDoorCrc
namespace Go.Proofs.YthimjckimggpoaaDoor.crc
open bit

/-- A text's bits, and noughts behind them. -/
def L0 (s : ByteArray) (t : Bool) (k : Nat) : Bool := decide (k < 8 * s.size) && tbit s (!t) k
/-- What is left behind i steps, from bit i on. -/
def LD (W P I : Nat) (s : ByteArray) (t : Bool) (i j : Nat) : Bool :=
  L0 s t j ^^ (decide (i ≤ j ∧ j < i + W) && (R W P (fun k => tbit s (!t) k) I i).testBit (W - 1 - (j - i)))
theorem LD_step (W P I : Nat) (s : ByteArray) (t : Bool) (i j : Nat) (hW : 0 < W) (hi : i < 8 * s.size) (hj : i + 1 ≤ j) :
    LD W P I s t (i + 1) j = (LD W P I s t i j ^^ (decide (i + 1 ≤ j ∧ j < i + 1 + W) && (LD W P I s t i i && P.testBit (W - 1 - (j - (i + 1)))))) := by
  obtain ⟨r, hr⟩ : ∃ r, r = R W P (fun k => tbit s (!t) k) I i := ⟨_, rfl⟩
  have h0 : LD W P I s t i i = (tbit s (!t) i ^^ r.testBit (W - 1)) := by
    unfold LD L0
    rw [← hr, decide_eq_true hi, decide_eq_true (show i ≤ i ∧ i < i + W by omega), Nat.sub_self, Nat.sub_zero]
    simp
  rw [h0]
  unfold LD
  rw [R, ← hr]
  by_cases hin : j < i + 1 + W
  · rw [decide_eq_true (show i + 1 ≤ j ∧ j < i + 1 + W by omega), step_test, Nat.testBit_xor, Nat.testBit_xor, test_if, test_if, test_pow, test_pow, decide_eq_true rfl]
    rw [decide_eq_true (show W - 1 - (j - (i + 1)) < W by omega)]
    by_cases hl : j < i + W
    · rw [decide_eq_true (show i ≤ j ∧ j < i + W by omega), decide_eq_true (show 1 ≤ W - 1 - (j - (i + 1)) by omega), decide_eq_false (show ¬ W - 1 - (j - (i + 1)) - 1 = W - 1 by omega), show W - 1 - (j - (i + 1)) - 1 = W - 1 - (j - i) from by omega]
      cases L0 s t j <;> cases r.testBit (W - 1 - (j - i)) <;> cases tbit s (!t) i <;> cases r.testBit (W - 1) <;> cases P.testBit (W - 1 - (j - (i + 1))) <;> rfl
    · rw [decide_eq_false (show ¬ (i ≤ j ∧ j < i + W) by omega), decide_eq_false (show ¬ 1 ≤ W - 1 - (j - (i + 1)) by omega)]
      cases L0 s t j <;> cases tbit s (!t) i <;> cases r.testBit (W - 1) <;> cases P.testBit (W - 1 - (j - (i + 1))) <;> rfl
  · rw [decide_eq_false (show ¬ (i + 1 ≤ j ∧ j < i + 1 + W) by omega), decide_eq_false (show ¬ (i ≤ j ∧ j < i + W) by omega)]
    simp
theorem LD_end (W P I : Nat) (s : ByteArray) (t : Bool) (k : Nat) (hk : k < W) : LD W P I s t (8 * s.size) (8 * s.size + k) = (R W P (fun k => tbit s (!t) k) I (8 * s.size)).testBit (W - 1 - k) := by
  unfold LD L0
  rw [decide_eq_false (show ¬ 8 * s.size + k < 8 * s.size by omega), decide_eq_true (show 8 * s.size ≤ 8 * s.size + k ∧ 8 * s.size + k < 8 * s.size + W by omega), Nat.add_sub_cancel_left]
  simp
theorem hb_rev (W r : Nat) : hb (fun i => r.testBit i) W = rev W r := by rw [hb_nb]; rfl
theorem hb_self (W r : Nat) (h : r < 2 ^ W) : hb (fun i => r.testBit (W - 1 - i)) W = r := by
  rw [hb_nb, nb_congr _ (fun i => r.testBit i) W (fun i hi => by rw [show W - 1 - (W - 1 - i) = i from by omega]), nb_self, Nat.mod_eq_of_lt h]
end Go.Proofs.YthimjckimggpoaaDoor.crc
