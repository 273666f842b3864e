/- Bits as floating numbers, and how these stand to each other, in the model's own terms: of 64 bits alone. -/
import Derived.Test.YtnhekkahiphlgaaDoorHalved
import Derived.Laws.Externs
import Derived.Laws.FloatArith
namespace Go.Proofs.YtnhekkahiphlgaaDoor.rl
open Go.RowKit
open mem flt
theorem f64from (a : Nat) (w : World) : (callFunc 22 #[.int .u64 (a : Int)]).run Tryd.prog w = .ok (.value (.float .f64 a)) w := by
  have h := @run_callFunc_extern Tryd.prog 22 _ Extern.MathFloatBits.float64frombits Tryd.func22 (by kernel_rfl) (by kernel_rfl) (by kernel_rfl) (by kernel_rfl)
  rw [h]
  rfl
/-- The order of two floating numbers that are no NaN. -/
theorem ord64 (a b : Nat) (ha : a % 2 ^ 63 ≤ 2047 * 2 ^ 52) (hb : b % 2 ^ 63 ≤ 2047 * 2 ^ 52) : FloatKind.f64.format.order a b = some (compare (sv Ieee.double a) (sv Ieee.double b)) :=
  order_eq Ieee.double a b ha hb (by decide)
theorem nan64 (a b : Nat) (h : 2047 * 2 ^ 52 < a % 2 ^ 63 ∨ 2047 * 2 ^ 52 < b % 2 ^ 63) : FloatKind.f64.format.order a b = none :=
  order_nan Ieee.double a b h (by decide)
theorem cmp_le {a b : Int} (h : a ≤ b) : compare a b = .lt ∨ compare a b = .eq := by
  rcases Int.lt_or_eq_of_le h with h | h
  · exact Or.inl (cmp_lt h)
  · subst h; exact Or.inr (cmp_eq a)
theorem sv64 (a : Nat) : sv Ieee.double a = if a / 2 ^ 63 % 2 == 1 then -((val 52 (a % 2 ^ 63) : Nat) : Int) else ((val 52 (a % 2 ^ 63) : Nat) : Int) := rfl
theorem key_inj (a b : Nat) (ha : a < 2 ^ 64) (hb : b < 2 ^ 64) (h : keyN (2 ^ 63) a = keyN (2 ^ 63) b) : a = b := by
  unfold keyN at h
  split at h <;> split at h <;> omega
theorem key_sv (a b : Nat) (h : keyN (2 ^ 63) a ≤ keyN (2 ^ 63) b) : sv Ieee.double a ≤ sv Ieee.double b := by
  have z := val_zero 52
  have key : ∀ k l : Nat, k ≤ l → val 52 k ≤ val 52 l := fun k l h => val_le h
  rw [sv64, sv64]
  unfold keyN at h
  by_cases sa : a / 2 ^ 63 % 2 = 1 <;> by_cases sb : b / 2 ^ 63 % 2 = 1
  · rw [if_pos sa, if_pos sb] at h
    have := key (b % 2 ^ 63) (a % 2 ^ 63) (by omega)
    simp only [sa, sb, beq_self_eq_true, if_true]
    omega
  · have e : (b / 2 ^ 63 % 2 == 1) = false := by simp; omega
    simp only [sa, e, beq_self_eq_true, if_true, Bool.false_eq_true, if_false]
    omega
  · rw [if_neg sa, if_pos sb] at h
    omega
  · rw [if_neg sa, if_neg sb] at h
    have := key (a % 2 ^ 63) (b % 2 ^ 63) (by omega)
    have e : (b / 2 ^ 63 % 2 == 1) = false := by simp; omega
    have e' : (a / 2 ^ 63 % 2 == 1) = false := by simp; omega
    simp only [e, e', Bool.false_eq_true, if_false]
    omega
theorem sv_zero (a : Nat) : sv Ieee.double a = 0 ↔ a % 2 ^ 63 = 0 := by
  rw [sv64]
  have h1 := val_ge 52 (a % 2 ^ 63)
  have h2 := val_zero 52
  constructor
  · intro h
    split at h <;> omega
  · intro h
    rw [h, h2]
    split <;> rfl
theorem sv_inj (a b : Nat) (ha : a < 2 ^ 64) (hb : b < 2 ^ 64) (h : sv Ieee.double a = sv Ieee.double b) : a = b ∨ (a % 2 ^ 63 = 0 ∧ b % 2 ^ 63 = 0) := by
  rw [sv64, sv64] at h
  have i1 := val_ge 52 (a % 2 ^ 63)
  have i2 := val_ge 52 (b % 2 ^ 63)
  have l1 : a % 2 ^ 63 < b % 2 ^ 63 → val 52 (a % 2 ^ 63) < val 52 (b % 2 ^ 63) := val_lt
  have l2 : b % 2 ^ 63 < a % 2 ^ 63 → val 52 (b % 2 ^ 63) < val 52 (a % 2 ^ 63) := val_lt
  by_cases sa : a / 2 ^ 63 % 2 = 1 <;> by_cases sb : b / 2 ^ 63 % 2 = 1
  · simp only [sa, sb, beq_self_eq_true, if_true] at h
    omega
  · have e : (b / 2 ^ 63 % 2 == 1) = false := by simp; omega
    simp only [sa, e, beq_self_eq_true, if_true, Bool.false_eq_true, if_false] at h
    omega
  · have e : (a / 2 ^ 63 % 2 == 1) = false := by simp; omega
    simp only [sb, e, beq_self_eq_true, if_true, Bool.false_eq_true, if_false] at h
    omega
  · have e : (b / 2 ^ 63 % 2 == 1) = false := by simp; omega
    have e' : (a / 2 ^ 63 % 2 == 1) = false := by simp; omega
    simp only [e, e', Bool.false_eq_true, if_false] at h
    omega
/-- How a number stands to nought. -/
theorem zero64 (a : Nat) (na : a % 2 ^ 63 ≤ 2047 * 2 ^ 52) : (FloatKind.f64.format.order a 0 == some .eq) = decide (a % 2 ^ 63 = 0) := by
  have s0 : sv Ieee.double 0 = 0 := (sv_zero 0).2 rfl
  rw [ord64 a 0 na (by omega), s0]
  by_cases h : a % 2 ^ 63 = 0
  · rw [(sv_zero a).2 h, cmp_eq]; simp [h]
  · have := mt (sv_zero a).1 h
    rw [decide_eq_false h]
    rcases Int.lt_or_lt_of_ne this with h' | h'
    · rw [cmp_lt h']; rfl
    · rw [cmp_gt h']; rfl
end Go.Proofs.YtnhekkahiphlgaaDoor.rl
