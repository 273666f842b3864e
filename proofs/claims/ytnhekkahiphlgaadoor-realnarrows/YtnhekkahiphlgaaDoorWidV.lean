/- What is widened is the very real, in numbers. -/
import Derived.Test.YtnhekkahiphlgaaDoorReal6
import Derived.Test.YtnhekkahiphlgaaDoorReal8
import Derived.Laws.FloatArith
namespace Go.Proofs.YtnhekkahiphlgaaDoor.rl
open Go.RowKit
open mem flt
theorem wid_val (m : Nat) (hm : m < 255 * 2 ^ 23) : val 52 (wid m) = val 23 m * 2 ^ U := by
  by_cases h1 : 2 ^ 23 ≤ m
  · obtain ⟨x, f, hx, hf, rfl⟩ : ∃ x f, 0 < x ∧ f < 2 ^ 23 ∧ m = x * 2 ^ 23 + f := ⟨m / 2 ^ 23, m % 2 ^ 23, by omega, by omega, by omega⟩
    obtain ⟨G, hG⟩ : ∃ G, G = f * 2 ^ 29 := ⟨_, rfl⟩
    have hw := wid_mid x f hx (by omega) hf
    rw [← hG] at hw
    have v1 : val 52 (wid (x * 2 ^ 23 + f)) = (2 ^ 52 + G) * 2 ^ (x + 895) := val_at (x + 895) G (by omega) (by omega)
    have v2 : val 23 (x * 2 ^ 23 + f) = (2 ^ 23 + f) * 2 ^ (x - 1) := val_at (x - 1) f hf (by omega)
    rw [v1, v2, hG]
    obtain ⟨V, hV⟩ : ∃ V, V = 896 := ⟨_, rfl⟩
    have e : 2 ^ (x + 895) = 2 ^ (x - 1) * 2 ^ V := pow_split _ _ _ (by omega)
    have e2 : 2 ^ U = 2 ^ 29 * 2 ^ V := pow_split _ _ _ (by rw [U_eq, hV])
    have e3 : 2 ^ 52 + f * 2 ^ 29 = (2 ^ 23 + f) * 2 ^ 29 := by omega
    rw [e, e2, e3]
    generalize 2 ^ V = A
    generalize 2 ^ (x - 1) = B
    generalize 2 ^ 29 = C
    rw [Nat.mul_assoc, Nat.mul_assoc, Nat.mul_left_comm C B A]
  · by_cases h0 : m = 0
    · subst h0
      have : wid 0 = 0 := wid_zero 0 0 rfl rfl
      rw [this, val_zero, val_zero, Nat.zero_mul]
    · obtain ⟨j, hj⟩ : ∃ j, j = 23 - m.log2 := ⟨_, rfl⟩
      obtain ⟨z, hz⟩ : ∃ z, z = m * 2 ^ j - 2 ^ 23 := ⟨_, rfl⟩
      obtain ⟨j1, j2, j3, j4⟩ := tiny_log m j (by omega) (by omega) hj
      have hw := wid_tiny 0 m j z rfl (by omega) (by omega) hj hz
      rw [Nat.zero_mul, Nat.zero_add] at hw
      rw [hw, val_at (F := 52) (896 - j) (z * 2 ^ 29) (by omega) (by omega), val_low (F := 23) (by omega)]
      have e3 : 2 ^ 52 + z * 2 ^ 29 = m * 2 ^ j * 2 ^ 29 := by omega
      rw [e3, U_eq, Nat.mul_assoc, Nat.mul_assoc, ← Nat.pow_add, ← Nat.pow_add]
      congr 2
      omega
/-- What is widened, narrowed again. -/
theorem nar_wid (m : Nat) (hm : m < 255 * 2 ^ 23) : nar (wid m) = m := nar_exact (wid_val m hm)
theorem wid_lt (m : Nat) (hm : m < 255 * 2 ^ 23) : wid m < 2047 * 2 ^ 52 := by
  by_cases h1 : 2 ^ 23 ≤ m
  · obtain ⟨x, f, hx, hf, rfl⟩ : ∃ x f, 0 < x ∧ f < 2 ^ 23 ∧ m = x * 2 ^ 23 + f := ⟨m / 2 ^ 23, m % 2 ^ 23, by omega, by omega, by omega⟩
    have := wid_mid x f hx (by omega) hf
    omega
  · by_cases h0 : m = 0
    · subst h0
      have : wid 0 = 0 := wid_zero 0 0 rfl rfl
      omega
    · obtain ⟨j, hj⟩ : ∃ j, j = 23 - m.log2 := ⟨_, rfl⟩
      obtain ⟨z, hz⟩ : ∃ z, z = m * 2 ^ j - 2 ^ 23 := ⟨_, rfl⟩
      obtain ⟨j1, j2, j3, j4⟩ := tiny_log m j (by omega) (by omega) hj
      have hw := wid_tiny 0 m j z rfl (by omega) (by omega) hj hz
      rw [Nat.zero_mul, Nat.zero_add] at hw
      rw [hw]
      omega
theorem wid_top' (m : Nat) (hm : 255 * 2 ^ 23 ≤ m) : wid m = 2047 * 2 ^ 52 + (m - 255 * 2 ^ 23) * 2 ^ 29 := by
  unfold wid; rw [if_pos hm]
/-- The bits of the widened: sign and magnitude. -/
theorem widW_parts (b : Nat) : widW b / 2 ^ 63 % 2 = b / 2 ^ 31 % 2 ∧ widW b % 2 ^ 63 = wid (b % 2 ^ 31) ∧ widW b < 2 ^ 64 := by
  have hw : wid (b % 2 ^ 31) < 2 ^ 63 := by
    rcases Nat.lt_or_ge (b % 2 ^ 31) (255 * 2 ^ 23) with h | h
    · have := wid_lt _ h; omega
    · rw [wid_top' _ h]; omega
  unfold widW
  generalize wid (b % 2 ^ 31) = m at *
  by_cases hs : b / 2 ^ 31 % 2 = 1
  · simp only [hs, beq_self_eq_true, if_true]; omega
  · have e : (b / 2 ^ 31 % 2 == 1) = false := by simp; omega
    rw [e]; simp only [Bool.false_eq_true, if_false]; omega
end Go.Proofs.YtnhekkahiphlgaaDoor.rl
