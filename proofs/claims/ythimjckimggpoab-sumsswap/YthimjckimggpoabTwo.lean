/- Plain sums of a text's bytes, modulo a number: what they are without the modulus, and what becomes of them if two bytes change places. No program. -/
import Derived.Test.YthimjckimggpoabBit
namespace Go.Proofs.Ythimjckimggpoab.two
open bit

/-- The sum of the first k bytes, from a on, modulo M at each step. -/
def fa (s : ByteArray) (a M : Nat) : Nat → Nat
  | 0 => a
  | k + 1 => (fa s a M k + byteN s k) % M
/-- The sum of those sums, modulo M at each step. -/
def fb (s : ByteArray) (a M : Nat) : Nat → Nat
  | 0 => 0
  | k + 1 => (fb s a M k + fa s a M (k + 1)) % M
/-- The same, with no modulus. -/
def sa (s : ByteArray) (a : Nat) : Nat → Nat
  | 0 => a
  | k + 1 => sa s a k + byteN s k
def sb (s : ByteArray) (a : Nat) : Nat → Nat
  | 0 => 0
  | k + 1 => sb s a k + sa s a (k + 1)
theorem fa_lt (s : ByteArray) (a M k : Nat) (ha : a < M) : fa s a M k < M := by
  cases k with
  | zero => exact ha
  | succ k => exact Nat.mod_lt _ (by omega)
theorem fb_lt (s : ByteArray) (a M k : Nat) (hM : 0 < M) : fb s a M k < M := by
  cases k with
  | zero => exact hM
  | succ k => exact Nat.mod_lt _ hM
theorem fa_sa (s : ByteArray) (a M k : Nat) (ha : a < M) : fa s a M k = sa s a k % M := by
  induction k with
  | zero => exact (Nat.mod_eq_of_lt ha).symm
  | succ k ih => rw [fa, sa, ih, Nat.mod_add_mod]
theorem fb_sb (s : ByteArray) (a M k : Nat) (ha : a < M) : fb s a M k = sb s a k % M := by
  induction k with
  | zero => exact (Nat.zero_mod _).symm
  | succ k ih => rw [fb, sb, ih, fa_sa s a M _ ha, ← Nat.add_mod]
theorem sa_le (s : ByteArray) (a k : Nat) : sa s a k ≤ a + 255 * k := by
  induction k with
  | zero => exact Nat.le_refl _
  | succ k ih => have := byteN_lt s k; rw [sa]; omega
theorem sa_split (s : ByteArray) (a k : Nat) : sa s a k = a + sa s 0 k := by
  induction k with
  | zero => rfl
  | succ k ih => rw [sa, sa, ih]; omega
theorem sb_split (s : ByteArray) (a k : Nat) : sb s a k = a * k + sb s 0 k := by
  induction k with
  | zero => rfl
  | succ k ih => rw [sb, sb, ih, sa_split s a (k + 1), Nat.mul_succ]; omega
/-- What the bytes so far add to the sum of all n sums. -/
def sc (s : ByteArray) (n : Nat) : Nat → Nat
  | 0 => 0
  | k + 1 => sc s n k + byteN s k * (n - k)
theorem sc_sb (s : ByteArray) (n k : Nat) (hk : k ≤ n) : sc s n k = sb s 0 k + (n - k) * sa s 0 k := by
  induction k with
  | zero => simp [sc, sb, sa]
  | succ k ih =>
    rw [sc, ih (by omega), sb, sa]
    obtain ⟨d, hd⟩ : ∃ d, n - k = d + 1 := ⟨n - k - 1, by omega⟩
    rw [hd, show n - (k + 1) = d from by omega, Nat.mul_comm (byteN s k), Nat.mul_add, Nat.add_mul, Nat.add_mul]
    omega
theorem sc_all (s : ByteArray) (n : Nat) : sc s n n = sb s 0 n := by
  rw [sc_sb s n n (Nat.le_refl _)]; simp
theorem sc_le (s : ByteArray) (n k : Nat) : sc s n k ≤ 255 * n * k := by
  induction k with
  | zero => exact Nat.le_refl _
  | succ k ih =>
    have h := byteN_lt s k
    have h2 : byteN s k * (n - k) ≤ 255 * n := Nat.mul_le_mul (by omega) (by omega)
    rw [sc, Nat.mul_succ]; omega
end Go.Proofs.Ythimjckimggpoab.two
