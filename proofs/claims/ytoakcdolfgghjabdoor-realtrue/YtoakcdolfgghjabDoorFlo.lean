/- Bits as floating numbers, and how these stand to each other, in the model's own terms. -/
import Derived.Test.YtoakcdolfgghjabDoorHalved
import Derived.Laws.Externs
import Derived.Laws.FloatArith
namespace Go.Proofs.YtoakcdolfgghjabDoor.rl
open Go.RowKit
open mem flt
theorem f64from (a : Nat) (w : World) : (callFunc 9 #[.int .u64 (a : Int)]).run Tryd.prog w = .ok (.value (.float .f64 a)) w := by
  have h := @run_callFunc_extern Tryd.prog 9 _ Extern.MathFloatBits.float64frombits Tryd.func9 (by kernel_rfl) (by kernel_rfl) (by kernel_rfl) (by kernel_rfl)
  rw [h]
  rfl
theorem f32from (a : Nat) (w : World) : (callFunc 14 #[.int .u32 (a : Int)]).run Tryd.prog w = .ok (.value (.float .f32 a)) w := by
  have h := @run_callFunc_extern Tryd.prog 14 _ Extern.MathFloatBits.float32frombits Tryd.func14 (by kernel_rfl) (by kernel_rfl) (by kernel_rfl) (by kernel_rfl)
  rw [h]
  rfl
theorem f64bits (a : Nat) (w : World) : (callFunc 16 #[.float .f64 a]).run Tryd.prog w = .ok (.value (.int .u64 (a : Int))) w := by
  have h := @run_callFunc_extern Tryd.prog 16 _ Extern.MathFloatBits.float64bits Tryd.func16 (by kernel_rfl) (by kernel_rfl) (by kernel_rfl) (by kernel_rfl)
  rw [h]
  rfl
/-- The order of two floating numbers that are no NaN. -/
theorem ord64 (a b : Nat) (ha : a % 2 ^ 63 ≤ 2047 * 2 ^ 52) (hb : b % 2 ^ 63 ≤ 2047 * 2 ^ 52) : FloatKind.f64.format.order a b = some (compare (sv Ieee.double a) (sv Ieee.double b)) :=
  order_eq Ieee.double a b ha hb (by decide)
theorem nan64 (a b : Nat) (h : 2047 * 2 ^ 52 < a % 2 ^ 63 ∨ 2047 * 2 ^ 52 < b % 2 ^ 63) : FloatKind.f64.format.order a b = none :=
  order_nan Ieee.double a b h (by decide)
theorem ord32 (a b : Nat) (ha : a % 2 ^ 31 ≤ 255 * 2 ^ 23) (hb : b % 2 ^ 31 ≤ 255 * 2 ^ 23) : FloatKind.f32.format.order a b = some (compare (sv Ieee.single a) (sv Ieee.single b)) :=
  order_eq Ieee.single a b ha hb (by decide)
theorem nan32 (a b : Nat) (h : 255 * 2 ^ 23 < a % 2 ^ 31 ∨ 255 * 2 ^ 23 < b % 2 ^ 31) : FloatKind.f32.format.order a b = none :=
  order_nan Ieee.single a b h (by decide)
theorem cmp_le {a b : Int} (h : a ≤ b) : compare a b = .lt ∨ compare a b = .eq := by
  rcases Int.lt_or_eq_of_le h with h | h
  · exact Or.inl (cmp_lt h)
  · subst h; exact Or.inr (cmp_eq a)
theorem sv64 (a : Nat) : sv Ieee.double a = if a / 2 ^ 63 % 2 == 1 then -((val 52 (a % 2 ^ 63) : Nat) : Int) else ((val 52 (a % 2 ^ 63) : Nat) : Int) := rfl
theorem sv32 (a : Nat) : sv Ieee.single a = if a / 2 ^ 31 % 2 == 1 then -((val 23 (a % 2 ^ 31) : Nat) : Int) else ((val 23 (a % 2 ^ 31) : Nat) : Int) := rfl
/-- What is narrowed: its sign and its magnitude. -/
theorem narW_num (a : Nat) (h : a % 2 ^ 63 ≤ 2047 * 2 ^ 52) : narW a / 2 ^ 31 % 2 = a / 2 ^ 63 % 2 ∧ narW a % 2 ^ 31 = min (nar (a % 2 ^ 63)) (255 * 2 ^ 23) ∧ narW a < 2 ^ 32 := by
  unfold narW
  rw [if_neg (by omega : ¬ 2047 * 2 ^ 52 < a % 2 ^ 63)]
  have hm : min (nar (a % 2 ^ 63)) (255 * 2 ^ 23) ≤ 255 * 2 ^ 23 := Nat.min_le_right _ _
  generalize min (nar (a % 2 ^ 63)) (255 * 2 ^ 23) = m at *
  by_cases hs : a / 2 ^ 63 % 2 = 1
  · simp only [hs, beq_self_eq_true, if_true]; omega
  · have e : (a / 2 ^ 63 % 2 == 1) = false := by simp; omega
    rw [e]; simp only [Bool.false_eq_true, if_false]; omega
theorem narW_lt (a : Nat) : narW a < 2 ^ 32 := by
  unfold narW
  have h1 : (b : Nat) → b < 2 ^ 23 → (b ||| 2 ^ 22) < 2 ^ 23 := fun b hb => nan_lt b hb
  have h2 := h1 (a % 2 ^ 52 / 2 ^ 29) (by omega)
  split <;> split <;> omega
/-- Of two numbers the greater one's nearest is not smaller. -/
theorem rises (a b : Nat) (na : a % 2 ^ 63 ≤ 2047 * 2 ^ 52) (nb : b % 2 ^ 63 ≤ 2047 * 2 ^ 52) (h : sv Ieee.double a ≤ sv Ieee.double b) : sv Ieee.single (narW a) ≤ sv Ieee.single (narW b) := by
  obtain ⟨s1, m1, _⟩ := narW_num a na
  obtain ⟨s2, m2, _⟩ := narW_num b nb
  rw [sv64, sv64] at h
  rw [sv32, sv32, s1, s2, m1, m2]
  have key : ∀ k l : Nat, val 52 k ≤ val 52 l → val 23 (min (nar k) (255 * 2 ^ 23)) ≤ val 23 (min (nar l) (255 * 2 ^ 23)) := by
    intro k l hkl
    have : k ≤ l := Nat.le_of_not_lt fun h' => absurd (val_lt (F := 52) h') (by omega)
    have := nar_mono this
    exact val_le (by omega)
  have zero : ∀ k : Nat, val 52 k = 0 → val 23 (min (nar k) (255 * 2 ^ 23)) = 0 := by
    intro k hk
    have := val_ge 52 k
    have : k = 0 := by omega
    subst this
    rw [nar_exact (k := 0) (m := 0) (by rw [val_zero, val_zero, Nat.zero_mul]), Nat.zero_min, val_zero]
  generalize a % 2 ^ 63 = k at *
  generalize b % 2 ^ 63 = l at *
  have k1 := key k l
  have k2 := key l k
  have z1 := zero k
  have z2 := zero l
  generalize val 52 k = K at *
  generalize val 52 l = L at *
  generalize val 23 (min (nar k) (255 * 2 ^ 23)) = K' at *
  generalize val 23 (min (nar l) (255 * 2 ^ 23)) = L' at *
  clear key zero m1 m2 s1 s2
  generalize (a / 2 ^ 63 % 2 == 1) = sa at h ⊢
  generalize (b / 2 ^ 63 % 2 == 1) = sb at h ⊢
  cases sa <;> cases sb <;> simp only [Bool.false_eq_true, if_true, if_false] at h ⊢ <;> omega
end Go.Proofs.YtoakcdolfgghjabDoor.rl
