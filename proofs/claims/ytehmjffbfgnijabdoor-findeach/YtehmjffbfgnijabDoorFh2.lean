/- math/bits.TrailingZeros64 at a number that isn't 0; and the lowest bit. -/
import Derived.Test.YtehmjffbfgnijabDoorChecked
import Derived.Test.YtehmjffbfgnijabDoorMem
import Derived.Shelf.Spec.TrailingZeros
namespace Go.Proofs.YtehmjffbfgnijabDoor.low
set_option linter.unusedVariables false
open Go.ChangeShapes Go.WideShapes Go.ChangeAt Go.RowKit
open mem

/-- The library's table, as it is laid. -/
def Tab (w : World) : Prop := TabAt 0 Lib.deBruijn64tab w
theorem tz_core (x k idx : Nat) (w : World) (hx0 : ((x : Int) == 0) = false)
    (key : IntKind.u64.wrap (bits BinOp.and IntKind.u64 (x : Int) (IntKind.u64.wrap (-(x : Int))) * 285870213051353865) / 288230376151711744 = (idx : Int))
    (hi : idx < 64) (hk : k < 64) (hcell : w.cell? ⟨0, idx, none⟩ = some (.int .u8 k)) :
    Calls Tryd.prog 18 #[.int .u64 x] w fun e w' => e = .returned (.int .i64 k) ∧ w' = w := by
  go_enter Tryd.func18, Tryd.ntmps18
  go_wp2_with (simp only [key])
  go_ret
  exact ⟨rfl, rfl⟩
theorem tz_at (x : Nat) (hx : x < 18446744073709551616) (hx0 : x ≠ 0) (w : World) (hT : Tab w) :
    Calls Tryd.prog 18 #[.int .u64 x] w fun e w' => e = .returned (.int .i64 ((Lib.ctz 64 x : Nat) : Int)) ∧ w' = w := by
  obtain ⟨hlow, hk⟩ := Lib.lowest_bit 64 x hx0 hx
  obtain ⟨hi, htab⟩ := Lib.deBruijn64_at _ hk
  have hcell := hT _ hi
  rw [htab] at hcell
  exact tz_core x _ _ w (by rw [beq_eq_false_iff_ne]; omega) (tz64_key x _ hx hx0 hlow) hi hk hcell
/-- The lowest bit of a number, and the number without it. -/
theorem low_bit (x : Nat) (hx : x < 18446744073709551616) (hx0 : x ≠ 0) : Lib.ctz 64 x < 64 ∧ x.testBit (Lib.ctz 64 x) = true ∧ (∀ k, k < Lib.ctz 64 x → x.testBit k = false) ∧
    ∀ k, (x &&& (x - 1)).testBit k = true ↔ x.testBit k = true ∧ Lib.ctz 64 x < k := by
  obtain ⟨m, hm, hc⟩ := Lib.ctzFrom_spec 64 x (by omega) hx
  have e : Lib.ctz 64 x = Lib.ctzFrom 64 x := by simp [Lib.ctz, hx0]
  rw [e]
  generalize Lib.ctzFrom 64 x = c at hm hc
  have hp : 0 < 2 ^ c := Nat.two_pow_pos c
  have h1 : ∀ k, x.testBit k = if k < c then false else (2 * m + 1).testBit (k - c) := by
    intro k
    have := Nat.testBit_two_pow_mul_add (2 * m + 1) hp k
    rw [Nat.add_zero, ← hm] at this
    rw [this]
    simp
  have h2 : ∀ k, (x - 1).testBit k = if k < c then (2 ^ c - 1).testBit k else (2 * m).testBit (k - c) := by
    intro k
    have := Nat.testBit_two_pow_mul_add (2 * m) (b := 2 ^ c - 1) (i := c) (by omega) k
    rw [← this]
    congr 1
    rw [hm, Nat.mul_add, Nat.mul_one]
    omega
  refine ⟨hc, ?_, fun k hk => ?_, fun k => ?_⟩
  · rw [h1, if_neg (Nat.lt_irrefl _), Nat.sub_self]; simp
  · rw [h1, if_pos hk]
  · rw [Nat.testBit_and, h2, h1]
    rcases Nat.lt_trichotomy k c with h | h | h
    · simp [h]
    · subst h; simp
    · rw [if_neg (by omega), if_neg (by omega)]
      obtain ⟨d, hd⟩ : ∃ d, k - c = d + 1 := ⟨k - c - 1, by omega⟩
      rw [hd, Nat.testBit_add_one, Nat.testBit_add_one, show (2 * m + 1) / 2 = m by omega, show 2 * m / 2 = m by omega]
      simp [h]
end Go.Proofs.YtehmjffbfgnijabDoor.low
