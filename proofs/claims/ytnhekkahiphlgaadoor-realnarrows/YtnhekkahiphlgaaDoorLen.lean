/- What math/bits.Len64 answers at numbers below 2^23. -/
import Derived.Test.YtnhekkahiphlgaaDoorChecked
import Derived.Lib.Strings
import Derived.Lib.Slices
import Derived.Lib.Small
import Derived.Lib.Walk
import Derived.Lib.BitFns
import Derived.Lib.ItoaNum
namespace Go.Proofs.YtnhekkahiphlgaaDoor.rl
set_option maxHeartbeats 4000000 in
set_option maxRecDepth 100000 in
theorem len64_of (x : Int) (w : World) (h0 : 0 < x) (h1 : x < 8388608) :
    Calls Tryd.prog 39 #[.int .u64 x] w fun e w' => e = .returned (.int .i64 (Lib.bitLen x.toNat)) ∧ w' = w := by
  go_enter Tryd.func39, Tryd.ntmps39
  go_wp2
  · have hx : 65536 ≤ x := by assumption
    go_ret
    refine ⟨congrArg Ending.returned (congrArg (Value.int IntKind.i64) ?_), rfl⟩
    have e : (x / 65536 % 256).toNat = x.toNat / 65536 := by omega
    have l := Lib.bitLen_le8' (x / 65536 % 256) (by omega) (by omega)
    have t := Lib.bitLen_shift16 x.toNat (by omega) (by omega)
    rw [Lib.len8_of (x / 65536 % 256) (by omega) (by omega)]
    rw [e] at l ⊢
    omega
  · have hx : 256 ≤ x := by assumption
    have hx' : x < 65536 := by assumption
    go_ret
    refine ⟨congrArg Ending.returned (congrArg (Value.int IntKind.i64) ?_), rfl⟩
    have e : (x / 256 % 256).toNat = x.toNat / 256 := by omega
    have l := Lib.bitLen_le8' (x / 256 % 256) (by omega) (by omega)
    have t := Lib.bitLen_shift8 x.toNat (by omega) (by omega)
    rw [Lib.len8_of (x / 256 % 256) (by omega) (by omega)]
    rw [e] at l ⊢
    omega
  · have hx : x < 256 := by assumption
    go_ret
    refine ⟨congrArg Ending.returned (congrArg (Value.int IntKind.i64) ?_), rfl⟩
    have e : (x % 256).toNat = x.toNat := by omega
    have l := Lib.bitLen_le8' (x % 256) (by omega) (by omega)
    rw [Lib.len8_of (x % 256) (by omega) (by omega)]
    rw [e] at l ⊢
    omega
theorem bitLen_log2 (f : Nat) (h0 : 0 < f) (h1 : f < 2 ^ 64) : Lib.bitLen f = f.log2 + 1 := by
  obtain ⟨a1, a2, a3⟩ := Lib.bitLenAux_bounds 64 f h1 (by omega)
  have b1 := Nat.log2_self_le (show f ≠ 0 by omega)
  have b2 := Nat.lt_log2_self (n := f)
  unfold Lib.bitLen
  have c1 := (Nat.pow_lt_pow_iff_right (by omega : 1 < 2)).1 (Nat.lt_of_le_of_lt a2 b2)
  have c2 := (Nat.pow_lt_pow_iff_right (by omega : 1 < 2)).1 (Nat.lt_of_le_of_lt b1 a3)
  omega
theorem len64_at (f : Nat) (w : World) (h0 : 0 < f) (h1 : f < 8388608) :
    Calls Tryd.prog 39 #[.int .u64 (f : Int)] w fun e w' => e = .returned (.int .i64 ((f.log2 + 1 : Nat) : Int)) ∧ w' = w := by
  have h := len64_of (f : Int) w (by omega) (by omega)
  rw [Int.toNat_natCast, bitLen_log2 f h0 (by omega)] at h
  exact h
end Go.Proofs.YtnhekkahiphlgaaDoor.rl
