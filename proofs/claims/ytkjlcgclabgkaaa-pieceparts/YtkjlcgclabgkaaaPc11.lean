/- How deep pieces may lie. -/
import Derived.Test.YtkjlcgclabgkaaaPc10
namespace Go.Proofs.Ytkjlcgclabgkaaa.pc
set_option linter.unusedVariables false
open Go.ChangeShapes Go.WideShapes Go.ChangeAt Go.RowKit
open mem
set_option maxRecDepth 100000 in
set_option maxHeartbeats 4000000 in
theorem deepest_at (n : Nat) (w : World) (hn : n ≤ 5000) : Calls Try.prog 11 #[.int .i64 (n : Int)] w fun e w' => (∃ k : Nat, e = .returned (.int .i64 (k : Int)) ∧ (n + 2) * (n + 2) ≤ 2 ^ k ∧ k ≤ 30) ∧ w' = w := by
  obtain ⟨X, hX⟩ : ∃ X : Nat, X = (n + 2) * (n + 2) := ⟨_, rfl⟩
  have hX1 : X ≤ 26000000 := by
    rw [hX]
    exact Nat.le_trans (Nat.mul_le_mul (show n + 2 ≤ 5002 by omega) (show n + 2 ≤ 5002 by omega)) (by decide)
  have hXI : ((n : Int) + 2) * ((n : Int) + 2) = (X : Int) := by rw [hX]; push_cast; rfl
  rw [← hX]
  have hn1 : IntKind.i64.wrap ((n : Int) + 2) = (n : Int) + 2 := by rw [IntKind.wrap_i64]; omega
  have hn2 : IntKind.i64.wrap (X : Int) = (X : Int) := by rw [IntKind.wrap_i64]; omega
  clear hX
  go_enter Try.func11, Try.ntmps11
  go_wp2
  go_loopw [3] (fun v wr => wr = w ∧ ∃ k : Nat, v = .int .i64 (k : Int) ∧ k ≤ 26) (fun v wr => 40 - (intOf v).toNat)
  case atStart => exact ⟨rfl, 0, rfl, by omega⟩
  case round =>
    obtain ⟨rfl, k, rfl, hk⟩ := hrel
    have hs1 : (0 : Int) ≤ (k : Int) := by omega
    have hp1 : (2 : Nat) ^ k ≤ 2 ^ 26 := Nat.pow_le_pow_right (by omega) hk
    have hpw : wrap64 ((2 : Int) ^ k) = ((2 ^ k : Nat) : Int) := by
      have e : ((2 : Int) ^ k) = ((2 ^ k : Nat) : Int) := by push_cast; rfl
      rw [e]
      generalize 2 ^ k = Z at hp1
      unfold wrap64
      omega
    have HPW : Hid _ := hpw
    clear hpw hp1
    go_wp2
    · rename_i hlt
      rw [HPW.out] at hlt
      refine ⟨⟨trivial, k + 1, by simp, ?_⟩, by simp [intOf]; omega⟩
      rcases Nat.lt_or_ge k 26 with h | h
      · omega
      · have : k = 26 := by omega
        subst this
        simp at hlt
        omega
    · rename_i hle
      rw [HPW.out] at hle
      go_ret
      exact ⟨⟨k, rfl, by omega, by omega⟩, rfl⟩
end Go.Proofs.Ytkjlcgclabgkaaa.pc
