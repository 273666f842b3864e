/- The document's own helpers on signs: which numbers are signs, powers, and which bytes some sign begins with. -/
import Derived.Test.YtaboemchkmmgeaaDoorIntRow
import Derived.WalkSpells
namespace Go.Proofs.YtaboemchkmmgeaaDoor.utf
set_option linter.unusedVariables false
open Go.ChangeShapes Go.WideShapes Go.ChangeAt Go.RowKit
open mem rows

theorem within_at (n a b : Int) (w : World) : Calls Tryd.prog 32 #[.int .i64 n, .int .i64 a, .int .i64 b] w fun e w' => e = .returned (.bool (decide (a ≤ n ∧ n ≤ b))) ∧ w' = w := by
  by_cases h1 : a ≤ n
  · by_cases h2 : n ≤ b
    · rw [decide_eq_true ⟨h1, h2⟩]
      go_enter Tryd.func32, Tryd.ntmps32
      go_wp2
      go_ret
      exact ⟨rfl, rfl⟩
    · rw [decide_eq_false (fun h => h2 h.2)]
      go_enter Tryd.func32, Tryd.ntmps32
      go_wp2
      go_ret
      exact ⟨rfl, rfl⟩
  · rw [decide_eq_false (fun h => h1 h.1)]
    go_enter Tryd.func32, Tryd.ntmps32
    go_wp2
    go_ret
    exact ⟨rfl, rfl⟩
/-- A sign. -/
def sign (n : Int) : Prop := (0 ≤ n ∧ n ≤ 55295) ∨ (57344 ≤ n ∧ n ≤ 1114111)
instance (n : Int) : Decidable (sign n) := inferInstanceAs (Decidable (_ ∨ _))
theorem isSign_at (n : Int) (w : World) : Calls Tryd.prog 27 #[.int .i64 n] w fun e w' => e = .returned (.bool (decide (sign n))) ∧ w' = w := by
  have c1 := within_at n 0 55295
  have c2 := within_at n 57344 1114111
  by_cases h1 : 0 ≤ n ∧ n ≤ 55295
  · have hs : sign n := Or.inl h1
    rw [decide_eq_true hs]
    clear hs
    rw [decide_eq_true h1] at c1
    clear c2 h1
    go_enter Tryd.func27, Tryd.ntmps27
    go_wp2_with (go_at_call 32; refine (c1 _).mono ?_; rintro e w1 ⟨rfl, rfl⟩)
    go_ret
    exact ⟨rfl, rfl⟩
  · have e : decide (sign n) = decide (57344 ≤ n ∧ n ≤ 1114111) := by
      unfold sign
      simp [h1]
    rw [e]
    rw [decide_eq_false h1] at c1
    clear e h1
    generalize decide (57344 ≤ n ∧ n ≤ 1114111) = b at *
    go_enter Tryd.func27, Tryd.ntmps27
    go_wp2_with (first | (go_at_call_of 32 (Value.int .i64 55295); refine (c1 _).mono ?_; rintro e w1 ⟨rfl, rfl⟩) | (go_at_call_of 32 (Value.int .i64 57344); refine (c2 _).mono ?_; rintro e w1 ⟨rfl, rfl⟩))
    go_ret
    exact ⟨rfl, rfl⟩
theorem wrap_u6 (n : Int) (h0 : 0 ≤ n) (h1 : n < 18446744073709551616) : IntKind.u64.wrap n = n := by rw [IntKind.wrap_u64]; omega
theorem wrap_i6 (n : Int) (h0 : -9223372036854775808 ≤ n) (h1 : n < 9223372036854775808) : IntKind.i64.wrap n = n := by rw [IntKind.wrap_i64]; omega
theorem pow2_at (n r : Nat) (hn : n ≤ 63) (hr : 2 ^ n = r) (w : World) : Calls Tryd.prog 43 #[.int .i64 n] w fun e w' => e = .returned (.int .u64 r) ∧ w' = w := by
  go_enter Tryd.func43, Tryd.ntmps43
  go_wp2
  go_loop [0, 3] (fun i o => ∃ k y : Nat, k ≤ n ∧ i = .int .i64 (k : Int) ∧ o = .int .u64 (y : Int) ∧ Hid (y = 2 ^ (n - k))) (fun i _ => (intOf i).toNat)
  case atStart => exact ⟨n, 1, Nat.le_refl _, rfl, rfl, by simp [Hid]⟩
  case round =>
    obtain ⟨k, y, hk, rfl, rfl, HY⟩ := hrel
    by_cases h0 : 0 < k
    · have t1 : (0 : Int) < (k : Int) := by omega
      obtain ⟨k', hk'⟩ : ∃ k', k = k' + 1 := ⟨k - 1, by omega⟩
      obtain ⟨y', hy'⟩ : ∃ y', y' = y * 2 := ⟨_, rfl⟩
      have hyl : y ≤ 2 ^ 62 := by rw [HY.out]; exact Nat.pow_le_pow_right (by omega) (by omega)
      have t2 : IntKind.u64.wrap ((y : Int) * 2) = (y' : Int) := (wrap_u6 _ (by omega) (by omega)).trans (by omega)
      have t3 : IntKind.i64.wrap ((k : Int) - 1) = (k' : Int) := (wrap_i6 _ (by omega) (by omega)).trans (by omega)
      have HY' : Hid (y' = 2 ^ (n - k')) := by
        have e : n - k' = (n - k) + 1 := by omega
        rw [hy', e, Nat.pow_succ, ← HY.out]; rfl
      have HK : Hid (k = k' + 1) := hk'
      clear hk' hy'
      go_wp2
      go_round
      case rel => exact ⟨k', y', by have := HK.out; omega, by simp [*], by simp [*], HY'⟩
      case measure => have := HK.out; simp [intOf]; omega
    · obtain rfl : k = 0 := by omega
      have hyr : y = r := by rw [HY.out, ← hr]; rfl
      clear HY
      subst hyr
      go_wp2
      go_ret
      exact ⟨rfl, rfl⟩
end Go.Proofs.YtaboemchkmmgeaaDoor.utf
