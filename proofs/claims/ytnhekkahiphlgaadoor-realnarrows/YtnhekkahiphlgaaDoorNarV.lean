/- Which of the two neighbours is the nearer one. -/
import Derived.Test.YtnhekkahiphlgaaDoorWidV
namespace Go.Proofs.YtnhekkahiphlgaaDoor.rl
open Go.RowKit
open mem flt
theorem top_val : val 52 5183643171103440896 = val 23 2139095040 * 2 ^ flt.U := by
  obtain ⟨e, he⟩ : ∃ e, e = 1150 := ⟨_, rfl⟩
  obtain ⟨g, hg⟩ : ∃ g, g = 254 := ⟨_, rfl⟩
  have v1 : val 52 5183643171103440896 = (2 ^ 52 + 0) * 2 ^ e := val_at (F := 52) e 0 (by omega) (by omega)
  have v2 : val 23 2139095040 = (2 ^ 23 + 0) * 2 ^ g := val_at (F := 23) g 0 (by omega) (by omega)
  rw [v1, v2, Nat.add_zero, Nat.add_zero, ← Nat.pow_add, ← Nat.pow_add, ← Nat.pow_add]
  have := U_eq
  rw [show 52 + e = 23 + g + flt.U from by omega]
theorem top_lt : val 23 2139095040 * 2 ^ flt.U < 2 ^ (64 * 34) := by
  obtain ⟨g, hg⟩ : ∃ g, g = 254 := ⟨_, rfl⟩
  have v2 : val 23 2139095040 = (2 ^ 23 + 0) * 2 ^ g := val_at (F := 23) g 0 (by omega) (by omega)
  rw [v2, Nat.add_zero, ← Nat.pow_add, ← Nat.pow_add]
  have := U_eq
  have h : ∀ n, 23 + g + flt.U < n → 2 ^ (23 + g + flt.U) < 2 ^ n := fun n h => Nat.pow_lt_pow_right (by omega) h
  apply h
  omega
theorem nar_tail (k lo hi : Nat) (hk : k < 5183643171103440896) (hl : hi = lo + 1) (hh : hi ≤ 2139095040) (h1 : wid lo ≤ k) (h2 : k < wid hi) :
    val 52 (wid lo) ≤ val 52 k ∧ val 52 k < val 23 hi * 2 ^ flt.U ∧ val 23 hi * 2 ^ flt.U < 2 ^ (64 * 34) ∧ (hi < 2139095040 → val 52 (wid hi) = val 23 hi * 2 ^ flt.U) ∧
    (hi = 2139095040 → val 52 5183643171103440896 = val 23 hi * 2 ^ flt.U) ∧
    nar k = if val 52 k - val 52 (wid lo) < val 23 hi * 2 ^ flt.U - val 52 k ∨ (val 52 k - val 52 (wid lo) = val 23 hi * 2 ^ flt.U - val 52 k ∧ lo % 2 = 0) then lo else hi := by
  have a1 : val 52 (wid lo) ≤ val 52 k := val_le h1
  have a2 : val 52 k < val 23 hi * 2 ^ flt.U := by
    rcases Nat.lt_or_ge hi 2139095040 with h | h
    · rw [← wid_val hi (by omega)]; exact val_lt h2
    · have e : hi = 2139095040 := by omega
      rw [e, ← top_val]; exact val_lt hk
  have a3 : val 23 hi * 2 ^ flt.U < 2 ^ (64 * 34) := Nat.lt_of_le_of_lt (Nat.mul_le_mul_right _ (val_le hh)) top_lt
  have a4 := wid_val lo (by omega)
  refine ⟨a1, a2, a3, fun h => wid_val hi (by omega), fun h => by rw [h]; exact top_val, ?_⟩
  have hn := nar_of (k := k) (low := lo) (by rw [← a4]; exact a1) (by rw [← hl]; exact a2)
  rw [← hl, Nat.add_mul, ← a4] at hn
  rw [hn]
  generalize val 52 k = Z at *
  generalize val 52 (wid lo) = X at *
  generalize val 23 hi * 2 ^ flt.U = Y at *
  clear hn a3 a4 h1 h2
  split <;> split <;> omega
end Go.Proofs.YtnhekkahiphlgaaDoor.rl
