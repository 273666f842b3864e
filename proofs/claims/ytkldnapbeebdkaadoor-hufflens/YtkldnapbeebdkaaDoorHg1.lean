/- Why there are no signs of some lengths. -/
import Derived.Test.YtkldnapbeebdkaaDoorFdV
namespace Go.Proofs.YtkldnapbeebdkaaDoor.hg
set_option linter.unusedVariables false
open Go.ChangeShapes Go.WideShapes Go.ChangeAt Go.RowKit
open mem rows
/-- The room that a sign takes. -/
def rm (z : Int) : Int := 2 ^ (24 - z.toNat)
def tk (l : List Int) : Nat → Int
  | 0 => 0
  | k + 1 => tk l k + (if 0 < l.getD k 0 then rm (l.getD k 0) else 0)
def okS (l : List Int) (k : Nat) : Prop := ∀ i, i < k → 0 ≤ l.getD i 0 ∧ l.getD i 0 ≤ 24
theorem rm_bd (z : Int) : 0 < rm z ∧ rm z ≤ 16777216 := by
  unfold rm
  refine ⟨Int.pow_pos (by decide), ?_⟩
  have h : (2 : Nat) ^ (24 - z.toNat) ≤ 2 ^ 24 := Nat.pow_le_pow_right (by decide) (Nat.sub_le _ _)
  have h2 : ((2 ^ (24 - z.toNat) : Nat) : Int) ≤ ((2 ^ 24 : Nat) : Int) := by exact_mod_cast h
  simpa using h2
theorem tk_bd (l : List Int) : ∀ k, 0 ≤ tk l k ∧ tk l k ≤ 16777216 * (k : Int)
  | 0 => by simp [tk]
  | k + 1 => by
    have := tk_bd l k
    have := rm_bd (l.getD k 0)
    unfold tk
    split <;> omega
theorem sh_is (z : Int) (h : 0 ≤ z) : wrap64 (2 ^ (24 - z).toNat) = rm z := by
  have e : (24 - z).toNat = 24 - z.toNat := by omega
  rw [e]
  show wrap64 (rm z) = rm z
  have := rm_bd z
  unfold wrap64
  omega
/-- What noSigns answers. -/
def NoS (l : List Int) (n : Nat) (e : Ending) : Prop :=
  (256 < n ∧ e = .returned (.iface 23 (.int .i64 4))) ∨ (n ≤ 256 ∧ ¬ okS l n ∧ e = .returned (.iface 23 (.int .i64 2))) ∨
  (n ≤ 256 ∧ okS l n ∧ 16777216 < tk l n ∧ e = .returned (.iface 23 (.int .i64 12))) ∨ (n ≤ 256 ∧ okS l n ∧ tk l n ≤ 16777216 ∧ e = .returned .nilIface)
set_option maxHeartbeats 1000000 in
theorem noSigns_at (p : Option Addr) (n c : Nat) (l : List Int) (w : World) (hin : In w p l) (hn : n = l.length) (hn63 : n ≤ 9223372036854775807) :
    Calls Tryd.prog 27 #[.slice p n c] w fun e w' => NoS l n e ∧ w' = w := by
  have HIN : Hid (In w p l) := hin
  have HN : Hid (n = l.length) := hn
  clear hin hn
  by_cases hbig : 256 < n
  · have hbz : (256 : Int) < n := by omega
    go_enter Tryd.func27, Tryd.ntmps27
    go_wp2
    go_ret
    exact ⟨Or.inl ⟨hbig, rfl⟩, rfl⟩
  have hbz : ¬ (256 : Int) < n := by omega
  go_enter Tryd.func27, Tryd.ntmps27
  go_wp2
  go_loopw [3, 5, 12] (fun v _ i wr => ∃ (k : Nat) (s : Int), k ≤ n ∧ i = .int .i64 (k : Int) ∧ v = .int .i64 s ∧ 0 ≤ s ∧ s ≤ 4294967296 ∧ wr = w ∧ Hid (s = tk l k ∧ okS l k)) (fun _ _ i _ => n - (intOf i).toNat)
  case atStart => exact ⟨0, 0, Nat.zero_le _, rfl, rfl, by omega, by omega, rfl, ⟨rfl, fun i hi => absurd hi (Nat.not_lt_zero _)⟩⟩
  case round =>
    obtain ⟨k, s, hk, rfl, rfl, hs0, hs1, hwr, H⟩ := hrel
    subst hwr
    by_cases hlt : k < n
    · have hltz : (k : Int) < n := by omega
      obtain ⟨x, rfl, hcell⟩ := HIN.out.at k (by rw [← HN.out]; exact hlt)
      obtain ⟨z, hz⟩ : ∃ z, z = l.getD k 0 := ⟨_, rfl⟩
      rw [← hz] at hcell
      have HZ : Hid (z = l.getD k 0) := hz
      clear hz
      by_cases hneg : z < 0
      · go_wp2
        go_ret
        exact ⟨Or.inr (Or.inl ⟨by omega, fun h => by have := h k hlt; rw [← HZ.out] at this; omega, rfl⟩), by trivial⟩
      · by_cases hgt : 24 < z
        · go_wp2
          go_ret
          exact ⟨Or.inr (Or.inl ⟨by omega, fun h => by have := h k hlt; rw [← HZ.out] at this; omega, rfl⟩), by trivial⟩
        · have HOK : Hid (okS l (k + 1)) := fun i hi => by
            by_cases h : i < k
            · exact H.out.2 i h
            · obtain rfl : i = k := by omega
              rw [← HZ.out]
              omega
          have hb := tk_bd l (k + 1)
          by_cases hpos : 0 < z
          · have hrm := rm_bd z
            have HT : Hid (s + rm z = tk l (k + 1)) := by
              show s + rm z = tk l k + (if 0 < l.getD k 0 then rm (l.getD k 0) else 0)
              rw [← HZ.out, if_pos hpos, H.out.1]
            have hsh : wrap64 (2 ^ (24 - z).toNat) = rm z := sh_is z (by omega)
            rw [← HT.out] at hb
            have hsw : wrap64 (s + rm z) = s + rm z := by unfold wrap64; omega
            generalize rm z = r at hsh hsw hrm hb HT
            go_wp2
            go_roundw
            case rel => exact ⟨k + 1, s + r, hlt, by go_num, rfl, by omega, by omega, by trivial, ⟨HT.out, HOK.out⟩⟩
            case measure => simp [intOf]; omega
          · have HT : Hid (s = tk l (k + 1)) := by
              show s = tk l k + (if 0 < l.getD k 0 then rm (l.getD k 0) else 0)
              rw [← HZ.out, if_neg hpos, H.out.1]
              omega
            go_wp2
            go_roundw
            case rel => exact ⟨k + 1, s, hlt, by go_num, rfl, hs0, hs1, by trivial, ⟨HT.out, HOK.out⟩⟩
            case measure => simp [intOf]; omega
    · have hltz : ¬ (k : Int) < n := by omega
      obtain rfl : k = n := by omega
      by_cases hfull : 16777216 < s
      · go_wp2
        go_ret
        exact ⟨Or.inr (Or.inr (Or.inl ⟨by omega, H.out.2, by rw [← H.out.1]; exact hfull, rfl⟩)), by trivial⟩
      · go_wp2
        go_ret
        exact ⟨Or.inr (Or.inr (Or.inr ⟨by omega, H.out.2, by rw [← H.out.1]; omega, rfl⟩)), by trivial⟩
end Go.Proofs.YtkldnapbeebdkaaDoor.hg
