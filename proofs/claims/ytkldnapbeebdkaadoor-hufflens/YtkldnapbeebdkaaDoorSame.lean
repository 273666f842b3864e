/- What sameInts of the laws answers of two rows that are alike. -/
import Derived.Test.YtkldnapbeebdkaaDoorIntRow
import Derived.Deep.QuietTactic
namespace Go.Proofs.YtkldnapbeebdkaaDoor.rows
set_option linter.unusedVariables false
open Go.ChangeShapes Go.WideShapes Go.ChangeAt Go.RowKit
open mem

theorem same_at (a b : Value) (l : List Int) (w : World) (base base' : Nat) (ha : Own w base a l) (hb : Own w base' b l) (hl : l.length ≤ 5000) :
    Calls Tryd.prog 10 #[a, b] w fun e w' => e = .returned (.bool true) ∧ Bl w w' := by
  rcases Nat.eq_zero_or_pos l.length with h0 | h0
  · have hz : ∃ p c p' c', a = .slice p 0 c ∧ b = .slice p' 0 c' := by
      rcases ha.shape with ⟨e, _⟩ | ⟨g, cap, e, _⟩ <;> rcases hb.shape with ⟨e', _⟩ | ⟨g', cap', e', _⟩
      all_goals (rw [e, e']; (try rw [h0]); exact ⟨_, _, _, _, rfl, rfl⟩)
    obtain ⟨p, c, p', c', rfl, rfl⟩ := hz
    go_enter Tryd.func10, Tryd.ntmps10
    go_wp2
    go_loopw [5] (fun i wr => i = .int .i64 0 ∧ wr = w) (fun _ _ => 0)
    case atStart => exact ⟨rfl, rfl⟩
    case round =>
      obtain ⟨rfl, rfl⟩ := hrel
      go_wp2
      go_ret
      exact ⟨rfl, Bl.refl _⟩
  · have hn : l ≠ [] := by intro e; rw [e] at h0; exact absurd h0 (by decide)
    rcases ha.shape with ⟨_, e⟩ | ⟨g, cap, rfl, _, _, _, _, hca⟩
    · exact absurd e hn
    rcases hb.shape with ⟨_, e⟩ | ⟨g', cap', rfl, _, _, _, _, hcb⟩
    · exact absurd e hn
    obtain ⟨m, hm⟩ : ∃ m, m = l.length := ⟨_, rfl⟩
    rw [← hm] at hca hcb hl h0 ⊢
    clear hm ha hb hn
    have HA : Hid _ := hca
    have HB : Hid _ := hcb
    clear hca hcb
    go_enter Tryd.func10, Tryd.ntmps10
    go_wp2
    go_loopw [5] (fun i wr => ∃ k : Nat, k ≤ m ∧ i = .int .i64 (k : Int) ∧ Dr w wr) (fun i _ => m - (intOf i).toNat)
    case atStart => exact ⟨0, Nat.zero_le _, rfl, Dr.refl _⟩
    case round =>
      obtain ⟨k, hk, rfl, hd⟩ := hrel
      by_cases hlt : k < m
      · obtain ⟨q, rfl⟩ := hd
        have hc1 : (w.drewN q).cell? ⟨g, k, none⟩ = some (.int .i64 (l.getD k 0)) := HA.out k hlt
        have hc2 : (w.drewN q).cell? ⟨g', k, none⟩ = some (.int .i64 (l.getD k 0)) := HB.out k hlt
        generalize l.getD k 0 = z at hc1 hc2
        generalize hwq : w.drewN q = wq at hc1 hc2 ⊢
        have hlz : (k : Int) < (m : Int) := by omega
        have HW : Hid (w.drewN q = wq) := hwq
        clear hwq
        go_wp2
        go_quiet (fail)
        go_wp2
        go_roundw
        case rel => exact ⟨k + 1, by omega, by go_num, by rw [← HW.out]; exact Dr.drewN _ ⟨q, rfl⟩⟩
        case measure => simp [intOf]; omega
      · obtain rfl : k = m := by omega
        go_wp2
        go_ret
        exact ⟨rfl, hd.bl⟩
end Go.Proofs.YtkldnapbeebdkaaDoor.rows
