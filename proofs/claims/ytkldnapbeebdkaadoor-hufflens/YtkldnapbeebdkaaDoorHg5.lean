/- What Cost answers. -/
import Derived.Test.YtkldnapbeebdkaaDoorFdV
namespace Go.Proofs.YtkldnapbeebdkaaDoor.hg
set_option linter.unusedVariables false
open Go.ChangeShapes Go.WideShapes Go.ChangeAt Go.RowKit
open mem rows
/-- The sum of each number times its bits, in 64 bits. -/
def cw (l D : List Int) : Nat → Int
  | 0 => 0
  | k + 1 => wrap64 (cw l D k + wrap64 (l.getD k 0 * D.getD k 0))
theorem num_k (j : Nat) : Value.int .i64 ((j : Int) + 1) = Value.int .i64 ((j + 1 : Nat) : Int) := by congr 1
theorem meas_k (N j : Nat) (h : j < N) : N - (intOf (Value.int .i64 ((j : Int) + 1))).toNat < N - (intOf (Value.int .i64 (j : Int))).toNat := by
  simp only [intOf]
  omega
theorem Cost_at (p p' : Option Addr) (n c c' : Nat) (l D : List Int) (w : World) (hin : In w p l) (hin' : In w p' D) (hn : n = l.length) (hn' : n = D.length) (hn63 : n ≤ 100000) :
    Calls Tryd.prog 11 #[.slice p n c, .slice p' n c'] w fun e w' => e = .returned (.tuple #[.int .i64 (cw l D n), .nilIface]) ∧ w' = w := by
  have HIN : Hid (In w p l) := hin
  have HIN' : Hid (In w p' D) := hin'
  have HN : Hid (n = l.length ∧ n = D.length) := ⟨hn, hn'⟩
  clear hin hin' hn hn'
  go_enter Tryd.func11, Tryd.ntmps11
  go_wp2
  go_loopw [6, 7, 8, 17] (fun v6 _ _ v17 wr => ∃ (k : Nat) (s : Int), k ≤ n ∧ v17 = .int .i64 (k : Int) ∧ v6 = .int .i64 s ∧ wr = w ∧ Hid (s = cw l D k)) (fun _ _ _ v17 _ => n - (intOf v17).toNat)
  case atStart => exact ⟨0, 0, Nat.zero_le _, rfl, rfl, rfl, rfl⟩
  case round =>
    obtain ⟨k, s, hk, rfl, rfl, hwr, H⟩ := hrel
    subst hwr
    by_cases hlt : k < n
    · have hltz : (k : Int) < n := by omega
      obtain ⟨x, rfl, hc1⟩ := HIN.out.at k (by rw [← HN.out.1]; exact hlt)
      obtain ⟨x', rfl, hc2⟩ := HIN'.out.at k (by rw [← HN.out.2]; exact hlt)
      have HS : Hid (wrap64 (s + wrap64 (l.getD k 0 * D.getD k 0)) = cw l D (k + 1)) := by
        show _ = wrap64 (cw l D k + wrap64 (l.getD k 0 * D.getD k 0))
        rw [H.out]
      generalize l.getD k 0 = z at hc1 HS
      generalize D.getD k 0 = y at hc2 HS
      go_wp2
      go_roundw
      case rel => exact ⟨k + 1, _, hlt, by first | exact num_k k | go_num, rfl, by trivial, HS⟩
      case measure => exact meas_k n k hlt
    · have hltz : ¬ (k : Int) < n := by omega
      obtain rfl : k = n := by omega
      go_wp2
      go_ret2
      exact ⟨by rw [← H.out]; rfl, by trivial⟩
theorem Cost_no (p p' : Option Addr) (n m c c' : Nat) (w : World) (h : n ≠ m) :
    Calls Tryd.prog 11 #[.slice p n c, .slice p' m c'] w fun e w' => e = .returned (.tuple #[.int .i64 0, .iface 23 (.int .i64 1)]) ∧ w' = w := by
  have hz : ((n : Int) == (m : Int)) = false := by rw [beq_eq_false_iff_ne]; omega
  go_enter Tryd.func11, Tryd.ntmps11
  go_wp2
  go_ret2
  exact ⟨rfl, rfl⟩
end Go.Proofs.YtkldnapbeebdkaaDoor.hg
