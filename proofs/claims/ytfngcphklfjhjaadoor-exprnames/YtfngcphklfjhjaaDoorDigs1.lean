/- What Digit and Print of package digits answer. -/
import Derived.Test.YtfngcphklfjhjaaDoorRows
import Derived.Test.YtfngcphklfjhjaaDoorMem
import Derived.Test.YtfngcphklfjhjaaDoorDig
import Derived.WalkLawsBesides
namespace Go.Proofs.YtfngcphklfjhjaaDoor.digs
open Go.ChangeShapes Go.WideShapes Go.ChangeAt Go.RowKit
open mem dig

theorem ret_int {k : IntKind} {a b : Int} (h : a = b) : Ending.returned (.int k a) = .returned (.int k b) := by rw [h]
/-- Is it a base of digits? -/
def okB (b : Int) : Prop := 2 ≤ b ∧ b ≤ 16
theorem known_yes (b : Int) (w : World) (h : okB b) : Calls Tryd.prog 87 #[.int .i64 b] w fun e w' => e = .returned (.bool true) ∧ w' = w := by
  obtain ⟨h1, h2⟩ := h
  go_enter Tryd.func87, Tryd.ntmps87
  go_wp2
  go_ret
  exact ⟨by simp, rfl⟩
theorem known_no (b : Int) (w : World) (h : ¬ okB b) : Calls Tryd.prog 87 #[.int .i64 b] w fun e w' => e = .returned (.bool false) ∧ w' = w := by
  have h' : b < 2 ∨ 16 < b := by unfold okB at h; omega
  clear h
  rcases h' with h | h
  · go_enter Tryd.func87, Tryd.ntmps87
    go_wp2
    go_ret
    exact ⟨rfl, rfl⟩
  · have hd : decide (b ≤ 16) = false := by simp; omega
    go_enter Tryd.func87, Tryd.ntmps87
    go_wp2
    go_ret
    exact ⟨rfl, rfl⟩
theorem Digit_at (c : Int) (w : World) (h0 : 0 ≤ c) (h1 : c < 256) : Calls Tryd.prog 94 #[.int .u8 c] w fun e w' => e = .returned (.int .i64 (dv c)) ∧ w' = w := by
  go_enter Tryd.func94, Tryd.ntmps94
  go_wp2
  all_goals go_ret
  all_goals exact ⟨ret_int (by unfold dv; (repeat' split) <;> omega), rfl⟩
end Go.Proofs.YtfngcphklfjhjaaDoor.digs
