/- What package suffix answers of a text that is too long, and of no pattern. -/
import Derived.Test.YtnhdaolieifhnaaGreatDoorSy5
namespace Go.Proofs.YtnhdaolieifhnaaGreatDoor.sx
set_option linter.unusedVariables false
open Go.ChangeShapes Go.WideShapes Go.ChangeAt Go.RowKit
open mem rows fd

/-- An Errno as an error. -/
def errI (n : Int) : Value := .iface 32 (.int .i64 n)
theorem Sort_no (s : ByteArray) (w : World) (hs : 4000 < s.size) (hs2 : s.size ≤ 5000) : Calls Tryz.prog 4 #[.string s] w fun e w' => e = .returned (.tuple #[.slice none 0 0, errI 4]) ∧ w' = w := by
  have hz : (4000 : Int) < (s.size : Int) := by omega
  go_enter Tryz.func4, Tryz.ntmps4
  go_wp2
  go_ret2
  exact ⟨rfl, rfl⟩
theorem Common_no (s : ByteArray) (w : World) (hs : 4000 < s.size) (hs2 : s.size ≤ 5000) : Calls Tryz.prog 5 #[.string s] w fun e w' => e = .returned (.tuple #[.slice none 0 0, errI 4]) ∧ w' = w := by
  go_enter Tryz.func5, Tryz.ntmps5
  go_wp2_with (fail)
  refine (Sort_no s w hs hs2).mono ?_
  rintro e w1 ⟨rfl, rfl⟩
  unfold errI
  go_wp2
  go_ret2
  exact ⟨rfl, rfl⟩
theorem Longest_no (s : ByteArray) (w : World) (hs : 4000 < s.size) (hs2 : s.size ≤ 5000) : Calls Tryz.prog 7 #[.string s] w fun e w' => e = .returned (.tuple #[.int .i64 0, .int .i64 0, errI 4]) ∧ w' = w := by
  go_enter Tryz.func7, Tryz.ntmps7
  go_wp2_with (fail)
  refine (Sort_no s w hs hs2).mono ?_
  rintro e w1 ⟨rfl, rfl⟩
  unfold errI
  go_wp2
  go_ret3
  exact ⟨rfl, rfl⟩
theorem Parts_no (s : ByteArray) (w : World) (hs : 4000 < s.size) (hs2 : s.size ≤ 5000) : Calls Tryz.prog 8 #[.string s] w fun e w' => e = .returned (.tuple #[.int .i64 0, errI 4]) ∧ w' = w := by
  go_enter Tryz.func8, Tryz.ntmps8
  go_wp2_with (fail)
  refine (Common_no s w hs hs2).mono ?_
  rintro e w1 ⟨rfl, rfl⟩
  unfold errI
  go_wp2
  go_ret2
  exact ⟨rfl, rfl⟩
theorem Find_arg (s p : ByteArray) (w : World) (h0 : p.size = 0) : Calls Tryz.prog 6 #[.string s, .string p] w fun e w' => e = .returned (.tuple #[.slice none 0 0, errI 1]) ∧ Bl w w' := by
  have hne : p.toList.isEmpty = true := by rw [isEmpty_at]; exact decide_eq_true h0
  clear h0
  go_enter Tryz.func6, Tryz.ntmps6
  go_wp2
  go_ret2
  exact ⟨rfl, ((Bl.refl w).alloc _).alloc _⟩
theorem Find_no (s p : ByteArray) (w : World) (hs : 4000 < s.size) (hs2 : s.size ≤ 5000) (h0 : 0 < p.size) : Calls Tryz.prog 6 #[.string s, .string p] w fun e w' => e = .returned (.tuple #[.slice none 0 0, errI 4]) ∧ Bl w w' := by
  have hne : p.toList.isEmpty = false := by rw [isEmpty_at]; exact decide_eq_false (by omega)
  go_enter Tryz.func6, Tryz.ntmps6
  go_wp2_with (fail)
  refine (Sort_no s _ hs hs2).mono ?_
  rintro e w1 ⟨rfl, rfl⟩
  unfold errI
  go_wp2
  go_ret2
  exact ⟨rfl, (((Bl.refl w).alloc _).alloc _).alloc _⟩
end Go.Proofs.YtnhdaolieifhnaaGreatDoor.sx
