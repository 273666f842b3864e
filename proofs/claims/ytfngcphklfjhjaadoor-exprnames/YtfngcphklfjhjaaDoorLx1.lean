/- letter, digit, lineEnd and begin of package lex. -/
import Derived.Test.YtfngcphklfjhjaaDoorLxV
import Derived.WalkLawsBesides
import Derived.Shelf.Small.Strs
namespace Go.Proofs.YtfngcphklfjhjaaDoor.lx
set_option linter.unusedVariables false
open Go.ChangeShapes Go.WideShapes Go.ChangeAt Go.RowKit
open mem

theorem ret_bool {a b : Bool} (h : a = b) : Ending.returned (.bool a) = .returned (.bool b) := by rw [h]
theorem letter_at (x : Int) (w : World) : Calls Tryd.prog 32 #[.int .u8 x] w fun e w' => e = .returned (.bool (lt x)) ∧ w' = w := by
  go_enter Tryd.func32, Tryd.ntmps32
  go_wp2
  all_goals
    go_ret
    refine ⟨ret_bool ?_, rfl⟩
    rw [Bool.eq_iff_iff]
    simp [lt]
    try omega
theorem digit_at (x : Int) (w : World) : Calls Tryd.prog 62 #[.int .u8 x] w fun e w' => e = .returned (.bool (dg x)) ∧ w' = w := by
  go_enter Tryd.func62, Tryd.ntmps62
  go_wp2
  all_goals
    go_ret
    refine ⟨ret_bool ?_, rfl⟩
    rw [Bool.eq_iff_iff]
    simp [dg]
    try omega
theorem L_get (s : ByteArray) (i : Nat) (h : i < s.size) : (L s)[i]? = some (s[i]'h) := by
  have h' : i < (L s).length := by rw [L_len]; exact h
  rw [List.getElem?_eq_getElem h']
  rfl
theorem beq_sb (s : ByteArray) (i : Nat) (h : i < s.size) (c : UInt8) : ((((s[i]'h).toNat : Nat) : Int) == (c.toNat : Int)) = ((s[i]'h) == c) := by
  rw [Bool.eq_iff_iff, beq_iff_eq, beq_iff_eq]
  constructor
  · intro h; exact UInt8.toNat_inj.1 (by omega)
  · intro h; rw [h]
end Go.Proofs.YtfngcphklfjhjaaDoor.lx
