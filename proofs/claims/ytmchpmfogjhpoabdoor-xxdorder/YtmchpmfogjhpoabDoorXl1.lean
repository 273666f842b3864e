/- What pair of package xxd answers, and put, where a line can be read. -/
import Derived.Test.YtmchpmfogjhpoabDoorBld
import Derived.Test.YtmchpmfogjhpoabDoorDigs1
namespace Go.Proofs.YtmchpmfogjhpoabDoor.xl
set_option linter.unusedVariables false
open Go.ChangeShapes Go.WideShapes Go.ChangeAt Go.RowKit Go.Shelf
open mem rows bld
open dig (dv)
open digs (Digit_at)

theorem or16 (h d : Nat) (hh : h < 16) (hd : d < 16) : bits .or .i64 ((h : Int) * 16) (d : Int) = ((h * 16 + d : Nat) : Int) := by
  have : ∀ h : Fin 16, ∀ d : Fin 16, bits .or .i64 ((h.1 : Int) * 16) ((d.1 : Nat) : Int) = ((h.1 * 16 + d.1 : Nat) : Int) := by decide
  exact this ⟨h, hh⟩ ⟨d, hd⟩
theorem dv_bd (c : Int) : dv c < 16 := by
  unfold dv
  (repeat' split) <;> omega
set_option maxRecDepth 10000 in
theorem pair_at (x : ByteArray) (h l : Nat) (w : World) (hs : 2 ≤ x.size) (hs2 : x.size ≤ 100000) (h0 : dv (sb x 0) = (h : Int)) (h1 : dv (sb x 1) = (l : Int)) :
    Calls Tryd.prog 44 #[.string x] w fun e w' => e = .returned (.int .i64 ((h * 16 + l : Nat) : Int)) ∧ Dr w w' := by
  have b0 := sb_bd x 0
  have b1 := sb_bd x 1
  have c0 := fun w => Digit_at (sb x 0) w b0.1 b0.2
  have c1 := fun w => Digit_at (sb x 1) w b1.1 b1.2
  have e0 := (sb_get x 0 (by omega)).symm
  have e1 := (sb_get x 1 (by omega)).symm
  have hh := dv_bd (sb x 0)
  have hl := dv_bd (sb x 1)
  rw [h0] at c0 hh
  rw [h1] at c1 hl
  have hor := or16 h l (by omega) (by omega)
  have z1 : ¬ (x.size : Int) < 2 := by omega
  have z2 : ¬ (h : Int) < 0 := by omega
  have z3 : ¬ (l : Int) < 0 := by omega
  have z4 : decide ((h : Int) < 0) = false := decide_eq_false z2
  have z5 : decide ((l : Int) < 0) = false := decide_eq_false z3
  have d0 : (0 : Int) < x.size := by omega
  have d1 : (1 : Int) < x.size := by omega
  have d2 : 0 < x.size := by omega
  have d3 : 1 < x.size := by omega
  have hw1 : IntKind.i64.wrap ((h : Int) * 16) = (h : Int) * 16 := by rw [IntKind.wrap_i64]; omega
  clear h0 h1
  generalize sb x 0 = y0 at *
  generalize sb x 1 = y1 at *
  go_enter Tryd.func44, Tryd.ntmps44
  go_wp2
  go_quiet (first
    | (go_at_call_of 52 y0; exact Calls.quiet_of_same (c0 _))
    | (go_at_call_of 52 y1; exact Calls.quiet_of_same (c1 _)))
  go_wp2
  go_ret
  exact ⟨ret_int (by first | rfl | exact hor), Dr.drewN _ (Dr.refl _)⟩
end Go.Proofs.YtmchpmfogjhpoabDoor.xl
