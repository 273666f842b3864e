/- What the given facts' and choosers' functions of the statements' package answer: bitten is true, pick chooses. -/
import Derived.Test.YtfebfnjmehaeiabBits3
namespace Go.Proofs.Ytfebfnjmehaeiab.bitw
open Go.ChangeShapes Go.WideShapes Go.ChangeAt Go.RowKit
open mem bit

theorem get_fact (w : World) : Calls Try.prog 16 #[.string ⟨#[15, 128]⟩, .int .i64 4, .int .i64 5, .int .i64 1] w fun e w' => e = .returned (.tuple #[.int .u64 31, .nilIface]) ∧ Dr w w' := by
  have h := get_any ⟨#[15, 128]⟩ 4 5 true 1 w rfl (by decide) (by decide) (by decide)
  rw [show gN (fun i => tbit ⟨#[15, 128]⟩ true (4 + i)) 5 true = 31 from by decide +kernel] at h
  exact h
theorem put_fact (w : World) : Calls Try.prog 15 #[.string ⟨#[0]⟩, .int .i64 1, .int .i64 2, .int .i64 0, .int .u64 3] w fun e w' => e = .returned (.tuple #[.string ⟨#[6]⟩, .nilIface]) ∧ Bl w w' := by
  have h := put_any ⟨#[0]⟩ 1 2 false 0 3 w rfl (by decide) (by decide) (by decide) (by decide)
  rw [show strOfNums (bytesOf (putG (fun k => tbit ⟨#[0]⟩ false k) 1 2 false 3 2) false (ByteArray.size ⟨#[0]⟩)) = ⟨#[6]⟩ from by decide +kernel] at h
  exact h
theorem count_fact (w : World) : Calls Try.prog 7 #[.string ⟨#[255, 1]⟩] w fun e w' => e = .returned (.int .i64 9) ∧ w' = w := by
  have h := count_any ⟨#[255, 1]⟩ w (by decide)
  rw [show cnt ⟨#[255, 1]⟩ (ByteArray.size ⟨#[255, 1]⟩) = 9 from by decide +kernel] at h
  exact h
theorem turn_fact (w : World) : Calls Try.prog 9 #[.string ⟨#[1]⟩] w fun e w' => e = .returned (.string ⟨#[128]⟩) ∧ Gb w w' := by
  have h := turn_any ⟨#[1]⟩ w (by decide)
  rw [show strOfNums (bytesOf (fun k => tbit ⟨#[1]⟩ false k) true (ByteArray.size ⟨#[1]⟩)) = ⟨#[128]⟩ from by decide +kernel] at h
  exact h
theorem bitten_yes (w : World) : Calls Try.prog 13 #[] w fun e w' => e = .returned (.bool true) ∧ Bl w w' := by
  go_enter Try.func13, Try.ntmps13
  go_wp2_with (first | (go_at_call 16; refine (get_fact _).mono ?_; rintro e w1 ⟨rfl, h1⟩) | (go_at_call 15; refine (put_fact _).mono ?_; rintro e w2 ⟨rfl, h2⟩) | (go_at_call 7; refine (count_fact _).mono ?_; rintro e w3 ⟨rfl, rfl⟩) | (go_at_call 9; refine (turn_fact _).mono ?_; rintro e w4 ⟨rfl, h4⟩))
  go_ret
  exact ⟨rfl, (h1.bl.trans h2).trans h4.bl⟩
/-- One of n that a number stands for. -/
def pickB (a n : Int) : Int := a % 18446744073709551616 % n
theorem pickB_bd (a n : Int) (h : 1 ≤ n) : 0 ≤ pickB a n ∧ pickB a n < n := ⟨Int.emod_nonneg _ (by omega), Int.emod_lt_of_pos _ (by omega)⟩
theorem pick_any (a n : Int) (w : World) (h1 : 1 ≤ n) (h2 : n ≤ 1000000) : Calls Try.prog 14 #[.int .i64 a, .int .i64 n] w fun e w' => e = .returned (.int .i64 (pickB a n)) ∧ w' = w := by
  have hb := pickB_bd a n h1
  go_enter Try.func14, Try.ntmps14
  go_wp2
  go_ret
  refine ⟨ret_int ?_, rfl⟩
  rw [IntKind.wrap_u64, Int.tmod_eq_emod_of_nonneg (by omega)]
  show wrap64 (pickB a n) = _
  unfold wrap64; omega
end Go.Proofs.Ytfebfnjmehaeiab.bitw
