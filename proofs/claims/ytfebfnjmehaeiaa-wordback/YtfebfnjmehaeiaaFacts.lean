/- What the given facts' and choosers' functions of the statements' package answer: worded is true, pick and wide choose. -/
import Derived.Test.YtfebfnjmehaeiaaWords
import Derived.WalkLawsBesides
namespace Go.Proofs.Ytfebfnjmehaeiaa.facts
open Go.ChangeShapes Go.WideShapes Go.ChangeAt Go.RowKit
open mem words

theorem put_fact (w : World) : Calls Try.prog 16 #[.int .u64 4660, .int .i64 2, .int .i64 1] w fun e w' => e = .returned (.tuple #[.string ⟨#[18, 52]⟩, .nilIface]) ∧ Gb w w' := by
  have h := put_any 4660 2 true w (by decide)
  rw [show strOfNums (putL 4660 2 true 2) = ⟨#[18, 52]⟩ from by decide +kernel] at h
  exact h
theorem get_fact (w : World) : Calls Try.prog 17 #[.string ⟨#[120, 52, 18]⟩, .int .i64 1, .int .i64 2, .int .i64 0] w fun e w' => e = .returned (.tuple #[.int .u64 4660, .nilIface]) ∧ w' = w := by
  have h := get_any ⟨#[120, 52, 18]⟩ 1 2 false 0 w rfl (by decide) (by decide) (by decide)
  rw [show gv (fun i => sb ⟨#[120, 52, 18]⟩ (1 + pl 2 false i)) 2 = 4660 from by decide +kernel] at h
  exact h
theorem sig_fact (w : World) : Calls Try.prog 7 #[.int .u64 255, .int .i64 1] w fun e w' => e = .returned (.int .i64 (-1)) ∧ w' = w := by
  have h := signs.sig_any 255 1 (by decide) (by decide) w
  rw [show signs.sigB 255 1 = -1 from by decide +kernel] at h
  exact h
theorem fits_fact (w : World) : Calls Try.prog 11 #[.int .i64 255, .int .i64 1, .bool false] w fun e w' => e = .returned (.bool true) ∧ w' = w := by
  have h := signs.fits_any 255 1 false w (by decide)
  rw [show signs.fitsB 255 1 false = true from by decide +kernel] at h
  exact h
theorem worded_yes (w : World) : Calls Try.prog 13 #[] w fun e w' => e = .returned (.bool true) ∧ Gb w w' := by
  go_enter Try.func13, Try.ntmps13
  go_wp2_with (first | (go_at_call 16; refine (put_fact _).mono ?_; rintro e w1 ⟨rfl, hgb⟩) | (go_at_call 17; refine (get_fact _).mono ?_; rintro e w2 ⟨rfl, rfl⟩) | (go_at_call 7; refine (sig_fact _).mono ?_; rintro e w3 ⟨rfl, rfl⟩) | (go_at_call 11; refine (fits_fact _).mono ?_; rintro e w4 ⟨rfl, rfl⟩))
  go_ret
  exact ⟨rfl, hgb⟩
/-- One of n that a number stands for. -/
def pickB (a n : Int) : Int := a % 18446744073709551616 % n
theorem pickB_bd (a n : Int) (h : 1 ≤ n) : 0 ≤ pickB a n ∧ pickB a n < n := ⟨Int.emod_nonneg _ (by omega), Int.emod_lt_of_pos _ (by omega)⟩
theorem pick_any (a n : Int) (w : World) (h1 : 1 ≤ n) (h2 : n ≤ 1000000) : Calls Try.prog 15 #[.int .i64 a, .int .i64 n] w fun e w' => e = .returned (.int .i64 (pickB a n)) ∧ w' = w := by
  have hb := pickB_bd a n h1
  go_enter Try.func15, Try.ntmps15
  go_wp2
  go_ret
  refine ⟨signs.ret_int ?_, rfl⟩
  rw [IntKind.wrap_u64, Int.tmod_eq_emod_of_nonneg (by omega)]
  show wrap64 (pickB a n) = _
  unfold wrap64; omega
/-- One of 1, 2, 4, 8. -/
def wideN (a : Int) : Nat := 2 ^ (pickB a 4).toNat
theorem wideN_one (a : Int) : (wideN a : Int) = 1 ∨ (wideN a : Int) = 2 ∨ (wideN a : Int) = 4 ∨ (wideN a : Int) = 8 := by
  have hb := pickB_bd a 4 (by decide)
  unfold wideN
  rcases (show pickB a 4 = 0 ∨ pickB a 4 = 1 ∨ pickB a 4 = 2 ∨ pickB a 4 = 3 by omega) with h | h | h | h <;> rw [h] <;> decide
theorem wide_any (a : Int) (w : World) : Calls Try.prog 14 #[.int .i64 a] w fun e w' => e = .returned (.int .i64 (wideN a)) ∧ w' = w := by
  have hb := pickB_bd a 4 (by decide)
  go_enter Try.func14, Try.ntmps14
  go_wp2_with (first | (go_at_call 15; refine (pick_any _ _ _ (by decide) (by decide)).mono ?_; rintro e w1 ⟨rfl, rfl⟩))
  go_ret
  refine ⟨signs.ret_int ?_, rfl⟩
  unfold wideN
  rcases (show pickB a 4 = 0 ∨ pickB a 4 = 1 ∨ pickB a 4 = 2 ∨ pickB a 4 = 3 by omega) with h | h | h | h <;> rw [h] <;> decide +kernel
end Go.Proofs.Ytfebfnjmehaeiaa.facts
