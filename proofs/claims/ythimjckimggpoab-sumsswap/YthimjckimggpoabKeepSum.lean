/- What the helpers of the laws on sums answer: pick, made, of, crc, summed. -/
import Derived.Test.YthimjckimggpoabSums5
namespace Go.Proofs.Ythimjckimggpoab.sums
open Go.ChangeShapes Go.WideShapes Go.ChangeAt Go.RowKit
open mem bit crc two
attribute [local go_sem] World.cell?_alloc_some

def pickB (a n : Int) : Int := a % 18446744073709551616 % n
theorem pickB_bd (a n : Int) (h : 1 ≤ n) : 0 ≤ pickB a n ∧ pickB a n < n := ⟨Int.emod_nonneg _ (by omega), Int.emod_lt_of_pos _ (by omega)⟩
theorem pick_any (a n : Int) (w : World) (h1 : 1 ≤ n) (h2 : n ≤ 1000000) : Calls Try.prog 5 #[.int .i64 a, .int .i64 n] w fun e w' => e = .returned (.int .i64 (pickB a n)) ∧ w' = w := by
  have hb := pickB_bd a n h1
  go_enter Try.func5, Try.ntmps5
  go_wp2
  go_ret
  refine ⟨ret_int ?_, rfl⟩
  rw [IntKind.wrap_u64, Int.tmod_eq_emod_of_nonneg (by omega)]
  show wrap64 (pickB a n) = _
  unfold wrap64; omega
theorem pick_nat (a n : Int) (h1 : 1 ≤ n) : ∃ p : Nat, pickB a n = p ∧ (p : Int) < n := by
  have h := pickB_bd a n h1
  exact ⟨(pickB a n).toNat, by omega, by omega⟩
theorem crc_keep (w : World) : Calls Try.prog 9 #[] w fun e w' => e = .returned (.agg #[.int .i64 32, .int .u32 79764919, .bool true, .int .u32 4294967295, .int .u32 4294967295]) ∧ Gb w w' := by
  go_enter Try.func9, Try.ntmps9
  go_wp2
  refine bodyPost_ret (v := .agg #[.int .i64 32, .int .u32 79764919, .bool true, .int .u32 4294967295, .int .u32 4294967295]) (by simp [results, Try.f9, go_sem]) rfl ⟨rfl, (Gb.refl _).alloc _ _⟩
theorem known1 : crcV ⟨#[49, 50, 51, 52, 53, 54, 55, 56, 57]⟩ = 3421780262 := by decide +kernel
theorem known2 : fb ⟨#[87, 105, 107, 105, 112, 101, 100, 105, 97]⟩ 1 65521 9 * 65536 + fa ⟨#[87, 105, 107, 105, 112, 101, 100, 105, 97]⟩ 1 65521 9 = 300286872 := by decide +kernel
theorem known3 : fb ⟨#[97, 98, 99, 100, 101]⟩ 0 255 5 * 256 + fa ⟨#[97, 98, 99, 100, 101]⟩ 0 255 5 = 51440 := by decide +kernel
theorem summed_yes (w : World) : Calls Try.prog 4 #[] w fun e w' => e = .returned (.bool true) ∧ Gb w w' := by
  have y1 : ∀ w, Calls Try.prog 8 #[.agg #[.int .i64 32, .int .u32 79764919, .bool true, .int .u32 4294967295, .int .u32 4294967295], .string ⟨#[49, 50, 51, 52, 53, 54, 55, 56, 57]⟩] w fun e w' => e = .returned (.tuple #[.int .u32 3421780262, .nilIface]) ∧ Gb w w' := fun w => by
    have := OfC ⟨#[49, 50, 51, 52, 53, 54, 55, 56, 57]⟩ w (by decide)
    rw [known1] at this; exact this
  have y2 : ∀ w, Calls Try.prog 10 #[.string ⟨#[49, 50, 51, 52, 53, 54, 55, 56, 57]⟩] w fun e w' => e = .returned (.int .u32 3421780262) ∧ Gb w w' := fun w => by
    have := Crc_at ⟨#[49, 50, 51, 52, 53, 54, 55, 56, 57]⟩ w (by decide)
    rw [known1] at this; exact this
  have y3 : ∀ w, Calls Try.prog 6 #[.string ⟨#[87, 105, 107, 105, 112, 101, 100, 105, 97]⟩] w fun e w' => e = .returned (.int .u32 300286872) ∧ w' = w := fun w => by
    have := Adler_at ⟨#[87, 105, 107, 105, 112, 101, 100, 105, 97]⟩ w (by decide)
    rw [show (⟨#[87, 105, 107, 105, 112, 101, 100, 105, 97]⟩ : ByteArray).size = 9 from rfl, known2] at this; exact this
  have y4 : ∀ w, Calls Try.prog 7 #[.string ⟨#[97, 98, 99, 100, 101]⟩] w fun e w' => e = .returned (.int .u32 51440) ∧ w' = w := fun w => by
    have := Fletcher_at ⟨#[97, 98, 99, 100, 101]⟩ w (by decide)
    rw [show (⟨#[97, 98, 99, 100, 101]⟩ : ByteArray).size = 5 from rfl, known3] at this; exact this
  go_enter Try.func4, Try.ntmps4
  go_wp2_with (first | (go_at_call 9; refine (crc_keep _).mono ?_; rintro e v0 ⟨rfl, g0⟩) | (go_at_call 8; refine (y1 _).mono ?_; rintro e v1 ⟨rfl, g1⟩) | (go_at_call 10; refine (y2 _).mono ?_; rintro e v2 ⟨rfl, g2⟩) | (go_at_call 6; refine (y3 _).mono ?_; rintro e v3 ⟨rfl, rfl⟩) | (go_at_call 7; refine (y4 _).mono ?_; rintro e v4 ⟨rfl, rfl⟩))
  go_ret
  exact ⟨rfl, g0.trans (g1.trans g2)⟩
end Go.Proofs.Ythimjckimggpoab.sums
