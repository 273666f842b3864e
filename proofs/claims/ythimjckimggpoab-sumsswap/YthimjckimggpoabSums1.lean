/- What Fletcher and Adler of package sums answer. -/
import Derived.Test.YthimjckimggpoabRows
import Derived.Test.YthimjckimggpoabMem
import Derived.Test.YthimjckimggpoabTwo
import Derived.WalkLawsBesides
import Derived.WalkSpells
namespace Go.Proofs.Ythimjckimggpoab.sums
open Go.ChangeShapes Go.WideShapes Go.ChangeAt Go.RowKit
open mem bit two

theorem run_byte {P : Program} {t : TypeId} (s : ByteArray) (j : Nat) (J : Int) (hJ : J = j) (hj : j < s.size) (h : P.underlying t = some .string) (w : World) :
    (Instr.index t (.string s) (.int .i64 J)).run P w = .ok (.int .u8 (byteN s j : Nat)) w := by
  subst hJ
  rw [run_index_string _ _ _ _ _ h, byteN_get s j hj]
  simp [hj]
theorem twofold_at (s : ByteArray) (a M : Nat) (w : World) (hs : s.size ≤ 140737488351232) (ha : a < M) (hM : M ≤ 65521) :
    Calls Try.prog 11 #[.string s, .int .u32 a, .int .u32 M] w fun e w' => e = .returned (.tuple #[.int .u32 (fa s a M s.size : Nat), .int .u32 (fb s a M s.size : Nat)]) ∧ w' = w := by
  go_enter Try.func11, Try.ntmps11
  go_wp2
  go_loop [1, 8, 12] (fun x y i => ∃ k : Nat, k ≤ s.size ∧ i = .int .i64 (k : Int) ∧ x = .int .u32 (fa s a M k : Nat) ∧ y = .int .u32 (fb s a M k : Nat)) (fun _ _ i => s.size - (intOf i).toNat)
  case atStart => exact ⟨0, Nat.zero_le _, rfl, rfl, rfl⟩
  case round =>
    obtain ⟨k, hk, rfl, rfl, rfl⟩ := hrel
    have h1 := fa_lt s a M k ha
    have h2 := fb_lt s a M k (by omega)
    have h3 := fa_lt s a M (k + 1) ha
    by_cases hlt : k < s.size
    · have hix := run_byte (P := Try.prog) s k (k : Int) rfl hlt Try.underlying9
      have hb := byteN_lt s k
      have HA : Hid (((fa s a M k : Int) + (byteN s k : Int)) % (M : Int) = (fa s a M (k + 1) : Nat)) := by
        show _ = _
        rw [fa, Int.natCast_emod, Int.natCast_add]
      have HB : Hid (((fb s a M k : Int) + (fa s a M (k + 1) : Int)) % (M : Int) = (fb s a M (k + 1) : Nat)) := by
        show _ = _
        rw [fb, Int.natCast_emod, Int.natCast_add]
      go_wp2
      go_round
      case rel => exact ⟨k + 1, by omega, by go_num, congrArg (Value.int IntKind.u32) HA.out, congrArg (Value.int IntKind.u32) (by rw [HA.out, ← HB.out]; congr 1; omega)⟩
      case measure => simp [intOf]; omega
    · obtain rfl : k = s.size := by omega
      go_wp2
      go_ret2
      exact ⟨rfl, rfl⟩
theorem Fletcher_at (s : ByteArray) (w : World) (hs : s.size ≤ 140737488351232) :
    Calls Try.prog 7 #[.string s] w fun e w' => e = .returned (.int .u32 (fb s 0 255 s.size * 256 + fa s 0 255 s.size : Nat)) ∧ w' = w := by
  have h1 := fa_lt s 0 255 s.size (by decide)
  have h2 := fb_lt s 0 255 s.size (by decide)
  go_enter Try.func7, Try.ntmps7
  go_wp2_with (go_at_call 11; refine (twofold_at s 0 255 _ (by omega) (by decide) (by decide)).mono ?_; rintro e w1 ⟨rfl, rfl⟩)
  go_ret
  refine ⟨ret_int ?_, rfl⟩
  rw [show ((fb s 0 255 s.size : Int) * 256) = ((fb s 0 255 s.size * 256 : Nat) : Int) by omega, u32_or_nat _ _ (by omega) (by omega), nat_join 8 _ _ (by omega) (by omega)]
theorem Adler_at (s : ByteArray) (w : World) (hs : s.size ≤ 140737488351232) :
    Calls Try.prog 6 #[.string s] w fun e w' => e = .returned (.int .u32 (fb s 1 65521 s.size * 65536 + fa s 1 65521 s.size : Nat)) ∧ w' = w := by
  have h1 := fa_lt s 1 65521 s.size (by decide)
  have h2 := fb_lt s 1 65521 s.size (by decide)
  go_enter Try.func6, Try.ntmps6
  go_wp2_with (go_at_call 11; refine (twofold_at s 1 65521 _ (by omega) (by decide) (by decide)).mono ?_; rintro e w1 ⟨rfl, rfl⟩)
  go_ret
  refine ⟨ret_int ?_, rfl⟩
  rw [show ((fb s 1 65521 s.size : Int) * 65536) = ((fb s 1 65521 s.size * 65536 : Nat) : Int) by omega, u32_or_nat _ _ (by omega) (by omega), nat_join 16 _ _ (by omega) (by omega)]
end Go.Proofs.Ythimjckimggpoab.sums
