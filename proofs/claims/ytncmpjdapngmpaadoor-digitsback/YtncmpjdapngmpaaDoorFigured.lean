/- What figured and pick answer. -/
import Derived.Test.YtncmpjdapngmpaaDoorDigs3
import Derived.Test.YtncmpjdapngmpaaDoorDigs5
import Derived.Test.YtncmpjdapngmpaaDoorBare
namespace Go.Proofs.YtncmpjdapngmpaaDoor.digs
open Go.ChangeShapes Go.WideShapes Go.ChangeAt Go.RowKit
open mem dig errs

theorem fig1 : ∃ S : ByteArray, (S.toList == [48, 48, 102, 102]) = true ∧ ∀ w, Calls Tryd.prog 10 #[.int .u64 255, .int .i64 16, .int .i64 4] w fun e w' => e = .returned (.tuple #[.string S, .nilIface]) ∧ Gb w w' :=
  ⟨strOfNums (pr 16 255 4), by rw [ByteArray.toList_eq]; decide, fun w => print_at 255 16 4 4 w (by omega) (by omega) (by omega) (by omega) ⟨by omega, by omega, by decide, Or.inr (Or.inl rfl)⟩⟩
theorem fig2 (w : World) : Calls Tryd.prog 15 #[.string ⟨#[122, 122]⟩, .int .i64 10] w fun e w' => e = .returned (.tuple #[.int .u64 0, .iface 23 (.int .i64 3)]) ∧ w' = w :=
  parse_at 10 ⟨#[122, 122]⟩ 0 3 w (by decide) (Or.inr (Or.inl ⟨⟨by omega, by omega⟩, fun h => absurd (h.2 0 (by decide)).1 (by decide), rfl, rfl⟩))
theorem fig3 (w : World) : Calls Tryd.prog 17 #[.string ⟨#[45, 48, 120, 49, 48]⟩] w fun e w' => e = .returned (.tuple #[.int .i64 (-16), .nilIface]) ∧ w' = w := by
  refine number_at ⟨#[45, 48, 120, 49, 48]⟩ (-16) 0 w (by decide) ⟨true, ⟨#[49, 48]⟩, 16, 16, 0, ?_, Or.inl ⟨?_, rfl, rfl⟩, Or.inr (Or.inr (Or.inr ⟨⟨by omega, by omega⟩, ⟨by decide, fun i hi => ?_⟩, by decide, by decide, rfl⟩)), Or.inr (Or.inr ⟨rfl, by omega, fun h => by omega, rfl, rfl⟩)⟩
  · unfold pre; rw [ByteArray.toList_eq, ByteArray.toList_eq]; rfl
  · unfold pre; rw [ByteArray.toList_eq, ByteArray.toList_eq]; rfl
  · have : i = 0 ∨ i = 1 := by have : i < 2 := hi; omega
    rcases this with rfl | rfl <;> decide
theorem fig4 : ∃ S : ByteArray, (S.toList == [74, 75]) = true ∧ ∀ w, Calls Tryd.prog 19 #[.string ⟨#[52, 97, 32, 52, 66]⟩] w fun e w' => e = .returned (.tuple #[.string S, .nilIface]) ∧ Gb w w' :=
  ⟨strOfNums [74, 75], by rw [ByteArray.toList_eq]; decide, fun w => unhex_ok ⟨#[52, 97, 32, 52, 66]⟩ [74, 75] w (by decide) (by decide)⟩
theorem fig5 : ∃ S : ByteArray, (S.toList == [52, 97]) = true ∧ ∀ w, Calls Tryd.prog 21 #[.string ⟨#[74]⟩] w fun e w' => e = .returned (.string S) ∧ Gb w w' :=
  ⟨strOfNums (hexL ⟨#[74]⟩ 1), by rw [ByteArray.toList_eq]; decide, fun w => hex_at ⟨#[74]⟩ w (by decide)⟩
set_option maxHeartbeats 1000000 in
theorem figured_at (w : World) (hg : Laid w) : Calls Tryd.prog 23 #[] w fun e w' => e = .returned (.bool true) ∧ Gb w w' := by
  have HG : Hid (Laid w) := hg
  clear hg
  obtain ⟨S1, q1, c1⟩ := fig1
  obtain ⟨S4, q4, c4⟩ := fig4
  obtain ⟨S6, q6, c6⟩ := fig5
  go_enter Tryd.func23, Tryd.ntmps23
  go_wp2_with (first | (go_at_call 10; refine (c1 _).mono ?_; rintro x v1 ⟨rfl, g1⟩) | (go_at_call 15; refine (fig2 _).mono ?_; rintro x v2 ⟨rfl, rfl⟩) | (go_at_call 17; refine (fig3 _).mono ?_; rintro x v3 ⟨rfl, rfl⟩) | (go_at_call 19; refine (c4 _).mono ?_; rintro x v4 ⟨rfl, g4⟩) | (go_at_call 26; refine (tell_errno _ _ (HG.out.gb (g1.trans g4))).mono ?_; rintro x v5 ⟨rfl, g5⟩) | (go_at_call 21; refine (c6 _).mono ?_; rintro x v6 ⟨rfl, g6⟩))
  go_ret
  exact ⟨by simp, ((g1.trans g4).trans g5).trans g6⟩
/-- Which one of so many is chosen. -/
def pk (a : Int) (n : Nat) : Nat := ((a % 18446744073709551616) % (n : Int)).toNat
theorem pk_lt (a : Int) (n : Nat) (hn : 0 < n) : pk a n < n := by
  have h1 := Int.emod_nonneg (a % 18446744073709551616) (show (n : Int) ≠ 0 by omega)
  have h2 := Int.emod_lt_of_pos (a % 18446744073709551616) (show (0 : Int) < (n : Int) by omega)
  unfold pk; omega
theorem pick_at (a : Int) (n : Nat) (w : World) (hn : 0 < n) (hn' : n ≤ 1000000) : Calls Tryd.prog 24 #[.int .i64 a, .int .i64 n] w fun e w' => e = .returned (.int .i64 (pk a n)) ∧ w' = w := by
  go_enter Tryd.func24, Tryd.ntmps24
  go_wp2
  go_ret
  refine ⟨ret_int ?_, rfl⟩
  have h0 : 0 ≤ a % 18446744073709551616 := by omega
  have h1 := pk_lt a n hn
  have h2 := Int.emod_nonneg (a % 18446744073709551616) (show (n : Int) ≠ 0 by omega)
  rw [IntKind.wrap_u64, Int.tmod_eq_emod_of_nonneg h0]
  unfold pk at h1 ⊢
  unfold wrap64
  omega
end Go.Proofs.YtncmpjdapngmpaaDoor.digs
