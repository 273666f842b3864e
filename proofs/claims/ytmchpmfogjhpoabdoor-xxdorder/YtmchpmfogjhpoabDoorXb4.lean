/- What dumped and pick of the laws answer. -/
import Derived.Test.YtmchpmfogjhpoabDoorXl7
import Derived.Test.YtmchpmfogjhpoabDoorXd3
namespace Go.Proofs.YtmchpmfogjhpoabDoor.xb
set_option linter.unusedVariables false
open Go.ChangeShapes Go.WideShapes Go.ChangeAt Go.RowKit
open mem rows xd xl

def pik (a : Int) (n : Nat) : Nat := ((a % 18446744073709551616) % (n : Int)).toNat
theorem pik_lt (a : Int) (n : Nat) (hn : 0 < n) : pik a n < n := by
  unfold pik
  have h2 := Int.emod_lt_of_pos (a % 18446744073709551616) (show (0 : Int) < (n : Int) by omega)
  have h3 := Int.emod_nonneg (a % 18446744073709551616) (show (n : Int) ≠ 0 by omega)
  omega
theorem pick_at (a : Int) (n : Nat) (w : World) (hn : 0 < n) (hn' : n ≤ 2147483648) : Calls Tryd.prog 6 #[.int .i64 a, .int .i64 n] w fun e w' => e = .returned (.int .i64 (pik a n)) ∧ w' = w := by
  go_enter Tryd.func6, Tryd.ntmps6
  go_wp2
  go_ret
  refine ⟨ret_int ?_, rfl⟩
  have h0 : 0 ≤ a % 18446744073709551616 := by omega
  have h1 := pik_lt a n hn
  have h2 := Int.emod_nonneg (a % 18446744073709551616) (show (n : Int) ≠ 0 by omega)
  rw [IntKind.wrap_u64, Int.tmod_eq_emod_of_nonneg h0]
  unfold pik at h1 ⊢
  unfold wrap64
  omega
/-- "Hi" with a line feed, and its dump; a line, and what it tells. -/
def hiT : ByteArray := ⟨#[72, 105, 10]⟩
def hiD : ByteArray := ⟨#[48, 48, 48, 48, 48, 48, 48, 48, 58, 32, 52, 56, 54, 57, 32, 48, 97, 32, 32, 32, 32, 72, 105, 46, 10]⟩
def liT : ByteArray := ⟨#[48, 48, 48, 48, 48, 48, 48, 49, 58, 32, 52, 56, 54, 57, 32, 32, 72, 105]⟩
def liD : ByteArray := ⟨#[0, 72, 105]⟩
theorem hi_is : strOfNums (dmp 4 2 (ptl hiT 4 (np hiT 4))) = hiD := by decide +kernel
theorem li_rd : Rd (liT.extract 9 18) 0 [4 * 16 + 8, 6 * 16 + 9] := by
  refine Rd.one 0 _ (by decide) (by decide) (Or.inl rfl) ?_
  refine Rd.byte 1 4 8 _ (by decide) (by decide) (by decide) (by decide) ?_
  refine Rd.byte 3 6 9 _ (by decide) (by decide) (by decide) (by decide) ?_
  exact Rd.two 5 (by decide) (by decide) (by decide) (by decide)
theorem li_good : xl.Good true 256 ((0, liT), (1, [4 * 16 + 8, 6 * 16 + 9])) := by
  refine ⟨by decide, by decide, by decide, ?_⟩
  rw [if_pos rfl]
  exact ⟨8, by decide, by decide, by decide, ⟨by decide, by decide⟩, by decide, by decide, li_rd⟩
theorem li_ln : Ln (fun x : Lt true 256 => x.1.1) liT 0 [⟨((0, liT), (1, [4 * 16 + 8, 6 * 16 + 9])), li_good⟩] := by
  refine Ln.step 0 18 _ _ (by decide) (by decide) (by decide) (by decide +kernel) (fun j _ hj => ?_) (Or.inl (by decide)) (Ln.fin _ (by decide))
  have h : ∀ j, j < 18 → sb liT j ≠ 10 := by decide
  exact h j hj
theorem li_ap : strOfNums (ap [(⟨((0, liT), (1, [4 * 16 + 8, 6 * 16 + 9])), li_good⟩ : Lt true 256)]) = liD := by decide +kernel
set_option maxHeartbeats 1000000 in
set_option maxRecDepth 10000 in
theorem dumped_at (w : World) : Calls Tryd.prog 4 #[] w fun e w' => e = .returned (.bool true) ∧ Bl w w' := by
  have cD := fun w => Dump_at hiT 4 2 w (by decide) (by decide) (by decide) (by decide)
  have cL := fun w => Load_at true 256 liT _ w (by decide) li_ln (fun e => by cases e)
  rw [hi_is] at cD
  rw [li_ap] at cL
  unfold hiT hiD at cD
  unfold liT liD at cL
  go_enter Tryd.func4, Tryd.ntmps4
  go_wp2_with (fail)
  refine (cD _).mono ?_
  rintro e v1 ⟨rfl, hb1⟩
  go_wp2_with (fail)
  refine (cL _).mono ?_
  rintro e v2 ⟨rfl, hb2⟩
  go_wp2
  go_ret
  exact ⟨rfl, hb1.trans hb2⟩
end Go.Proofs.YtmchpmfogjhpoabDoor.xb
