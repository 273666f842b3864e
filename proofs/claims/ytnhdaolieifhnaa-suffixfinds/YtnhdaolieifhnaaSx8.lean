/- The fixed fact on the ends of a text. -/
import Derived.Test.YtnhdaolieifhnaaSx7
import Derived.Test.YtnhdaolieifhnaaFd7
namespace Go.Proofs.Ytnhdaolieifhnaa.sx
set_option linter.unusedVariables false
open Go.ChangeShapes Go.WideShapes Go.ChangeAt Go.RowKit
open mem rows fd find

def bn : ByteArray := ⟨#[98, 97, 110, 97, 110, 97]⟩
theorem bn_order : ([5, 3, 1, 0, 4, 2] : List Nat).Pairwise (Ltm (gs bn) 6) := by decide +kernel
theorem bn_sort : IsSort (gs bn) bn.size [5, 3, 1, 0, 4, 2] := ⟨by decide +kernel, bn_order.imp fun h => h.lt⟩
theorem bn_com : com (gs bn) bn.size [5, 3, 1, 0, 4, 2] = [0, 1, 3, 0, 0, 2] := by decide +kernel
theorem bn_prt : (prt (gs bn) bn.size [5, 3, 1, 0, 4, 2]).length = 15 := by decide +kernel
theorem s1 (w : World) : Calls Try.prog 6 #[.string ⟨#[98, 97, 110, 97, 110, 97]⟩] w fun e w' => ∃ v, e = .returned (.tuple #[v, .nilIface]) ∧ View w' v [5, 3, 1, 0, 4, 2] ∧ Bl w w' := by
  refine (Sort_at bn w (by decide)).mono ?_
  rintro e w' ⟨A, rfl, _, hb, L, hr, hL⟩
  rw [hL.same bn_sort] at hr
  exact ⟨_, rfl, hr.view 6, hb⟩
theorem s2 (w : World) : Calls Try.prog 7 #[.string ⟨#[98, 97, 110, 97, 110, 97]⟩] w fun e w' => ∃ v, e = .returned (.tuple #[v, .nilIface]) ∧ View w' v [0, 1, 3, 0, 0, 2] ∧ Bl w w' := by
  refine (Common_at bn w (by decide)).mono ?_
  rintro e w' ⟨A, rfl, _, hb, L, hr, hL⟩
  rw [hL.same bn_sort, bn_com] at hr
  exact ⟨_, rfl, hr.view 6, hb⟩
theorem s3 (w : World) : Calls Try.prog 11 #[.string ⟨#[98, 97, 110, 97, 110, 97]⟩] w fun e w' => e = .returned (.tuple #[.int .i64 15, .nilIface]) ∧ Bl w w' := by
  refine (Parts_at bn w (by decide)).mono ?_
  rintro e w' ⟨n, rfl, hb, L, hL, hn⟩
  rw [hL.same bn_sort, bn_prt] at hn
  subst hn
  exact ⟨rfl, hb⟩
set_option maxRecDepth 10000 in
theorem sorted_at (w : World) : Calls Try.prog 5 #[] w fun e w' => e = .returned (.bool true) ∧ Bl w w' := by
  go_enter Try.func5, Try.ntmps5
  go_wp2_with (first
    | (go_at_call 6; refine (s1 _).mono ?_; rintro e w1 ⟨v1, rfl, hv1, hb1⟩)
    | (go_at_call 7; refine (s2 _).mono ?_; rintro e w2 ⟨v2, rfl, hv2, hb2⟩)
    | (go_at_call 11; refine (s3 _).mono ?_; rintro e w3 ⟨rfl, hb3⟩)
    | (go_at_call_of 12 v1; refine (eq_lit v1 [5, 3, 1, 0, 4, 2] 6 _ ((hv1.step hb2).step hb3) (by decide) rfl).mono ?_; rintro e w4 ⟨rfl, hb4⟩)
    | (go_at_call_of 12 v2; refine (eq_lit v2 [0, 1, 3, 0, 0, 2] 6 _ ((hv2.step hb3).step hb4) (by decide) rfl).mono ?_; rintro e w5 ⟨rfl, hb5⟩))
  go_ret
  exact ⟨rfl, (((hb1.trans hb2).trans hb3).trans hb4).trans hb5⟩
end Go.Proofs.Ytnhdaolieifhnaa.sx
