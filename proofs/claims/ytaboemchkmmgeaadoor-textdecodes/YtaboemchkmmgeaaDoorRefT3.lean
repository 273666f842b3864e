/- What begins, of the document's own, answers, whatever comes in. -/
import Derived.Test.YtaboemchkmmgeaaDoorRefB2
import Derived.Test.YtaboemchkmmgeaaDoorRefB3
import Derived.Test.YtaboemchkmmgeaaDoorRefB4
namespace Go.Proofs.YtaboemchkmmgeaaDoor.utf
set_option linter.unusedVariables false
open Go.ChangeShapes Go.WideShapes Go.ChangeAt Go.RowKit
open mem rows

set_option maxRecDepth 100000 in
theorem begins_at (t : ByteArray) (w : World) (h1 : 1 ≤ t.size) (hs : t.size ≤ 1000) :
    Calls Tryd.prog 24 #[.string t] w (begAns t.size (nb t 0) (nb t 1) (nb t 2) (nb t 3) w) := by
  by_cases h4 : t.size ≤ 4
  · by_cases c1 : 240 ≤ nb t 0
    · exact begins4 t w h1 h4 c1 (nb_lt t 0)
    by_cases c2 : 224 ≤ nb t 0
    · exact begins3 t w h1 h4 c2 (by omega)
    by_cases c3 : 192 ≤ nb t 0
    · exact begins2 t w h1 h4 c3 (by omega)
    have hz0 : (0 : Int) < (t.size : Int) := by omega
    have hz4 : ¬ ((4 : Int) < (t.size : Int)) := by omega
    have hs0 : (((t[0]'(by omega)).toNat : Nat) : Int) = (nb t 0 : Int) := by rw [← nb_get t 0 (by omega)]
    have z1 : ¬ ((240 : Int) ≤ (nb t 0 : Int)) := by omega
    have z2 : ¬ ((224 : Int) ≤ (nb t 0 : Int)) := by omega
    have z3 : ¬ ((192 : Int) ≤ (nb t 0 : Int)) := by omega
    by_cases c4 : 128 ≤ nb t 0
    · have HN : Hid (¬ bgN t.size (nb t 0) (nb t 1) (nb t 2) (nb t 3)) := by unfold bgN Hid; omega
      have z4 : (128 : Int) ≤ (nb t 0 : Int) := by omega
      go_enter Tryd.func24, Tryd.ntmps24
      go_wp2
      go_ret2
      exact ⟨_, _, rfl, told_no _ _ _ _ _ HN.out _, Bl.refl _⟩
    · have z4 : ¬ ((128 : Int) ≤ (nb t 0 : Int)) := by omega
      by_cases c5 : t.size = 1
      · have z5 : (((t.size : Nat) : Int) == 1) = true := by rw [beq_iff_eq]; omega
        have HY : Hid (told t.size (nb t 0) (nb t 1) (nb t 2) (nb t 3) true (nb t 0)) := by
          have hl : lenN (nb t 0) = 1 := by unfold lenN; rw [if_pos (by omega)]
          have hst : stN t.size (nb t 0) (nb t 1) (nb t 2) (nb t 3) = (nb t 0, 1) := by unfold stN; rw [if_pos (by omega)]
          exact ⟨⟨fun _ => Or.inl ⟨by omega, c5⟩, fun _ => rfl⟩, fun _ => by rw [hl, if_pos c5, hst]⟩
        go_enter Tryd.func24, Tryd.ntmps24
        go_wp2
        go_ret2
        exact ⟨_, _, rfl, by have h := HY.out; rw [c5] at h; exact h, Bl.refl _⟩
      · have z5 : (((t.size : Nat) : Int) == 1) = false := by rw [beq_eq_false_iff_ne]; omega
        have HN : Hid (¬ bgN t.size (nb t 0) (nb t 1) (nb t 2) (nb t 3)) := by unfold bgN Hid; omega
        go_enter Tryd.func24, Tryd.ntmps24
        go_wp2
        go_ret2
        exact ⟨_, _, rfl, told_no _ _ _ _ _ HN.out _, Bl.refl _⟩
  · have hz4 : (4 : Int) < (t.size : Int) := by omega
    have HN : Hid (¬ bgN t.size (nb t 0) (nb t 1) (nb t 2) (nb t 3)) := by unfold bgN Hid; omega
    go_enter Tryd.func24, Tryd.ntmps24
    go_wp2
    go_ret2
    exact ⟨_, _, rfl, told_no _ _ _ _ _ HN.out _, Bl.refl _⟩
end Go.Proofs.YtaboemchkmmgeaaDoor.utf
