/- What the row's condition on math/bits.deBruijn64tab and errors.errorType gives a walk; and a world that meets it. -/
import Derived.Test.YtehmjffbfgnijaaDoorLaid
import Derived.Test.YtehmjffbfgnijaaDoorLaidD
namespace Go.Proofs.YtehmjffbfgnijaaDoor.laidde
open Go.ChangeShapes Go.WideShapes Go.RowKit

/-- The list that the row lays. -/
def list : List (String × DataW Unit) := [("math/bits.deBruijn64tab", Rows.laid_math_bits_deBruijn64tab), ("errors.errorType", Rows.laid_errors_errorType)]
set_option maxRecDepth 100000 in
theorem some_of : (list.filter fun x => x.2.handleName?.isSome) = laying.list := by kernel_rfl
set_option maxRecDepth 100000 in
theorem none_of : (list.filter fun x => x.2.handleName?.isNone) = laidd.plain := by kernel_rfl
theorem handle_of_laid {W : World} (h : laidMetH Tryd.prog list W) : errs.Laid W := by
  unfold laidMetH at h
  rw [some_of] at h
  have h' : laidMet Tryd.prog (list.filter fun x => x.2.handleName?.isNone) W ∧ handlesMet Tryd.prog laying.list W := h
  exact laying.handle_of_laid (show laidMetH Tryd.prog laying.list W from ⟨⟨[], rfl, List.nodup_nil, fun _ _ h => by cases h⟩, h'.2⟩)
theorem tab_of_laid {W : World} (h : laidMetH Tryd.prog list W) : low.Tab W := by
  unfold laidMetH at h
  rw [some_of] at h
  have h' : laidMet Tryd.prog (list.filter fun x => x.2.handleName?.isNone) W ∧ handlesMet Tryd.prog laying.list W := h
  have h1 := h'.1
  rw [none_of] at h1
  exact laidd.tab_of h1
set_option maxRecDepth 100000 in
theorem world_met (os : Os) (args : Array Value) : laidMetH Tryd.prog list ((World.layVars Tryd.prog (laying.layCell (World.holding Tryd.prog os ⟨#[], #[], []⟩)) laidd.plain).forCall (fun _ _ => 0) ⟨#[], args, []⟩).memory := by
  refine laidMetH_of_parts ?_ ?_
  · rw [none_of]
    refine laidMet_layVars (w0 := laying.layCell (World.holding Tryd.prog os ⟨#[], #[], []⟩)) ["math/bits.deBruijn64tab"] [] ?_ ?_ ?_ ?_
    · rw [laidd.names_of]; simp [World.memory, World.forCall, Input.heap]
    · rw [laidd.names_of]; kernel_rfl
    · rw [laidd.names_of]; kernel_rfl
    · rw [laidd.names_not]; exact LaidIn.none
  · rw [some_of]; kernel_rfl
end Go.Proofs.YtehmjffbfgnijaaDoor.laidde
