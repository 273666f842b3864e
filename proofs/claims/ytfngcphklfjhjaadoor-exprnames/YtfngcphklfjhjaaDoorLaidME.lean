/- What the row's condition on the marks and on errors.errorType gives a walk; and a world that meets it. -/
import Derived.Test.YtfngcphklfjhjaaDoorLaid
import Derived.Test.YtfngcphklfjhjaaDoorLaidM
namespace Go.Proofs.YtfngcphklfjhjaaDoor.laidme
open Go.ChangeShapes Go.WideShapes Go.RowKit

/-- The list that the row lays. -/
def list : List (String × DataW Unit) := [("errors.errorType", Rows.laid_errors_errorType), ("escritoire/lex.marks", Rows.laid_escritoire_lex_marks)]
theorem own : ownKnob Tryd.prog.godebug = none := by kernel_rfl
theorem some_of : (list.filter fun x => x.2.handleName?.isSome) = laying.list := by kernel_rfl
theorem none_of : (list.filter fun x => x.2.handleName?.isNone) = laidm.list := by kernel_rfl
theorem of_laid {W : World} (h : laidMetH Tryd.prog list W) : errs.Laid W ∧ lx.Mks W := by
  unfold laidMetH at h
  rw [some_of] at h
  have h' : laidMet Tryd.prog (list.filter fun x => x.2.handleName?.isNone) W ∧ handlesMet Tryd.prog laying.list W := h
  have h1 := h'.1
  rw [none_of] at h1
  exact ⟨laying.handle_of_laid (show laidMetH Tryd.prog laying.list W from ⟨⟨[], rfl, List.nodup_nil, fun _ _ h => by cases h⟩, h'.2⟩), laidm.marks_of_reads (Lib.laidMet.reads h1 (.head _))⟩
set_option maxRecDepth 100000 in
theorem world_met (os : Os) (args : Array Value) : laidMetH Tryd.prog list ((World.layVars Tryd.prog (laying.layCell (World.holding Tryd.prog os ⟨#[], #[], []⟩)) laidm.list).forCall (fun _ _ => 0) ⟨#[], args, []⟩).memory := by
  refine laidMetH_of_parts ?_ ?_
  · rw [none_of]
    refine laidMet_layVars (w0 := laying.layCell (World.holding Tryd.prog os ⟨#[], #[], []⟩)) ["escritoire/lex.marks"] [] ?_ ?_ ?_ ?_
    · rw [laidm.names_of]; simp [World.memory, World.forCall, Input.heap]
    · rw [laidm.names_of]; kernel_rfl
    · rw [laidm.names_of]; kernel_rfl
    · rw [laidm.names_not]; exact LaidIn.none
  · rw [some_of]; kernel_rfl
end Go.Proofs.YtfngcphklfjhjaaDoor.laidme
