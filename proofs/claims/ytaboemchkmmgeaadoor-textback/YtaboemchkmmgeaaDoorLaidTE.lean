/- What the row's condition on errors.errorType and the library's two tables gives a walk; and a world that meets it. -/
import Derived.Test.YtaboemchkmmgeaaDoorLaid
import Derived.Test.YtaboemchkmmgeaaDoorLaidT
import Derived.Lay
namespace Go.Proofs.YtaboemchkmmgeaaDoor.laidte
open Go.ChangeShapes Go.WideShapes Go.RowKit

/-- The tables that the row lays. -/
def plain : List (String × DataW Unit) := [("unicode/utf8.acceptRanges", Rows.laid_unicode_utf8_acceptRanges), ("unicode/utf8.first", Rows.laid_unicode_utf8_first)]
/-- The list that the row lays. -/
def list : List (String × DataW Unit) := [("unicode/utf8.acceptRanges", Rows.laid_unicode_utf8_acceptRanges), ("errors.errorType", Rows.laid_errors_errorType), ("unicode/utf8.first", Rows.laid_unicode_utf8_first)]
set_option maxRecDepth 100000 in
theorem some_of : (list.filter fun x => x.2.handleName?.isSome) = laying.list := by kernel_rfl
set_option maxRecDepth 100000 in
theorem none_of : (list.filter fun x => x.2.handleName?.isNone) = plain := by kernel_rfl
theorem handle_of_laid {W : World} (h : laidMetH Tryd.prog list W) : errs.Laid W := by
  unfold laidMetH at h
  rw [some_of] at h
  have h' : laidMet Tryd.prog (list.filter fun x => x.2.handleName?.isNone) W ∧ handlesMet Tryd.prog laying.list W := h
  exact laying.handle_of_laid (show laidMetH Tryd.prog laying.list W from ⟨⟨[], rfl, List.nodup_nil, fun _ _ h => by cases h⟩, h'.2⟩)
theorem tabs_of_laid {W : World} (h : laidMetH Tryd.prog list W) : utf.Tabs W := by
  unfold laidMetH at h
  rw [some_of] at h
  have h' : laidMet Tryd.prog (list.filter fun x => x.2.handleName?.isNone) W ∧ handlesMet Tryd.prog laying.list W := h
  have h1 := h'.1
  rw [none_of] at h1
  exact laidt.tabs_of h1
theorem names_of : (plain.filter fun x => ["unicode/utf8.acceptRanges", "unicode/utf8.first"].contains x.1) = plain := by kernel_rfl
theorem names_not : (plain.filter fun x => !["unicode/utf8.acceptRanges", "unicode/utf8.first"].contains x.1) = [] := by kernel_rfl
set_option maxRecDepth 100000 in
theorem world_met (os : Os) (args : Array Value) : laidMetH Tryd.prog list ((World.layVars Tryd.prog (laying.layCell (World.holding Tryd.prog os ⟨#[], #[], []⟩)) plain).forCall (fun _ _ => 0) ⟨#[], args, []⟩).memory := by
  refine laidMetH_of_parts ?_ ?_
  · rw [none_of]
    refine laidMet_layVars (w0 := laying.layCell (World.holding Tryd.prog os ⟨#[], #[], []⟩)) ["unicode/utf8.acceptRanges", "unicode/utf8.first"] [] ?_ ?_ ?_ ?_
    · rw [names_of]; simp [World.memory, World.forCall, Input.heap]
    · rw [names_of]; kernel_rfl
    · rw [names_of]; kernel_rfl
    · rw [names_not]; exact LaidIn.none
  · rw [some_of]; kernel_rfl
end Go.Proofs.YtaboemchkmmgeaaDoor.laidte
