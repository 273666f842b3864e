/- What the row's condition on the library's two tables gives a walk; and a world that meets it. -/
import Derived.Test.YtaboemchkmmgeaaDoorRows
import Derived.Test.YtaboemchkmmgeaaDoorUtf1
import Derived.Test.YtaboemchkmmgeaaDoorLay197
import Derived.Lib.LaidU8T
import Derived.ChangeSame
import Derived.ChangeVars
import Derived.JoinedOf
import Derived.RowKit
import Derived.RowKitTokens
import Derived.LaidLaws
import Derived.LaidHandle
import Derived.Stop.Joined
import Derived.Lay
import Derived.Lib.LaidIn
namespace Go.Proofs.YtaboemchkmmgeaaDoor.laidt
open Go.ChangeShapes Go.WideShapes Go.RowKit

/-- The list that the row lays. -/
def list : List (String × DataW Unit) := [("unicode/utf8.acceptRanges", Rows.laid_unicode_utf8_acceptRanges), ("unicode/utf8.first", Rows.laid_unicode_utf8_first)]
theorem own : ownKnob Tryd.prog.godebug = none := by kernel_rfl
set_option maxRecDepth 100000 in
theorem none_of : (list.filter fun x => x.2.handleName?.isNone) = list := by kernel_rfl
set_option maxRecDepth 100000 in
theorem some_of : (list.filter fun x => x.2.handleName?.isSome) = [] := by kernel_rfl
set_option maxRecDepth 100000 in
theorem first_is : Rows.laid_unicode_utf8_first = (Lib.firstData : DataW Unit) := by kernel_rfl
set_option maxRecDepth 100000 in
theorem accept_is : (Rows.laid_unicode_utf8_acceptRanges : DataW Unit) = Lib.acceptData := by kernel_rfl
theorem types : U8Types Tryd.prog lay197.ren := ⟨by kernel_rfl, by kernel_rfl, by kernel_rfl, by kernel_rfl⟩
theorem extra : U8Extra Tryd.prog lay197.ren := ⟨by kernel_rfl, by kernel_rfl, by kernel_rfl, by kernel_rfl, by kernel_rfl, by kernel_rfl, by kernel_rfl⟩
theorem tabs_of {W : World} (h : laidMet Tryd.prog list W) : utf.Tabs W :=
  utf8Tabs_of_readsT types extra (first_is ▸ Lib.laidMet.reads h (.tail _ (.head _))) (accept_is ▸ Lib.laidMet.reads h (.head _))
theorem tabs_of_laid {W : World} (h : laidMetH Tryd.prog list W) : utf.Tabs W := by
  unfold laidMetH at h
  rw [some_of] at h
  exact tabs_of h
theorem names_of : (list.filter fun x => ["unicode/utf8.acceptRanges", "unicode/utf8.first"].contains x.1) = list := by kernel_rfl
theorem names_not : (list.filter fun x => !["unicode/utf8.acceptRanges", "unicode/utf8.first"].contains x.1) = [] := by kernel_rfl
set_option maxRecDepth 100000 in
theorem world_met (os : Os) (args : Array Value) : laidMetH Tryd.prog list ((World.layVars Tryd.prog (World.holding Tryd.prog os ⟨#[], #[], []⟩) list).forCall (fun _ _ => 0) ⟨#[], args, []⟩).memory := by
  refine laidMetH_of_parts ?_ ?_
  · rw [none_of]
    refine laidMet_layVars (w0 := World.holding Tryd.prog os ⟨#[], #[], []⟩) ["unicode/utf8.acceptRanges", "unicode/utf8.first"] [] ?_ ?_ ?_ ?_
    · rw [names_of]; simp [World.memory, World.forCall, Input.heap]
    · rw [names_of]; kernel_rfl
    · rw [names_of]; kernel_rfl
    · rw [names_not]; exact LaidIn.none
  · rw [some_of]; kernel_rfl
end Go.Proofs.YtaboemchkmmgeaaDoor.laidt
