/- What the row's condition on math/bits.deBruijn64tab gives a walk: the table's cells; and a world that meets it. -/
import Derived.Test.YtehmjffbfgnijabDoorRows
import Derived.Test.YtehmjffbfgnijabDoorFh2
import Derived.Lib.LaidU8
import Derived.ChangeSame
import Derived.ChangeVars
import Derived.JoinedOf
import Derived.RowKit
import Derived.RowKitTokens
import Derived.LaidLaws
import Derived.LaidHandle
import Derived.Stop.Joined
import Derived.Lay
import Derived.Lib.LaidIn
namespace Go.Proofs.YtehmjffbfgnijabDoor.laidd
open Go.ChangeShapes Go.WideShapes Go.RowKit

/-- The table that the row lays. -/
def plain : List (String × DataW Unit) := [("math/bits.deBruijn64tab", Rows.laid_math_bits_deBruijn64tab)]
theorem own : ownKnob Tryd.prog.godebug = none := by kernel_rfl
set_option maxRecDepth 100000 in
theorem none_of : (plain.filter fun x => x.2.handleName?.isNone) = plain := by kernel_rfl
set_option maxRecDepth 100000 in
theorem some_of : (plain.filter fun x => x.2.handleName?.isSome) = [] := by kernel_rfl
set_option maxRecDepth 100000 in
theorem tab_is : (Rows.laid_math_bits_deBruijn64tab : DataW Unit) = Lib.tabData .u8 (Lib.deBruijn64tab.map fun (x : Nat) => (x : Int)) := by kernel_rfl
theorem gn : Tryd.prog.globalNamed "math/bits.deBruijn64tab" = some 0 := by kernel_rfl
theorem gt : (Tryd.prog.globals[0]?).map (·.type) = some 69 := by kernel_rfl
theorem tab_of {W : World} (h : laidMet Tryd.prog plain W) : low.Tab W := by
  have h1 : Lib.VarReads Tryd.prog W "math/bits.deBruijn64tab" (Lib.tabData .u8 (Lib.deBruijn64tab.map fun (x : Nat) => (x : Int))) := tab_is ▸ Lib.laidMet.reads h (.head _)
  obtain ⟨g, t, cs, fuel, p, hg, hty, hvar, hd⟩ := h1
  obtain rfl := Option.some.inj (gn.symm.trans hg)
  obtain rfl := Option.some.inj (gt.symm.trans hty)
  have hcs := Lib.cells_of_tab Tryd.underlying69 Tryd.underlying5 (by kernel_rfl) (by kernel_rfl) hd
  intro j hj
  have := World.var?_cell hg hvar j
  rw [this, ← Array.getElem?_toList, hcs, List.map_map, List.getElem?_map, List.getElem?_eq_getElem hj, List.getD_eq_getElem?_getD, List.getElem?_eq_getElem hj]
  rfl
theorem tab_of_laid {W : World} (h : laidMetH Tryd.prog plain W) : low.Tab W := by
  unfold laidMetH at h
  rw [some_of] at h
  exact tab_of h
theorem names_of : (plain.filter fun x => ["math/bits.deBruijn64tab"].contains x.1) = plain := by kernel_rfl
theorem names_not : (plain.filter fun x => !["math/bits.deBruijn64tab"].contains x.1) = [] := by kernel_rfl
end Go.Proofs.YtehmjffbfgnijabDoor.laidd
