/- What the world's shape gives of a variable of the library's own: it holds some number. -/
import Derived.Test.YtnhdaolieifhnaaGreatDoorLaid
import Derived.Test.YtnhdaolieifhnaaGreatDoorSy3
import Derived.Shelf.Vars
namespace Go.Proofs.YtnhdaolieifhnaaGreatDoor.sx
set_option linter.unusedVariables false
open Go.RowKit

/-- The variable holds some number, whatever it is. -/
theorem ml_of {W : World} (h : W.ShapedOpen Tryz.prog) : Ml W :=
  cell_of_shapedOpen_int (P := Tryz.prog) (g := 0) (t := 3) (zero := #[.int .i64 0]) h (of_decide_eq_true (by kernel_rfl)) (by kernel_rfl) rfl (by kernel_rfl) (by kernel_rfl) Tryz.underlying3
end Go.Proofs.YtnhdaolieifhnaaGreatDoor.sx
