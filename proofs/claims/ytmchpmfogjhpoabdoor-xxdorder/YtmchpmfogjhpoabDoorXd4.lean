/- What Plain of package xxd answers. -/
import Derived.Test.YtmchpmfogjhpoabDoorXd1
import Derived.Test.YtmchpmfogjhpoabDoorXd2
namespace Go.Proofs.YtmchpmfogjhpoabDoor.xd
set_option linter.unusedVariables false
open Go.ChangeShapes Go.WideShapes Go.ChangeAt Go.RowKit Go.Shelf
open mem rows bld
open digs (hexL hexL_len hex_at)
attribute [local go_sem] Oper.semAt_some
theorem _root_.Go.Proofs.YtmchpmfogjhpoabDoor.mem.Bl.thru2 {a b c : World} (h : Bl a b) (k : Below a.heap.size b c) : Bl a c := Below.trans h k
/-- Lines of digits. -/
def pln : List Pt → List Int
  | [] => []
  | x :: l => hexL x.1.2 x.1.2.size ++ [10] ++ pln l
theorem pln_app (a b : List Pt) : pln (a ++ b) = pln a ++ pln b := by
  induction a with
  | nil => rfl
  | cons x a ih => rw [List.cons_append, pln, pln, ih]; simp only [List.append_assoc]
theorem pln_snoc (a : List Pt) (x : Pt) : pln (a ++ [x]) = pln a ++ hexL x.1.2 x.1.2.size ++ [10] := by
  rw [pln_app, pln, pln, List.append_nil, List.append_assoc]
theorem pln_len (a : List Pt) : (pln a).length ≤ 2001 * a.length := by
  induction a with
  | nil => simp [pln]
  | cons x a ih =>
    have := x.2.2
    rw [pln, List.length_append, List.length_append, hexL_len, List.length_cons, List.length_cons, List.length_nil]
    omega
end Go.Proofs.YtmchpmfogjhpoabDoor.xd
