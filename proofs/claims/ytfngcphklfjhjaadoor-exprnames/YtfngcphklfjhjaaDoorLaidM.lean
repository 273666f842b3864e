/- What the row's condition on the marks gives a walk: their cells; and a world that meets it. -/
import Derived.Test.YtfngcphklfjhjaaDoorRows
import Derived.Test.YtfngcphklfjhjaaDoorLx3
import Derived.Lib.LaidU8
import Derived.ChangeSame
import Derived.ChangeVars
import Derived.ChangeArms
import Derived.JoinedOf
import Derived.RowKit
import Derived.RowKitTokens
import Derived.LaidLaws
import Derived.LaidHandle
import Derived.Stop.Joined
import Derived.Lay
import Derived.Lib.LaidIn
namespace Go.Proofs.YtfngcphklfjhjaaDoor.laidm
open Go.ChangeShapes Go.WideShapes Go.RowKit

/-- The list that the row lays. -/
def list : List (String × DataW Unit) := [("escritoire/lex.marks", Rows.laid_escritoire_lex_marks)]
theorem own : ownKnob Tryd.prog.godebug = none := by kernel_rfl
theorem none_of : (list.filter fun x => x.2.handleName?.isNone) = list := by kernel_rfl
theorem some_of : (list.filter fun x => x.2.handleName?.isSome) = [] := by kernel_rfl
theorem gn : Tryd.prog.globalNamed "escritoire/lex.marks" = some 1 := by kernel_rfl
theorem gt : (Tryd.prog.globals[1]?).map (·.type) = some 106 := by kernel_rfl
theorem c9 : Tryd.prog.cellsOf 9 = 1 := by kernel_rfl
theorem data_is : (Rows.laid_escritoire_lex_marks : DataW Unit) = .agg (lx.mks.map fun t => .lit (.string t)) := by kernel_rfl
theorem marks_of_reads {W : World} (h1 : Lib.VarReads Tryd.prog W "escritoire/lex.marks" Rows.laid_escritoire_lex_marks) : lx.Mks W := by
  rw [data_is] at h1
  obtain ⟨g, t, cs, fuel, p, hg, hty, hvar, hd⟩ := h1
  obtain rfl := Option.some.inj (gn.symm.trans hg)
  obtain rfl := Option.some.inj (gt.symm.trans hty)
  intro j u hu
  have hj : j < 18 := (List.getElem?_eq_some_iff.1 hu).1
  obtain ⟨fuel', d, q, h2, h3⟩ := Lib.array_elem Tryd.underlying106 hd j hj
  rw [List.getElem?_map, hu] at h2
  obtain rfl := Option.some.inj h2
  rw [c9, Nat.mul_one] at h3
  obtain ⟨s, e1, e2, _⟩ := DataW.trod_string Tryd.underlying9 h3
  have e3 : u = s.data.toList := by
    have := congrArg Prod.fst e2
    simpa using this
  have e4 : cs.toList[j]? = some (.string s) := by
    have := congrArg (·[0]?) e1
    simpa [List.getElem?_take, List.getElem?_drop] using this
  have := World.var?_cell hg hvar j
  rw [this, ← Array.getElem?_toList, e4, e3]
  rfl
theorem marks_of_laid {W : World} (h : laidMetH Tryd.prog list W) : lx.Mks W := by
  unfold laidMetH at h
  rw [some_of] at h
  have h' : laidMet Tryd.prog (list.filter fun x => x.2.handleName?.isNone) W := h
  rw [none_of] at h'
  exact marks_of_reads (Lib.laidMet.reads h' (.head _))
theorem names_of : (list.filter fun x => ["escritoire/lex.marks"].contains x.1) = list := by kernel_rfl
theorem names_not : (list.filter fun x => !["escritoire/lex.marks"].contains x.1) = [] := by kernel_rfl
set_option maxRecDepth 100000 in
theorem world_met (os : Os) (args : Array Value) : laidMetH Tryd.prog list ((World.layVars Tryd.prog (World.holding Tryd.prog os ⟨#[], #[], []⟩) list).forCall (fun _ _ => 0) ⟨#[], args, []⟩).memory := by
  refine laidMetH_of_parts ?_ ?_
  · rw [none_of]
    refine laidMet_layVars (w0 := World.holding Tryd.prog os ⟨#[], #[], []⟩) ["escritoire/lex.marks"] [] ?_ ?_ ?_ ?_
    · rw [names_of]; simp [World.memory, World.forCall, Input.heap]
    · rw [names_of]; kernel_rfl
    · rw [names_of]; kernel_rfl
    · rw [names_not]; exact LaidIn.none
  · rw [some_of]; kernel_rfl
end Go.Proofs.YtfngcphklfjhjaaDoor.laidm
