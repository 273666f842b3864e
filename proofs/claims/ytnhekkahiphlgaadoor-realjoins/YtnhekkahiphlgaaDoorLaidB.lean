/- What the rows' condition on errors.errorType and real.forms gives a walk; and a world that meets it. -/
import Derived.Test.YtnhekkahiphlgaaDoorLaidF
import Derived.Test.YtnhekkahiphlgaaDoorBare
namespace Go.Proofs.YtnhekkahiphlgaaDoor.laidb
open Go.ChangeShapes Go.WideShapes Go.RowKit

/-- The list that the seat's rows lay. -/
def list : List (String × DataW Unit) := [("errors.errorType", Rows.laid_errors_errorType), ("escritoire/real.forms", Rows.laid_escritoire_real_forms)]
theorem own : ownKnob Tryd.prog.godebug = none := by kernel_rfl
theorem et : Tryd.prog.globalNamed "errors.errorType" = some 2 := by kernel_rfl
theorem rt : (Tryd.prog.cutTypes.find? (·.1 == "internal/reflectlite.rtype")).map (·.2) = some 104 := by kernel_rfl
theorem oneRow : ((List.range 143).filter fun t => Tryd.prog.rowNamed t [101, 114, 114, 111, 114]) = [29] := by kernel_rfl
theorem size : Tryd.prog.types.size = 143 := by kernel_rfl
theorem FL_of_laid {W : World} (h : laidMetH Tryd.prog list W) : rl.FL W := by
  have h' : laidMet Tryd.prog laidf.list W ∧ handlesMet Tryd.prog [("errors.errorType", Rows.laid_errors_errorType)] W := h
  exact laidf.FL_of_met h'.1
theorem handle_of_laid {W : World} (h : laidMetH Tryd.prog list W) : errs.Laid W := by
  have h' : laidMet Tryd.prog laidf.list W ∧ handlesMet Tryd.prog [("errors.errorType", Rows.laid_errors_errorType)] W := h
  obtain ⟨name, u, ty, e1, e2, e3, e4, e5⟩ := h'.2 _ (List.mem_singleton.2 rfl)
  have en : name = [101, 114, 114, 111, 114] := (Option.some.inj e1).symm
  subst en
  obtain rfl := Option.some.inj (rt.symm.trans e2)
  have hm : ty ∈ (List.range 143).filter fun t => Tryd.prog.rowNamed t [101, 114, 114, 111, 114] := List.mem_filter.2 ⟨List.mem_range.2 (by rw [← size]; exact e3), e4⟩
  rw [oneRow] at hm
  obtain rfl := List.mem_singleton.1 hm
  have hh : typeHandle Tryd.prog 29 = .pointer (some ⟨3, 29, none⟩) := by kernel_rfl
  rw [hh] at e5
  unfold errs.Laid
  simpa using World.var?_cell et e5 0
theorem world_met (os : Os) (args : Array Value) : laidMetH Tryd.prog list ((World.doorLaid Tryd.prog 200 os).forCall (fun _ _ => 0) ⟨#[], args, []⟩).memory :=
  laidMetH_of_parts3 (fuel := 8) (laidMet_of_run' 8 (by kernel_rfl) (by kernel_rfl)) (by kernel_rfl) (by kernel_rfl)
end Go.Proofs.YtnhekkahiphlgaaDoor.laidb
