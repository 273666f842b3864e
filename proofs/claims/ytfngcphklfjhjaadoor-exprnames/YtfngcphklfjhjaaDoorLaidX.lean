/- What the row's condition on the tables, on the marks and on errors.errorType gives a walk; and a world that meets it. -/
import Derived.Test.YtfngcphklfjhjaaDoorLaidME
import Derived.Test.YtfngcphklfjhjaaDoorExV
namespace Go.Proofs.YtfngcphklfjhjaaDoor.laidx
open Go.ChangeShapes Go.WideShapes Go.RowKit

/-- The list that the row lays. -/
def list : List (String × DataW Unit) := [("math/bits.deBruijn32tab", Rows.laid_math_bits_deBruijn32tab), ("math/bits.deBruijn64tab", Rows.laid_math_bits_deBruijn64tab), ("internal/strconv.uint64pow10", Rows.laid_internal_strconv_uint64pow10), ("errors.errorType", Rows.laid_errors_errorType), ("escritoire/lex.marks", Rows.laid_escritoire_lex_marks)]
def plain : List (String × DataW Unit) := [("math/bits.deBruijn32tab", Rows.laid_math_bits_deBruijn32tab), ("math/bits.deBruijn64tab", Rows.laid_math_bits_deBruijn64tab), ("internal/strconv.uint64pow10", Rows.laid_internal_strconv_uint64pow10), ("escritoire/lex.marks", Rows.laid_escritoire_lex_marks)]
set_option maxRecDepth 100000 in
theorem some_of : (list.filter fun x => x.2.handleName?.isSome) = laying.list := by kernel_rfl
set_option maxRecDepth 100000 in
theorem none_of : (list.filter fun x => x.2.handleName?.isNone) = plain := by kernel_rfl
theorem pow_is : (Rows.laid_internal_strconv_uint64pow10 : DataW Unit) = Lib.tabData .u64 Lib.pow10Tab := by kernel_rfl
theorem gt : (Tryd.prog.globals[3]?).map (·.type) = some 145 := by kernel_rfl
theorem pw_of {W : World} (h : Lib.VarReads Tryd.prog W "internal/strconv.uint64pow10" Rows.laid_internal_strconv_uint64pow10) : ex.Pw W ∧ 3 < W.heap.size := by
  rw [pow_is] at h
  obtain ⟨g, t, cs, fuel, p, hg, hty, hvar, hd⟩ := h
  obtain rfl := Option.some.inj (ex.gnP.symm.trans hg)
  obtain rfl := Option.some.inj (gt.symm.trans hty)
  have hP : ex.Pw W := by
    unfold ex.Pw Lib.TabIs
    rw [hvar, ← Lib.cells_of_tab Tryd.underlying145 Tryd.underlying126 (by kernel_rfl) (by kernel_rfl) hd]
  refine ⟨hP, ?_⟩
  have := Lib.TabIs.cell hP ex.gnP 0 (by decide)
  unfold World.cell? at this
  rcases Nat.lt_or_ge 3 W.heap.size with h | h
  · exact h
  · simp [Array.getElem?_eq_none h] at this
theorem of_laid {W : World} (h : laidMetH Tryd.prog list W) : ex.Gd W := by
  unfold laidMetH at h
  rw [some_of] at h
  have h' : laidMet Tryd.prog (list.filter fun x => x.2.handleName?.isNone) W ∧ handlesMet Tryd.prog laying.list W := h
  have h1 := h'.1
  rw [none_of] at h1
  obtain ⟨hp, hl⟩ := pw_of (Lib.laidMet.reads h1 (.tail _ (.tail _ (.head _))))
  exact ⟨laidm.marks_of_reads (Lib.laidMet.reads h1 (.tail _ (.tail _ (.tail _ (.head _))))), laying.handle_of_laid (show laidMetH Tryd.prog laying.list W from ⟨⟨[], rfl, List.nodup_nil, fun _ _ h => by cases h⟩, h'.2⟩), hp, hl⟩
theorem names_of : (plain.filter fun x => ["math/bits.deBruijn32tab", "math/bits.deBruijn64tab", "internal/strconv.uint64pow10", "escritoire/lex.marks"].contains x.1) = plain := by kernel_rfl
theorem names_not : (plain.filter fun x => !["math/bits.deBruijn32tab", "math/bits.deBruijn64tab", "internal/strconv.uint64pow10", "escritoire/lex.marks"].contains x.1) = [] := by kernel_rfl
set_option maxRecDepth 100000 in
theorem world_met (os : Os) (args : Array Value) : laidMetH Tryd.prog list ((World.layVars Tryd.prog (laying.layCell (World.holding Tryd.prog os ⟨#[], #[], []⟩)) plain).forCall (fun _ _ => 0) ⟨#[], args, []⟩).memory := by
  refine laidMetH_of_parts ?_ ?_
  · rw [none_of]
    refine laidMet_layVars (w0 := laying.layCell (World.holding Tryd.prog os ⟨#[], #[], []⟩)) ["math/bits.deBruijn32tab", "math/bits.deBruijn64tab", "internal/strconv.uint64pow10", "escritoire/lex.marks"] [] ?_ ?_ ?_ ?_
    · rw [names_of]; simp [World.memory, World.forCall, Input.heap]
    · rw [names_of]; kernel_rfl
    · rw [names_of]; kernel_rfl
    · rw [names_not]; exact LaidIn.none
  · rw [some_of]; kernel_rfl
end Go.Proofs.YtfngcphklfjhjaaDoor.laidx
