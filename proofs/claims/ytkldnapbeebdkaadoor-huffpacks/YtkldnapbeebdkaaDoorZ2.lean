/- Texts laid together: Bare, Laid. -/
import Derived.Test.YtkldnapbeebdkaaDoorZ1
import Derived.WalkLawsBesides
import Derived.Test.YtkldnapbeebdkaaDoorRows
import Derived.ChangeSame
import Derived.ChangeVars
import Derived.JoinedOf
import Derived.RowKit
import Derived.RowKitTokens
import Derived.LaidLaws
import Derived.LaidHandle
import Derived.Stop.Joined
/- What api.Tell, plain.Place and bare answer at no error and at an Errno. -/
namespace Go.Proofs.YtkldnapbeebdkaaDoor.errs
open Go.RowKit Go.Extern.Stop Go.Stop Go.Extern
open mem

theorem Laid.pos {w : World} (h : Laid w) : 0 < w.heap.size := by
  unfold Laid at h
  rcases Nat.lt_or_ge 0 w.heap.size with h1 | h1
  · exact h1
  · simp [World.cell?, Array.getElem?_eq_none h1] at h
theorem Laid.gb {w w' : World} (h : Laid w) (g : Gb w w') : Laid w' := by
  have hp := h.pos
  unfold Laid at h ⊢
  rw [g.b.cell (p := ⟨0, 0, none⟩) hp]
  exact h

theorem as_new (n : Int) (w : World) (hg : Laid w) :
    Calls Tryd.prog 66 #[.iface 23 (.int .i64 n), .iface 116 (.pointer (some ⟨w.heap.size, 0, none⟩))] (w.alloc (.cells #[.int .i64 0] 23)) fun ev w' => ev = .returned (.bool true) ∧ w'.cell? ⟨w.heap.size, 0, none⟩ = some (.int .i64 n) ∧ Gb w w' := by
  refine (as_hit n ⟨w.heap.size, 0, none⟩ (.int .i64 0) (w.alloc (.cells #[.int .i64 0] 23)) (hg.gb ((Gb.refl w).alloc _ _)) (by simp) (by simp)).mono ?_
  rintro e w' ⟨rfl, rfl⟩
  refine ⟨rfl, ?_, ?_⟩
  · unfold asW
    refine World.cell?_setCell_same (u := .int .i64 0) _ _ _ ?_
    · rw [World.cell?_alloc_lt _ _ _ (by simp; omega), World.cell?_alloc_lt _ _ _ (by simp; omega), World.cell?_alloc_lt _ _ _ (by simp; omega), World.cell?_alloc_lt _ _ _ (by simp)]
      simp
  · unfold asW
    exact (((((((Gb.refl w).alloc _ _).alloc _ _).alloc _ _).alloc _ _).alloc _ _)).setCell (Nat.le_refl _) _

theorem tell_nil (w : World) : Calls Tryd.prog 43 #[.nilIface] w fun e w' => e = .returned (.int .i64 0) ∧ w' = w := by
  go_enter Tryd.func43, Tryd.ntmps43
  go_wp2
  go_ret
  exact ⟨rfl, rfl⟩
theorem tell_errno (n : Int) (w : World) (hg : Laid w) : Calls Tryd.prog 43 #[.iface 23 (.int .i64 n)] w fun e w' => e = .returned (.int .i64 n) ∧ Gb w w' := by
  have H := hg
  clear hg
  go_enter Tryd.func43, Tryd.ntmps43
  go_wp2_with (go_at_call 66; refine (as_new n w H).mono ?_; rintro e w1 ⟨rfl, hc, hgb⟩)
  go_ret
  exact ⟨rfl, hgb⟩
theorem place_nil (w : World) : Calls Tryd.prog 28 #[.nilIface] w fun e w' => e = .returned (.tuple #[.int .i64 0, .int .i64 (-1)]) ∧ w' = w := by
  go_enter Tryd.func28, Tryd.ntmps28
  go_wp2_with (go_at_call 43; refine (tell_nil _).mono ?_; rintro e w1 ⟨rfl, rfl⟩)
  refine wp_loop_rounds 1 ?_
  rw [rounds_succ]
  go_wp2
  go_ret2
  exact ⟨rfl, rfl⟩
theorem noAt (v : Value) (w : World) : (Instr.typeAssert (.iface 23 v) 27 88 true).run Tryd.prog w = .ok (.tuple #[.pointer none, .bool false]) w := by kernel_rfl
theorem noUnwrap (v : Value) (w : World) : (Instr.typeAssert (.iface 23 v) 27 92 true).run Tryd.prog w = .ok (.tuple #[.nilIface, .bool false]) w :=
  run_typeAssert_lacksB Tryd.underlying92 (by kernel_rfl) (by kernel_rfl) v 27 w
theorem place_errno (n : Int) (w : World) (hg : Laid w) : Calls Tryd.prog 28 #[.iface 23 (.int .i64 n)] w fun e w' => e = .returned (.tuple #[.int .i64 n, .int .i64 (-1)]) ∧ Gb w w' := by
  have H := hg
  clear hg
  have nA := noAt
  have nU := noUnwrap
  go_enter Tryd.func28, Tryd.ntmps28
  go_wp2_with (go_at_call 43; refine (tell_errno _ _ H).mono ?_; rintro e w1 ⟨rfl, hgb⟩)
  refine wp_loop_rounds 1 ?_
  rw [rounds_succ]
  go_wp2
  go_ret2
  exact ⟨rfl, hgb⟩
theorem bare_nil (e : Int) (w : World) : Calls Tryd.prog 9 #[.nilIface, .int .i64 e] w fun ev w' => ev = .returned (.bool (0 == e)) ∧ w' = w := by
  by_cases he : 0 = e
  · subst he
    go_enter Tryd.func9, Tryd.ntmps9
    go_wp2_with (go_at_call 28; refine (place_nil _).mono ?_; rintro e w1 ⟨rfl, rfl⟩)
    go_ret
    exact ⟨rfl, rfl⟩
  · have hb : ((0 : Int) == e) = false := by simpa using he
    go_enter Tryd.func9, Tryd.ntmps9
    go_wp2_with (go_at_call 28; refine (place_nil _).mono ?_; rintro e w1 ⟨rfl, rfl⟩)
    go_ret
    exact ⟨by rw [hb]; rfl, rfl⟩
theorem bare_errno (n e : Int) (w : World) (hg : Laid w) : Calls Tryd.prog 9 #[.iface 23 (.int .i64 n), .int .i64 e] w fun ev w' => ev = .returned (.bool (n == e)) ∧ Gb w w' := by
  have H := hg
  clear hg
  by_cases he : n = e
  · subst he
    go_enter Tryd.func9, Tryd.ntmps9
    go_wp2_with (go_at_call 28; refine (place_errno _ _ H).mono ?_; rintro e w1 ⟨rfl, hgb⟩)
    go_ret
    exact ⟨by simp, hgb⟩
  · have hb : (n == e) = false := by simpa using he
    go_enter Tryd.func9, Tryd.ntmps9
    go_wp2_with (go_at_call 28; refine (place_errno _ _ H).mono ?_; rintro e w1 ⟨rfl, hgb⟩)
    go_ret
    exact ⟨by rw [hb]; rfl, hgb⟩
end Go.Proofs.YtkldnapbeebdkaaDoor.errs
/- What the row's condition on errors.errorType gives a walk: the variable's one cell; and a world that meets it. -/
namespace Go.Proofs.YtkldnapbeebdkaaDoor.laying
open Go.ChangeShapes Go.WideShapes Go.RowKit

/-- The list that the seat's rows lay. -/
def list : List (String × DataW Unit) := [("errors.errorType", Rows.laid_errors_errorType)]
theorem own : ownKnob Tryd.prog.godebug = none := by kernel_rfl
theorem et : Tryd.prog.globalNamed "errors.errorType" = some 0 := by kernel_rfl
theorem rt : (Tryd.prog.cutTypes.find? (·.1 == "internal/reflectlite.rtype")).map (·.2) = some 111 := by kernel_rfl
theorem oneRow : ((List.range 169).filter fun t => Tryd.prog.rowNamed t [101, 114, 114, 111, 114]) = [27] := by kernel_rfl
theorem size : Tryd.prog.types.size = 169 := by kernel_rfl
theorem handle_of_laid {W : World} (h : laidMetH Tryd.prog list W) : errs.Laid W := by
  have h' : laidMet Tryd.prog [] W ∧ handlesMet Tryd.prog list W := h
  obtain ⟨name, u, ty, e1, e2, e3, e4, e5⟩ := h'.2 _ (List.mem_singleton.2 rfl)
  have en : name = [101, 114, 114, 111, 114] := (Option.some.inj e1).symm
  subst en
  obtain rfl := Option.some.inj (rt.symm.trans e2)
  have hm : ty ∈ (List.range 169).filter fun t => Tryd.prog.rowNamed t [101, 114, 114, 111, 114] := List.mem_filter.2 ⟨List.mem_range.2 (by rw [← size]; exact e3), e4⟩
  rw [oneRow] at hm
  obtain rfl := List.mem_singleton.1 hm
  have hh : typeHandle Tryd.prog 27 = .pointer (some ⟨1, 27, none⟩) := by kernel_rfl
  rw [hh] at e5
  unfold errs.Laid
  simpa using World.var?_cell et e5 0
/-- A world, the variable's cell laid. -/
def layCell (w0 : World) : World :=
  { w0 with heap := w0.heap.modify 0 fun
      | .cells _ t frozen => .cells #[.iface 111 (.agg #[.pointer (some ⟨1, 27, none⟩)])] t frozen
      | o => o }
theorem laidWorld_met (os : Os) (args : Array Value) : laidMetH Tryd.prog list ((layCell (World.holding Tryd.prog os ⟨#[], #[], []⟩)).forCall (fun _ _ => 0) ⟨#[], args, []⟩).memory :=
  laidMetH_of_parts (laidMet_nil _ _) (by kernel_rfl)
end Go.Proofs.YtkldnapbeebdkaaDoor.laying
