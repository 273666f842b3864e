/- What api.Tell, plain.Place and bare answer at no error and at an Errno. -/
import Derived.Test.YtoiiphkcpdphbaaDoorAs
import Derived.WalkLawsBesides
namespace Go.Proofs.YtoiiphkcpdphbaaDoor.errs
open Go.RowKit Go.Extern.Stop Go.Stop Go.Extern
open mem

theorem Laid.pos {w : World} (h : Laid w) : 0 < w.heap.size := by
  unfold Laid at h
  rcases Nat.lt_or_ge 0 w.heap.size with h1 | h1
  · exact h1
  · simp [World.cell?, Array.getElem?_eq_none h1] at h
theorem Laid.gb {w w' : World} (h : Laid w) (g : Gb w w') : Laid w' := by
  have hp := h.pos
  unfold Laid at h ⊢
  rw [g.b.cell (p := ⟨0, 0, none⟩) hp]
  exact h

theorem as_new (n : Int) (w : World) (hg : Laid w) :
    Calls Tryd.prog 40 #[.iface 22 (.int .i64 n), .iface 108 (.pointer (some ⟨w.heap.size, 0, none⟩))] (w.alloc (.cells #[.int .i64 0] 22)) fun ev w' => ev = .returned (.bool true) ∧ w'.cell? ⟨w.heap.size, 0, none⟩ = some (.int .i64 n) ∧ Gb w w' := by
  refine (as_hit n ⟨w.heap.size, 0, none⟩ (.int .i64 0) (w.alloc (.cells #[.int .i64 0] 22)) (hg.gb ((Gb.refl w).alloc _ _)) (by simp) (by simp)).mono ?_
  rintro e w' ⟨rfl, rfl⟩
  refine ⟨rfl, ?_, ?_⟩
  · unfold asW
    refine World.cell?_setCell_same (u := .int .i64 0) _ _ _ ?_
    · rw [World.cell?_alloc_lt _ _ _ (by simp; omega), World.cell?_alloc_lt _ _ _ (by simp; omega), World.cell?_alloc_lt _ _ _ (by simp; omega), World.cell?_alloc_lt _ _ _ (by simp)]
      simp
  · unfold asW
    exact (((((((Gb.refl w).alloc _ _).alloc _ _).alloc _ _).alloc _ _).alloc _ _)).setCell (Nat.le_refl _) _

theorem tell_nil (w : World) : Calls Tryd.prog 32 #[.nilIface] w fun e w' => e = .returned (.int .i64 0) ∧ w' = w := by
  go_enter Tryd.func32, Tryd.ntmps32
  go_wp2
  go_ret
  exact ⟨rfl, rfl⟩
theorem tell_errno (n : Int) (w : World) (hg : Laid w) : Calls Tryd.prog 32 #[.iface 22 (.int .i64 n)] w fun e w' => e = .returned (.int .i64 n) ∧ Gb w w' := by
  have H := hg
  clear hg
  go_enter Tryd.func32, Tryd.ntmps32
  go_wp2_with (go_at_call 40; refine (as_new n w H).mono ?_; rintro e w1 ⟨rfl, hc, hgb⟩)
  go_ret
  exact ⟨rfl, hgb⟩
theorem place_nil (w : World) : Calls Tryd.prog 22 #[.nilIface] w fun e w' => e = .returned (.tuple #[.int .i64 0, .int .i64 (-1)]) ∧ w' = w := by
  go_enter Tryd.func22, Tryd.ntmps22
  go_wp2_with (go_at_call 32; refine (tell_nil _).mono ?_; rintro e w1 ⟨rfl, rfl⟩)
  refine wp_loop_rounds 1 ?_
  rw [rounds_succ]
  go_wp2
  go_ret2
  exact ⟨rfl, rfl⟩
theorem noAt (v : Value) (w : World) : (Instr.typeAssert (.iface 22 v) 26 85 true).run Tryd.prog w = .ok (.tuple #[.pointer none, .bool false]) w := by kernel_rfl
theorem noUnwrap (v : Value) (w : World) : (Instr.typeAssert (.iface 22 v) 26 89 true).run Tryd.prog w = .ok (.tuple #[.nilIface, .bool false]) w :=
  run_typeAssert_lacksB Tryd.underlying89 (by kernel_rfl) (by kernel_rfl) v 26 w
theorem place_errno (n : Int) (w : World) (hg : Laid w) : Calls Tryd.prog 22 #[.iface 22 (.int .i64 n)] w fun e w' => e = .returned (.tuple #[.int .i64 n, .int .i64 (-1)]) ∧ Gb w w' := by
  have H := hg
  clear hg
  have nA := noAt
  have nU := noUnwrap
  go_enter Tryd.func22, Tryd.ntmps22
  go_wp2_with (go_at_call 32; refine (tell_errno _ _ H).mono ?_; rintro e w1 ⟨rfl, hgb⟩)
  refine wp_loop_rounds 1 ?_
  rw [rounds_succ]
  go_wp2
  go_ret2
  exact ⟨rfl, hgb⟩
theorem bare_nil (e : Int) (w : World) : Calls Tryd.prog 10 #[.nilIface, .int .i64 e] w fun ev w' => ev = .returned (.bool (0 == e)) ∧ w' = w := by
  by_cases he : 0 = e
  · subst he
    go_enter Tryd.func10, Tryd.ntmps10
    go_wp2_with (go_at_call 22; refine (place_nil _).mono ?_; rintro e w1 ⟨rfl, rfl⟩)
    go_ret
    exact ⟨rfl, rfl⟩
  · have hb : ((0 : Int) == e) = false := by simpa using he
    go_enter Tryd.func10, Tryd.ntmps10
    go_wp2_with (go_at_call 22; refine (place_nil _).mono ?_; rintro e w1 ⟨rfl, rfl⟩)
    go_ret
    exact ⟨by rw [hb]; rfl, rfl⟩
theorem bare_errno (n e : Int) (w : World) (hg : Laid w) : Calls Tryd.prog 10 #[.iface 22 (.int .i64 n), .int .i64 e] w fun ev w' => ev = .returned (.bool (n == e)) ∧ Gb w w' := by
  have H := hg
  clear hg
  by_cases he : n = e
  · subst he
    go_enter Tryd.func10, Tryd.ntmps10
    go_wp2_with (go_at_call 22; refine (place_errno _ _ H).mono ?_; rintro e w1 ⟨rfl, hgb⟩)
    go_ret
    exact ⟨by simp, hgb⟩
  · have hb : (n == e) = false := by simpa using he
    go_enter Tryd.func10, Tryd.ntmps10
    go_wp2_with (go_at_call 22; refine (place_errno _ _ H).mono ?_; rintro e w1 ⟨rfl, hgb⟩)
    go_ret
    exact ⟨by rw [hb]; rfl, hgb⟩
end Go.Proofs.YtoiiphkcpdphbaaDoor.errs
