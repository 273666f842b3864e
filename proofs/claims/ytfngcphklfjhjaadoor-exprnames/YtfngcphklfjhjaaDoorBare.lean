/- What api.Tell, plain.Place and bare answer at no error and at an Errno. -/
import Derived.Test.YtfngcphklfjhjaaDoorAs
import Derived.WalkLawsBesides
namespace Go.Proofs.YtfngcphklfjhjaaDoor.errs
open Go.RowKit Go.Extern.Stop Go.Stop Go.Extern
open mem

theorem Laid.pos {w : World} (h : Laid w) : 0 < w.heap.size := by
  unfold Laid at h
  rcases Nat.lt_or_ge 0 w.heap.size with h1 | h1
  · exact h1
  · simp [World.cell?, Array.getElem?_eq_none h1] at h
theorem Laid.gb {w w' : World} (h : Laid w) (g : Gb w w') : Laid w' := by
  have hp := h.pos
  unfold Laid at h ⊢
  rw [g.b.cell (p := ⟨0, 0, none⟩) hp]
  exact h

theorem as_new (n : Int) (w : World) (hg : Laid w) :
    Calls Tryd.prog 40 #[.iface 24 (.int .i64 n), .iface 77 (.pointer (some ⟨w.heap.size, 0, none⟩))] (w.alloc (.cells #[.int .i64 0] 24)) fun ev w' => ev = .returned (.bool true) ∧ w'.cell? ⟨w.heap.size, 0, none⟩ = some (.int .i64 n) ∧ Gb w w' := by
  refine (as_hit n ⟨w.heap.size, 0, none⟩ (.int .i64 0) (w.alloc (.cells #[.int .i64 0] 24)) (hg.gb ((Gb.refl w).alloc _ _)) (by simp) (by simp)).mono ?_
  rintro e w' ⟨rfl, rfl⟩
  refine ⟨rfl, ?_, ?_⟩
  · unfold asW
    refine World.cell?_setCell_same (u := .int .i64 0) _ _ _ ?_
    · rw [World.cell?_alloc_lt _ _ _ (by simp; omega), World.cell?_alloc_lt _ _ _ (by simp; omega), World.cell?_alloc_lt _ _ _ (by simp; omega), World.cell?_alloc_lt _ _ _ (by simp)]
      simp
  · unfold asW
    exact (((((((Gb.refl w).alloc _ _).alloc _ _).alloc _ _).alloc _ _).alloc _ _)).setCell (Nat.le_refl _) _

theorem tell_nil (w : World) : Calls Tryd.prog 21 #[.nilIface] w fun e w' => e = .returned (.int .i64 0) ∧ w' = w := by
  go_enter Tryd.func21, Tryd.ntmps21
  go_wp2
  go_ret
  exact ⟨rfl, rfl⟩
theorem tell_errno (n : Int) (w : World) (hg : Laid w) : Calls Tryd.prog 21 #[.iface 24 (.int .i64 n)] w fun e w' => e = .returned (.int .i64 n) ∧ Gb w w' := by
  have H := hg
  clear hg
  go_enter Tryd.func21, Tryd.ntmps21
  go_wp2_with (go_at_call 40; refine (as_new n w H).mono ?_; rintro e w1 ⟨rfl, hc, hgb⟩)
  go_ret
  exact ⟨rfl, hgb⟩
theorem place_nil (w : World) : Calls Tryd.prog 31 #[.nilIface] w fun e w' => e = .returned (.tuple #[.int .i64 0, .int .i64 (-1)]) ∧ w' = w := by
  go_enter Tryd.func31, Tryd.ntmps31
  go_wp2_with (go_at_call 21; refine (tell_nil _).mono ?_; rintro e w1 ⟨rfl, rfl⟩)
  refine wp_loop_rounds 1 ?_
  rw [rounds_succ]
  go_wp2
  go_ret2
  exact ⟨rfl, rfl⟩
theorem noAt (v : Value) (w : World) : (Instr.typeAssert (.iface 24 v) 30 62 true).run Tryd.prog w = .ok (.tuple #[.pointer none, .bool false]) w := by kernel_rfl
theorem noUnwrap (v : Value) (w : World) : (Instr.typeAssert (.iface 24 v) 30 83 true).run Tryd.prog w = .ok (.tuple #[.nilIface, .bool false]) w :=
  run_typeAssert_lacksB Tryd.underlying83 (by kernel_rfl) (by kernel_rfl) v 30 w
theorem place_errno (n : Int) (w : World) (hg : Laid w) : Calls Tryd.prog 31 #[.iface 24 (.int .i64 n)] w fun e w' => e = .returned (.tuple #[.int .i64 n, .int .i64 (-1)]) ∧ Gb w w' := by
  have H := hg
  clear hg
  have nA := noAt
  have nU := noUnwrap
  go_enter Tryd.func31, Tryd.ntmps31
  go_wp2_with (go_at_call 21; refine (tell_errno _ _ H).mono ?_; rintro e w1 ⟨rfl, hgb⟩)
  refine wp_loop_rounds 1 ?_
  rw [rounds_succ]
  go_wp2
  go_ret2
  exact ⟨rfl, hgb⟩
theorem Laid.bl {w w' : World} (h : Laid w) (g : Bl w w') : Laid w' := by
  have hp := h.pos
  unfold Laid at h ⊢
  unfold World.cell? at h ⊢
  rw [Below.block g _ hp]
  exact h
/-- An error without a place is told just so. -/
theorem placed_errno (n : Int) (w : World) (hg : Laid w) : Calls Tryd.prog 10 #[.iface 24 (.int .i64 n), .agg #[.int .i64 n, .int .i64 (-1)]] w fun e w' => e = .returned (.bool true) ∧ Gb w w' := by
  have ga : Gb w (w.alloc (.cells #[.int .i64 n, .int .i64 (-1)] 26)) := (Gb.refl w).alloc _ _
  have H := hg.gb ga
  clear hg
  go_enter Tryd.func10, Tryd.ntmps10
  go_wp2_with (go_at_call 31; refine (place_errno n _ H).mono ?_; rintro e w1 ⟨rfl, hgb⟩; have c0 := (hgb.b.cell (p := ⟨w.heap.size, 0, none⟩) (by simp)).trans (show _ = some (Value.int .i64 n) by simp); have c1 := (hgb.b.cell (p := ⟨w.heap.size, 1, none⟩) (by simp)).trans (show _ = some (Value.int .i64 (-1)) by simp))
  go_ret
  exact ⟨by simp, ga.trans hgb⟩
end Go.Proofs.YtfngcphklfjhjaaDoor.errs
