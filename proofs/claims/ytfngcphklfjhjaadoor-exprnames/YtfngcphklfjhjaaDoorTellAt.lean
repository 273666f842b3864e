/- What api.Tell, plain.Place and placed answer at an error with a place, and at none. -/
import Derived.Test.YtfngcphklfjhjaaDoorAsAt
namespace Go.Proofs.YtfngcphklfjhjaaDoor.errs
open Go.RowKit Go.Extern.Stop Go.Stop Go.Extern
open mem
theorem cell_lt {w : World} {a : Addr} {v : Value} (h : w.cell? a = some v) : a.block < w.heap.size := by
  rcases Nat.lt_or_ge a.block w.heap.size with h1 | h1
  · exact h1
  · simp [World.cell?, Array.getElem?_eq_none h1] at h
theorem cell_gb {w w' : World} (g : Gb w w') {a : Addr} {v : Value} (h : w.cell? a = some v) : w'.cell? a = some v := by
  rw [g.b.cell (p := a) (cell_lt h)]; exact h
theorem as_newAt (n : Int) (b : Nat) (w : World) (hg : Laid w) (hp : w.cell? ⟨b, 0, none⟩ = some (.int .i64 n)) :
    Calls Tryd.prog 40 #[.iface 62 (.pointer (some ⟨b, 0, none⟩)), .iface 77 (.pointer (some ⟨w.heap.size, 0, none⟩))] (w.alloc (.cells #[.int .i64 0] 24)) fun ev w' => ev = .returned (.bool true) ∧ w'.cell? ⟨w.heap.size, 0, none⟩ = some (.int .i64 n) ∧ Gb w w' := by
  refine (as_at n b ⟨w.heap.size, 0, none⟩ (.int .i64 0) (w.alloc (.cells #[.int .i64 0] 24)) (hg.gb ((Gb.refl w).alloc _ _)) (by simp) (by simp) (cell_gb ((Gb.refl w).alloc _ _) hp)).mono ?_
  rintro e w' ⟨rfl, rfl⟩
  refine ⟨rfl, ?_, ?_⟩
  · unfold asW
    refine World.cell?_setCell_same (u := .int .i64 0) _ _ _ ?_
    · rw [World.cell?_alloc_lt _ _ _ (by simp; omega), World.cell?_alloc_lt _ _ _ (by simp; omega), World.cell?_alloc_lt _ _ _ (by simp; omega), World.cell?_alloc_lt _ _ _ (by simp)]
      simp
  · unfold asW
    exact (((((((Gb.refl w).alloc _ _).alloc _ _).alloc _ _).alloc _ _).alloc _ _)).setCell (Nat.le_refl _) _
theorem tell_at (n : Int) (b : Nat) (w : World) (hg : Laid w) (hp : w.cell? ⟨b, 0, none⟩ = some (.int .i64 n)) : Calls Tryd.prog 21 #[.iface 62 (.pointer (some ⟨b, 0, none⟩))] w fun e w' => e = .returned (.int .i64 n) ∧ Gb w w' := by
  have H := hg
  have HP : Hid (w.cell? ⟨b, 0, none⟩ = some (.int .i64 n)) := hp
  clear hg hp
  go_enter Tryd.func21, Tryd.ntmps21
  go_wp2_with (go_at_call 40; refine (as_newAt n b w H HP.out).mono ?_; rintro e w1 ⟨rfl, hc, hgb⟩)
  go_ret
  exact ⟨rfl, hgb⟩
theorem isAt (v : Value) (w : World) : (Instr.typeAssert (.iface 62 v) 30 62 true).run Tryd.prog w = .ok (.tuple #[v, .bool true]) w := by kernel_rfl
theorem place_at (n p : Int) (b : Nat) (w : World) (hg : Laid w) (h0 : w.cell? ⟨b, 0, none⟩ = some (.int .i64 n)) (h1 : w.cell? ⟨b, 1, none⟩ = some (.int .i64 p)) :
    Calls Tryd.prog 31 #[.iface 62 (.pointer (some ⟨b, 0, none⟩))] w fun e w' => e = .returned (.tuple #[.int .i64 n, .int .i64 p]) ∧ Gb w w' := by
  have H := hg
  have iA := isAt
  have H0 : Hid (w.cell? ⟨b, 0, none⟩ = some (.int .i64 n)) := h0
  have H1 : Hid (w.cell? ⟨b, 1, none⟩ = some (.int .i64 p)) := h1
  clear hg h0 h1
  go_enter Tryd.func31, Tryd.ntmps31
  go_wp2_with (go_at_call 21; refine (tell_at n b _ H H0.out).mono ?_; rintro e w1 ⟨rfl, hgb⟩; have c1 := cell_gb hgb H1.out)
  refine wp_loop_rounds 1 ?_
  rw [rounds_succ]
  go_wp2
  go_region
  all_goals go_wp2
  all_goals go_ret2
  all_goals exact ⟨rfl, hgb.drew⟩
/-- An error at a place is told just so. -/
theorem placed_at (n p : Int) (b : Nat) (w : World) (hg : Laid w) (h0 : w.cell? ⟨b, 0, none⟩ = some (.int .i64 n)) (h1 : w.cell? ⟨b, 1, none⟩ = some (.int .i64 p)) :
    Calls Tryd.prog 10 #[.iface 62 (.pointer (some ⟨b, 0, none⟩)), .agg #[.int .i64 n, .int .i64 p]] w fun e w' => e = .returned (.bool true) ∧ Gb w w' := by
  have ga : Gb w (w.alloc (.cells #[.int .i64 n, .int .i64 p] 26)) := (Gb.refl w).alloc _ _
  have H := hg.gb ga
  have H0 : Hid ((w.alloc (.cells #[.int .i64 n, .int .i64 p] 26)).cell? ⟨b, 0, none⟩ = some (.int .i64 n)) := cell_gb ga h0
  have H1 : Hid ((w.alloc (.cells #[.int .i64 n, .int .i64 p] 26)).cell? ⟨b, 1, none⟩ = some (.int .i64 p)) := cell_gb ga h1
  clear hg h0 h1
  go_enter Tryd.func10, Tryd.ntmps10
  go_wp2_with (go_at_call 31; refine (place_at n p b _ H H0.out H1.out).mono ?_; rintro e w1 ⟨rfl, hgb⟩; have c0 := cell_gb hgb (a := ⟨w.heap.size, 0, none⟩) (v := .int .i64 n) (by simp); have c1 := cell_gb hgb (a := ⟨w.heap.size, 1, none⟩) (v := .int .i64 p) (by simp))
  go_ret
  exact ⟨by simp, ga.trans hgb⟩
theorem placed_nil (w : World) : Calls Tryd.prog 10 #[.nilIface, .agg #[.int .i64 0, .int .i64 (-1)]] w fun e w' => e = .returned (.bool true) ∧ Gb w w' := by
  go_enter Tryd.func10, Tryd.ntmps10
  go_wp2_with (go_at_call 31; refine (place_nil _).mono ?_; rintro e w1 ⟨rfl, rfl⟩)
  go_ret
  exact ⟨by simp, (Gb.refl _).alloc _ _⟩
end Go.Proofs.YtfngcphklfjhjaaDoor.errs
