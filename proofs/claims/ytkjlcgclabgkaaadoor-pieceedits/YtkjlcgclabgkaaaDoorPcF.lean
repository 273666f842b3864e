/- What is wrong, told by At, Slice and Edit. -/
import Derived.Test.YtkjlcgclabgkaaaDoorPcE
namespace Go.Proofs.YtkjlcgclabgkaaaDoor.pc
set_option linter.unusedVariables false
open Go.ChangeShapes Go.WideShapes Go.ChangeAt Go.RowKit
open mem

def er (n : Int) : Value := .iface 36 (.int .i64 n)
set_option maxRecDepth 100000 in
set_option maxHeartbeats 4000000 in
theorem At_range (p : Option Addr) (t : Tr) (i : Int) (w : World) (h : Is w p t) (hi : i < 0 ∨ ((tot t.ps : Nat) : Int) ≤ i) :
    Calls Tryd.prog 10 #[.agg #[.pointer p], .int .i64 i] w fun e w' => e = .returned (.tuple #[.int .u8 0, .iface 36 (.int .i64 2)]) ∧ Bl w w' := by
  have cl := fun w' (k : Bl w w') => Len_at p t w' (h.bl k)
  generalize tot t.ps = T at *
  have HB0 : Bl w (w.alloc (.cells #[.pointer p] 26)) := (Bl.refl w).alloc _
  by_cases h0 : i < 0
  · go_enter Tryd.func10, Tryd.ntmps10
    go_wp2
    exact bodyPost_ret (v := .tuple #[.int .u8 0, .iface 36 (.int .i64 2)]) (by simp [results, Tryd.f10, go_sem]) rfl ⟨rfl, HB0⟩
  · have h1 : (T : Int) ≤ i := by omega
    clear hi
    go_enter Tryd.func10, Tryd.ntmps10
    go_wp2_with (go_at_call 7; refine (cl _ HB0).mono ?_; clear cl; rintro e w1 ⟨rfl, hb1⟩)
    exact bodyPost_ret (v := .tuple #[.int .u8 0, .iface 36 (.int .i64 2)]) (by simp [results, Tryd.f10, go_sem]) rfl ⟨rfl, HB0.trans hb1⟩
set_option maxRecDepth 100000 in
set_option maxHeartbeats 4000000 in
theorem Slice_range (p : Option Addr) (t : Tr) (f g : Int) (w : World) (h : Is w p t) (hi : f < 0 ∨ g < f ∨ ((tot t.ps : Nat) : Int) < g) :
    Calls Tryd.prog 9 #[.agg #[.pointer p], .int .i64 f, .int .i64 g] w fun e w' => e = .returned (.tuple #[.string ⟨#[]⟩, .iface 36 (.int .i64 2)]) ∧ Bl w w' := by
  have cl := fun w' (k : Bl w w') => Len_at p t w' (h.bl k)
  generalize tot t.ps = T at *
  have HB0 : Bl w (w.alloc (.cells #[.pointer p] 26)) := (Bl.refl w).alloc _
  by_cases h0 : f < 0
  · go_enter Tryd.func9, Tryd.ntmps9
    go_wp2
    exact bodyPost_ret (v := .tuple #[.string ⟨#[]⟩, .iface 36 (.int .i64 2)]) (by simp [results, Tryd.f9, go_sem]) rfl ⟨rfl, HB0⟩
  · by_cases h1 : g < f
    · clear hi
      go_enter Tryd.func9, Tryd.ntmps9
      go_wp2
      exact bodyPost_ret (v := .tuple #[.string ⟨#[]⟩, .iface 36 (.int .i64 2)]) (by simp [results, Tryd.f9, go_sem]) rfl ⟨rfl, HB0⟩
    · have h2 : (T : Int) < g := by omega
      clear hi
      go_enter Tryd.func9, Tryd.ntmps9
      go_wp2_with (go_at_call 7; refine (cl _ HB0).mono ?_; clear cl; rintro e w1 ⟨rfl, hb1⟩)
      exact bodyPost_ret (v := .tuple #[.string ⟨#[]⟩, .iface 36 (.int .i64 2)]) (by simp [results, Tryd.f9, go_sem]) rfl ⟨rfl, HB0.trans hb1⟩
set_option maxRecDepth 100000 in
set_option maxHeartbeats 4000000 in
theorem Edit_range (p : Option Addr) (t : Tr) (a o : Int) (s : ByteArray) (w : World) (h : Is w p t) (hz : tot t.ps ≤ 1000000) (ha : a ≤ 9223372036854775807) (hi : a < 0 ∨ o < 0 ∨ ((tot t.ps : Nat) : Int) - a < o) :
    Calls Tryd.prog 5 #[.agg #[.pointer p], .int .i64 a, .int .i64 o, .string s] w fun e w' => e = .returned (.tuple #[.agg #[.pointer none], .iface 36 (.int .i64 2)]) ∧ Bl w w' := by
  have cl := fun w' (k : Bl w w') => Len_at p t w' (h.bl k)
  generalize tot t.ps = T at *
  have hx1 := Bx.new (w.alloc (.cells #[.pointer p] 26)) (.pointer none) 26
  rw [World.size_alloc] at hx1
  have HX : Hid (Bx ((w.alloc (.cells #[.pointer p] 26)).alloc (.cells #[.pointer none] 26)) (w.heap.size + 1) (.pointer none) 26) := hx1
  clear hx1
  have hb0 : Bl w ((w.alloc (.cells #[.pointer p] 26)).alloc (.cells #[.pointer none] 26)) := ((Bl.refl w).alloc _).alloc _
  rcases (show a < 0 ∨ (0 ≤ a ∧ (o < 0 ∨ (0 ≤ o ∧ (T : Int) - a < o))) by omega) with h1 | ⟨h1, h2 | ⟨h2, h3⟩⟩
  · clear hi
    go_enter Tryd.func5, Tryd.ntmps5
    go_wp2_with (go_at_call 7; refine (cl _ hb0).mono ?_; clear cl; rintro e w1 ⟨rfl, hb1⟩; have hx3 := HX.out.bl hb1; have g1 := hx3.cell; have g2 := hx3.frozen)
    exact bodyPost_ret (v := .tuple #[.agg #[.pointer none], .iface 36 (.int .i64 2)]) (by simp [results, Tryd.f5, go_sem, (hx3.set (.pointer none)).cell]) rfl ⟨rfl, (hb0.trans hb1).setCell (Nat.le_succ _) _⟩
  · clear hi
    go_enter Tryd.func5, Tryd.ntmps5
    go_wp2_with (go_at_call 7; refine (cl _ hb0).mono ?_; clear cl; rintro e w1 ⟨rfl, hb1⟩; have hx3 := HX.out.bl hb1; have g1 := hx3.cell; have g2 := hx3.frozen)
    exact bodyPost_ret (v := .tuple #[.agg #[.pointer none], .iface 36 (.int .i64 2)]) (by simp [results, Tryd.f5, go_sem, (hx3.set (.pointer none)).cell]) rfl ⟨rfl, (hb0.trans hb1).setCell (Nat.le_succ _) _⟩
  · have hw1 : IntKind.i64.wrap ((T : Int) - a) = (T : Int) - a := by rw [IntKind.wrap_i64]; omega
    clear hi
    go_enter Tryd.func5, Tryd.ntmps5
    go_wp2_with (go_at_call 7; refine (cl _ hb0).mono ?_; clear cl; rintro e w1 ⟨rfl, hb1⟩; have hx3 := HX.out.bl hb1; have g1 := hx3.cell; have g2 := hx3.frozen)
    exact bodyPost_ret (v := .tuple #[.agg #[.pointer none], .iface 36 (.int .i64 2)]) (by simp [results, Tryd.f5, go_sem, (hx3.set (.pointer none)).cell]) rfl ⟨rfl, (hb0.trans hb1).setCell (Nat.le_succ _) _⟩
set_option maxRecDepth 100000 in
set_option maxHeartbeats 4000000 in
theorem Edit_full (p : Option Addr) (t : Tr) (a o : Int) (s : ByteArray) (w : World) (h : Is w p t) (hz : tot t.ps ≤ 1000000) (h1 : 0 ≤ a) (h2 : 0 ≤ o) (h3 : o ≤ ((tot t.ps : Nat) : Int) - a) (hs : s.size ≤ 5000) (h4 : 4000 < ((tot t.ps : Nat) : Int) - o + (s.size : Int)) :
    Calls Tryd.prog 5 #[.agg #[.pointer p], .int .i64 a, .int .i64 o, .string s] w fun e w' => e = .returned (.tuple #[.agg #[.pointer none], .iface 36 (.int .i64 12)]) ∧ Bl w w' := by
  have cl := fun w' (k : Bl w w') => Len_at p t w' (h.bl k)
  generalize tot t.ps = T at *
  have hx1 := Bx.new (w.alloc (.cells #[.pointer p] 26)) (.pointer none) 26
  rw [World.size_alloc] at hx1
  have HX : Hid (Bx ((w.alloc (.cells #[.pointer p] 26)).alloc (.cells #[.pointer none] 26)) (w.heap.size + 1) (.pointer none) 26) := hx1
  clear hx1
  have hb0 : Bl w ((w.alloc (.cells #[.pointer p] 26)).alloc (.cells #[.pointer none] 26)) := ((Bl.refl w).alloc _).alloc _
  have hw1 : IntKind.i64.wrap ((T : Int) - a) = (T : Int) - a := by rw [IntKind.wrap_i64]; omega
  have hw2 : IntKind.i64.wrap ((T : Int) - o) = (T : Int) - o := by rw [IntKind.wrap_i64]; omega
  have hw3 : IntKind.i64.wrap ((T : Int) - o + (s.size : Int)) = (T : Int) - o + (s.size : Int) := by rw [IntKind.wrap_i64]; omega
  go_enter Tryd.func5, Tryd.ntmps5
  go_wp2_with (go_at_call 7; refine (cl _ hb0).mono ?_; clear cl; rintro e w1 ⟨rfl, hb1⟩; have hx3 := HX.out.bl hb1; have g1 := hx3.cell; have g2 := hx3.frozen)
  exact bodyPost_ret (v := .tuple #[.agg #[.pointer none], .iface 36 (.int .i64 12)]) (by simp [results, Tryd.f5, go_sem, (hx3.set (.pointer none)).cell]) rfl ⟨rfl, (hb0.trans hb1).setCell (Nat.le_succ _) _⟩
end Go.Proofs.YtkjlcgclabgkaaaDoor.pc
