/- What Force of package sums tells where it can't be done, and the document's own word on bytes that are put in. -/
import Derived.Test.YthimjckimggpoaaDoorRefSumC
namespace Go.Proofs.YthimjckimggpoaaDoor.sums
open Go.ChangeShapes Go.WideShapes Go.ChangeAt Go.RowKit
open mem bit crc
attribute [local go_sem] World.cell?_alloc_some

theorem Force_no (W : Int) (P I O : Nat) (t : Bool) (s : ByteArray) (a u : Int) (w : World) (h : No W P I O) (hP : P < 4294967296) :
    Calls Tryd.prog 12 #[.agg #[.int .i64 W, .int .u32 P, .bool t, .int .u32 I, .int .u32 O], .string s, .int .i64 a, .int .u32 u] w fun e w' => e = .returned (.tuple #[.string ⟨#[]⟩, .iface 25 (.int .i64 1)]) ∧ Gb w w' := by
  have HN : Hid (No W P I O) := h
  clear h
  go_enter Tryd.func12, Tryd.ntmps12
  go_wp2_with (first | (go_at_call 8; refine (Right_no W P I O t _ HN.out hP).mono ?_; rintro e w1 ⟨rfl, g1⟩; have c0 := at_gb g1 (a := ⟨w.heap.size, 0, none⟩) (v := .int .i64 W) (by go_simp); have c1 := at_gb g1 (a := ⟨w.heap.size, 1, none⟩) (v := .int .u32 P) (by go_simp); have c2 := at_gb g1 (a := ⟨w.heap.size, 2, none⟩) (v := .bool t) (by go_simp); have c3 := at_gb g1 (a := ⟨w.heap.size, 3, none⟩) (v := .int .u32 I) (by go_simp); have c4 := at_gb g1 (a := ⟨w.heap.size, 4, none⟩) (v := .int .u32 O) (by go_simp)))
  go_ret2
  exact ⟨rfl, (Gb.alloc (Gb.refl w) _ _).trans g1⟩
theorem Force_far (W P I O : Nat) (t : Bool) (s : ByteArray) (a : Int) (u : Nat) (w : World) (h : Rt W P I O) (ha : a < 0 ∨ (s.size : Int) < a ∨ 2 ^ W ≤ u) :
    Calls Tryd.prog 12 #[.agg #[.int .i64 W, .int .u32 P, .bool t, .int .u32 I, .int .u32 O], .string s, .int .i64 a, .int .u32 u] w fun e w' => e = .returned (.tuple #[.string ⟨#[]⟩, .iface 25 (.int .i64 2)]) ∧ Gb w w' := by
  have H : Hid (Rt W P I O) := h
  by_cases h1 : a < 0
  · have e1 : decide (a < 0) = true := decide_eq_true h1
    clear h ha
    go_enter Tryd.func12, Tryd.ntmps12
    go_wp2_with (first | (go_at_call 8; refine (Right_yes W P I O t _ H.out).mono ?_; rintro e w1 ⟨rfl, g1⟩; have c0 := at_gb g1 (a := ⟨w.heap.size, 0, none⟩) (v := .int .i64 W) (by go_simp); have c1 := at_gb g1 (a := ⟨w.heap.size, 1, none⟩) (v := .int .u32 P) (by go_simp); have c2 := at_gb g1 (a := ⟨w.heap.size, 2, none⟩) (v := .bool t) (by go_simp); have c3 := at_gb g1 (a := ⟨w.heap.size, 3, none⟩) (v := .int .u32 I) (by go_simp); have c4 := at_gb g1 (a := ⟨w.heap.size, 4, none⟩) (v := .int .u32 O) (by go_simp)))
    go_ret2
    exact ⟨rfl, (Gb.alloc (Gb.refl w) _ _).trans g1⟩
  have e1 : decide (a < 0) = false := decide_eq_false h1
  by_cases h2 : (s.size : Int) < a
  · have e2 : decide ((s.size : Int) < a) = true := decide_eq_true h2
    clear h ha
    go_enter Tryd.func12, Tryd.ntmps12
    go_wp2_with (first | (go_at_call 8; refine (Right_yes W P I O t _ H.out).mono ?_; rintro e w1 ⟨rfl, g1⟩; have c0 := at_gb g1 (a := ⟨w.heap.size, 0, none⟩) (v := .int .i64 W) (by go_simp); have c1 := at_gb g1 (a := ⟨w.heap.size, 1, none⟩) (v := .int .u32 P) (by go_simp); have c2 := at_gb g1 (a := ⟨w.heap.size, 2, none⟩) (v := .bool t) (by go_simp); have c3 := at_gb g1 (a := ⟨w.heap.size, 3, none⟩) (v := .int .u32 I) (by go_simp); have c4 := at_gb g1 (a := ⟨w.heap.size, 4, none⟩) (v := .int .u32 O) (by go_simp)))
    go_ret2
    exact ⟨rfl, (Gb.alloc (Gb.refl w) _ _).trans g1⟩
  have e2 : decide ((s.size : Int) < a) = false := decide_eq_false h2
  have h3 : ¬ u < 2 ^ W := by omega
  have hwi : ∀ w, Calls Tryd.prog 19 #[.int .u32 u, .int .i64 W] w fun e w' => e = .returned (.bool false) ∧ w' = w := fun w => by
    have := within_at u W w h.h8 h.h32
    rw [decide_eq_false h3] at this; exact this
  clear h ha h3
  go_enter Tryd.func12, Tryd.ntmps12
  go_wp2_with (first | (go_at_call 8; refine (Right_yes W P I O t _ H.out).mono ?_; rintro e w1 ⟨rfl, g1⟩; have c0 := at_gb g1 (a := ⟨w.heap.size, 0, none⟩) (v := .int .i64 W) (by go_simp); have c1 := at_gb g1 (a := ⟨w.heap.size, 1, none⟩) (v := .int .u32 P) (by go_simp); have c2 := at_gb g1 (a := ⟨w.heap.size, 2, none⟩) (v := .bool t) (by go_simp); have c3 := at_gb g1 (a := ⟨w.heap.size, 3, none⟩) (v := .int .u32 I) (by go_simp); have c4 := at_gb g1 (a := ⟨w.heap.size, 4, none⟩) (v := .int .u32 O) (by go_simp)) | (go_at_call 19; refine (hwi _).mono ?_; rintro e w2 ⟨rfl, rfl⟩))
  go_ret2
  exact ⟨rfl, (Gb.alloc (Gb.refl w) _ _).trans g1⟩
theorem refForced_yes (W P I O : Nat) (t : Bool) (s b : ByteArray) (a u : Nat) (w : World) (h : Rt W P I O) (hs : s.size ≤ 80) (ha : a ≤ s.size) (hb : b.size = W / 8) (hu : sumV W P t I O (put s b a) = u) :
    Calls Tryd.prog 13 #[.agg #[.int .i64 W, .int .u32 P, .bool t, .int .u32 I, .int .u32 O], .string s, .int .i64 a, .int .u32 u, .string b] w fun e w' => e = .returned (.bool true) ∧ Bl w w' := by
  have h8 := h.h8
  have h32 := h.h32
  have y1 : ∀ w, Calls Tryd.prog 5 #[.agg #[.int .i64 W, .int .u32 P, .bool t, .int .u32 I, .int .u32 O], .string (s.extract 0 a ++ b ++ s.extract a s.size)] w fun e w' => e = .returned (.tuple #[.int .u32 (u : Nat), .int .i64 0]) ∧ Bl w w' := fun w => by
    have := refSumOf_yes W P I O t (put s b a) w h (by rw [put_size s b a ha]; omega)
    rw [hu] at this
    exact this
  have hai : (a : Int) ≤ (s.size : Int) := by omega
  have ha0 : (0 : Int) ≤ (a : Int) := by omega
  have hb4 : b.size ≤ 4 := by omega
  have j1 : ¬ 9223372036854775807 < a + b.size := by omega
  have j2 : ¬ 9223372036854775807 < a + b.size + (s.size - a) := by omega
  have hbi : ((b.size : Int) == (W : Int) / 8) = true := by rw [beq_iff_eq]; omega
  clear h hb hu
  go_enter Tryd.func13, Tryd.ntmps13
  go_wp2
  go_region_held3 (fun w' => (World.cell? w' ⟨w.heap.size, 0, none⟩ = some (.int .i64 W) ∧ World.cell? w' ⟨w.heap.size, 1, none⟩ = some (.int .u32 P) ∧ World.cell? w' ⟨w.heap.size, 2, none⟩ = some (.bool t) ∧ World.cell? w' ⟨w.heap.size, 3, none⟩ = some (.int .u32 I) ∧ World.cell? w' ⟨w.heap.size, 4, none⟩ = some (.int .u32 O))) (simp (maxDischargeDepth := 9) [*]) (first | (go_at_call 5; refine (y1 _).mono ?_; rintro e w1 ⟨rfl, g1⟩; have c0 := at_bl g1 (a := ⟨w.heap.size, 0, none⟩) (v := .int .i64 W) (by go_simp); have c1 := at_bl g1 (a := ⟨w.heap.size, 1, none⟩) (v := .int .u32 P) (by go_simp); have c2 := at_bl g1 (a := ⟨w.heap.size, 2, none⟩) (v := .bool t) (by go_simp); have c3 := at_bl g1 (a := ⟨w.heap.size, 3, none⟩) (v := .int .u32 I) (by go_simp); have c4 := at_bl g1 (a := ⟨w.heap.size, 4, none⟩) (v := .int .u32 O) (by go_simp)))
  go_wp2
  go_ret
  exact ⟨rfl, ((Bl.refl w).alloc _).drew.trans g1⟩
end Go.Proofs.YthimjckimggpoaaDoor.sums
