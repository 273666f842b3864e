/- What Of and Crc of package sums answer. -/
import Derived.Test.YthimjckimggpoaaDoorSums4
namespace Go.Proofs.YthimjckimggpoaaDoor.sums
open Go.ChangeShapes Go.WideShapes Go.ChangeAt Go.RowKit
open mem bit crc
attribute [local go_sem] World.cell?_alloc_some

theorem Of_yes (W P I O : Nat) (t : Bool) (s : ByteArray) (w : World) (h : Rt W P I O) (hs : s.size ≤ 140737488351232) :
    Calls Tryd.prog 6 #[.agg #[.int .i64 W, .int .u32 P, .bool t, .int .u32 I, .int .u32 O], .string s] w fun e w' => e = .returned (.tuple #[.int .u32 (sumV W P t I O s : Nat), .nilIface]) ∧ Gb w w' := by
  have H : Hid (Rt W P I O) := h
  clear h
  go_enter Tryd.func6, Tryd.ntmps6
  go_wp2_with (first | (go_at_call 8; refine (Right_yes W P I O t _ H.out).mono ?_; rintro e w1 ⟨rfl, g1⟩; have c0 := at_gb g1 (a := ⟨w.heap.size, 0, none⟩) (v := .int .i64 W) (by go_simp); have c1 := at_gb g1 (a := ⟨w.heap.size, 1, none⟩) (v := .int .u32 P) (by go_simp); have c2 := at_gb g1 (a := ⟨w.heap.size, 2, none⟩) (v := .bool t) (by go_simp); have c3 := at_gb g1 (a := ⟨w.heap.size, 3, none⟩) (v := .int .u32 I) (by go_simp); have c4 := at_gb g1 (a := ⟨w.heap.size, 4, none⟩) (v := .int .u32 O) (by go_simp)) | (go_at_call 17; refine (sum_at W P I O t s _ H.out hs).mono ?_; rintro e w2 ⟨rfl, g2⟩))
  go_ret2
  exact ⟨rfl, (Gb.alloc (Gb.refl w) _ _).trans (g1.trans g2)⟩
/-- The well-known sum is made so that it can be. -/
theorem rtC : Rt 32 79764919 4294967295 4294967295 := ⟨by decide, by decide, by decide, by decide, by decide⟩
/-- The well-known sum. -/
def crcV (s : ByteArray) : Nat := sumV 32 79764919 true 4294967295 4294967295 s
theorem sumC (s : ByteArray) (w : World) (hs : s.size ≤ 140737488351232) :
    Calls Tryd.prog 17 #[.agg #[.int .i64 32, .int .u32 79764919, .bool true, .int .u32 4294967295, .int .u32 4294967295], .string s] w fun e w' => e = .returned (.int .u32 (crcV s : Nat)) ∧ Gb w w' := sum_at 32 79764919 4294967295 4294967295 true s w rtC hs
theorem OfC (s : ByteArray) (w : World) (hs : s.size ≤ 140737488351232) :
    Calls Tryd.prog 6 #[.agg #[.int .i64 32, .int .u32 79764919, .bool true, .int .u32 4294967295, .int .u32 4294967295], .string s] w fun e w' => e = .returned (.tuple #[.int .u32 (crcV s : Nat), .nilIface]) ∧ Gb w w' := Of_yes 32 79764919 4294967295 4294967295 true s w rtC hs
theorem Crc_at (s : ByteArray) (w : World) (hs : s.size ≤ 140737488351232) :
    Calls Tryd.prog 10 #[.string s] w fun e w' => e = .returned (.int .u32 (crcV s : Nat)) ∧ Gb w w' := by
  go_enter Tryd.func10, Tryd.ntmps10
  go_wp2_with (go_at_call 17; refine (sumC s _ hs).mono ?_; rintro e w1 ⟨rfl, g1⟩)
  go_ret
  exact ⟨rfl, g1⟩
end Go.Proofs.YthimjckimggpoaaDoor.sums
