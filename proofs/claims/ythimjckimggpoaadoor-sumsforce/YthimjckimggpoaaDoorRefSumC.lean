/- What is told of sums that can't be made, and of places that are not there; the document's own Crc and SumForced. -/
import Derived.Test.YthimjckimggpoaaDoorRefSumB
namespace Go.Proofs.YthimjckimggpoaaDoor.sums
open Go.ChangeShapes Go.WideShapes Go.ChangeAt Go.RowKit
open mem bit crc
attribute [local go_sem] World.cell?_alloc_some

/-- A sum can't be made so. -/
def No (W P I O : Int) : Prop := ∀ W' P' I' O' : Nat, W = W' → P = P' → I = I' → O = O' → ¬ Rt W' P' I' O'
theorem Right_no (W : Int) (P I O : Nat) (t : Bool) (w : World) (h : No W P I O) (hP : P < 4294967296) :
    Calls Tryd.prog 8 #[.agg #[.int .i64 W, .int .u32 P, .bool t, .int .u32 I, .int .u32 O]] w fun e w' => e = .returned (.bool false) ∧ Gb w w' := by
  by_cases hw : W ≠ 8 ∧ W ≠ 16 ∧ W ≠ 32
  · exact Right_wide W P I O t w hw
  · obtain ⟨V, hV⟩ : ∃ V : Nat, W = V := ⟨W.toNat, by omega⟩
    subst hV
    have hv : V = 8 ∨ V = 16 ∨ V = 32 := by omega
    have := Right_is V P I O t w hv hP
    have hb : (decide (P % 2 = 1) && decide (P < 2 ^ V) && decide (I < 2 ^ V) && decide (O < 2 ^ V)) = false := by
      rw [Bool.eq_false_iff]
      intro hb
      simp only [Bool.and_eq_true, decide_eq_true_eq] at hb
      exact h V P I O rfl rfl rfl rfl ⟨hv, hb.1.1.1, hb.1.1.2, hb.1.2, hb.2⟩
    rw [hb] at this
    exact this
theorem refRight_no (W : Int) (P I O : Nat) (t : Bool) (w : World) (h : No W P I O) (hP : P < 4294967296) (hI : I < 4294967296) (hO : O < 4294967296) :
    Calls Tryd.prog 9 #[.agg #[.int .i64 W, .int .u32 P, .bool t, .int .u32 I, .int .u32 O]] w fun e w' => e = .returned (.bool false) ∧ Gb w w' := by
  by_cases hw : W ≠ 8 ∧ W ≠ 16 ∧ W ≠ 32
  · exact refRight_wide W P I O t w hw
  · obtain ⟨V, hV⟩ : ∃ V : Nat, W = V := ⟨W.toNat, by omega⟩
    subst hV
    have hv : V = 8 ∨ V = 16 ∨ V = 32 := by omega
    have := refRight_is V P I O t w hv hP hI hO
    have hb : (decide (P % 2 = 1) && decide (P < 2 ^ V) && decide (I < 2 ^ V) && decide (O < 2 ^ V)) = false := by
      rw [Bool.eq_false_iff]
      intro hb
      simp only [Bool.and_eq_true, decide_eq_true_eq] at hb
      exact h V P I O rfl rfl rfl rfl ⟨hv, hb.1.1.1, hb.1.1.2, hb.1.2, hb.2⟩
    rw [hb] at this
    exact this
theorem refRight_yes (W P I O : Nat) (t : Bool) (w : World) (h : Rt W P I O) :
    Calls Tryd.prog 9 #[.agg #[.int .i64 W, .int .u32 P, .bool t, .int .u32 I, .int .u32 O]] w fun e w' => e = .returned (.bool true) ∧ Gb w w' := by
  have := refRight_is W P I O t w h.w h.p32 h.i32 h.o32
  rw [decide_eq_true h.odd, decide_eq_true h.p, decide_eq_true h.i, decide_eq_true h.o] at this
  exact this
theorem Of_no (W : Int) (P I O : Nat) (t : Bool) (s : ByteArray) (w : World) (h : No W P I O) (hP : P < 4294967296) :
    Calls Tryd.prog 6 #[.agg #[.int .i64 W, .int .u32 P, .bool t, .int .u32 I, .int .u32 O], .string s] w fun e w' => e = .returned (.tuple #[.int .u32 0, .iface 25 (.int .i64 1)]) ∧ Gb w w' := by
  have HN : Hid (No W P I O) := h
  clear h
  go_enter Tryd.func6, Tryd.ntmps6
  go_wp2_with (first | (go_at_call 8; refine (Right_no W P I O t _ HN.out hP).mono ?_; rintro e w1 ⟨rfl, g1⟩; have c0 := at_gb g1 (a := ⟨w.heap.size, 0, none⟩) (v := .int .i64 W) (by go_simp); have c1 := at_gb g1 (a := ⟨w.heap.size, 1, none⟩) (v := .int .u32 P) (by go_simp); have c2 := at_gb g1 (a := ⟨w.heap.size, 2, none⟩) (v := .bool t) (by go_simp); have c3 := at_gb g1 (a := ⟨w.heap.size, 3, none⟩) (v := .int .u32 I) (by go_simp); have c4 := at_gb g1 (a := ⟨w.heap.size, 4, none⟩) (v := .int .u32 O) (by go_simp)))
  go_ret2
  exact ⟨rfl, (Gb.alloc (Gb.refl w) _ _).trans g1⟩
theorem refSumOf_no (W : Int) (P I O : Nat) (t : Bool) (s : ByteArray) (w : World) (h : No W P I O) (hP : P < 4294967296) (hI : I < 4294967296) (hO : O < 4294967296) :
    Calls Tryd.prog 5 #[.agg #[.int .i64 W, .int .u32 P, .bool t, .int .u32 I, .int .u32 O], .string s] w fun e w' => e = .returned (.tuple #[.int .u32 0, .int .i64 1]) ∧ Gb w w' := by
  have HN : Hid (No W P I O) := h
  clear h
  go_enter Tryd.func5, Tryd.ntmps5
  go_wp2_with (first | (go_at_call 9; refine (refRight_no W P I O t _ HN.out hP hI hO).mono ?_; rintro e w1 ⟨rfl, g1⟩; have c0 := at_gb g1 (a := ⟨w.heap.size, 0, none⟩) (v := .int .i64 W) (by go_simp); have c1 := at_gb g1 (a := ⟨w.heap.size, 1, none⟩) (v := .int .u32 P) (by go_simp); have c2 := at_gb g1 (a := ⟨w.heap.size, 2, none⟩) (v := .bool t) (by go_simp); have c3 := at_gb g1 (a := ⟨w.heap.size, 3, none⟩) (v := .int .u32 I) (by go_simp); have c4 := at_gb g1 (a := ⟨w.heap.size, 4, none⟩) (v := .int .u32 O) (by go_simp)))
  go_ret2
  exact ⟨rfl, (Gb.alloc (Gb.refl w) _ _).trans g1⟩
theorem refSumC (s : ByteArray) (w : World) (hs : s.size ≤ 200) :
    Calls Tryd.prog 5 #[.agg #[.int .i64 32, .int .u32 79764919, .bool true, .int .u32 4294967295, .int .u32 4294967295], .string s] w fun e w' => e = .returned (.tuple #[.int .u32 (crcV s : Nat), .int .i64 0]) ∧ Bl w w' := refSumOf_yes 32 79764919 4294967295 4294967295 true s w rtC hs
theorem refCrc_at (s : ByteArray) (w : World) (hs : s.size ≤ 200) :
    Calls Tryd.prog 11 #[.string s] w fun e w' => e = .returned (.int .u32 (crcV s : Nat)) ∧ Bl w w' := by
  go_enter Tryd.func11, Tryd.ntmps11
  go_wp2_with (go_at_call 5; refine (refSumC s _ hs).mono ?_; rintro e w1 ⟨rfl, g1⟩)
  go_ret
  exact ⟨rfl, g1⟩
end Go.Proofs.YthimjckimggpoaaDoor.sums
