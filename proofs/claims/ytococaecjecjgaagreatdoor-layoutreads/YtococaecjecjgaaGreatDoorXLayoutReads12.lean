/- Texts laid together: LayR, Tm5, Tm6, Tm7, Tm8. -/
import Derived.Test.YtococaecjecjgaaGreatDoorChecked
import Derived.Shelf.Strings.Repeat
import Derived.Test.YtococaecjecjgaaGreatDoorXLayoutReads11
import Derived.Deep.RegionHeld3
import Derived.Deep.MidRow



namespace Go.Proofs.YtococaecjecjgaaGreatDoor.tm
set_option linter.unusedVariables false
open Go.ChangeShapes Go.WideShapes Go.ChangeAt Go.RowKit Go.Shelf
open mem lx ex

structure Iv (w : World) (X : Nat) (c : C) : Prop where
  h : w.heap[X]? = some (.cells (cl c).toArray 60 (0, 0))
theorem Iv.lt {w : World} {X : Nat} {c : C} (h : Iv w X c) : X < w.heap.size := lt_of_heap h.h
theorem Iv.cell {w : World} {X : Nat} {c : C} (h : Iv w X c) (j : Nat) : w.cell? ⟨X, j, none⟩ = (cl c)[j]? := by rw [cell_of h.h]; simp
theorem Iv.fz {w : World} {X : Nat} {c : C} (h : Iv w X c) (j : Nat) : w.frozen? ⟨X, j, none⟩ = false := by simp [World.frozen?, h.h]
theorem Iv.bl {w w' : World} {X : Nat} {c : C} (h : Iv w X c) (hb : Bl w w') : Iv w' X c := ⟨by rw [Below.block hb X h.lt]; exact h.h⟩
theorem Iv.gp {w w' : World} {P X : Nat} {c : C} (h : Iv w X c) (hb : Gp P w w') (hne : X ≠ P) : Iv w' X c := ⟨by rw [hb.block X h.lt hne]; exact h.h⟩
theorem Iv.set {w : World} {X j : Nat} {c c' : C} {u : Value} (h : Iv w X c) (he : (cl c).toArray.setIfInBounds j u = (cl c').toArray) : Iv (w.setCell ⟨X, j, none⟩ u) X c' := ⟨by simp [World.setCell, Array.getElem?_modify, h.h, ← he]⟩
def C.ru (c : C) (r : Nat) : C := { c with d := { c.d with ru := r } }
def C.f1 (c : C) (t : List UInt8) : C := { c with d := { c.d with f1 := t } }
def C.l1 (c : C) (t : List UInt8) : C := { c with d := { c.d with l1 := t } }
def C.nm (c : C) (t : List UInt8) : C := { c with d := { c.d with nm := t } }
def C.at (c : C) (a : Nat) : C := { c with d := { c.d with at_ := a } }
theorem set_ru (c : C) (r : Nat) : (cl c).toArray.setIfInBounds 9 (.int .i64 (r : Int)) = (cl (c.ru r)).toArray := rfl
theorem set_f1 (c : C) (t : List UInt8) : (cl c).toArray.setIfInBounds 10 (.string (tx t)) = (cl (c.f1 t)).toArray := rfl
theorem set_l1 (c : C) (t : List UInt8) : (cl c).toArray.setIfInBounds 11 (.string (tx t)) = (cl (c.l1 t)).toArray := rfl
theorem set_nm (c : C) (t : List UInt8) : (cl c).toArray.setIfInBounds 2 (.string (tx t)) = (cl (c.nm t)).toArray := rfl
def st13 (w : World) (N : Nat) (c : C) : World := (((((((((((((w).setCell ⟨N, 0, none⟩ (.int .i64 (c.d.kd : Int))).setCell ⟨N, 1, none⟩ (.int .i64 (c.d.at_ : Int))).setCell ⟨N, 2, none⟩ (.string (tx c.d.nm))).setCell ⟨N, 3, none⟩ (.string (tx c.d.ty))).setCell ⟨N, 4, none⟩ (.int .i64 (c.d.wd : Int))).setCell ⟨N, 5, none⟩ (.int .i64 (c.d.od : Int))).setCell ⟨N, 6, none⟩ (.bool c.d.sg)).setCell ⟨N, 7, none⟩ (.bool c.d.mn)).setCell ⟨N, 8, none⟩ (.pointer c.pc)).setCell ⟨N, 9, none⟩ (.int .i64 (c.d.ru : Int))).setCell ⟨N, 10, none⟩ (.string (tx c.d.f1))).setCell ⟨N, 11, none⟩ (.string (tx c.d.l1))).setCell ⟨N, 12, none⟩ (.slice c.p c.n c.c)
theorem heap_set {w : World} {N j : Nat} {a : Array Value} {t : TypeId} {u : Value} (h : w.heap[N]? = some (.cells a t (0, 0))) : (w.setCell ⟨N, j, none⟩ u).heap[N]? = some (.cells (a.setIfInBounds j u) t (0, 0)) := by simp [World.setCell, Array.getElem?_modify, h]
theorem arr13 (a0 a1 a2 a3 a4 a5 a6 a7 a8 a9 a10 a11 a12 v0 v1 v2 v3 v4 v5 v6 v7 v8 v9 v10 v11 v12 : Value) : ((((((((((((((#[a0, a1, a2, a3, a4, a5, a6, a7, a8, a9, a10, a11, a12] : Array Value).setIfInBounds 0 v0).setIfInBounds 1 v1).setIfInBounds 2 v2).setIfInBounds 3 v3).setIfInBounds 4 v4).setIfInBounds 5 v5).setIfInBounds 6 v6).setIfInBounds 7 v7).setIfInBounds 8 v8).setIfInBounds 9 v9).setIfInBounds 10 v10).setIfInBounds 11 v11).setIfInBounds 12 v12) = #[v0, v1, v2, v3, v4, v5, v6, v7, v8, v9, v10, v11, v12] := by
  apply Array.ext'
  simp only [Array.toList_setIfInBounds, List.set]
theorem heap13 {w : World} {N : Nat} {t : TypeId} (a0 a1 a2 a3 a4 a5 a6 a7 a8 a9 a10 a11 a12 v0 v1 v2 v3 v4 v5 v6 v7 v8 v9 v10 v11 v12 : Value) (h : w.heap[N]? = some (.cells #[a0, a1, a2, a3, a4, a5, a6, a7, a8, a9, a10, a11, a12] t (0, 0))) : (((((((((((((w.setCell ⟨N, 0, none⟩ v0).setCell ⟨N, 1, none⟩ v1).setCell ⟨N, 2, none⟩ v2).setCell ⟨N, 3, none⟩ v3).setCell ⟨N, 4, none⟩ v4).setCell ⟨N, 5, none⟩ v5).setCell ⟨N, 6, none⟩ v6).setCell ⟨N, 7, none⟩ v7).setCell ⟨N, 8, none⟩ v8).setCell ⟨N, 9, none⟩ v9).setCell ⟨N, 10, none⟩ v10).setCell ⟨N, 11, none⟩ v11).setCell ⟨N, 12, none⟩ v12).heap[N]? = some (.cells #[v0, v1, v2, v3, v4, v5, v6, v7, v8, v9, v10, v11, v12] t (0, 0)) := by
  rw [← arr13 a0 a1 a2 a3 a4 a5 a6 a7 a8 a9 a10 a11 a12 v0 v1 v2 v3 v4 v5 v6 v7 v8 v9 v10 v11 v12]
  exact heap_set (heap_set (heap_set (heap_set (heap_set (heap_set (heap_set (heap_set (heap_set (heap_set (heap_set (heap_set (heap_set h))))))))))))
theorem Iv.store {w : World} {N : Nat} {c : C} (h : Iv w N c) (c' : C) : Iv (st13 w N c') N c' :=
  ⟨heap13 (.int .i64 (c.d.kd : Int)) (.int .i64 (c.d.at_ : Int)) (.string (tx c.d.nm)) (.string (tx c.d.ty)) (.int .i64 (c.d.wd : Int)) (.int .i64 (c.d.od : Int)) (.bool c.d.sg) (.bool c.d.mn) (.pointer c.pc) (.int .i64 (c.d.ru : Int)) (.string (tx c.d.f1)) (.string (tx c.d.l1)) (.slice c.p c.n c.c) (.int .i64 (c'.d.kd : Int)) (.int .i64 (c'.d.at_ : Int)) (.string (tx c'.d.nm)) (.string (tx c'.d.ty)) (.int .i64 (c'.d.wd : Int)) (.int .i64 (c'.d.od : Int)) (.bool c'.d.sg) (.bool c'.d.mn) (.pointer c'.pc) (.int .i64 (c'.d.ru : Int)) (.string (tx c'.d.f1)) (.string (tx c'.d.l1)) (.slice c'.p c'.n c'.c) h.h⟩
theorem Iv.facts {w : World} {N : Nat} {c : C} (h : Iv w N c) : w.cell? ⟨N, 0, none⟩ = some (.int .i64 (c.d.kd : Int)) ∧ w.cell? ⟨N, 1, none⟩ = some (.int .i64 (c.d.at_ : Int)) ∧ w.cell? ⟨N, 2, none⟩ = some (.string (tx c.d.nm)) ∧ w.cell? ⟨N, 3, none⟩ = some (.string (tx c.d.ty)) ∧ w.cell? ⟨N, 4, none⟩ = some (.int .i64 (c.d.wd : Int)) ∧ w.cell? ⟨N, 5, none⟩ = some (.int .i64 (c.d.od : Int)) ∧ w.cell? ⟨N, 6, none⟩ = some (.bool c.d.sg) ∧ w.cell? ⟨N, 7, none⟩ = some (.bool c.d.mn) ∧ w.cell? ⟨N, 8, none⟩ = some (.pointer c.pc) ∧ w.cell? ⟨N, 9, none⟩ = some (.int .i64 (c.d.ru : Int)) ∧ w.cell? ⟨N, 10, none⟩ = some (.string (tx c.d.f1)) ∧ w.cell? ⟨N, 11, none⟩ = some (.string (tx c.d.l1)) ∧ w.cell? ⟨N, 12, none⟩ = some (.slice c.p c.n c.c) :=
  ⟨h.cell 0, h.cell 1, h.cell 2, h.cell 3, h.cell 4, h.cell 5, h.cell 6, h.cell 7, h.cell 8, h.cell 9, h.cell 10, h.cell 11, h.cell 12⟩
theorem Iv.fzs {w : World} {N : Nat} {c : C} (h : Iv w N c) : w.frozen? ⟨N, 0, none⟩ = false ∧ w.frozen? ⟨N, 1, none⟩ = false ∧ w.frozen? ⟨N, 2, none⟩ = false ∧ w.frozen? ⟨N, 3, none⟩ = false ∧ w.frozen? ⟨N, 4, none⟩ = false ∧ w.frozen? ⟨N, 5, none⟩ = false ∧ w.frozen? ⟨N, 6, none⟩ = false ∧ w.frozen? ⟨N, 7, none⟩ = false ∧ w.frozen? ⟨N, 8, none⟩ = false ∧ w.frozen? ⟨N, 9, none⟩ = false ∧ w.frozen? ⟨N, 10, none⟩ = false ∧ w.frozen? ⟨N, 11, none⟩ = false ∧ w.frozen? ⟨N, 12, none⟩ = false :=
  ⟨h.fz 0, h.fz 1, h.fz 2, h.fz 3, h.fz 4, h.fz 5, h.fz 6, h.fz 7, h.fz 8, h.fz 9, h.fz 10, h.fz 11, h.fz 12⟩
theorem st_gp {P N : Nat} {w0 w : World} {c : C} (h : Gp P w0 w) (hN : w0.heap.size ≤ N) : Gp P w0 (st13 w N c) :=
  ((((((((((((h.setNew hN _).setNew hN _).setNew hN _).setNew hN _).setNew hN _).setNew hN _).setNew hN _).setNew hN _).setNew hN _).setNew hN _).setNew hN _).setNew hN _).setNew hN _
end Go.Proofs.YtococaecjecjgaaGreatDoor.tm
namespace Go.Proofs.YtococaecjecjgaaGreatDoor.tm
set_option linter.unusedVariables false
open Go.ChangeShapes Go.WideShapes Go.ChangeAt Go.RowKit Go.Shelf
open mem lx ex

def itV (c : C) : Value := .agg (cl c).toArray
def z13 : Array Value := #[.int .i64 0, .int .i64 0, .string ⟨#[]⟩, .string ⟨#[]⟩, .int .i64 0, .int .i64 0, .bool false, .bool false, .pointer none, .int .i64 0, .string ⟨#[]⟩, .string ⟨#[]⟩, .slice none 0 0]
theorem infoI : (Tryz.prog.info? 60).map (·.size) = some 13 := by kernel_rfl
end Go.Proofs.YtococaecjecjgaaGreatDoor.tm
