/- Plain facts of memory and of bytes that the walks of this seat share: a row of bytes in a block of its own; the world with new blocks alone. -/
import Derived.WalkKit
import Derived.ProofKit
import Derived.OpenShut
import Derived.Deep.OwnRows
import Derived.Deep.RegionWith
import Derived.Laws.BytesArg
import Derived.Deep.QuietTactic
import Derived.BigQuiet
namespace Go.Proofs.YtfebfnjmehaeiaaDoor.mem
open Go.RowKit

/-- The world w' is w with new blocks, and what was there is as it was. -/
structure Gb (w w' : World) : Prop where
  g : Grown w w'
  b : Below w.heap.size w w'

theorem Gb.refl (w : World) : Gb w w := ⟨Grown.refl _, Below.refl _ _⟩
theorem Gb.drew {w w' : World} (h : Gb w w') : Gb w w'.drew := ⟨h.g.drew, h.b.drew⟩
theorem Gb.size {w w' : World} (h : Gb w w') : w.heap.size ≤ w'.heap.size := h.b.size
theorem Gb.alloc {w w' : World} (h : Gb w w') (c : Array Value) (t : TypeId) : Gb w (w'.alloc (.cells c t)) := ⟨h.g.alloc c t, h.b.alloc h.size _⟩
theorem Gb.setCell {w w' : World} (h : Gb w w') {a : Addr} (ha : w.heap.size ≤ a.block) (v : Value) : Gb w (w'.setCell a v) := ⟨h.g.setCell ha v, h.b.setCell ha v⟩
theorem Gb.trans {a b c : World} (h : Gb a b) (k : Gb b c) : Gb a c :=
  ⟨⟨World.keptBut_trans h.g.1 k.g.1, fun x => (k.g.2.1 x).trans (h.g.2.1 x), Nat.le_trans h.g.2.2 k.g.2.2⟩, h.b.trans (k.b.mono h.size)⟩
theorem Gb.drewN {w w' : World} (n : Nat) (h : Gb w w') : Gb w (w'.drewN n) := ⟨h.g, ⟨h.b.os, h.b.tape, h.b.output, h.b.size, h.b.block⟩⟩

/-- Block B of the world holds just these bytes (elements of type e), and may be written. -/
def Row (w : World) (e : TypeId) (B : Nat) (zs : List Int) : Prop := w.heap[B]? = some (.cells (zs.map (Value.int .u8)).toArray e (0, 0))

theorem Row.cell {w : World} {e : TypeId} {B : Nat} {zs : List Int} (h : Row w e B zs) {j : Nat} (hj : j < zs.length) : w.cell? ⟨B, j, none⟩ = some (.int .u8 (zs.getD j 0)) := by
  unfold Row at h
  simp [World.cell?, h, hj]
theorem Row.frozen {w : World} {e : TypeId} {B : Nat} {zs : List Int} (h : Row w e B zs) (j : Nat) : w.frozen? ⟨B, j, none⟩ = false := by
  unfold Row at h
  simp [World.frozen?, h]
theorem Row.drew {w : World} {e : TypeId} {B : Nat} {zs : List Int} (h : Row w e B zs) : Row w.drew e B zs := h
theorem Row.set {w : World} {e : TypeId} {B : Nat} {zs : List Int} (h : Row w e B zs) (j : Nat) (v : Int) : Row (w.setCell ⟨B, j, none⟩ (.int .u8 v)) e B (zs.set j v) := by
  unfold Row at h ⊢
  simp [World.setCell, Array.getElem?_modify, h]
theorem Row.made (w : World) (e : TypeId) (n : Nat) : Row (w.alloc (.cells (madeCells #[.int .u8 0] n) e)) e w.heap.size (List.replicate n 0) := by
  have hl : madeCells #[Value.int .u8 0] n = ((List.replicate n (0 : Int)).map (Value.int .u8)).toArray := by
    apply Array.ext'
    rw [toList_madeCells_one]
    simp
  unfold Row
  show (w.heap.push _)[w.heap.size]? = _
  rw [Array.getElem?_push, if_pos rfl, hl]
theorem Row.text {P : Program} {w : World} {e : TypeId} {B : Nat} {zs : List Int} (h : Row w e B zs) {src dst : TypeId} (hs : P.underlying src = some (.slice e)) (he : P.underlying e = some (.int .u8))
    (hd : P.underlying dst = some .string) (n : Nat) (hn : zs.length = n) : (convert src dst (.slice (some ⟨B, 0, none⟩) n n)).run P w = .ok (.string (strOfNums zs)) w :=
  run_convert_bytes_arg w src e hs he B 0 n n zs hn (fun i hi => by rw [Nat.zero_add]; exact h.cell (by omega)) dst hd
end Go.Proofs.YtfebfnjmehaeiaaDoor.mem
