/- Plain facts of memory and of bytes that the walks of this seat share: a row of bytes in a block of its own; the world with new blocks alone. -/
import Derived.WalkKit
import Derived.ProofKit
import Derived.OpenShut
import Derived.Deep.OwnRows
import Derived.Deep.RegionWith
import Derived.Laws.BytesArg
import Derived.Deep.QuietTactic
import Derived.BigQuiet
import Derived.Laws.IdiomStrings
namespace Go.Proofs.YtfngcphklfjhjaaDoor.mem
open Go.RowKit

/-- The world w' is w with new blocks, and what was there is as it was. -/
structure Gb (w w' : World) : Prop where
  g : Grown w w'
  b : Below w.heap.size w w'

theorem Gb.refl (w : World) : Gb w w := ⟨Grown.refl _, Below.refl _ _⟩
theorem Gb.drew {w w' : World} (h : Gb w w') : Gb w w'.drew := ⟨h.g.drew, h.b.drew⟩
theorem Gb.size {w w' : World} (h : Gb w w') : w.heap.size ≤ w'.heap.size := h.b.size
theorem Gb.alloc {w w' : World} (h : Gb w w') (c : Array Value) (t : TypeId) : Gb w (w'.alloc (.cells c t)) := ⟨h.g.alloc c t, h.b.alloc h.size _⟩
theorem Gb.setCell {w w' : World} (h : Gb w w') {a : Addr} (ha : w.heap.size ≤ a.block) (v : Value) : Gb w (w'.setCell a v) := ⟨h.g.setCell ha v, h.b.setCell ha v⟩
theorem Gb.trans {a b c : World} (h : Gb a b) (k : Gb b c) : Gb a c :=
  ⟨⟨World.keptBut_trans h.g.1 k.g.1, fun x => (k.g.2.1 x).trans (h.g.2.1 x), Nat.le_trans h.g.2.2 k.g.2.2⟩, h.b.trans (k.b.mono h.size)⟩
theorem Gb.drewN {w w' : World} (n : Nat) (h : Gb w w') : Gb w (w'.drewN n) := ⟨h.g, ⟨h.b.os, h.b.tape, h.b.output, h.b.size, h.b.block⟩⟩

/-- The world w' is w, but for draws. -/
def Dr (w w' : World) : Prop := ∃ q, w' = w.drewN q
theorem Dr.refl (w : World) : Dr w w := ⟨0, rfl⟩
theorem Dr.drewN {w w' : World} (n : Nat) (h : Dr w w') : Dr w (w'.drewN n) := by
  obtain ⟨q, rfl⟩ := h
  refine ⟨q + n, ?_⟩
  simp [World.drewN, Nat.add_assoc]
theorem Dr.gb {w w' : World} (h : Dr w w') : Gb w w' := by
  obtain ⟨q, rfl⟩ := h
  exact Gb.drewN q (Gb.refl w)

/-- Block B of the world holds just these bytes (elements of type e), and may be written. -/
def Row (w : World) (e : TypeId) (B : Nat) (zs : List Int) : Prop := w.heap[B]? = some (.cells (zs.map (Value.int .u8)).toArray e (0, 0))

theorem Row.cell {w : World} {e : TypeId} {B : Nat} {zs : List Int} (h : Row w e B zs) {j : Nat} (hj : j < zs.length) : w.cell? ⟨B, j, none⟩ = some (.int .u8 (zs.getD j 0)) := by
  unfold Row at h
  simp [World.cell?, h, hj]
theorem Row.frozen {w : World} {e : TypeId} {B : Nat} {zs : List Int} (h : Row w e B zs) (j : Nat) : w.frozen? ⟨B, j, none⟩ = false := by
  unfold Row at h
  simp [World.frozen?, h]
theorem Row.drew {w : World} {e : TypeId} {B : Nat} {zs : List Int} (h : Row w e B zs) : Row w.drew e B zs := h
theorem Row.set {w : World} {e : TypeId} {B : Nat} {zs : List Int} (h : Row w e B zs) (j : Nat) (v : Int) : Row (w.setCell ⟨B, j, none⟩ (.int .u8 v)) e B (zs.set j v) := by
  unfold Row at h ⊢
  simp [World.setCell, Array.getElem?_modify, h]
theorem Row.made (w : World) (e : TypeId) (n : Nat) : Row (w.alloc (.cells (madeCells #[.int .u8 0] n) e)) e w.heap.size (List.replicate n 0) := by
  have hl : madeCells #[Value.int .u8 0] n = ((List.replicate n (0 : Int)).map (Value.int .u8)).toArray := by
    apply Array.ext'
    rw [toList_madeCells_one]
    simp
  unfold Row
  show (w.heap.push _)[w.heap.size]? = _
  rw [Array.getElem?_push, if_pos rfl, hl]
theorem Row.text {P : Program} {w : World} {e : TypeId} {B : Nat} {zs : List Int} (h : Row w e B zs) {src dst : TypeId} (hs : P.underlying src = some (.slice e)) (he : P.underlying e = some (.int .u8))
    (hd : P.underlying dst = some .string) (n : Nat) (hn : zs.length = n) : (convert src dst (.slice (some ⟨B, 0, none⟩) n n)).run P w = .ok (.string (strOfNums zs)) w :=
  run_convert_bytes_arg w src e hs he B 0 n n zs hn (fun i hi => by rw [Nat.zero_add]; exact h.cell (by omega)) dst hd

/-- What was there is as it was. -/
def Bl (w w' : World) : Prop := Below w.heap.size w w'
theorem Bl.refl (w : World) : Bl w w := Below.refl _ _
theorem Gb.bl {w w' : World} (h : Gb w w') : Bl w w' := h.b
theorem Bl.size {w w' : World} (h : Bl w w') : w.heap.size ≤ w'.heap.size := Below.size h
theorem Bl.drew {w w' : World} (h : Bl w w') : Bl w w'.drew := Below.drew h
theorem Bl.drewN {w w' : World} (n : Nat) (h : Bl w w') : Bl w (w'.drewN n) := by
  obtain ⟨h1, h2, h3, h4, h5⟩ := h
  exact ⟨h1, h2, h3, h4, h5⟩
theorem Bl.alloc {w w' : World} (h : Bl w w') (o : Obj) : Bl w (w'.alloc o) := Below.alloc h (Bl.size h) o
theorem Bl.setCell {w w' : World} (h : Bl w w') {a : Addr} (ha : w.heap.size ≤ a.block) (v : Value) : Bl w (w'.setCell a v) := Below.setCell h ha v
theorem Bl.trans {a b c : World} (h : Bl a b) (k : Bl b c) : Bl a c := Below.trans h (Below.mono k (Bl.size h))
theorem Dr.bl {w w' : World} (h : Dr w w') : Bl w w' := h.gb.bl

/-- Block B of the world begins with just these bytes (elements of type e), and they may be written. -/
def Rw (w : World) (e : TypeId) (B : Nat) (zs : List Int) : Prop :=
  ∃ (arr : Array Value) (fr : Nat × Nat), w.heap[B]? = some (.cells arr e fr) ∧ (∀ j, j < zs.length → arr[j]? = some (.int .u8 (zs.getD j 0))) ∧ (zs.length ≤ fr.1 ∨ fr = (0, 0))
theorem Row.rw {w : World} {e : TypeId} {B : Nat} {zs : List Int} (h : Row w e B zs) : Rw w e B zs :=
  ⟨_, _, h, fun j hj => by simp [hj], Or.inr rfl⟩
theorem Rw.cell {w : World} {e : TypeId} {B : Nat} {zs : List Int} (h : Rw w e B zs) {j : Nat} (hj : j < zs.length) : w.cell? ⟨B, j, none⟩ = some (.int .u8 (zs.getD j 0)) := by
  obtain ⟨arr, fr, h1, h2, _⟩ := h
  simp [World.cell?, h1, h2 j hj]
theorem Rw.frozen {w : World} {e : TypeId} {B : Nat} {zs : List Int} (h : Rw w e B zs) {j : Nat} (hj : j < zs.length) : w.frozen? ⟨B, j, none⟩ = false := by
  obtain ⟨arr, fr, h1, _, h3⟩ := h
  rcases h3 with h3 | h3
  · simp [World.frozen?, h1]; omega
  · subst h3
    simp [World.frozen?, h1]
theorem Rw.drew {w : World} {e : TypeId} {B : Nat} {zs : List Int} (h : Rw w e B zs) : Rw w.drew e B zs := h
theorem Rw.drewN {w : World} {e : TypeId} {B : Nat} {zs : List Int} (n : Nat) (h : Rw w e B zs) : Rw (w.drewN n) e B zs := h
theorem Rw.set {w : World} {e : TypeId} {B : Nat} {zs : List Int} (h : Rw w e B zs) (j : Nat) (v : Int) (hj : j < zs.length) : Rw (w.setCell ⟨B, j, none⟩ (.int .u8 v)) e B (zs.set j v) := by
  obtain ⟨arr, fr, h1, h2, h3⟩ := h
  refine ⟨arr.setIfInBounds j (.int .u8 v), fr, ?_, ?_, by rw [List.length_set]; exact h3⟩
  · simp [World.setCell, Array.getElem?_modify, h1]
  · intro i hi
    rw [List.length_set] at hi
    have hs : j < arr.size := by
      rcases Nat.lt_or_ge j arr.size with hlt | hge
      · exact hlt
      · have := h2 j hj
        rw [Array.getElem?_eq_none hge] at this
        cases this
    rw [Array.getElem?_setIfInBounds]
    by_cases e' : j = i
    · subst e'
      simp [hs, hj, List.getD_eq_getElem?_getD]
    · rw [if_neg e', h2 i hi]
      simp [List.getD_eq_getElem?_getD, List.getElem?_set_ne e']
theorem Rw.text {P : Program} {w : World} {e : TypeId} {B : Nat} {zs : List Int} (h : Rw w e B zs) {src dst : TypeId} (hs : P.underlying src = some (.slice e)) (he : P.underlying e = some (.int .u8))
    (hd : P.underlying dst = some .string) (n c : Nat) (hn : zs.length = n) : (convert src dst (.slice (some ⟨B, 0, none⟩) n c)).run P w = .ok (.string (strOfNums zs)) w :=
  run_convert_bytes_arg w src e hs he B 0 n c zs hn (fun i hi => by rw [Nat.zero_add]; exact h.cell (by omega)) dst hd
theorem Rw.of_text (w : World) (e : TypeId) (s : ByteArray) (c : Nat) :
    Rw (w.alloc (.cells (bytesRow s c) e ((bytesRow s c).size, (bytesRow s c).size + 1))) e w.heap.size (s.data.toList.map fun b => (b.toNat : Int)) := by
  refine ⟨bytesRow s c, ((bytesRow s c).size, (bytesRow s c).size + 1), ?_, ?_, Or.inl ?_⟩
  · show (w.heap.push _)[w.heap.size]? = _
    rw [Array.getElem?_push, if_pos rfl]
  · intro j hj
    have hj' : j < s.data.size := by simpa using hj
    rw [bytesRow_at s c j hj']
    simp [List.getD_eq_getElem?_getD]
    rw [Array.getElem?_eq_getElem hj']
    rfl
  · simp [bytesRow]
end Go.Proofs.YtfngcphklfjhjaaDoor.mem
