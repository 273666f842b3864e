/- Bytes of a text; numbers that a slice reads as; pick of the laws. -/
import Derived.Test.YtmchpmfogjhpoabDoorIntRow
import Derived.Deep.QuietTactic
import Derived.WalkSpells
namespace Go.Proofs.YtmchpmfogjhpoabDoor.rows
set_option linter.unusedVariables false
open Go.ChangeShapes Go.WideShapes Go.ChangeAt Go.RowKit
open mem

/-- Byte j of a text. -/
def sb (s : ByteArray) (j : Nat) : Int := ((s.data.toList.getD j 0).toNat : Int)
theorem sb_bd (s : ByteArray) (j : Nat) : 0 ≤ sb s j ∧ sb s j < 256 := by
  unfold sb
  have := (s.data.toList.getD j 0).toNat_lt
  omega
theorem sb_get (s : ByteArray) (j : Nat) (h : j < s.size) : sb s j = ((s[j]'h).toNat : Int) := by
  unfold sb
  have h' : j < s.data.toList.length := by simpa using h
  rw [List.getD_eq_getElem?_getD, List.getElem?_eq_getElem h']
  rfl
theorem isEmpty_at (s : ByteArray) : s.toList.isEmpty = decide (s.size = 0) := by
  rw [ByteArray.toList_eq]
  have e : s.size = s.data.toList.length := rfl
  rw [e]
  cases s.data.toList <;> simp
theorem at_bl {w w' : World} (h : Bl w w') {a : Addr} {v : Value} (hc : w.cell? a = some v) : w'.cell? a = some v := by
  have hlt : a.block < w.heap.size := by
    rcases Nat.lt_or_ge a.block w.heap.size with h1 | h1
    · exact h1
    · simp [World.cell?, Array.getElem?_eq_none h1] at hc
  unfold World.cell? at hc ⊢
  rw [Below.block h _ hlt]
  exact hc
/-- These numbers lie at p. -/
def In (w : World) (p : Option Addr) (l : List Int) : Prop :=
  l = [] ∨ ∃ x : Addr, p = some x ∧ ∀ k, k < l.length → w.cell? (x.add k) = some (.int .i64 (l.getD k 0))
theorem In.step {w w' : World} {p : Option Addr} {l : List Int} (h : In w p l) (hb : Bl w w') : In w' p l := by
  rcases h with h | ⟨x, h1, h2⟩
  · exact Or.inl h
  · exact Or.inr ⟨x, h1, fun k hk => at_bl hb (h2 k hk)⟩
theorem In.at {w : World} {p : Option Addr} {l : List Int} (h : In w p l) (k : Nat) (hk : k < l.length) : ∃ x : Addr, p = some x ∧ w.cell? (x.add k) = some (.int .i64 (l.getD k 0)) := by
  rcases h with h | ⟨x, h1, h2⟩
  · rw [h] at hk; exact absurd hk (Nat.not_lt_zero _)
  · exact ⟨x, h1, h2 k hk⟩
/-- A slice that reads so. -/
def View (w : World) (v : Value) (l : List Int) : Prop := ∃ p c, v = .slice p l.length c ∧ In w p l
theorem View.step {w w' : World} {v : Value} {l : List Int} (h : View w v l) (hb : Bl w w') : View w' v l := by
  obtain ⟨p, c, h1, h2⟩ := h
  exact ⟨p, c, h1, h2.step hb⟩
theorem view_own {w : World} {base : Nat} {v : Value} {l : List Int} (h : Own w base v l) : View w v l := by
  rcases h.shape with ⟨rfl, rfl⟩ | ⟨g, cap, rfl, _, _, _, _, hc⟩
  · exact ⟨none, 0, rfl, Or.inl rfl⟩
  · exact ⟨_, cap, rfl, Or.inr ⟨_, rfl, fun k hk => by rw [Addr.add_lit, Nat.zero_add]; exact hc k hk⟩⟩
theorem view_in {w : World} {p : Option Addr} {c : Nat} {l : List Int} (h : In w p l) : View w (.slice p l.length c) l := ⟨p, c, rfl, h⟩
theorem ret_int {x y : Int} {k : IntKind} (h : x = y) : Ending.returned (.int k x) = .returned (.int k y) := by rw [h]
theorem ret_bool {x y : Bool} (h : x = y) : Ending.returned (.bool x) = .returned (.bool y) := by rw [h]
/-- Numbers that a call has just laid. -/
theorem lit_view (w : World) (l : List Int) (t : TypeId) (c : Nat) : View (w.alloc (.cells (rowI l).toArray t)) (.slice (some ⟨w.heap.size, 0, none⟩) l.length c) l := by
  refine ⟨_, _, rfl, Or.inr ⟨_, rfl, fun k hk => ?_⟩⟩
  have h0 := rowI_get l k hk
  rw [Addr.add_lit, Nat.zero_add]
  have hb : (w.alloc (.cells (rowI l).toArray t)).heap[w.heap.size]? = some (.cells (rowI l).toArray t) := by
    show (w.heap.push _)[w.heap.size]? = _
    rw [Array.getElem?_push, if_pos rfl]
  simp only [World.cell?, hb]
  simpa using h0
/-- Block B holds just these numbers, and may be written. -/
def RowI (w : World) (B : Nat) (l : List Int) : Prop := w.heap[B]? = some (.cells (rowI l).toArray 3 (0, 0))
theorem RowI.cell {w : World} {B : Nat} {l : List Int} (h : RowI w B l) {j : Nat} (hj : j < l.length) : w.cell? ⟨B, j, none⟩ = some (.int .i64 (l.getD j 0)) := by
  unfold RowI at h
  have := rowI_get l j hj
  simp only [World.cell?, h]
  simpa using this
theorem RowI.frozen {w : World} {B : Nat} {l : List Int} (h : RowI w B l) (j : Nat) : w.frozen? ⟨B, j, none⟩ = false := by
  unfold RowI at h
  simp [World.frozen?, h]
theorem RowI.lt {w : World} {B : Nat} {l : List Int} (h : RowI w B l) : B < w.heap.size := by
  unfold RowI at h
  rcases Nat.lt_or_ge B w.heap.size with h' | h'
  · exact h'
  · rw [Array.getElem?_eq_none h'] at h; cases h
theorem RowI.set {w : World} {B : Nat} {l : List Int} (h : RowI w B l) (j : Nat) (v : Int) : RowI (w.setCell ⟨B, j, none⟩ (.int .i64 v)) B (l.set j v) := by
  unfold RowI at h ⊢
  simp [World.setCell, Array.getElem?_modify, h, rowI]
theorem RowI.step {w w' : World} {B : Nat} {l : List Int} (h : RowI w B l) (hb : Bl w w') : RowI w' B l := by
  have := h.lt
  unfold RowI at h ⊢
  rw [Below.block hb B this]
  exact h
theorem RowI.made (w : World) (n : Nat) : RowI (w.alloc (.cells (madeCells #[.int .i64 0] n) 3)) w.heap.size (List.replicate n 0) := by
  have hl : madeCells #[Value.int .i64 0] n = (rowI (List.replicate n (0 : Int))).toArray := by
    apply Array.ext'
    rw [toList_madeCells_one]
    simp [rowI]
  unfold RowI
  show (w.heap.push _)[w.heap.size]? = _
  rw [Array.getElem?_push, if_pos rfl, hl]
theorem RowI.own {w : World} {B base : Nat} {l : List Int} (h : RowI w B l) (hb : base ≤ B) (hl : l.length ≤ 1000000) : Own w base (.slice (some ⟨B, 0, none⟩) l.length l.length) l := by
  refine ⟨by simp [rowI], Or.inr ⟨B, l.length, (rowI l).toArray, rfl, hb, h, Nat.le_refl _, by unfold maxLen; omega, by simp [rowI], ?_⟩⟩
  rw [Nat.mul_one]
  exact List.take_of_length_le (by simp [rowI])
theorem RowI.view {w : World} {B : Nat} {l : List Int} (h : RowI w B l) (c : Nat) : View w (.slice (some ⟨B, 0, none⟩) l.length c) l :=
  ⟨_, _, rfl, Or.inr ⟨_, rfl, fun k hk => by rw [Addr.add_lit, Nat.zero_add]; exact h.cell hk⟩⟩
end Go.Proofs.YtmchpmfogjhpoabDoor.rows
