/- A strings.Builder of the call's own: what is written into it, what it holds, and what stays as it was. -/
import Derived.Test.YtmchpmfogjhpoabDoorByRow
import Derived.Test.YtmchpmfogjhpoabDoorLayB
import Derived.RangeFuncBound
import Derived.RangeFuncCalls
import Derived.RangeFuncLeaves
import Derived.RangeFuncNested
namespace Go.Proofs.YtmchpmfogjhpoabDoor.bld
set_option linter.unusedVariables false
open Go.ChangeShapes Go.WideShapes Go.ChangeAt Go.RowKit Go.Shelf
open mem rows

/-- A builder that holds these bytes. -/
def Bd (B b : Nat) (l : List UInt8) (w : World) : Prop := Lib.IsBuilderF 40 5 B b (Lib.byteCells l) w
theorem not_cells {o : Obj} {c : Array Value} {e : TypeId} {fz : Nat × Nat} (h : o = .cells c e fz) (k : o.isCells = false) : False := by subst h; simp [Obj.isCells] at k
theorem atF_own {T e : TypeId} {B b : Nat} {p : Value} {bs : List Value} {W W' : World} {row : Option Nat} (h : Lib.BuilderAtF T e B b p bs W) (hg : W.grownBy W' row) (hr : ∀ r, row = some r → ∃ o : Obj, W.heap[r]? = some o ∧ o.isCells = false) : Lib.BuilderAtF T e B b p bs W' := by
  have key : ∀ k c t fz, W.heap[k]? = some (Obj.cells c t fz) → W'.heap[k]? = some (Obj.cells c t fz) := fun k c t fz hk => by
    have hlt : k < W.heap.size := (Array.getElem?_eq_some_iff.1 hk).1
    rw [hg.block k hlt ?_]
    · exact hk
    · intro e
      obtain ⟨o, ho, hc⟩ := hr k e.symm
      rw [hk] at ho
      exact not_cells (Option.some.inj ho).symm hc
  obtain ⟨hB, v, hb, hown, hne⟩ := h
  refine ⟨hB, v, key _ _ _ _ hb, ⟨hown.1, ?_⟩, hne⟩
  rcases hown.2 with hn | ⟨g, cap, cur, fz, hv, hbg, hgg, rest⟩
  · exact .inl hn
  · exact .inr ⟨g, cap, cur, fz, hv, hbg, key _ _ _ _ hgg, rest⟩
theorem Bd.own {B b : Nat} {l : List UInt8} {W W' : World} {row : Option Nat} (h : Bd B b l W) (hg : W.grownBy W' row) (hr : ∀ r, row = some r → ∃ o : Obj, W.heap[r]? = some o ∧ o.isCells = false) : Bd B b l W' :=
  h.elim (fun x => .inl (atF_own x hg hr)) (fun x => .inr (atF_own x hg hr))
theorem grown_bl {A B : World} (h : Bl A B) : A.grownBy B none := ⟨h.os, h.tape, h.output, h.size, fun k hk _ => h.block k hk⟩
theorem Bd.bl {B b : Nat} {l : List UInt8} {W W' : World} (h : Bd B b l W) (hb : Bl W W') : Bd B b l W' := h.own (grown_bl hb) (fun r e => by cases e)
theorem Bd.cells {B b : Nat} {l : List UInt8} {W : World} (h : Bd B b l W) : ∃ c t fz, W.heap[b]? = some (Obj.cells c t fz) := by
  rcases h with h | h
  · obtain ⟨_, v, hc, _⟩ := h; exact ⟨_, _, _, hc⟩
  · obtain ⟨_, v, hc, _⟩ := h; exact ⟨_, _, _, hc⟩
theorem Bd.lt {B b : Nat} {l : List UInt8} {W : World} (h : Bd B b l W) : b < W.heap.size := by
  obtain ⟨c, t, fz, hc⟩ := h.cells
  exact lt_of_some hc
theorem Bd.base {B b : Nat} {l : List UInt8} {W : World} (h : Bd B b l W) : B ≤ b := by
  rcases h with h | h
  · exact h.1
  · exact h.1
theorem Bd.le {B b : Nat} {l : List UInt8} {W : World} (h : Bd B b l W) : B ≤ W.heap.size := Nat.le_trans h.base (Nat.le_of_lt h.lt)
theorem Bd.new (w : World) : Bd w.heap.size w.heap.size [] (w.alloc (.cells #[.pointer none, .slice none 0 0] 40)) := by
  refine .inl ⟨Nat.le_refl _, .slice none 0 0, ?_, ⟨rfl, .inl ⟨rfl, rfl⟩⟩, ?_⟩
  · show (w.heap.push _)[w.heap.size]? = _
    rw [Array.getElem?_push, if_pos rfl]
  · intro h; cases h
/-- What is no row of bytes and not the builder stays as it was. -/
structure Kb (b : Nat) (w w' : World) : Prop where
  size : w.heap.size ≤ w'.heap.size
  same : ∀ (k : Nat) (o : Obj), w.heap[k]? = some o → k ≠ b → (∀ c fz, o ≠ .cells c 5 fz) → w'.heap[k]? = some o
theorem Kb.refl (b : Nat) (w : World) : Kb b w w := ⟨Nat.le_refl _, fun _ _ h _ _ => h⟩
theorem Kb.trans {b : Nat} {x y z : World} (h : Kb b x y) (k : Kb b y z) : Kb b x z := ⟨Nat.le_trans h.size k.size, fun i o h1 h2 h3 => k.same i o (h.same i o h1 h2 h3) h2 h3⟩
theorem Kb.bl {b : Nat} {w w' : World} (h : Bl w w') : Kb b w w' := ⟨h.size, fun k o hk _ _ => by rw [Below.block h k (lt_of_some hk)]; exact hk⟩
theorem Kb.others {B b : Nat} {l : List UInt8} {w w' : World} (h : Kb b w w') (hb : Bd B b l w) : KeepsOthers w w' := by
  refine ⟨h.size, fun k o hk ho => h.same k o hk ?_ ?_⟩
  · intro e
    obtain ⟨c, t, fz, hc⟩ := hb.cells
    rw [e] at hk
    rw [hk] at hc
    exact not_cells (Option.some.inj hc) ho
  · intro c fz e1
    exact not_cells e1 ho
theorem Kb.vr {b k : Nat} {v : Value} {t : TypeId} {w w' : World} (h : Kb b w w') (hv : Vr w k v t) (hk : k ≠ b) (ht : t ≠ 5) : Vr w' k v t := by
  unfold Vr at hv ⊢
  exact h.same k _ hv hk (fun c fz e => by injection e with _ e2 _; exact ht e2)
theorem str_cells (s : ByteArray) : Lib.strCells s = Lib.byteCells s.data.toList := rfl
theorem byte_cells_app (a b : List UInt8) : Lib.byteCells (a ++ b) = Lib.byteCells a ++ Lib.byteCells b := by simp [Lib.byteCells]
/-- WriteString. -/
theorem write_at (B b : Nat) (l : List UInt8) (s : ByteArray) (w : World) (h : Bd B b l w) (hl : l.length + s.size ≤ 140737488355328) :
    Calls Tryd.prog 15 #[.pointer (some ⟨b, 0, none⟩), .string s] w fun e w' => e = .returned (.tuple #[.int .i64 s.size, .nilIface]) ∧ Bd B b (l ++ s.data.toList) w' ∧ Below B w w' ∧ Kb b w w' := by
  refine Calls.mono (Any.Builder_WriteString_k lay.laid166 lay.extra B b (Lib.byteCells l) s w h (by rw [Lib.byteCells_length]; exact hl) h.le) ?_
  rintro e w' ⟨rfl, h1, h2, h3⟩
  refine ⟨rfl, ?_, h2, ⟨h2.size, fun k o hk hne ho => h3 k o hk (fun e => hne (by injection e)) ho⟩⟩
  unfold Bd
  rw [byte_cells_app, ← str_cells]
  exact .inr h1
/-- WriteByte. -/
theorem writeb_at (B b : Nat) (l : List UInt8) (c : UInt8) (z : Int) (hz : z = (c.toNat : Int)) (w : World) (h : Bd B b l w) (hl : l.length + 1 ≤ 140737488355328) :
    Calls Tryd.prog 16 #[.pointer (some ⟨b, 0, none⟩), .int .u8 z] w fun e w' => e = .returned .nilIface ∧ Bd B b (l ++ [c]) w' ∧ Below B w w' ∧ Kb b w w' := by
  subst hz
  refine Calls.mono (Any.Builder_WriteByte_k lay.laid167 lay.extra B b (Lib.byteCells l) (c.toNat : Int) w h (by rw [Lib.byteCells_length]; exact hl) h.le) ?_
  rintro e w' ⟨rfl, h1, h2, h3⟩
  refine ⟨rfl, ?_, h2, ⟨h2.size, fun k o hk hne ho => h3 k o hk (fun e => hne (by injection e)) ho⟩⟩
  unfold Bd
  rw [byte_cells_app]
  exact .inr h1
theorem string_at (B b : Nat) (l : List UInt8) (w : World) (h : Bd B b l w) :
    Calls Tryd.prog 19 #[.pointer (some ⟨b, 0, none⟩)] w fun e w' => e = .returned (.string ⟨l.toArray⟩) ∧ Below B w w' ∧ Kb b w w' := by
  refine Calls.mono (Any.Builder_String_any_k lay.laid169 lay.extra B b l w h h.le) ?_
  rintro e w' ⟨rfl, h1, h2, h3⟩
  exact ⟨rfl, h2, ⟨h2.size, fun k o hk hne ho => h3 k o hk (fun e => hne (by injection e)) ho⟩⟩
/-- What was below n₀, and these variables, stay as they were. -/
def KV (n₀ : Nat) (L : List Nat) (W W' : World) : Prop := Below n₀ W W' ∧ ∀ k, k ∈ L → ∀ c t f, W.heap[k]? = some (.cells c t f) → W'.heap[k]? = some (.cells c t f)
theorem KV.trans {n₀ : Nat} {L : List Nat} {A B C : World} (h : KV n₀ L A B) (k : KV n₀ L B C) : KV n₀ L A C := ⟨h.1.trans k.1, fun i hi c t f hc => k.2 i hi c t f (h.2 i hi c t f hc)⟩
theorem KV.refl (n₀ : Nat) (L : List Nat) (W : World) : KV n₀ L W W := ⟨Below.refl _ _, fun _ _ _ _ _ h => h⟩
theorem KV.putObj {n₀ : Nat} {L : List Nat} {w : World} (hn : n₀ ≤ w.heap.size) (W : World) (l : Nat) (o o' : Obj) (hl : w.heap.size ≤ l) (h : W.heap[l]? = some o) (h1 : o.isCells = false) (h2 : o.isWalk = false) : KV n₀ L W (W.putObj l o') := by
  refine ⟨belowK_b hn W l o o' hl h h1 h2, fun k _ c t f hc => ?_⟩
  rw [World.putObj_heap_other (fun e => ?_)]
  · exact hc
  · rw [e, h] at hc
    exact not_cells (Option.some.inj hc) h1
theorem KV.vr {n₀ : Nat} {L : List Nat} {W W' : World} {k : Nat} {v : Value} {t : TypeId} (h : KV n₀ L W W') (hk : k ∈ L) (hv : Vr W k v t) : Vr W' k v t := h.2 k hk _ _ _ hv
theorem Vr.own {k : Nat} {v : Value} {t : TypeId} {W W' : World} {row : Option Nat} (h : Vr W k v t) (hg : W.grownBy W' row) (hr : ∀ r, row = some r → ∃ o : Obj, W.heap[r]? = some o ∧ o.isCells = false) : Vr W' k v t := by
  have hlt := h.lt
  unfold Vr at h ⊢
  rw [hg.block k hlt ?_]
  · exact h
  · intro e
    obtain ⟨o, ho, hc⟩ := hr k e.symm
    rw [h] at ho
    exact not_cells (Option.some.inj ho).symm hc
end Go.Proofs.YtmchpmfogjhpoabDoor.bld
