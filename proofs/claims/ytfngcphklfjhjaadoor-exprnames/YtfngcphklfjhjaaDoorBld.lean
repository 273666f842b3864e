/- A strings.Builder of the call's own: what is written into it, what it holds, and what stays as it was. -/
import Derived.Test.YtfngcphklfjhjaaDoorLxV
import Derived.Test.YtfngcphklfjhjaaDoorLayB
namespace Go.Proofs.YtfngcphklfjhjaaDoor.bld
set_option linter.unusedVariables false
open Go.ChangeShapes Go.WideShapes Go.ChangeAt Go.RowKit Go.Shelf
open mem lx

/-- A builder that holds these bytes. -/
def Bd (B b : Nat) (l : List UInt8) (w : World) : Prop := Lib.IsBuilderF 73 5 B b (Lib.byteCells l) w
theorem lt_of_some {w : World} {g : Nat} {o : Obj} (h : w.heap[g]? = some o) : g < w.heap.size := lt_of_heap h
theorem atF_bl {T e : TypeId} {B b : Nat} {p : Value} {bs : List Value} {W W' : World} (h : Lib.BuilderAtF T e B b p bs W) (hg : Bl W W') : Lib.BuilderAtF T e B b p bs W' := by
  have key : ∀ k c t fz, W.heap[k]? = some (Obj.cells c t fz) → W'.heap[k]? = some (Obj.cells c t fz) := fun k c t fz hk => by
    rw [Below.block hg k (lt_of_heap hk)]
    exact hk
  obtain ⟨hB, v, hb, hown, hne⟩ := h
  refine ⟨hB, v, key _ _ _ _ hb, ⟨hown.1, ?_⟩, hne⟩
  rcases hown.2 with hn | ⟨g, cap, cur, fz, hv, hbg, hgg, rest⟩
  · exact .inl hn
  · exact .inr ⟨g, cap, cur, fz, hv, hbg, key _ _ _ _ hgg, rest⟩
theorem Bd.bl {B b : Nat} {l : List UInt8} {W W' : World} (h : Bd B b l W) (hb : Bl W W') : Bd B b l W' :=
  h.elim (fun x => .inl (atF_bl x hb)) (fun x => .inr (atF_bl x hb))
theorem Bd.cells {B b : Nat} {l : List UInt8} {W : World} (h : Bd B b l W) : ∃ c t fz, W.heap[b]? = some (Obj.cells c t fz) := by
  rcases h with h | h
  · obtain ⟨_, v, hc, _⟩ := h; exact ⟨_, _, _, hc⟩
  · obtain ⟨_, v, hc, _⟩ := h; exact ⟨_, _, _, hc⟩
theorem Bd.lt {B b : Nat} {l : List UInt8} {W : World} (h : Bd B b l W) : b < W.heap.size := by
  obtain ⟨c, t, fz, hc⟩ := h.cells
  exact lt_of_some hc
theorem Bd.base {B b : Nat} {l : List UInt8} {W : World} (h : Bd B b l W) : B ≤ b := by
  rcases h with h | h
  · exact h.1
  · exact h.1
theorem Bd.le {B b : Nat} {l : List UInt8} {W : World} (h : Bd B b l W) : B ≤ W.heap.size := Nat.le_trans h.base (Nat.le_of_lt h.lt)
theorem Bd.new (w : World) : Bd w.heap.size w.heap.size [] (w.alloc (.cells #[.pointer none, .slice none 0 0] 73)) := by
  refine .inl ⟨Nat.le_refl _, .slice none 0 0, ?_, ⟨rfl, .inl ⟨rfl, rfl⟩⟩, ?_⟩
  · show (w.heap.push _)[w.heap.size]? = _
    rw [Array.getElem?_push, if_pos rfl]
  · intro h; cases h
/-- What is no row of bytes and not the builder stays as it was. -/
structure Kb (b : Nat) (w w' : World) : Prop where
  size : w.heap.size ≤ w'.heap.size
  same : ∀ (k : Nat) (o : Obj), w.heap[k]? = some o → k ≠ b → (∀ c fz, o ≠ .cells c 5 fz) → w'.heap[k]? = some o
theorem Kb.refl (b : Nat) (w : World) : Kb b w w := ⟨Nat.le_refl _, fun _ _ h _ _ => h⟩
theorem Kb.trans {b : Nat} {x y z : World} (h : Kb b x y) (k : Kb b y z) : Kb b x z := ⟨Nat.le_trans h.size k.size, fun i o h1 h2 h3 => k.same i o (h.same i o h1 h2 h3) h2 h3⟩
theorem Kb.bl {b : Nat} {w w' : World} (h : Bl w w') : Kb b w w' := ⟨h.size, fun k o hk _ _ => by rw [Below.block h k (lt_of_some hk)]; exact hk⟩
theorem str_cells (s : ByteArray) : Lib.strCells s = Lib.byteCells s.data.toList := rfl
theorem byte_cells_app (a b : List UInt8) : Lib.byteCells (a ++ b) = Lib.byteCells a ++ Lib.byteCells b := by simp [Lib.byteCells]
/-- WriteString. -/
theorem write_at (B b : Nat) (l : List UInt8) (s : ByteArray) (w : World) (h : Bd B b l w) (hl : l.length + s.size ≤ 140737488355328) :
    Calls Tryd.prog 51 #[.pointer (some ⟨b, 0, none⟩), .string s] w fun e w' => e = .returned (.tuple #[.int .i64 s.size, .nilIface]) ∧ Bd B b (l ++ s.data.toList) w' ∧ Below B w w' ∧ Kb b w w' := by
  refine Calls.mono (Any.Builder_WriteString_k lay.laid166 lay.extra B b (Lib.byteCells l) s w h (by rw [Lib.byteCells_length]; exact hl) h.le) ?_
  rintro e w' ⟨rfl, h1, h2, h3⟩
  refine ⟨rfl, ?_, h2, ⟨h2.size, fun k o hk hne ho => h3 k o hk (fun e => hne (by injection e)) ho⟩⟩
  unfold Bd
  rw [byte_cells_app, ← str_cells]
  exact .inr h1
theorem writeb_at (B b : Nat) (l : List UInt8) (c : UInt8) (z : Int) (hz : z = (c.toNat : Int)) (w : World) (h : Bd B b l w) (hl : l.length + 1 ≤ 140737488355328) :
    Calls Tryd.prog 68 #[.pointer (some ⟨b, 0, none⟩), .int .u8 z] w fun e w' => e = .returned .nilIface ∧ Bd B b (l ++ [c]) w' ∧ Below B w w' ∧ Kb b w w' := by
  subst hz
  refine Calls.mono (Any.Builder_WriteByte_k lay.laid167 lay.extra B b (Lib.byteCells l) (c.toNat : Int) w h (by rw [Lib.byteCells_length]; exact hl) h.le) ?_
  rintro e w' ⟨rfl, h1, h2, h3⟩
  refine ⟨rfl, ?_, h2, ⟨h2.size, fun k o hk hne ho => h3 k o hk (fun e => hne (by injection e)) ho⟩⟩
  unfold Bd
  rw [byte_cells_app]
  exact .inr h1
theorem string_at (B b : Nat) (l : List UInt8) (w : World) (h : Bd B b l w) :
    Calls Tryd.prog 39 #[.pointer (some ⟨b, 0, none⟩)] w fun e w' => e = .returned (.string ⟨l.toArray⟩) ∧ Below B w w' ∧ Kb b w w' := by
  refine Calls.mono (Any.Builder_String_any_k lay.laid169 lay.extra B b l w h h.le) ?_
  rintro e w' ⟨rfl, h1, h2, h3⟩
  exact ⟨rfl, h2, ⟨h2.size, fun k o hk hne ho => h3 k o hk (fun e => hne (by injection e)) ho⟩⟩
end Go.Proofs.YtfngcphklfjhjaaDoor.bld
