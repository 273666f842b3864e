/- Texts laid together: LayB, Bld, LayT, Ex6. -/
import Derived.Test.YtpanodaecjlgaaaChecked
import Derived.Shelf.Strings.BuilderK
import Derived.Test.YtpanodaecjlgaaaZ3
import Derived.Shelf.Strconv.Itoa3
import Derived.Test.YtpanodaecjlgaaaZ9
import Derived.Test.YtpanodaecjlgaaaZ2
namespace Go.Proofs.Ytpanodaecjlgaaa
end Go.Proofs.Ytpanodaecjlgaaa
/- A strings.Builder of the call's own: what is written into it, what it holds, and what stays as it was. -/
namespace Go.Proofs.Ytpanodaecjlgaaa.bld
set_option linter.unusedVariables false
open Go.ChangeShapes Go.WideShapes Go.ChangeAt Go.RowKit Go.Shelf
open mem lx

theorem lt_of_some {w : World} {g : Nat} {o : Obj} (h : w.heap[g]? = some o) : g < w.heap.size := lt_of_heap h
theorem atF_bl {T e : TypeId} {B b : Nat} {p : Value} {bs : List Value} {W W' : World} (h : Lib.BuilderAtF T e B b p bs W) (hg : Bl W W') : Lib.BuilderAtF T e B b p bs W' := by
  have key : ∀ k c t fz, W.heap[k]? = some (Obj.cells c t fz) → W'.heap[k]? = some (Obj.cells c t fz) := fun k c t fz hk => by
    rw [Below.block hg k (lt_of_heap hk)]
    exact hk
  obtain ⟨hB, v, hb, hown, hne⟩ := h
  refine ⟨hB, v, key _ _ _ _ hb, ⟨hown.1, ?_⟩, hne⟩
  rcases hown.2 with hn | ⟨g, cap, cur, fz, hv, hbg, hgg, rest⟩
  · exact .inl hn
  · exact .inr ⟨g, cap, cur, fz, hv, hbg, key _ _ _ _ hgg, rest⟩
/-- What is no row of bytes and not the builder stays as it was. -/
structure Kb (b : Nat) (w w' : World) : Prop where
  size : w.heap.size ≤ w'.heap.size
  same : ∀ (k : Nat) (o : Obj), w.heap[k]? = some o → k ≠ b → (∀ c fz, o ≠ .cells c 5 fz) → w'.heap[k]? = some o
theorem Kb.refl (b : Nat) (w : World) : Kb b w w := ⟨Nat.le_refl _, fun _ _ h _ _ => h⟩
theorem Kb.trans {b : Nat} {x y z : World} (h : Kb b x y) (k : Kb b y z) : Kb b x z := ⟨Nat.le_trans h.size k.size, fun i o h1 h2 h3 => k.same i o (h.same i o h1 h2 h3) h2 h3⟩
theorem Kb.bl {b : Nat} {w w' : World} (h : Bl w w') : Kb b w w' := ⟨h.size, fun k o hk _ _ => by rw [Below.block h k (lt_of_some hk)]; exact hk⟩
theorem str_cells (s : ByteArray) : Lib.strCells s = Lib.byteCells s.data.toList := rfl
theorem byte_cells_app (a b : List UInt8) : Lib.byteCells (a ++ b) = Lib.byteCells a ++ Lib.byteCells b := by simp [Lib.byteCells]
end Go.Proofs.Ytpanodaecjlgaaa.bld
namespace Go.Proofs.Ytpanodaecjlgaaa
end Go.Proofs.Ytpanodaecjlgaaa
/- Text of package expr. -/
namespace Go.Proofs.Ytpanodaecjlgaaa.ex
set_option linter.unusedVariables false
open Go.ChangeShapes Go.WideShapes Go.ChangeAt Go.RowKit Go.Shelf
open mem lx bld

/-- An expression as text. -/
def txt : Ex → List UInt8
  | .num _ n => Lib.itoa n
  | .nam _ t => t
  | .bin _ o l r => (if top l < bd o then [40] ++ txt l ++ [41] else txt l) ++ ([32] ++ o ++ [32]) ++ (if top r < bd o + 1 then [40] ++ txt r ++ [41] else txt r)
def sdt (x : Ex) (m : Nat) : List UInt8 := if top x < m then [40] ++ txt x ++ [41] else txt x
theorem txt_bin (a : Nat) (o : List UInt8) (l r : Ex) : txt (.bin a o l r) = sdt l (bd o) ++ ([32] ++ o ++ [32]) ++ sdt r (bd o + 1) := by rw [txt]; rfl
/-- Numbers of 64 bits. -/
def Fit : Ex → Prop
  | .num _ n => -9223372036854775808 ≤ n ∧ n ≤ 9223372036854775807
  | .nam _ _ => True
  | .bin _ _ l r => Fit l ∧ Fit r
/-- The library's table of powers. -/
def Pw (w : World) : Prop := Lib.TabIs Try.prog w "internal/strconv.uint64pow10" .u64 Lib.pow10Tab
theorem bl_grow {w : World} (k : Nat) (os : Array Obj) : Bl w (Go.Sort.grow (w.drewN k) os) := by
  refine ⟨rfl, rfl, rfl, ?_, ?_⟩
  · show w.heap.size ≤ (w.heap ++ os).size
    simp
  · intro k hk
    show (w.heap ++ os)[k]? = _
    rw [Array.getElem?_append_left hk]
end Go.Proofs.Ytpanodaecjlgaaa.ex
