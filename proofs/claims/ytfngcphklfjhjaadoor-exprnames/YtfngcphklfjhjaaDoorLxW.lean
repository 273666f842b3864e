/- Variables of one cell; an append in a region that draws. -/
import Derived.Test.YtfngcphklfjhjaaDoorTkRow
import Derived.Deep.RegionLaw
namespace Go.Proofs.YtfngcphklfjhjaaDoor.lx
set_option linter.unusedVariables false
open Go.ChangeShapes Go.WideShapes Go.ChangeAt Go.RowKit
open mem
/-- What does not end by a panic. -/
def Calm (Q : Exit → Act → World → Prop) : Exit → Act → World → Prop
  | .normal, a, w => Q .normal a w
  | _, _, _ => False
theorem wp_calm {P : Program} {c : Code} {Q : Exit → Act → World → Prop} {a : Act} {w : World} (h : c.wp P (Calm Q) a w) : c.wp P Q a w :=
  wp_mono h (fun e a w q => by
    cases e with
    | normal => exact q
    | exit _ => exact q.elim
    | goto _ => exact q.elim
    | ret => exact q.elim
    | panic _ => exact q.elim
    | outgrown => exact q.elim)
theorem Calm.in {Q : Exit → Act → World → Prop} {a : Act} {w : World} (h : Q .normal a w) : Calm Q .normal a w := h
/-- An append whose run is known, in a region that draws. -/
theorem step_append_run {P : Program} {ops : Array Oper} {o : Oper} {a : Act} {w : World} {K : Act → World → Prop} {Q : Exit → Act → World → Prop} {E : Prop}
    (hg : o.guard = none) (s x : Operand) (t tx : TypeId) (hop : o.op = Op.call { callee := Callee.builtin Builtin.append, args := #[s, x], argTypes := #[t, tx] })
    (vs vx : Value) (hs : a.eval s = vs) (hx : a.eval x = vx) (v' : Value) (w' : World) (hr : (Builtin.append_ #[t, tx] o.type #[vs, vx]).run P w = .ok v' w') (hK : K (a.put o.dst v') w') :
    if Region.wanted o (yielded ops a.tmps) = true then Oper.wp P o a w K Q else E := by
  have hw : Region.wanted o (yielded ops a.tmps) = true := by simp [Region.wanted, hg]
  rw [if_pos hw]
  exact Lib.wp_append_run w s x t tx hop vs vx hs hx v' w' hr hK
theorem lt_of_some {w : World} {k : Nat} {o : Obj} (h : w.heap[k]? = some o) : k < w.heap.size := by
  rcases Nat.lt_or_ge k w.heap.size with h' | h'
  · exact h'
  · rw [Array.getElem?_eq_none h'] at h; cases h
/-- A variable of one cell. -/
def Vr (w : World) (b : Nat) (v : Value) (t : TypeId) : Prop := w.heap[b]? = some (.cells #[v] t (0, 0))
theorem Vr.lt {w : World} {b : Nat} {v : Value} {t : TypeId} (h : Vr w b v t) : b < w.heap.size := lt_of_some h
theorem Vr.cell {w : World} {b : Nat} {v : Value} {t : TypeId} (h : Vr w b v t) : w.cell? ⟨b, 0, none⟩ = some v := by
  unfold Vr at h
  simp [World.cell?, h]
theorem Vr.frozen {w : World} {b : Nat} {v : Value} {t : TypeId} (h : Vr w b v t) : w.frozen? ⟨b, 0, none⟩ = false := by
  unfold Vr at h
  simp [World.frozen?, h]
theorem Vr.new (w : World) (v : Value) (t : TypeId) : Vr (w.alloc (.cells #[v] t)) w.heap.size v t := by
  show (w.heap.push _)[w.heap.size]? = _
  rw [Array.getElem?_push, if_pos rfl]
theorem Vr.step {w w' : World} {b : Nat} {v : Value} {t : TypeId} (h : Vr w b v t) (hb : Bl w w') : Vr w' b v t := by
  have := h.lt
  unfold Vr at h ⊢
  rw [Below.block hb _ this]
  exact h
theorem Vr.set {w : World} {b : Nat} {v : Value} {t : TypeId} (h : Vr w b v t) (x : Value) : Vr (w.setCell ⟨b, 0, none⟩ x) b x t := by
  unfold Vr at h ⊢
  simp [World.setCell, Array.getElem?_modify, h]
theorem Vr.set_other {w : World} {b c j : Nat} {v : Value} {t : TypeId} (h : Vr w b v t) (hne : c ≠ b) (x : Value) : Vr (w.setCell ⟨c, j, none⟩ x) b v t := by
  unfold Vr at h ⊢
  simp [World.setCell, Array.getElem?_modify, hne, h]
theorem Vr.grown {w w' : World} {b : Nat} {v : Value} {t : TypeId} {row : Option Nat} (h : Vr w b v t) (hg : w.grownBy w' row) (hne : row ≠ some b) : Vr w' b v t := by
  have := h.lt
  unfold Vr at h ⊢
  rw [hg.block b this (fun e => hne e.symm)]
  exact h
end Go.Proofs.YtfngcphklfjhjaaDoor.lx
