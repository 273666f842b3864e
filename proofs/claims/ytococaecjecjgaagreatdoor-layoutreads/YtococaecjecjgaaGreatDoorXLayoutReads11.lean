/- Texts laid together: LyS, Tm1, Tm2, Tm3, Tm4. -/
import Derived.Test.YtococaecjecjgaaGreatDoorXLayoutReads9
import Derived.Test.YtococaecjecjgaaGreatDoorXLayoutReads10
namespace Go.Proofs.YtococaecjecjgaaGreatDoor.ly
set_option linter.unusedVariables false
open Go.ChangeShapes Go.WideShapes Go.ChangeAt Go.RowKit
open mem lx ex tm
open Go.Maps

def elV : Value → Option (DataW Value × List MemPlace) := fun v => some (.held v, [])
def zT : Value := .agg #[.string ⟨#[]⟩, .int .i64 0, .slice none 0 0]
theorem zero_T (w : World) : (zeroValue 96).run Tryz.prog w = .ok zT w := by kernel_rfl
def Sm (w : World) (b : Nat) (f : List UInt8 → Option Value) (c : Nat) : Prop :=
  ∃ D : DataW Value, w.ownsMap Tryz.prog 9 elV b c D ∧ ∀ x, x.length ≤ maxLen → Maps.has D (skey x) = (f x).isSome ∧ D.atKey (skey x) (.held zT) = .held ((f x).getD zT)
theorem Sm.step {w w' : World} {b c : Nat} {f : List UInt8 → Option Value} {row : Option Nat} (h : Sm w b f c) (hg : w.grownBy w' row) (hne : some b ≠ row) : Sm w' b f c := by
  obtain ⟨D, h1, h2⟩ := h
  exact ⟨D, h1.kept hg hne, h2⟩
theorem Sm.lt {w : World} {b c : Nat} {f : List UInt8 → Option Value} (h : Sm w b f c) : b < w.heap.size := by
  obtain ⟨D, h1, h2⟩ := h
  exact h1.lt
theorem Sm.same {w w' : World} {b c : Nat} {f : List UInt8 → Option Value} (h : Sm w b f c) (hb : w'.heap[b]? = w.heap[b]?) : Sm w' b f c := by
  obtain ⟨D, ⟨es, clock, h1, h2, h3, h4⟩, h5⟩ := h
  exact ⟨D, ⟨es, clock, by rw [hb]; exact h1, h2, h3, h4⟩, h5⟩
theorem Sm.made (w : World) : Sm (w.alloc (.map #[] 0)) w.heap.size (fun _ => none) 0 :=
  ⟨_, World.ownsMap_made w Tryz.prog 9 _, fun x _ => ⟨rfl, rfl⟩⟩
theorem Sm.look {w : World} {b c : Nat} {f : List UInt8 → Option Value} (h : Sm w b f c) (t : ByteArray) (ht : t.size ≤ maxLen) :
    (Instr.lookup 64 (.map (some b)) (.string t) true).run Tryz.prog w = .ok (.tuple #[(f t.data.toList).getD zT, .bool (f t.data.toList).isSome]) w := by
  obtain ⟨D, h1, h2⟩ := h
  obtain ⟨x, ps, hrun, hx⟩ := h1.look_ok lawS Tryz.underlying64 (zero_T w) (show elV zT = some (.held zT, []) from rfl) (WideMaps.keyOf_string_mk Tryz.underlying9 (s := t) ht)
  obtain ⟨h3, h4⟩ := h2 t.data.toList (by rw [Array.length_toList]; exact ht)
  have h4' : D.atKey (.string t.data.toList) (.held zT) = .held ((f t.data.toList).getD zT) := h4
  have h3' : Maps.has D (.string t.data.toList) = (f t.data.toList).isSome := h3
  rw [h4'] at hx
  have hx' : some (DataW.held x, ([] : List MemPlace)) = some (DataW.held ((f t.data.toList).getD zT), ps) := hx
  simp only [Option.some.injEq, Prod.mk.injEq, DataW.held.injEq] at hx'
  rw [hrun, h3', hx'.1]
theorem Sm.put {w : World} {b c : Nat} {f : List UInt8 → Option Value} (h : Sm w b f c) (t : ByteArray) (x : Value) (ht : t.size ≤ maxLen) (hc : c ≤ 5000) :
    ∃ w', (Instr.mapUpdate 64 (.map (some b)) (.string t) x).run Tryz.prog w = .ok () w' ∧ Sm w' b (fun y => if y = t.data.toList then some x else f y) (c + 1) ∧ w.grownBy w' (some b) := by
  obtain ⟨D, h1, h2⟩ := h
  obtain ⟨w', hr, ho, hg⟩ := h1.update lawS Tryz.underlying64 (by unfold maxLen; omega) (WideMaps.keyOf_string_mk Tryz.underlying9 (s := t) ht) (show elV x = some (.held x, []) from rfl)
  refine ⟨w', hr, ⟨_, ho, fun y hy => ?_⟩, hg⟩
  show Maps.has (D.put (skey t.data.toList) _) (skey y) = _ ∧ (D.put (skey t.data.toList) _).atKey (skey y) _ = _
  by_cases e : y = t.data.toList
  · subst e
    rw [has_put_same h1.isMap (skey_is _), atKey_put_same h1.isMap (skey_is _)]
    simp
  · rw [has_put_other (skey_inj e), atKey_put_other (skey_inj e)]
    simp only [if_neg e]
    exact h2 y hy
end Go.Proofs.YtococaecjecjgaaGreatDoor.ly
namespace Go.Proofs.YtococaecjecjgaaGreatDoor.tm
set_option linter.unusedVariables false
open Go.ChangeShapes Go.WideShapes Go.ChangeAt Go.RowKit
open mem lx ex

theorem gp_grown {P : Nat} {w w' : World} (h : Gp P w w') : w.grownBy w' (some P) := ⟨h.os, h.tape, h.output, h.size, fun k hk hne => h.block k hk (fun e => hne (by rw [e]))⟩
end Go.Proofs.YtococaecjecjgaaGreatDoor.tm



