/- Patterns that come in as an argument. -/
import Derived.Test.YtehmjffbfgnijabDoorFg5
import Derived.Deep.Slices
import Derived.ChangeSame
import Derived.ChangeArms
namespace Go.Proofs.YtehmjffbfgnijabDoor.tree
set_option linter.unusedVariables false
open Go.ChangeShapes Go.WideShapes Go.ChangeAt Go.RowKit Go.Deep
open mem rows

/-- These texts came in. -/
def IsStr (w : World) (a : Option Addr) (len cap : Nat) (zs : List ByteArray) : Prop := zs.length = len ∧ InT w a zs ∧ len ≤ maxLen
set_option maxRecDepth 100000 in
theorem str_open {H : Type} {enc : TypeId × Value → H} {W : World} {a : Option Addr} {len cap : Nat} {d : DataW H} {p : List MemPlace} (h : DataW.Trod enc Tryd.prog W 0 (fun _ => true) true 22 (.slice a len cap) d p) :
    ∃ zs, IsStr W a len cap zs := by
  obtain ⟨fuel, hf⟩ := h
  rcases open_slice Tryd.underlying22 hf with ⟨h0, _⟩ | ⟨x, l, c, m, n, D, Pl, hcs, _, hl, hm, hmm, _, hx⟩
  · simp [Value.cells] at h0
    obtain ⟨rfl, rfl, rfl⟩ := h0
    exact ⟨[], rfl, Or.inl rfl, Nat.zero_le _⟩
  · simp [Value.cells] at hcs
    obtain ⟨rfl, rfl, rfl⟩ := hcs
    have c9 : Tryd.prog.cellsOf 9 = 1 := by kernel_rfl
    have each : ∀ i, i < len → ∃ z : ByteArray, W.cell? (x.add i) = some (.string z) := by
      intro i hi
      obtain ⟨cs', g1, g2⟩ := hx i (by rw [hmm, if_pos rfl]; omega)
      rw [c9] at g1
      obtain ⟨_, hlen, hcell⟩ := World.cells?_some g1
      match cs', hlen with
      | [v0], _ =>
        obtain ⟨s3, e3, _, r3⟩ := DataW.trod_string Tryd.underlying9 g2
        have d0 := hcell 0 (by omega)
        rw [add_add] at d0
        simp at e3
        subst e3
        exact ⟨s3, by simpa using d0⟩
    obtain ⟨q, hq⟩ := choose_lt each
    have hn : ∀ i, i < len → ((List.range len).map q).getD i .empty = q i := fun i hi => by
      rw [List.getD_eq_getElem?_getD]
      simp [hi]
    refine ⟨(List.range len).map q, by simp, Or.inr ⟨x, rfl, fun i hi => ?_⟩, by omega⟩
    rw [List.length_map, List.length_range] at hi
    rw [hn i hi]
    exact hq i hi
end Go.Proofs.YtehmjffbfgnijabDoor.tree
