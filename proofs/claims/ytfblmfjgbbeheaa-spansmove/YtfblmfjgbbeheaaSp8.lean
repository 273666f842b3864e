/- Spans that come in as an argument. -/
import Derived.Test.YtfblmfjgbbeheaaSp7
import Derived.Deep.SlicePairs
namespace Go.Proofs.Ytfblmfjgbbeheaa.sp
set_option linter.unusedVariables false
open Go.ChangeShapes Go.WideShapes Go.ChangeAt Go.RowKit Go.Deep
open mem rows span

/-- These spans came in. -/
def IsSp (w : World) (a : Option Addr) (len cap : Nat) (zs : List (Int × Int)) : Prop := zs.length = len ∧ InS w a zs ∧ Fit zs ∧ (a = none → len = 0 ∧ cap = 0)
theorem sp_open {H : Type} {enc : TypeId × Value → H} {W : World} {a : Option Addr} {len cap : Nat} {d : DataW H} {p : List MemPlace} (h : DataW.Trod enc Try.prog W 0 (fun _ => true) true 22 (.slice a len cap) d p) :
    ∃ zs, IsSp W a len cap zs := by
  obtain ⟨fuel, hf⟩ := h
  rcases open_slice_pairs Try.underlying22 Try.underlying28 (by kernel_rfl) rfl rfl (by kernel_rfl) (by kernel_rfl) hf with ⟨hcs, _⟩ | ⟨x, l, c, m, n, V0, V1, D0, D1, P0, P1, hcs, _, hl, hc, hm, _, hall⟩
  · simp [Value.cells] at hcs
    obtain ⟨rfl, rfl, rfl⟩ := hcs
    exact ⟨[], rfl, Or.inl rfl, fun x hx => (by cases hx), fun _ => ⟨rfl, rfl⟩⟩
  · simp [Value.cells] at hcs
    obtain ⟨rfl, rfl, rfl⟩ := hcs
    have hlm : ∀ i, i < len → i < m := fun i hi => by rw [hm, if_pos rfl]; omega
    have each : ∀ i, i < len → ∃ z0 z1 : Int, V0 i = .int .i64 z0 ∧ V1 i = .int .i64 z1 ∧ i64 z0 ∧ i64 z1 := fun i hi => by
      obtain ⟨_, _, h0, h1⟩ := hall i (hlm i hi)
      obtain ⟨z0, e0, _, f0⟩ := DataW.trod_int Try.underlying3 h0
      obtain ⟨z1, e1, _, f1⟩ := DataW.trod_int Try.underlying3 h1
      have b0 := bounds_i64 f0
      have b1 := bounds_i64 f1
      exact ⟨z0, z1, by simpa using e0, by simpa using e1, b0, b1⟩
    have hn : ∀ i, i < len → nth ((List.range len).map fun i => (intOf (V0 i), intOf (V1 i))) i = (intOf (V0 i), intOf (V1 i)) := fun i hi => by
      unfold nth
      rw [List.getD_eq_getElem?_getD]
      simp [hi]
    refine ⟨(List.range len).map fun i => (intOf (V0 i), intOf (V1 i)), by simp, Or.inr ⟨x, rfl, fun k hk => ?_⟩, fun y hy => ?_, fun e => by cases e⟩
    · have hk' : k < len := by simpa using hk
      obtain ⟨z0, z1, e0, e1, _, _⟩ := each k hk'
      obtain ⟨h0, h1, _, _⟩ := hall k (hlm k hk')
      rw [hn k hk', h0, h1, e0, e1]
      exact ⟨rfl, rfl⟩
    · rw [List.mem_map] at hy
      obtain ⟨k, hk, rfl⟩ := hy
      obtain ⟨z0, z1, e0, e1, b0, b1⟩ := each k (List.mem_range.1 hk)
      rw [e0, e1]
      exact ⟨b0, b1⟩
end Go.Proofs.Ytfblmfjgbbeheaa.sp
