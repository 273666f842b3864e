/- Edits that come in as an argument. -/
import Derived.Test.YtkjlcgclabgkaaaDoorPc9
import Derived.Deep.Slices
import Derived.ChangeSame
import Derived.ChangeArms
namespace Go.Proofs.YtkjlcgclabgkaaaDoor.pc
set_option linter.unusedVariables false
open Go.ChangeShapes Go.WideShapes Go.ChangeAt Go.RowKit Go.Deep
open mem

/-- Which one, where, how many out, what in. -/
structure Cg where
  k : Int
  at' : Int
  out : Int
  s : ByteArray
instance : Inhabited Cg := ⟨⟨0, 0, 0, ⟨#[]⟩⟩⟩
/-- These edits came in. -/
def IsCh (w : World) (a : Option Addr) (len cap : Nat) (zs : List Cg) : Prop := zs.length = len ∧ ∀ i, i < len → ∃ x : Addr, a = some x ∧
  w.cell? (x.add (i * 4)) = some (.int .i64 (zs.getD i default).k) ∧ w.cell? (x.add (i * 4 + 1)) = some (.int .i64 (zs.getD i default).at') ∧ w.cell? (x.add (i * 4 + 2)) = some (.int .i64 (zs.getD i default).out) ∧ w.cell? (x.add (i * 4 + 3)) = some (.string (zs.getD i default).s) ∧
  ((Lit.int .i64 (zs.getD i default).k).wf = true ∧ (Lit.int .i64 (zs.getD i default).at').wf = true ∧ (Lit.int .i64 (zs.getD i default).out).wf = true) ∧ (zs.getD i default).s.size ≤ maxLen
set_option maxRecDepth 100000 in
theorem ch_open {H : Type} {enc : TypeId × Value → H} {W : World} {a : Option Addr} {len cap : Nat} {d : DataW H} {p : List MemPlace} (h : DataW.Trod enc Tryd.prog W 0 (fun _ => true) true 22 (.slice a len cap) d p) :
    ∃ zs, IsCh W a len cap zs := by
  obtain ⟨fuel, hf⟩ := h
  rcases open_slice Tryd.underlying22 hf with ⟨h0, _⟩ | ⟨x, l, c, m, n, D, Pl, hcs, _, hl, hm, hmm, _, hx⟩
  · simp [Value.cells] at h0
    obtain ⟨rfl, rfl, rfl⟩ := h0
    exact ⟨[], rfl, fun i hi => absurd hi (Nat.not_lt_zero _)⟩
  · simp [Value.cells] at hcs
    obtain ⟨rfl, rfl, rfl⟩ := hcs
    have ce : Tryd.prog.cellsOf 30 = 4 := by kernel_rfl
    have c3 : Tryd.prog.cellsOf 3 = 1 := by kernel_rfl
    have c9 : Tryd.prog.cellsOf 9 = 1 := by kernel_rfl
    have each : ∀ i, i < len → ∃ z : Cg, W.cell? (x.add (i * 4)) = some (.int .i64 z.k) ∧ W.cell? (x.add (i * 4 + 1)) = some (.int .i64 z.at') ∧ W.cell? (x.add (i * 4 + 2)) = some (.int .i64 z.out) ∧ W.cell? (x.add (i * 4 + 3)) = some (.string z.s) ∧
        ((Lit.int .i64 z.k).wf = true ∧ (Lit.int .i64 z.at').wf = true ∧ (Lit.int .i64 z.out).wf = true) ∧ z.s.size ≤ maxLen := by
      intro i hi
      obtain ⟨cs', g1, g2⟩ := hx i (by rw [hmm, if_pos rfl]; omega)
      rw [ce] at g1
      obtain ⟨_, hlen, hcell⟩ := World.cells?_some g1
      obtain ⟨xs, k, hk, hxy, _, hxl, hfs⟩ := DataW.trod_struct Tryd.underlying30 g2
      match xs, hxl, cs', hlen with
      | [y0, y1, y2, y3], _, [v0, v1, v2, v3], _ =>
        have q0 := hfs 0 _ rfl
        have q1 := hfs 1 _ rfl
        have q2 := hfs 2 _ rfl
        have q3 := hfs 3 _ rfl
        simp [c3, c9] at q0 q1 q2 q3
        obtain ⟨z0, e0, _, f0⟩ := DataW.trod_int Tryd.underlying3 q0
        obtain ⟨z1, e1, _, f1⟩ := DataW.trod_int Tryd.underlying3 q1
        obtain ⟨z2, e2, _, f2⟩ := DataW.trod_int Tryd.underlying3 q2
        obtain ⟨s3, e3, _, r3⟩ := DataW.trod_string Tryd.underlying9 q3
        have d0 := hcell 0 (by omega)
        have d1 := hcell 1 (by omega)
        have d2 := hcell 2 (by omega)
        have d3 := hcell 3 (by omega)
        rw [add_add] at d0 d1 d2 d3
        simp at e0 e1 e2 e3
        subst e0 e1 e2 e3
        exact ⟨⟨z0, z1, z2, s3⟩, by simpa using d0, by simpa using d1, by simpa using d2, by simpa using d3, ⟨f0, f1, f2⟩, r3⟩
    obtain ⟨q, hq⟩ := choose_lt each
    have hn : ∀ i, i < len → ((List.range len).map q).getD i default = q i := fun i hi => by
      rw [List.getD_eq_getElem?_getD]
      simp [hi]
    refine ⟨(List.range len).map q, by simp, fun i hi => ⟨x, rfl, ?_⟩⟩
    rw [hn i hi]
    exact hq i hi
end Go.Proofs.YtkjlcgclabgkaaaDoor.pc
