/- Edits that come in as an argument. -/
import Derived.Test.YtoiiphkcpdphbaaDoorEdRow
import Derived.Deep.Slices
import Derived.ChangeSame
import Derived.ChangeArms
namespace Go.Proofs.YtoiiphkcpdphbaaDoor.ed
set_option linter.unusedVariables false
open Go.ChangeShapes Go.WideShapes Go.ChangeAt Go.RowKit Go.Deep
open mem df
/-- These edits came in. -/
def IsEd (w : World) (a : Option Addr) (len cap : Nat) (zs : List Ed) : Prop := zs.length = len ∧ len ≤ cap ∧ In w a zs ∧ cap ≤ maxLen
theorem row_cell (zs : List Ed) (j : Nat) (u : Value) (h : (rowE zs)[j]? = some u) : ∃ (i r : Nat) (hi : i < zs.length), j = i * 3 + r ∧ ((r = 0 ∧ u = .int .i64 zs[i].w) ∨ (r = 1 ∧ u = .int .i64 zs[i].n) ∨ (r = 2 ∧ u = .string (tx zs[i].t))) := by
  have hj : j < zs.length * 3 := by
    have := (List.getElem?_eq_some_iff.1 h).1
    rw [rowE_len] at this
    exact this
  have hi : j / 3 < zs.length := by omega
  obtain ⟨g0, g1, g2⟩ := rowE_get zs (j / 3) hi
  refine ⟨j / 3, j % 3, hi, by omega, ?_⟩
  rcases (show j % 3 = 0 ∨ j % 3 = 1 ∨ j % 3 = 2 by omega) with e | e | e
  · rw [show j = j / 3 * 3 by omega, g0] at h
    exact Or.inl ⟨e, (Option.some.inj h).symm⟩
  · rw [show j = j / 3 * 3 + 1 by omega, g1] at h
    exact Or.inr (Or.inl ⟨e, (Option.some.inj h).symm⟩)
  · rw [show j = j / 3 * 3 + 2 by omega, g2] at h
    exact Or.inr (Or.inr ⟨e, (Option.some.inj h).symm⟩)
set_option maxRecDepth 100000 in
theorem ed_open {H : Type} {enc : TypeId × Value → H} {W : World} {a : Option Addr} {len cap : Nat} {d : DataW H} {p : List MemPlace} (h : DataW.Trod enc Tryd.prog W 0 (fun _ => true) true 29 (.slice a len cap) d p) :
    ∃ zs, IsEd W a len cap zs := by
  obtain ⟨fuel, hf⟩ := h
  rcases open_slice Tryd.underlying29 hf with ⟨h0, _⟩ | ⟨x, l, c, m, n, D, Pl, hcs, _, hl, hm, hmm, _, hx⟩
  · simp [Value.cells] at h0
    obtain ⟨rfl, rfl, rfl⟩ := h0
    exact ⟨[], rfl, Nat.le_refl _, Or.inl rfl, by decide⟩
  · simp [Value.cells] at hcs
    obtain ⟨rfl, rfl, rfl⟩ := hcs
    have ce : Tryd.prog.cellsOf 38 = 3 := by kernel_rfl
    have c3 : Tryd.prog.cellsOf 3 = 1 := by kernel_rfl
    have c9 : Tryd.prog.cellsOf 9 = 1 := by kernel_rfl
    have each : ∀ i, i < len → ∃ z : Ed, W.cell? (x.add (i * 3)) = some (.int .i64 z.w) ∧ W.cell? (x.add (i * 3 + 1)) = some (.int .i64 z.n) ∧ W.cell? (x.add (i * 3 + 2)) = some (.string (tx z.t)) := by
      intro i hi
      obtain ⟨cs', g1, g2⟩ := hx i (by rw [hmm, if_pos rfl]; omega)
      rw [ce] at g1
      obtain ⟨_, hlen, hcell⟩ := World.cells?_some g1
      obtain ⟨xs, k, hk, hxy, _, hxl, hfs⟩ := DataW.trod_struct Tryd.underlying38 g2
      match xs, hxl, cs', hlen with
      | [y0, y1, y2], _, [v0, v1, v2], _ =>
        have q0 := hfs 0 _ rfl
        have q1 := hfs 1 _ rfl
        have q2 := hfs 2 _ rfl
        simp [c3, c9] at q0 q1 q2
        obtain ⟨z0, e0, _, f0⟩ := DataW.trod_int Tryd.underlying3 q0
        obtain ⟨z1, e1, _, f1⟩ := DataW.trod_int Tryd.underlying3 q1
        obtain ⟨s3, e3, _, r3⟩ := DataW.trod_string Tryd.underlying9 q2
        have d0 := hcell 0 (by omega)
        have d1 := hcell 1 (by omega)
        have d2 := hcell 2 (by omega)
        rw [add_add] at d0 d1 d2
        simp at e0 e1 e3
        subst e0 e1 e3
        exact ⟨⟨z0, z1, L s3⟩, by simpa using d0, by simpa using d1, by rw [tx_L]; simpa using d2⟩
    obtain ⟨q, hq⟩ := choose_lt each
    refine ⟨(List.range len).map q, by simp, hl, Or.inr ⟨x, rfl, fun j u hu => ?_⟩, hm⟩
    obtain ⟨i, r, hi, rfl, hr⟩ := row_cell _ _ _ hu
    have hi' : i < len := by simpa using hi
    have hn : ((List.range len).map q)[i] = q i := by simp
    rw [hn] at hr
    obtain ⟨g0, g1, g2⟩ := hq i hi'
    rcases hr with ⟨rfl, rfl⟩ | ⟨rfl, rfl⟩ | ⟨rfl, rfl⟩
    · exact g0
    · exact g1
    · exact g2
end Go.Proofs.YtoiiphkcpdphbaaDoor.ed
