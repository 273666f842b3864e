/- The struct of a sum that comes in by value: opened and shut. -/
import Derived.Test.YthimjckimggpoaaDoorRows
import Derived.OpenShut
import Derived.Deep.Strs
namespace Go.Proofs.YthimjckimggpoaaDoor.sums
open Go.ChangeShapes Go.WideShapes Go.RowKit
theorem cS : Tryd.prog.cellsOf 24 = 5 := by kernel_rfl
theorem cB : Tryd.prog.cellsOf 4 = 1 := by kernel_rfl
theorem cI : Tryd.prog.cellsOf 3 = 1 := by kernel_rfl
theorem cU : Tryd.prog.cellsOf 22 = 1 := by kernel_rfl
set_option maxRecDepth 50000 in
theorem open_sum {H : Type} {enc : TypeId × Value → H} {W : World} {r : Reach} {b0 base : Nat} {sp : Nat → Bool} {held : Bool} {v : Value} {d : DataW H} {ps : List MemPlace}
    (hval : Value.okWide Tryd.prog W r b0 24 v) (hd : DataW.Trod enc Tryd.prog W base sp held 24 v d ps) :
    ∃ (n p i o : Int) (t : Bool), v = .agg #[.int .i64 n, .int .u32 p, .bool t, .int .u32 i, .int .u32 o] ∧ d = .agg [.lit (.int .i64 n), .lit (.int .u32 p), .lit (.bool t), .lit (.int .u32 i), .lit (.int .u32 o)] ∧ ps = [] ∧
      (Lit.int .i64 n).wf = true ∧ (Lit.int .u32 p).wf = true ∧ (Lit.int .u32 i).wf = true ∧ (Lit.int .u32 o).wf = true := by
  obtain ⟨cs, rfl, hs⟩ := okWide_struct Tryd.underlying24 hval
  rw [cS] at hs
  obtain ⟨fuel, hf⟩ := hd
  obtain ⟨xs, k, _, hx, hl, hlen, hfs⟩ := DataW.trod_struct Tryd.underlying24 hf
  obtain ⟨l⟩ := cs
  match l, hs, xs, hlen with
  | [c0, c1, c2, c3, c4], _, [y0, y1, y2, y3, y4], _ =>
    have h0 := hfs 0 _ rfl
    have h1 := hfs 1 _ rfl
    have h2 := hfs 2 _ rfl
    have h3 := hfs 3 _ rfl
    have h4 := hfs 4 _ rfl
    simp only [Value.cells] at h0 h1 h2 h3 h4
    simp at h0 h1 h2 h3 h4
    obtain ⟨n, e0, rfl, wn⟩ := DataW.trod_int Tryd.underlying3 h0
    obtain ⟨p, e1, rfl, wp⟩ := DataW.trod_int Tryd.underlying22 h1
    obtain ⟨t, e2, rfl⟩ := DataW.trod_bool Tryd.underlying4 h2
    obtain ⟨i, e3, rfl, wi⟩ := DataW.trod_int Tryd.underlying22 h3
    obtain ⟨o, e4, rfl, wo⟩ := DataW.trod_int Tryd.underlying22 h4
    rw [cI] at e0
    rw [cU] at e1 e3 e4
    rw [cB] at e2
    simp at e0 e1 e2 e3 e4
    subst e0 e1 e2 e3 e4
    simp only [Prod.mk.injEq] at hx
    exact ⟨n, p, i, o, t, rfl, by simpa using hx.1, by simpa using hx.2, wn, wp, wi, wo⟩
set_option maxRecDepth 50000 in
theorem shut_sum {H : Type} {enc : TypeId × Value → H} {W : World} {base : Nat} {sp : Nat → Bool} {held : Bool} {n p i o : Int} {t : Bool} (wn : (Lit.int .i64 n).wf = true) (wp : (Lit.int .u32 p).wf = true) (wi : (Lit.int .u32 i).wf = true) (wo : (Lit.int .u32 o).wf = true) :
    DataW.Trod enc Tryd.prog W base sp held 24 (.agg #[.int .i64 n, .int .u32 p, .bool t, .int .u32 i, .int .u32 o]) (.agg [.lit (.int .i64 n), .lit (.int .u32 p), .lit (.bool t), .lit (.int .u32 i), .lit (.int .u32 o)]) [] := by
  refine ⟨2, ?_⟩
  have h0 : DataW.trod enc Tryd.prog W base sp held 1 3 [.int .i64 n] = some (.lit (.int .i64 n), []) := by simp [DataW.trod, Tryd.underlying3, wn]
  have h1 : DataW.trod enc Tryd.prog W base sp held 1 22 [.int .u32 p] = some (.lit (.int .u32 p), []) := by simp [DataW.trod, Tryd.underlying22, wp]
  have h2 : DataW.trod enc Tryd.prog W base sp held 1 4 [.bool t] = some (.lit (.bool t), []) := by simp [DataW.trod, Tryd.underlying4]
  have h3 : DataW.trod enc Tryd.prog W base sp held 1 22 [.int .u32 i] = some (.lit (.int .u32 i), []) := by simp [DataW.trod, Tryd.underlying22, wi]
  have h4 : DataW.trod enc Tryd.prog W base sp held 1 22 [.int .u32 o] = some (.lit (.int .u32 o), []) := by simp [DataW.trod, Tryd.underlying22, wo]
  have := trod_struct_mk (enc := enc) (P := Tryd.prog) (w := W) (base := base) (spare := sp) (held := held) (n := 1) (cs := [.int .i64 n, .int .u32 p, .bool t, .int .u32 i, .int .u32 o]) (xs := [(.lit (.int .i64 n), []), (.lit (.int .u32 p), []), (.lit (.bool t), []), (.lit (.int .u32 i), []), (.lit (.int .u32 o), [])]) Tryd.underlying24 (by rw [cS]; rfl) (by simp [cI, cU, cB, h0, h1, h2, h3, h4])
  simpa [Value.cells] using this
end Go.Proofs.YthimjckimggpoaaDoor.sums
