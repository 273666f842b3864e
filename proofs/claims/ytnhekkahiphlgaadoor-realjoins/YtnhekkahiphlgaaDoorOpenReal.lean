/- A real that comes in by value: opened and shut. -/
import Derived.Test.YtnhekkahiphlgaaDoorRows
import Derived.OpenShut
import Derived.Deep.Strs
namespace Go.Proofs.YtnhekkahiphlgaaDoor.rl
open Go.ChangeShapes Go.WideShapes Go.RowKit
theorem cR : Tryd.prog.cellsOf 24 = 3 := by kernel_rfl
theorem cB : Tryd.prog.cellsOf 4 = 1 := by kernel_rfl
theorem cI : Tryd.prog.cellsOf 3 = 1 := by kernel_rfl
theorem cU : Tryd.prog.cellsOf 22 = 1 := by kernel_rfl
set_option maxRecDepth 50000 in
theorem open_real {H : Type} {enc : TypeId × Value → H} {W : World} {r : Reach} {b0 base : Nat} {sp : Nat → Bool} {held : Bool} {v : Value} {d : DataW H} {ps : List MemPlace}
    (hval : Value.okWide Tryd.prog W r b0 24 v) (hd : DataW.Trod enc Tryd.prog W base sp held 24 v d ps) :
    ∃ (n : Bool) (x f : Int), v = .agg #[.bool n, .int .i64 x, .int .u64 f] ∧ d = .agg [.lit (.bool n), .lit (.int .i64 x), .lit (.int .u64 f)] ∧ ps = [] ∧ (Lit.int .i64 x).wf = true ∧ (Lit.int .u64 f).wf = true := by
  obtain ⟨cs, rfl, hs⟩ := okWide_struct Tryd.underlying24 hval
  rw [cR] at hs
  obtain ⟨fuel, hf⟩ := hd
  obtain ⟨y0, y1, y2, k, hx, hl, h0, h1, h2⟩ := Deep.trod_struct3 Tryd.underlying24 hf
  obtain ⟨l⟩ := cs
  match l, hs with
  | [c0, c1, c2], _ =>
    simp only [Value.cells] at h0 h1 h2
    obtain ⟨n, e0, rfl⟩ := DataW.trod_bool Tryd.underlying4 h0
    obtain ⟨x, e1, rfl, wx⟩ := DataW.trod_int Tryd.underlying3 h1
    obtain ⟨f, e2, rfl, wf⟩ := DataW.trod_int Tryd.underlying22 h2
    rw [cB] at e0
    rw [cI] at e1
    rw [cU] at e2
    simp at e0 e1 e2
    subst e0 e1 e2
    simp only [Prod.mk.injEq] at hx
    exact ⟨n, x, f, rfl, hx.1, hx.2, wx, wf⟩
set_option maxRecDepth 50000 in
theorem shut_real {H : Type} {enc : TypeId × Value → H} {W : World} {base : Nat} {sp : Nat → Bool} {held : Bool} {n : Bool} {x f : Int} (wx : (Lit.int .i64 x).wf = true) (wf : (Lit.int .u64 f).wf = true) :
    DataW.Trod enc Tryd.prog W base sp held 24 (.agg #[.bool n, .int .i64 x, .int .u64 f]) (.agg [.lit (.bool n), .lit (.int .i64 x), .lit (.int .u64 f)]) [] := by
  refine ⟨2, ?_⟩
  have h0 : DataW.trod enc Tryd.prog W base sp held 1 4 [.bool n] = some (.lit (.bool n), []) := by simp [DataW.trod, Tryd.underlying4]
  have h1 : DataW.trod enc Tryd.prog W base sp held 1 3 [.int .i64 x] = some (.lit (.int .i64 x), []) := by simp [DataW.trod, Tryd.underlying3, wx]
  have h2 : DataW.trod enc Tryd.prog W base sp held 1 22 [.int .u64 f] = some (.lit (.int .u64 f), []) := by simp [DataW.trod, Tryd.underlying22, wf]
  exact Deep.trod_struct3_mk (cs := [.bool n, .int .i64 x, .int .u64 f]) Tryd.underlying24 (by rw [cR]; rfl) (by rw [cB]; exact h0) (by rw [cI]; exact h1) (by rw [cU]; exact h2)
end Go.Proofs.YtnhekkahiphlgaaDoor.rl
