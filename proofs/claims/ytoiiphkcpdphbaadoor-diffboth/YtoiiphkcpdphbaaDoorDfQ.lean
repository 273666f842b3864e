/- The document's DiffBoth. -/
import Derived.Test.YtoiiphkcpdphbaaDoorDfZ
import Derived.Test.YtoiiphkcpdphbaaDoorDfX
import Derived.Test.YtoiiphkcpdphbaaDoorDfW
namespace Go.Proofs.YtoiiphkcpdphbaaDoor.df
set_option linter.unusedVariables false
open Go.ChangeShapes Go.WideShapes Go.ChangeAt Go.RowKit
open mem
theorem siK0 : Lib.swapperK 0 siE 25 = 1 := by simp [Lib.swapperK]
theorem slice_any (base V : Nat) (v : Value) (l : List Ed) (w : World) (hl : l.length ≤ 100000) (hown : sw.Own w base v l) (hV : w.heap[V]? = some (.cells #[v] 71 (0, 0))) :
    Calls Tryd.prog 28 #[.iface 71 v, .func (.func 29) #[] #[.pointer (some ⟨V, 0, none⟩)]] w fun e w' =>
      e = .returned (.tuple #[]) ∧ ∃ d : List Ed, d.Perm l ∧ d.Pairwise (fun p q => ¬ p.w < q.w) ∧ sw.Own w' base v d ∧ w.grownBy w' v.ownBlock := by
  have hVc : w.cell? ⟨V, 0, none⟩ = some v := by rw [cell_of hV]; rfl
  rcases hown.shape with ⟨rfl, rfl⟩ | ⟨g, cap, rfl, hbg, hgl, hcap, _⟩
  · have hS := Any.sort_Slice_tiny layG.laid 71 74 siT siE (by kernel_rfl) (by kernel_rfl) (by kernel_rfl) (by kernel_rfl) 25 (fun _ => by kernel_rfl) none 0 0 (by omega) 42 (by rw [siK0]; kernel_rfl) (.func 29) #[] #[.pointer (some ⟨V, 0, none⟩)] w
    refine hS.mono ?_
    rintro e w' ⟨rfl, os, rfl⟩
    exact ⟨rfl, [], List.Perm.refl _, List.Pairwise.nil, sw.Own.nil _ _, ⟨rfl, rfl, rfl, by simp, fun k hk hne => Go.Sort.heap_grow_old _ _ hk⟩⟩
  · have hne : V ≠ g := fun e => by
      obtain ⟨cur, hc⟩ := hown.kind
      rw [← e, hV] at hc
      injection hc with hc
      injection hc with _ hc
      exact absurd hc (by decide)
    exact slice_at base g cap V l w hl hown hVc (lt_of_heap hV) hne
theorem eqSw' (x y : Ed) (w : World) : (binOp .eql 74 (.agg #[.int .i64 x.w, .int .i64 x.n, .string (tx x.t)]) (.agg #[.int .i64 y.w, .int .i64 y.n, .string (tx y.t)])).run Tryd.prog w = .ok (.bool (decide (x = y))) w := by
  rw [run_eql_struct]
  go_simp
  obtain ⟨x1, x2, x3⟩ := x
  obtain ⟨y1, y2, y3⟩ := y
  dsimp only
  by_cases h1 : x1 = y1
  · by_cases h2 : x2 = y2
    · by_cases h3 : (tx x3).toList = (tx y3).toList
      · have e : x3 = y3 := by
          rw [ByteArray.toList_eq, ByteArray.toList_eq] at h3
          simpa [tx] using h3
        subst h1; subst h2; subst e; simp
      · have e : x3 ≠ y3 := fun e => h3 (by rw [e])
        rw [if_pos h1, if_pos h2, if_neg h3]; simp [e]
    · rw [if_pos h1, if_neg h2]; simp [h2]
  · rw [if_neg h1]; simp [h1]
theorem eqSw (x y : Ed) (b : Bool) (hb : decide (x = y) = b) (w : World) : (binOp .eql 74 (.agg #[.int .i64 x.w, .int .i64 x.n, .string (tx x.t)]) (.agg #[.int .i64 y.w, .int .i64 y.n, .string (tx y.t)])).run Tryd.prog w = .ok (.bool b) w := by
  rw [eqSw', hb]
/-- One more of those that aren't in x. -/
theorem oth_step (x y : List Ed) (k : Nat) (hk : k < y.length) : oth x (y.take (k + 1)) = oth x (y.take k) ++ if y[k] ∈ x then [] else [y[k]] := by
  unfold oth
  rw [List.take_add_one, List.getElem?_eq_getElem hk, Option.toList, List.filter_append]
  congr 1
  by_cases h : y[k] ∈ x
  · simp [h]
  · simp [h]
/-- What lies between two places, and below a third one, is as it was. -/
def Md (w2 w5 : World) (V : Nat) (w : World) : Prop := Bl w2 w ∧ (∀ k, V < k → k < w5.heap.size → w.heap[k]? = w5.heap[k]?) ∧ w5.heap.size ≤ w.heap.size
theorem Md.step {w2 w5 w w' : World} {V : Nat} (h : Md w2 w5 V w) (hb : Bl w w') : Md w2 w5 V w' :=
  ⟨h.1.trans hb, fun k h1 h2 => by rw [Below.block hb k (by have := h.2.2; omega)]; exact h.2.1 k h1 h2, Nat.le_trans h.2.2 hb.size⟩
theorem Md.grown {w2 w5 w w' : World} {V : Nat} {row : Option Nat} (h : Md w2 w5 V w) (hg : w.grownBy w' row) (hr : ∀ g, row = some g → w2.heap.size ≤ g ∧ (g < V ∨ w5.heap.size ≤ g)) : Md w2 w5 V w' :=
  ⟨bl_grown h.1 hg (fun k e => (hr k e).1), fun k h1 h2 => by
    rw [hg.block k (by have := h.2.2; omega) (fun e => by have := (hr k e.symm).2; omega)]; exact h.2.1 k h1 h2, Nat.le_trans h.2.2 hg.size⟩
theorem Md.setV {w2 w5 w : World} {V : Nat} {v : Value} (h : Md w2 w5 V w) (hV : w2.heap.size ≤ V) : Md w2 w5 V (w.setCell ⟨V, 0, none⟩ v) :=
  ⟨h.1.setCell (a := ⟨V, 0, none⟩) hV _, fun k h1 h2 => by
    have : V ≠ k := by omega
    rw [← h.2.1 k h1 h2]
    simp [World.setCell, Array.getElem?_modify, this], by simpa [World.setCell] using h.2.2⟩
theorem Md.view {w2 w5 w : World} {V : Nat} {v : Value} {l : List Ed} (h : Md w2 w5 V w) (ho : sw.Own w5 (V + 1) v l) : sw.View w v l := by
  obtain ⟨p, c, rfl, hc, hin⟩ := ho.view
  refine ⟨p, c, rfl, hc, ?_⟩
  rcases hin with h0 | ⟨x, rfl, hx⟩
  · exact Or.inl h0
  · rcases ho.shape with ⟨e, _⟩ | ⟨g, cap, e, hbg, hgl, _, _, _, _⟩
    · cases e
    simp only [Value.slice.injEq, Option.some.injEq] at e
    obtain ⟨rfl, _, _⟩ := e
    refine Or.inr ⟨_, rfl, fun j u hu => ?_⟩
    have := hx j u hu
    rw [Addr.add_lit] at this ⊢
    unfold World.cell? at this ⊢
    rw [h.2.1 g (by omega) hgl]
    exact this
end Go.Proofs.YtoiiphkcpdphbaaDoor.df
