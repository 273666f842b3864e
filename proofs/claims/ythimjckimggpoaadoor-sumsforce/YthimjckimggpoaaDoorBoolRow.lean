/- A row of bools that grows: what append makes of it, and what lies in it then. -/
import Derived.Test.YthimjckimggpoaaDoorRows
import Derived.Test.YthimjckimggpoaaDoorMem
import Derived.Laws.AppendOwn
import Derived.Laws.IdiomCopy
import Derived.Lib.AppendZeros
import Derived.Deep.RegionHeld3
namespace Go.Proofs.YthimjckimggpoaaDoor.sums
open Go.ChangeShapes Go.WideShapes Go.ChangeAt Go.RowKit
open mem

/-- An append whose run is known, as a step of a region that draws. -/
theorem step_append_run {P : Program} {ops : Array Oper} {o : Oper} {a : Act} {w : World} {K : Act → World → Prop} {Q : Exit → Act → World → Prop} {E : Prop}
    (hg : o.guard = none) (s x : Operand) (t tx : TypeId) (hop : o.op = Op.call { callee := Callee.builtin Builtin.append, args := #[s, x], argTypes := #[t, tx] })
    (vs vx : Value) (hs : a.eval s = vs) (hx : a.eval x = vx) (v' : Value) (w' : World) (hr : (Builtin.append_ #[t, tx] o.type #[vs, vx]).run P w = .ok v' w') (hK : K (a.put o.dst v') w') :
    if Region.wanted o (yielded ops a.tmps) = true then Oper.wp P o a w K Q else E := by
  have hw : Region.wanted o (yielded ops a.tmps) = true := by simp [Region.wanted, hg]
  rw [if_pos hw]
  exact Lib.wp_append_run w s x t tx hop vs vx hs hx v' w' hr hK
/-- So many bools, as cells. -/
def rowL (g : Nat → Bool) (n : Nat) : List Value := (List.range n).map fun k => .bool (g k)
theorem rowL_len (g : Nat → Bool) (n : Nat) : (rowL g n).length = n := by simp [rowL]
theorem rowL_succ (g : Nat → Bool) (n : Nat) : rowL g (n + 1) = rowL g n ++ [.bool (g n)] := by simp [rowL, List.range_succ]
theorem rowL_get (g : Nat → Bool) (n k : Nat) (h : k < n) : (rowL g n)[k]? = some (.bool (g k)) := by simp [rowL, h]
theorem infoB : (Tryd.prog.info? 4).map (fun i => (i.zero, i.size, i.bytes)) = some (some (.bool false), 1, 1) := by kernel_rfl
theorem infoB' : ∃ i, Tryd.prog.info? 4 = some i ∧ i.zero = some (.bool false) ∧ i.size = 1 ∧ i.bytes = 1 := by
  obtain ⟨i, h1, h2⟩ := Option.map_eq_some_iff.1 infoB
  simp only [Prod.mk.injEq] at h2
  exact ⟨i, h1, h2.1, h2.2.1, h2.2.2⟩
/-- A row of the call's own that holds so many bools. -/
abbrev Own (w : World) (base : Nat) (v : Value) (g : Nat → Bool) (n : Nat) : Prop := w.ownsRow base 4 1 v n (rowL g n)
theorem app_one (w : World) (base : Nat) (v : Value) (g : Nat → Bool) (n X : Nat) (hown : Own w base v g n) (hX : w.cell? ⟨X, 0, none⟩ = some (.bool (g n))) (hn : n ≤ 5000) (hb : base ≤ w.heap.size) :
    ∃ v' w', (Builtin.append_ #[40, 40] 40 #[v, .slice (some ⟨X, 0, none⟩) 1 1]).run Tryd.prog w = .ok v' w' ∧ Own w' base v' g (n + 1) ∧ w.grownBy w' v.ownBlock := by
  obtain ⟨i, hi, hz, h1, h2⟩ := infoB'
  obtain ⟨v', w', hr, ho, hg, _⟩ := run_append_own (P := Tryd.prog) w base 40 40 4 i (.bool false) 1 1 Tryd.underlying40 hi hz h1 h2 rfl (by decide) v n (rowL g n) hown
    ⟨X, 0, none⟩ 1 1 [.bool (g n)] rfl (fun j u hu => by
      cases j with
      | zero => simp at hu; subst hu; simpa [Addr.add] using hX
      | succ j => simp at hu) (fun u hu => by simp at hu; subst hu; rfl) (by simp [maxLen]; omega) (by omega) hb
  exact ⟨v', w', hr, by rw [Own, rowL_succ]; exact ho, hg⟩
theorem bl_grown {w0 w w' : World} {row : Option Nat} (h : Bl w0 w) (hg : w.grownBy w' row) (hrow : ∀ k, row = some k → w0.heap.size ≤ k) : Bl w0 w' := by
  refine ⟨hg.os.trans h.os, hg.tape.trans h.tape, hg.output.trans h.output, Nat.le_trans h.size hg.size, fun k hk => ?_⟩
  rw [hg.block k (Nat.lt_of_lt_of_le hk h.size) (fun e => by have := hrow k e.symm; omega)]
  exact h.block k hk
/-- Bools that lie in a block, from its beginning on, and may be written. -/
def Bq (w : World) (B : Nat) (g : Nat → Bool) (n : Nat) : Prop := ∀ k, k < n → w.cell? ⟨B, k, none⟩ = some (.bool (g k)) ∧ w.frozen? ⟨B, k, none⟩ = false
theorem Bq.drew {w : World} {B : Nat} {g : Nat → Bool} {n : Nat} (h : Bq w B g n) : Bq w.drew B g n := h
theorem Bq.congr {w : World} {B : Nat} {g g' : Nat → Bool} {n : Nat} (h : Bq w B g n) (e : ∀ k, k < n → g k = g' k) : Bq w B g' n := fun k hk => by rw [← e k hk]; exact h k hk
theorem Bq.set {w : World} {B : Nat} {g g' : Nat → Bool} {n : Nat} (h : Bq w B g n) (j : Nat) (b : Bool) (hj : j < n) (e : g' j = b) (e' : ∀ k, k < n → k ≠ j → g' k = g k) : Bq (w.setCell ⟨B, j, none⟩ (.bool b)) B g' n := by
  intro k hk
  refine ⟨?_, by rw [World.frozen?_setCell]; exact (h k hk).2⟩
  by_cases ek : k = j
  · subst ek
    rw [World.cell?_setCell_same' _ _ _ (by rw [(h k hk).1]; rfl), e]
  · rw [World.cell?_setCell_other w _ _ _ (by intro hh; exact ek (by simpa using (congrArg Addr.off hh).symm)), e' k hk ek]
    exact (h k hk).1
theorem Bq.made (w : World) (arr : Array Value) (g : Nat → Bool) (n : Nat) (h : ∀ k, k < n → arr[k]? = some (.bool (g k))) : Bq (w.alloc (.cells arr 4)) w.heap.size g n := by
  intro k hk
  refine ⟨?_, ?_⟩
  · unfold World.cell?
    rw [heap_alloc_new]
    exact h k hk
  · unfold World.frozen?
    rw [heap_alloc_new]
    simp
theorem zeros_list (n : Nat) : (Builtin.zeroCells (Value.bool false).cells n).toList = List.replicate n (.bool false) := by
  simp [Builtin.zeroCells, Value.cells, Nat.mod_one, List.map_const']
theorem setCells_grown (B : Nat) : ∀ (vs : List Value) (o : Nat) (w : World), w.grownBy (w.setCells B o vs) (some B)
  | [], _, _ => ⟨rfl, rfl, rfl, Nat.le_refl _, fun _ _ _ => rfl⟩
  | v :: r, o, w => by
    have h := setCells_grown B r (o + 1) (w.setCell ⟨B, o, none⟩ v)
    refine ⟨h.os, h.tape, h.output, ?_, fun k hk hne => ?_⟩
    · have := h.size; simpa [World.setCell, World.setCells] using this
    · have := h.block k (by simpa [World.setCell] using hk) hne
      rw [World.setCells, this]
      have hne' : ¬ B = k := fun e => hne (by rw [e])
      simp [World.setCell, Array.getElem?_modify, hne']
theorem app_zeros (w : World) (base : Nat) (v : Value) (g : Nat → Bool) (n Z : Nat) (hown : Own w base v g n) (hn : n ≤ 5000) (hZ : 0 < Z) (hZ' : Z ≤ 32) (hb : base ≤ w.heap.size) :
    ∃ B cap w', (Builtin.append_ #[40, 3] 40 #[v, .int .i64 (Z : Int)]).run Tryd.prog w = .ok (.slice (some ⟨B, 0, none⟩) (n + Z) cap) w' ∧ base ≤ B ∧ B < w'.heap.size ∧ n + Z ≤ cap ∧ Bq w' B (fun k => decide (k < n) && g k) (n + Z) ∧ w.grownBy w' v.ownBlock := by
  obtain ⟨i, hi, hz, h1, h2⟩ := infoB'
  have hw : IntKind.i64.wrap (Z : Int) = Z := by rw [IntKind.wrap_i64]; omega
  rcases hown.2 with ⟨rfl, rfl⟩ | ⟨B, cap, cur, rfl, hbg, hg, hnc, hcm, hcs, htake⟩
  · have hr := Lib.run_append_nil_zeros (P := Tryd.prog) w 40 3 40 4 i (.bool false) .i64 .i64 Tryd.underlying40 Tryd.underlying3 hi hz Z hZ (by omega) (by omega) (by rw [h2]; omega)
    rw [Nat.zero_add]
    refine ⟨w.heap.size, _, _, hr, hb, by simp, grownCap_ge _ _ _ _, Bq.made w.drew _ _ _ (fun k hk => ?_), ⟨rfl, rfl, rfl, by simp, fun k hk _ => Below.heap_alloc w.drew _ k hk⟩⟩
    rw [← Array.getElem?_toList, Array.toList_append, zeros_list, zeros_list]
    simp [List.getElem?_replicate]
    omega
  · have hxs : ∀ k, k < n → cur[k]? = some (.bool (g k)) := fun k hk => by
      have := rowL_get g n k hk
      rw [← htake, Nat.mul_one, List.getElem?_take, if_pos hk] at this
      simpa using this
    by_cases hroom : n + Z ≤ cap
    · have hcc : ∀ j, j < Z → (w.cell? ⟨B, n + j, none⟩).isSome = true := fun j hj => by
        have : n + j < cur.size := by rw [hcs]; omega
        simp [World.cell?, hg, this]
      have hff : ∀ j, w.frozen? ⟨B, j, none⟩ = false := fun j => by simp [World.frozen?, hg]
      have hst := run_storeCells_cells (P := Tryd.prog) B n (List.replicate Z (.bool false)) 0 w (by simpa using hcc) (fun j _ => hff _) (fun u hu => by rw [List.eq_of_mem_replicate hu]; rfl)
      have hneg : ¬ ((Z : Int) < 0) := by omega
      have h48 : ¬ (281474976710656 < (Z : Int)) := by omega
      have hZ0 : Z ≠ 0 := by omega
      refine ⟨B, cap, w.setCells B n (List.replicate Z (.bool false)), ?_, hbg, ?_, hroom, ?_, ?_⟩
      · simp [Builtin.append_, run_underlying Tryd.underlying40, run_underlying Tryd.underlying3, sizeOf, typeInfo, zeroValue, hi, hz, h1, h2, asInt, asIntOf, hw, hneg, h48, hZ0, hroom, Addr.add_lit, zeros_list]
        rw [hst]
        rfl
      · have h3 := (setCells_grown B (List.replicate Z (.bool false)) n w).size
        have : B < w.heap.size := by
          rcases Nat.lt_or_ge B w.heap.size with h | h
          · exact h
          · rw [Array.getElem?_eq_none h] at hg; cases hg
        omega
      · intro k hk
        refine ⟨?_, by rw [World.frozen?_setCells]; exact hff k⟩
        by_cases hkn : k < n
        · rw [World.cell?_setCells_out _ _ _ _ _ (fun _ _ => Or.inl hkn)]
          simp [World.cell?, hg, hxs k hkn, hkn]
        · obtain ⟨j, rfl⟩ : ∃ j, k = n + j := ⟨k - n, by omega⟩
          rw [World.cell?_setCells_in _ _ _ _ (by simpa using hcc) j (by simp; omega)]
          simp
          omega
      · exact setCells_grown B _ n w
    · have holds : ∀ j u, (rowL g n)[j]? = some u → w.drew.cell? ((⟨B, 0, none⟩ : Addr).add j) = some u := fun j u hu => by
        have hj : j < n := by
          rcases Nat.lt_or_ge j n with h | h
          · exact h
          · rw [List.getElem?_eq_none (by rw [rowL_len]; exact h)] at hu; cases hu
        rw [rowL_get g n j hj] at hu
        have hg' : w.drew.heap[B]? = some (.cells cur 4 (0, 0)) := hg
        simp only [Addr.add_lit, World.cell?, Nat.zero_add]
        rw [hg']
        show cur[j]? = some u
        rw [hxs j hj]
        exact hu
      have hold := run_firstCells_some (P := Tryd.prog) w.drew 1 n ⟨B, 0, none⟩ n cap (rowL g n) (by rw [rowL_len, Nat.mul_one]) holds
      have hneg : ¬ ((Z : Int) < 0) := by omega
      have h48 : ¬ (281474976710656 < (Z : Int)) := by omega
      have hZ0 : Z ≠ 0 := by omega
      have h63' : ¬ (9223372036854775807 < ((n : Int) + (Z : Int))) := by omega
      have h48' : ¬ (281474976710656 < Builtin.nextslicecap (n + Z) cap) := by have := growslice_fits (need := n + Z) (old := cap) (bytes := 1) (by omega) (by omega); omega
      refine ⟨w.heap.size, grownCap w (n + Z) cap 4, w.drew.alloc (.cells ((rowL g n).toArray ++ Builtin.zeroCells (Value.bool false).cells Z ++ Builtin.zeroCells (Value.bool false).cells (grownCap w (n + Z) cap 4 - (n + Z))) 4), ?_, hb, by simp, grownCap_ge _ _ _ _, ?_, ⟨rfl, rfl, rfl, by simp, fun k hk _ => Below.heap_alloc w.drew _ k hk⟩⟩
      · simp [Builtin.append_, run_underlying Tryd.underlying40, run_underlying Tryd.underlying3, sizeOf, typeInfo, zeroValue, hi, hz, h1, h2, asInt, asIntOf, hw, hneg, h48, hZ0, hroom, h63', h48', Question.forced, hold, newRow, grownCap]
      · exact Bq.made w.drew _ _ _ (fun k hk => by
          rw [← Array.getElem?_toList, Array.toList_append, Array.toList_append, zeros_list, zeros_list]
          by_cases hkn : k < n
          · rw [List.append_assoc, List.getElem?_append_left (by rw [List.toList_toArray, rowL_len]; exact hkn), List.toList_toArray, rowL_get g n k hkn]
            simp [hkn]
          · rw [List.append_assoc, List.getElem?_append_right (by rw [List.toList_toArray, rowL_len]; omega), List.toList_toArray, rowL_len, List.replicate_append_replicate, List.getElem?_replicate, if_pos (by omega)]
            simp [hkn])
end Go.Proofs.YthimjckimggpoaaDoor.sums
