/- sort.Slice as the document's DiffBoth calls it: changes, from the last one on. -/
import Derived.Test.YtoiiphkcpdphbaaDoorDfY
import Derived.Test.YtoiiphkcpdphbaaDoorSwRow
import Derived.Test.YtoiiphkcpdphbaaDoorLayG
import Derived.Shelf.SlSortFuncK.WholeK
import Derived.Shelf.GgSortFunc.Tiny
namespace Go.Proofs.YtoiiphkcpdphbaaDoor.df
set_option linter.unusedVariables false
open Go.ChangeShapes Go.WideShapes Go.ChangeAt Go.RowKit
open Go.Sort Go.Shelf Go.Lib
open mem
noncomputable def siT : TypeInfo := (Tryd.prog.info? 71).get (by kernel_rfl)
noncomputable def siE : TypeInfo := (Tryd.prog.info? 74).get (by kernel_rfl)
theorem siK (n : Nat) (h2 : 2 ≤ n) : Lib.swapperK n siE 25 = 9 := by
  have a : siE.hasPointers = true := by kernel_rfl
  have b : siE.bytes = 32 := by kernel_rfl
  have c : (n == 0) = false := by simp; omega
  have d : (n == 1) = false := by simp; omega
  simp [Lib.swapperK, a, b, c, d]
def encE (x : Ed) : List Value := [.int .i64 x.w, .int .i64 x.n, .string (tx x.t)]
/-- One begins behind the other one. -/
def ltW (p q : Ed) : Bool := decide (q.w < p.w)
theorem swoW : SWO ltW where
  irrefl x := by simp [ltW]
  trans x y z h1 h2 := by simp [ltW] at *; omega
  ntrans x y z h1 h2 := by simp [ltW] at *; omega
theorem flat_row (l : List Ed) : (flatK encE 3 l.toArray).toList = sw.rowE l := by
  apply List.ext_getElem?
  intro t
  by_cases ht : t < l.length * 3
  · have hk : t / 3 < l.length := by omega
    have hsz : t < (flatK encE 3 l.toArray).size := by rw [size_flatK]; simpa using ht
    obtain ⟨h0, h1, h2⟩ := sw.rowE_get l (t / 3) hk
    have hg := get_flatK encE 3 l.toArray t (by simpa using ht)
    rw [Array.getElem?_toList, Array.getElem?_eq_getElem hsz]
    rw [getElem!_pos _ t hsz] at hg
    rw [hg]
    have hx : (l.toArray)[t / 3]! = l[t / 3] := by
      rw [getElem!_pos _ _ (by simpa using hk)]
      simp
    rw [hx]
    rcases (show t % 3 = 0 ∨ t % 3 = 1 ∨ t % 3 = 2 by omega) with h | h | h
    · rw [show t / 3 * 3 = t by omega] at h0
      rw [h0, h]; rfl
    · rw [show t / 3 * 3 + 1 = t by omega] at h1
      rw [h1, h]; rfl
    · rw [show t / 3 * 3 + 2 = t by omega] at h2
      rw [h2, h]; rfl
  · rw [Array.getElem?_toList, Array.getElem?_eq_none (by rw [size_flatK]; simp; omega), List.getElem?_eq_none (by rw [sw.rowE_len]; omega)]
theorem holds_row {w : World} {g : Nat} {cur : Array Value} {e : TypeId} {l : List Ed} (hb : w.heap[g]? = some (.cells cur e (0, 0))) (ht : cur.toList.take (l.length * 3) = sw.rowE l) : HoldsK encE 3 w g 0 l.toArray := by
  intro j hj
  have hj' : j < l.length * 3 := by rw [size_flatK] at hj; simpa using hj
  refine ⟨?_, by simp [World.frozen?, hb]⟩
  have h1 : (cur.toList.take (l.length * 3))[j]? = (sw.rowE l)[j]? := by rw [ht]
  rw [List.getElem?_take_of_lt hj', ← flat_row, Array.getElem?_toList, Array.getElem?_toList, Array.getElem?_eq_getElem hj] at h1
  simp only [World.cell?, hb, Nat.zero_add]
  simp only [Option.isSome_none, Bool.false_eq_true, if_false]
  rw [h1, getElem!_pos _ j hj]
  rfl
theorem heap_sorted {w : World} {g n : Nat} {os : Array Obj} {cur : Array Value} {e : TypeId} {fr : Nat × Nat} (d : Array Ed) (hb : w.heap[g]? = some (.cells cur e fr)) :
    (sortWorldK encE 3 w g 0 n d os).heap[g]? = some (.cells (putCells id 0 (flatK encE 3 d) cur) e fr) := by
  have hg : g < w.heap.size := (Array.getElem?_eq_some_iff.1 hb).1
  unfold sortWorldK putRowK
  rw [heap_grow_old _ _ (by simpa using hg)]
  simp [putRow, mapBlock, Sort.ahead, Array.getElem?_modify, hb, onCells]
theorem grown_sorted {w : World} {g n : Nat} {os : Array Obj} (d : Array Ed) : w.grownBy (sortWorldK encE 3 w g 0 n d os) (some g) := by
  unfold sortWorldK putRowK
  refine ⟨rfl, rfl, rfl, by simp, fun k hk hne => ?_⟩
  rw [heap_grow_old _ _ (by simpa using hk)]
  have : g ≠ k := fun e => hne (by rw [e])
  simp [putRow, mapBlock, Sort.ahead, Array.getElem?_modify, this]
theorem take_put (cur F : Array Value) (h : F.size ≤ cur.size) : (putCells id 0 F cur).toList.take F.size = F.toList := by
  apply List.ext_getElem?
  intro j
  by_cases hj : j < F.size
  · rw [List.getElem?_take_of_lt hj, Array.getElem?_toList]
    simp [putCells, hj, show j < cur.size by omega]
  · rw [List.getElem?_take_eq_none (by omega), List.getElem?_eq_none (by simp; omega)]
set_option maxHeartbeats 1000000 in
set_option maxRecDepth 10000 in
/-- The closure of DiffBoth. -/
theorem less_at (g c V size : Nat) (W : World) (G : Nat → Int) (hs : W.cell? ⟨V, 0, none⟩ = some (.slice (some ⟨g, 0, none⟩) size c))
    (hc : ∀ t, t < size → W.cell? ⟨g, t * 3, none⟩ = some (.int .i64 (G t))) (i j : Nat) (hi : i < size) (hj : j < size) (hsz : size ≤ 100000) :
    Calls Tryd.prog 29 #[.int .i64 i, .int .i64 j, .pointer (some ⟨V, 0, none⟩)] W fun e w' => e = .returned (.bool (decide (G j < G i))) ∧ ∃ q, w' = W.drewN q := by
  have ci := hc i hi
  have cj := hc j hj
  go_enter Tryd.func29, Tryd.ntmps29
  go_wp2
  go_quiet (fail)
  go_wp2
  go_ret
  exact ⟨rfl, nq, rfl⟩
/-- sort.Slice of a row of changes. -/
theorem slice_at (base g cap V : Nat) (l : List Ed) (w : World) (hl : l.length ≤ 100000) (hown : sw.Own w base (.slice (some ⟨g, 0, none⟩) l.length cap) l) (hV : w.cell? ⟨V, 0, none⟩ = some (.slice (some ⟨g, 0, none⟩) l.length cap)) (hVl : V < w.heap.size) (hVg : V ≠ g) :
    Calls Tryd.prog 28 #[.iface 71 (.slice (some ⟨g, 0, none⟩) l.length cap), .func (.func 29) #[] #[.pointer (some ⟨V, 0, none⟩)]] w fun e w' =>
      e = .returned (.tuple #[]) ∧ ∃ d : List Ed, d.Perm l ∧ d.Pairwise (fun p q => ¬ p.w < q.w) ∧ sw.Own w' base (.slice (some ⟨g, 0, none⟩) l.length cap) d ∧ w.grownBy w' (some g) := by
  rcases Nat.lt_or_ge l.length 2 with h2 | h2
  · have hK : Lib.swapperK l.length siE 25 = l.length + 1 := by
      rcases Nat.eq_zero_or_pos l.length with h | h
      · rw [h]; simp [Lib.swapperK]
      · rw [show l.length = 1 by omega]; simp [Lib.swapperK]
    have hS := Any.sort_Slice_tiny layG.laid 71 74 siT siE (by kernel_rfl) (by kernel_rfl) (by kernel_rfl) (by kernel_rfl) 25 (fun _ => by kernel_rfl) (some ⟨g, 0, none⟩) l.length cap (by omega) (42 + l.length) (by
      rw [hK]
      rcases Nat.eq_zero_or_pos l.length with h | h
      · rw [h]; kernel_rfl
      · rw [show l.length = 1 by omega]; kernel_rfl) (.func 29) #[] #[.pointer (some ⟨V, 0, none⟩)] w
    refine hS.mono ?_
    rintro e w' ⟨rfl, os, rfl⟩
    have hgr : w.grownBy (grow w os) none := ⟨rfl, rfl, rfl, by simp, fun k hk hne => heap_grow_old _ _ hk⟩
    refine ⟨rfl, l, List.Perm.refl _, ?_, ?_, ⟨rfl, rfl, rfl, by simp, fun k hk hne => heap_grow_old _ _ hk⟩⟩
    · rw [List.pairwise_iff_getElem]
      intro i j hi hj hij
      omega
    · exact hown.kept hgr (fun k _ e => by cases e)
  · rcases hown.2 with ⟨h, _⟩ | ⟨g', cap', cur, h, hbg, hg, hnc, hcm, hcs, htake⟩
    · cases h
    simp only [Value.slice.injEq, Option.some.injEq, Addr.mk.injEq] at h
    obtain ⟨⟨rfl, _, _⟩, _, rfl⟩ := h
    have hgl : g < w.heap.size := lt_of_heap hg
    have hH := holds_row hg htake
    have es : l.toArray.size = l.length := by simp
    have hless : LessReadsK Tryd.prog 29 #[.pointer (some ⟨V, 0, none⟩)] encE 3 ltW g 0 l.toArray.size w := by
      intro m os dk hs i j hi hj
      rw [es] at hs hi hj
      have e : sortWorldK encE 3 w g 0 m dk os = putRowK encE 3 (grow (Sort.ahead w m) os) g 0 dk := by
        unfold sortWorldK; rw [putRowK_grow _ _ (Sort.ahead w m) _ g 0 _ hgl]
      have hHg : HoldsK encE 3 (grow (Sort.ahead w m) os) g 0 l.toArray := holdsK_grow _ _ _ _ g 0 l.toArray hgl (holdsK_ahead _ _ _ _ _ _ _ hH)
      refine less_at g cap V l.length _ (fun t => dk[t]!.w) ?_ (fun t ht => ?_) i j hi hj hl
      · rw [e, cell?_putRowK_other _ _ _ g 0 dk _ (by exact hVg), cell?_grow _ _ _ (by exact hVl)]; exact hV
      · rw [e]
        have := ((holdsK_putRowK _ _ _ g 0 l.toArray dk hHg (by rw [hs, es])).cell (i := t) (c := 0) (by omega) (by omega)).1
        simpa [encE] using this
    have hS := Any.sort_Slice_cells_sorted layG.laid 71 74 siT siE (by kernel_rfl) (by kernel_rfl) (by kernel_rfl) (by kernel_rfl) 25 (fun _ => by kernel_rfl) encE 3 (fun _ => rfl) (by kernel_rfl) (fun _ => by kernel_rfl)
      (fun x v hv => by simp [encE] at hv; rcases hv with rfl | rfl | rfl <;> rfl) ltW swoW 29 _
      (enters_of Tryd.func29 (by kernel_rfl) rfl) g 0 cap l.toArray (by rw [es]; exact h2) (by rw [es]; omega) 50 (by rw [siK _ (by rw [es]; exact h2)]; kernel_rfl) false
      (fun args W => run_callFunc_extern Tryd.func50 (by kernel_rfl) (by kernel_rfl) (by kernel_rfl) (e := Extern.ReflectliteSwapper.swap false) (by kernel_rfl) args W) w hless hH hgl
    rw [es] at hS
    refine hS.mono ?_
    rintro e w' ⟨rfl, d', n, os, hperm, hsort, hw'⟩
    have hw2 : w' = sortWorldK encE 3 w g 0 n d' os := hw'
    subst hw2
    obtain ⟨hs, _, hp⟩ := hperm
    have hs' : d'.size = l.length := by rw [hs, es]
    have hd : d'.toList.toArray = d' := by simp
    have hlen : d'.toList.length = l.length := by simpa using hs'
    have hv1 : Value.slice (some ⟨g, 0, none⟩) l.length cap = .slice (some ⟨g, 0, none⟩) d'.toList.length cap := by rw [hlen]
    refine ⟨rfl, d'.toList, ?_, ?_, ⟨by rw [sw.rowE_len], Or.inr ⟨g, cap, _, hv1, hbg, heap_sorted d' hg, by rw [hlen]; exact hnc, hcm, by simp [putCells, hcs], ?_⟩⟩, grown_sorted d'⟩
    · rw [← es] at hp
      rw [Array.extract_size, ← hs, Array.extract_size] at hp
      exact hp
    · rw [List.pairwise_iff_getElem]
      intro i j hi hj hij
      have := hsort i j (Nat.zero_le _) hij (by rw [Array.length_toList] at hj; omega)
      rw [Array.length_toList] at hi hj
      rw [getElem!_pos d' i hi, getElem!_pos d' j hj] at this
      simpa [ltW] using this
    · have hf : (flatK encE 3 d').size = d'.toList.length * 3 := by rw [size_flatK, Array.length_toList]
      rw [← hf, take_put cur _ (by rw [hf, hcs, Array.length_toList, hs']; omega), ← hd, flat_row]
end Go.Proofs.YtoiiphkcpdphbaaDoor.df
