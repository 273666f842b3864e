/- What slices.SortFunc makes of a row of ends, by their keys. -/
import Derived.Test.YtnhdaolieifhnaaGreatDoorSx4
import Derived.Test.YtnhdaolieifhnaaGreatDoorLayS
import Derived.Shelf.SlSortCmp.NoneTotal
namespace Go.Proofs.YtnhdaolieifhnaaGreatDoor.sx
set_option linter.unusedVariables false
open Go.ChangeShapes Go.WideShapes Go.ChangeAt Go.RowKit
open mem rows fd
open Go.Sort

theorem cf2_lt (x y : Int × Int) : cf2 x y < 0 ↔ klt x y := by
  unfold cf2 orI cfi klt
  by_cases h1 : x.1 < y.1
  · simp [h1]
  · by_cases h2 : y.1 < x.1
    · simp [h1, h2]; omega
    · by_cases h3 : x.2 < y.2
      · simp [h1, h2, h3]; omega
      · by_cases h4 : y.2 < x.2 <;> simp [h1, h2, h3, h4]
/-- A number below N as a cell. -/
def encF {N : Nat} (x : Fin N) : Value := .int .i64 ((x.1 : Nat) : Int)
def cfF {N : Nat} (r : Nat → Int) (n : Nat) (x y : Fin N) : Int := cf2 (kk r N n x.1) (kk r N n y.1)
theorem lt_is {N : Nat} (r : Nat → Int) (n : Nat) (x y : Fin N) : ltOf (cfF r n) x y = true ↔ klt (kk r N n x.1) (kk r N n y.1) := by
  unfold ltOf cfF
  rw [← cf2_lt]
  simp
theorem lt_no {N : Nat} (r : Nat → Int) (n : Nat) (x y : Fin N) : ltOf (cfF r n) x y = false ↔ ¬ klt (kk r N n x.1) (kk r N n y.1) := by rw [← lt_is]; simp
theorem swo {N : Nat} (r : Nat → Int) (n : Nat) : SWO (ltOf (cfF (N := N) r n)) where
  irrefl x := by rw [lt_no]; unfold klt; omega
  trans x y z h1 h2 := by rw [lt_is] at *; unfold klt at *; omega
  ntrans x y z h1 h2 := by rw [lt_no] at *; unfold klt at *; omega
theorem heap_sorted {α : Type} [Inhabited α] {enc : α → Value} {w : World} {g n : Nat} {os : Array Obj} {cur : Array Value} {e : TypeId} {fr : Nat × Nat} (d : Array α) (hb : w.heap[g]? = some (.cells cur e fr)) :
    (sortWorld enc w g 0 n d os).heap[g]? = some (.cells (putCells enc 0 d cur) e fr) := by
  have hg : g < w.heap.size := (Array.getElem?_eq_some_iff.1 hb).1
  unfold sortWorld
  rw [heap_grow_old _ _ (by simpa using hg)]
  simp [putRow, mapBlock, Sort.ahead, Array.getElem?_modify, hb, onCells]
theorem grown_sorted {α : Type} [Inhabited α] {enc : α → Value} {w : World} {g n : Nat} {os : Array Obj} (d : Array α) : w.grownBy (sortWorld enc w g 0 n d os) (some g) := by
  unfold sortWorld
  refine ⟨rfl, rfl, rfl, by simp, fun k hk hne => ?_⟩
  rw [heap_grow_old _ _ (by simpa using hk)]
  have : g ≠ k := fun e => hne (by rw [e])
  simp [putRow, mapBlock, Sort.ahead, Array.getElem?_modify, this]
theorem rowK_grown {w w' : World} {A K : Nat} {l : List Int} (h : RowK w K l) (hg : w.grownBy w' (some A)) (hne : A ≠ K) : RowK w' K l := by
  have := h.lt
  unfold RowK at h ⊢
  rw [hg.block K this (fun e => hne (by injection e with e; exact e.symm))]
  exact h
theorem rowI_grown {w w' : World} {A K : Nat} {l : List Int} (h : RowI w K l) (hg : w.grownBy w' (some A)) (hne : A ≠ K) : RowI w' K l := by
  have := h.lt
  unfold RowI at h ⊢
  rw [hg.block K this (fun e => hne (by injection e with e; exact e.symm))]
  exact h
theorem cell_grown {w w' : World} {A : Nat} {a : Addr} {v : Value} (h : w.cell? a = some v) (hg : w.grownBy w' (some A)) (hne : A ≠ a.block) : w'.cell? a = some v := by
  have hlt : a.block < w.heap.size := by
    rcases Nat.lt_or_ge a.block w.heap.size with h1 | h1
    · exact h1
    · simp [World.cell?, Array.getElem?_eq_none h1] at h
  unfold World.cell? at h ⊢
  rw [hg.block a.block hlt (fun e => hne (by injection e with e; exact e.symm))]
  exact h
theorem fins (L : List Nat) (N : Nat) (h : ∀ x, x ∈ L → x < N) : ∃ F : List (Fin N), F.map Fin.val = L :=
  ⟨L.pmap (fun x hx => (⟨x, hx⟩ : Fin N)) h, by rw [List.map_pmap]; simp⟩
theorem sort_at (L : List Nat) (r : Nat → Int) (N n X K A c : Nat) (w : World) (hN : N ≤ 4000) (hpos : 0 < N) (hp : L.Perm (List.range N)) (hA : RowI w A (ints L)) (hX : w.cell? ⟨X, 0, none⟩ = some (.slice (some ⟨K, 0, none⟩) N N)) (hK : RowK w K (tab (kf r N n) (N * 2))) (hAX : A ≠ X) (hAK : A ≠ K) :
    Calls Tryz.prog 18 #[.slice (some ⟨A, 0, none⟩) N c, .func (.func 19) #[] #[.pointer (some ⟨X, 0, none⟩)]] w fun e w' =>
      e = .returned (.tuple #[]) ∧ w.grownBy w' (some A) ∧ ∃ L' : List Nat, L'.Perm (List.range N) ∧ L'.Pairwise (fun x y => ¬ klt (kk r N n y) (kk r N n x)) ∧ RowI w' A (ints L') := by
  haveI : Inhabited (Fin N) := ⟨⟨0, hpos⟩⟩
  have hlen : L.length = N := by have := hp.length_eq; rwa [List.length_range] at this
  obtain ⟨F, hF⟩ := fins L N fun x hx => List.mem_range.1 (hp.mem_iff.1 hx)
  have hFl : F.length = N := by have := congrArg List.length hF; rw [List.length_map] at this; omega
  have es : F.toArray.size = N := by simpa using hFl
  have hH : Holds encF w A 0 F.toArray := fun j hj => by
    have hj' : j < F.length := by simpa using hj
    have hjL : j < L.length := by omega
    rw [Nat.zero_add]
    refine ⟨?_, hA.frozen j⟩
    rw [hA.cell (by rw [ints_len]; exact hjL), ints_at, getElem!_pos _ j hj]
    have : L.getD j 0 = (F[j]'hj').1 := by
      have h1 : L[j]? = (F.map Fin.val)[j]? := by rw [hF]
      rw [List.getD_eq_getElem?_getD, h1]
      simp [hj']
    rw [this]
    rfl
  have eg : ∀ args w, (callFunc 19 args).run Tryz.prog w = .ok (.enter 19 args) w := enters_of Tryz.func19 (by kernel_rfl) rfl
  have hcmp : CmpLays1 Tryz.prog 19 #[.pointer (some ⟨X, 0, none⟩)] (encF (N := N)) (cfF r n) A 0 F.toArray.size w := fun m os dk hdk x y => by
    have hg := grown_sorted (enc := encF (N := N)) (w := w) (g := A) (n := m) (os := os) dk
    change Calls Tryz.prog _ #[.int .i64 ((x.1 : Nat) : Int), .int .i64 ((y.1 : Nat) : Int), .pointer (some ⟨X, 0, none⟩)] _ _
    refine (closure_at r N n X K x.1 y.1 _ hN (cell_grown hX hg hAX) (rowK_grown hK hg hAK) x.2 y.2).mono ?_
    rintro e w' ⟨rfl, q, rfl⟩
    exact ⟨rfl, q, #[], by rw [grow_empty]⟩
  have hc := Any.slices_SortFunc layS.laid (encF (N := N)) (fun _ => rfl) (cfF r n) (swo r n) 19 #[.pointer (some ⟨X, 0, none⟩)] A 0 c F.toArray w eg hcmp hH hA.lt (by rw [es]; omega)
  rw [es] at hc
  refine hc.mono ?_
  rintro e w' ⟨rfl, d', k, os, hperm, hsort, rfl⟩
  obtain ⟨hs, _, hpp⟩ := hperm
  have hs' : d'.size = N := by rw [hs, es]
  refine ⟨rfl, grown_sorted d', d'.toList.map Fin.val, ?_, ?_, ?_⟩
  · have h1 : d'.toList.Perm F := by
      rw [Array.extract_eq_self_of_le (by omega), Array.extract_eq_self_of_le (by omega)] at hpp
      simpa using hpp
    have h2 := h1.map Fin.val
    rw [hF] at h2
    exact h2.trans hp
  · rw [List.pairwise_map, List.pairwise_iff_getElem]
    intro i j hi hj hij
    rw [Array.length_toList] at hi hj
    have := hsort i j (Nat.zero_le _) hij (by omega)
    rw [lt_no, getElem!_pos d' i hi, getElem!_pos d' j hj] at this
    simpa using this
  · unfold RowI at hA ⊢
    rw [heap_sorted d' hA]
    congr 2
    apply Array.ext'
    apply List.ext_getElem?
    intro j
    by_cases hj : j < N
    · have hj2 : j < d'.size := by omega
      simp [putCells, rowI, ints, hj2, hlen, hj, encF]
    · simp [putCells, rowI, ints, hlen, hj, hs']
end Go.Proofs.YtnhdaolieifhnaaGreatDoor.sx
