/- Groups that lie in a row, sorted: like ones stay as they stood. -/
import Derived.Test.YtkldnapbeebdkaaDoorHf1
namespace Go.Proofs.YtkldnapbeebdkaaDoor.hf
set_option linter.unusedVariables false
open Go.ChangeShapes Go.WideShapes Go.ChangeAt Go.RowKit
open Go.Sort
open mem rows st
def leG (x y : Gv) : Bool := decide (x.1 ≤ y.1)
theorem leG_trans (a b c : Gv) : leG a b → leG b c → leG a c := by
  unfold leG
  simp only [decide_eq_true_eq]
  omega
theorem leG_total (a b : Gv) : leG a b || leG b a := by
  unfold leG
  simp only [Bool.or_eq_true, decide_eq_true_eq]
  omega
theorem T_le (x y : Gv × Nat) : T y x = false ↔ List.zipIdxLE leG x y = true := by
  rw [T_not]
  unfold List.zipIdxLE leG
  by_cases h1 : x.1.1 ≤ y.1.1
  · by_cases h2 : y.1.1 ≤ x.1.1
    · simp [h1, h2]; try omega
    · simp [h1, h2]; try omega
  · simp [h1]; try omega
theorem sorted_is (l : List Gv) (d' : Array (Gv × Nat)) (hp : PermIn 0 l.length l.zipIdx.toArray d') (hs : SortedIn T 0 l.length d') : d'.toList.map (·.1) = l.mergeSort leG := by
  have hz : d'.size = l.length := by rw [hp.1]; simp
  have hperm : d'.toList.Perm l.zipIdx := by
    have := hp.2.2
    rw [← hz, Array.extract_size] at this
    rw [hz] at this
    have e : l.zipIdx.toArray.extract 0 l.length = l.zipIdx.toArray := by
      have : l.zipIdx.toArray.size = l.length := by simp
      rw [← this, Array.extract_size]
    rw [e] at this
    simpa using this
  have e : d'.toList = l.zipIdx.mergeSort (List.zipIdxLE leG) := by
    refine List.Perm.eq_of_pairwise (le := fun x y => List.zipIdxLE leG x y = true) (fun a b ha hb h1 h2 => ?_) ?_ (List.pairwise_mergeSort (List.zipIdxLE_trans leG_trans) (List.zipIdxLE_total leG_total) _) (hperm.trans (List.mergeSort_perm _ _).symm)
    · have ha' := hperm.mem_iff.1 ha
      have hb' := (List.mergeSort_perm _ _).mem_iff.1 hb
      have h3 := (T_le a b).2 h1
      have h4 := (T_le b a).2 h2
      rw [T_not] at h3 h4
      have e2 : a.2 = b.2 := by omega
      have ha3 := List.mem_zipIdx_iff_getElem?.1 ha'
      have hb3 := List.mem_zipIdx_iff_getElem?.1 hb'
      rw [e2, hb3] at ha3
      injection ha3 with ha3
      exact Prod.ext ha3.symm e2
    · rw [List.pairwise_iff_getElem]
      intro i j hi hj hij
      rw [Array.length_toList] at hi hj
      have := hs i j (Nat.zero_le _) hij (by omega)
      rw [getElem!_pos d' i hi, getElem!_pos d' j hj] at this
      exact (T_le _ _).1 (by simpa using this)
  rw [e]
  exact List.mergeSort_zipIdx
theorem zip_get (l : List Gv) (k : Nat) (h : k < l.length) : (l.zipIdx.toArray)[k]! = (l[k], k) := by
  rw [getElem!_pos _ _ (by simpa using h)]
  simp
/-- What the sort makes of a row of groups. -/
theorem sort_at (v : Value) (l : List Gv) (w : World) (base : Nat) (hown : Gr w base v l) (h0 : 0 < l.length) (hl : l.length ≤ 5000) :
    Calls Tryd.prog 20 #[v, fnv] w fun e w' => e = .returned (.tuple #[]) ∧ Gr w' base v (l.mergeSort leG) ∧ w.grownBy w' (bk v) := by
  rcases hown with ⟨_, rfl⟩ | ⟨g, off, cap, cur, rfl, h3, h4, h5, h6, h7⟩
  · exact absurd h0 (Nat.lt_irrefl _)
  have hsz : l.zipIdx.toArray.size = l.length := by simp
  have R : R2 w g off l.zipIdx.toArray := by
    refine ⟨enc_len, enc_one, fun j hj => ?_, lt_of_heap h4⟩
    have hj2 : j < l.length * 2 := by rw [size_flatK, hsz] at hj; exact hj
    rw [get_flatK enc 2 _ j (by rw [hsz]; exact hj2), zip_get l (j / 2) (by omega)]
    refine ⟨?_, by simp [World.frozen?, h4]⟩
    rw [cell_of h4]
    obtain ⟨a, b⟩ := rowG_get l (j / 2) (by omega)
    rcases Nat.mod_two_eq_zero_or_one j with h | h
    · rw [show j / 2 * 2 = j by omega] at a
      rw [h7 j _ a, h]
      rfl
    · rw [show j / 2 * 2 + 1 = j by omega] at b
      rw [h7 j _ b, h]
      rfl
  have c := sort_raw g off cap l.zipIdx.toArray w R (by rw [hsz]; omega) (fun x hx => by rw [hsz] at hx; rw [zip_get l x hx])
  rw [hsz] at c
  refine c.mono ?_
  rintro e w' ⟨rfl, d', hp, hs, n, os, rfl⟩
  have hz : d'.size = l.length := by rw [hp.1]; simp
  have hmap := sorted_is l d' hp hs
  have hlen : (l.mergeSort leG).length = l.length := by rw [List.length_mergeSort]
  refine ⟨rfl, Or.inr ⟨g, off, cap, putCells id off (flatK enc 2 d') cur, by rw [hlen], h3, ?_, by rw [hlen]; exact h5, by simpa [putCells] using h6, fun j u hu => ?_⟩, ?_⟩
  · unfold sortWorldK putRowK
    rw [heap_grow_old _ _ (by simpa using lt_of_heap h4)]
    simp [putRow, mapBlock, Sort.ahead, Array.getElem?_modify, h4, onCells]
  · have hj : j < l.length * 2 := by
      have := (List.getElem?_eq_some_iff.1 hu).1
      rw [rowG_len, hlen] at this
      exact this
    have hjs : off + j < cur.size := by omega
    have hk : j / 2 < l.length := by omega
    have hd : (l.mergeSort leG)[j / 2]'(by rw [hlen]; exact hk) = (d'[j / 2]!).1 := by
      rw [getElem!_pos d' _ (by omega)]
      simp only [← hmap]
      simp
    have e1 : (putCells id off (flatK enc 2 d') cur)[off + j]? = some ((enc d'[j / 2]!)[j % 2]!) := by
      rw [← get_flatK enc 2 d' j (by omega)]
      have hf : j < (flatK enc 2 d').size := by rw [size_flatK]; omega
      unfold putCells
      rw [Array.getElem?_mapIdx, Array.getElem?_eq_getElem hjs]
      simp only [Option.map_some]
      rw [if_pos (by omega), show off + j - off = j by omega]
      rfl
    rw [e1]
    obtain ⟨a, b⟩ := rowG_get (l.mergeSort leG) (j / 2) (by rw [hlen]; exact hk)
    rw [hd] at a b
    rcases Nat.mod_two_eq_zero_or_one j with h | h
    · rw [show j / 2 * 2 = j by omega] at a
      rw [a] at hu
      rw [h, ← hu]
      rfl
    · rw [show j / 2 * 2 + 1 = j by omega] at b
      rw [b] at hu
      rw [h, ← hu]
      rfl
  · unfold sortWorldK putRowK
    refine ⟨rfl, rfl, rfl, by simp, fun k hk hne => ?_⟩
    rw [heap_grow_old _ _ (by simpa using hk)]
    have : g ≠ k := fun e => hne (by rw [e]; rfl)
    simp [putRow, mapBlock, Sort.ahead, Array.getElem?_modify, this]
end Go.Proofs.YtkldnapbeebdkaaDoor.hf
