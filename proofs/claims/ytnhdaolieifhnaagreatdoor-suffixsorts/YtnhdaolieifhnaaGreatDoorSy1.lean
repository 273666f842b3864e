/- What the document's own SuffixSort answers: sort.Slice by a closure. -/
import Derived.Test.YtnhdaolieifhnaaGreatDoorSxH
import Derived.Test.YtnhdaolieifhnaaGreatDoorLayG
import Derived.Shelf.GgSortFunc.Whole
import Derived.Shelf.GgSortFunc.Tiny
namespace Go.Proofs.YtnhdaolieifhnaaGreatDoor.sx
set_option linter.unusedVariables false
open Go.ChangeShapes Go.WideShapes Go.ChangeAt Go.RowKit
open mem rows fd
open Go.Sort Go.Shelf Go.Lib

noncomputable def siT : TypeInfo := (Tryz.prog.info? 22).get (by kernel_rfl)
noncomputable def siE : TypeInfo := (Tryz.prog.info? 3).get (by kernel_rfl)
theorem siK (n : Nat) (h2 : 2 ≤ n) : Lib.swapperK n siE 2 = 5 := by
  have a : siE.hasPointers = false := by kernel_rfl
  have b : siE.bytes = 8 := by kernel_rfl
  have c : (n == 0) = false := by simp; omega
  have d : (n == 1) = false := by simp; omega
  simp [Lib.swapperK, a, b, c, d]
/-- One end stands ahead of another one. -/
def ltE {N : Nat} (s : ByteArray) (x y : Fin N) : Bool := Op.bytesLess (s.extract x.1 s.size).toList (s.extract y.1 s.size).toList
theorem ltE_iff {N : Nat} (s : ByteArray) (x y : Fin N) : ltE s x y = true ↔ lt (gs s) x.1 y.1 := less_end s x.1 y.1
theorem ltE_no {N : Nat} (s : ByteArray) (x y : Fin N) : ltE s x y = false ↔ ¬ lt (gs s) x.1 y.1 := by rw [← ltE_iff]; simp
theorem swoE (s : ByteArray) : SWO (ltE (N := s.size) s) where
  irrefl x := by rw [ltE_no]; exact lt.irrefl
  trans x y z h1 h2 := by rw [ltE_iff] at *; exact h1.trans h2
  ntrans x y z h1 h2 := by
    rw [ltE_no] at *
    intro h
    rcases (gs_tx s).tri y.2 x.2 with h3 | h3 | h3
    · exact h2 (h3.trans h)
    · rw [h3] at h2; exact h2 h
    · exact h1 h3
set_option maxRecDepth 10000 in
/-- The closure of SuffixSort. -/
theorem lessE_at (s : ByteArray) (X O A N c : Nat) (G : Nat → Nat) (w : World) (hs : s.size ≤ 4000) (hX : w.cell? ⟨X, 0, none⟩ = some (.string s)) (hO : w.cell? ⟨O, 0, none⟩ = some (.slice (some ⟨A, 0, none⟩) N c)) (hN : N ≤ 4000)
    (hc : ∀ t, t < N → w.cell? ⟨A, t, none⟩ = some (.int .i64 ((G t : Nat) : Int))) (i j : Nat) (hi : i < N) (hj : j < N) (gi : G i ≤ s.size) (gj : G j ≤ s.size) :
    Calls Tryz.prog 34 #[.int .i64 (i : Int), .int .i64 (j : Int), .pointer (some ⟨X, 0, none⟩), .pointer (some ⟨O, 0, none⟩)] w fun e w' => e = .returned (.bool (Op.bytesLess (s.extract (G i) s.size).toList (s.extract (G j) s.size).toList)) ∧ ∃ q, w' = w.drewN q := by
  have ci := hc i hi
  have cj := hc j hj
  have i1 : 0 ≤ (i : Int) ∧ (i : Int) < (N : Int) := by omega
  have i2 : 0 ≤ (j : Int) ∧ (j : Int) < (N : Int) := by omega
  generalize G i = x at *
  generalize G j = y at *
  clear hc
  go_enter Tryz.func34, Tryz.ntmps34
  go_wp2
  go_quiet (fail)
  go_wp2
  go_ret
  exact ⟨rfl, nq, rfl⟩
/-- sort.Slice of a row of ends. -/
theorem slice_at (s : ByteArray) (X O A c : Nat) (L : List Nat) (w : World) (hs : s.size ≤ 4000) (hp : L.Perm (List.range s.size)) (hA : RowI w A (ints L)) (hX : w.cell? ⟨X, 0, none⟩ = some (.string s)) (hO : w.cell? ⟨O, 0, none⟩ = some (.slice (some ⟨A, 0, none⟩) s.size c)) (hAX : A ≠ X) (hAO : A ≠ O) :
    Calls Tryz.prog 33 #[.iface 22 (.slice (some ⟨A, 0, none⟩) s.size c), .func (.func 34) #[] #[.pointer (some ⟨X, 0, none⟩), .pointer (some ⟨O, 0, none⟩)]] w fun e w' =>
      e = .returned (.tuple #[]) ∧ w.grownBy w' (some A) ∧ ∃ L', IsSort (gs s) s.size L' ∧ RowI w' A (ints L') := by
  have hlen : L.length = s.size := by have := hp.length_eq; rwa [List.length_range] at this
  rcases Nat.lt_or_ge s.size 2 with h2 | h2
  · have hK : Lib.swapperK s.size siE 2 = s.size + 1 := by
      rcases Nat.eq_zero_or_pos s.size with h | h
      · rw [h]; simp [Lib.swapperK]
      · rw [show s.size = 1 by omega]; simp [Lib.swapperK]
    have hS := Any.sort_Slice_tiny layG.laid 22 3 siT siE (by kernel_rfl) (by kernel_rfl) (by kernel_rfl) (by kernel_rfl) 2 (fun _ => by kernel_rfl) (some ⟨A, 0, none⟩) s.size c (by omega) (76 + s.size) (by
      rw [hK]
      rcases Nat.eq_zero_or_pos s.size with h | h
      · rw [h]; kernel_rfl
      · rw [show s.size = 1 by omega]; kernel_rfl) (.func 34) #[] #[.pointer (some ⟨X, 0, none⟩), .pointer (some ⟨O, 0, none⟩)] w
    refine hS.mono ?_
    rintro e w' ⟨rfl, os, rfl⟩
    refine ⟨rfl, ⟨rfl, rfl, rfl, by simp, fun k hk hne => heap_grow_old _ _ hk⟩, L, ⟨hp, ?_⟩, ?_⟩
    · rw [List.pairwise_iff_getElem]
      intro i j hi hj hij
      omega
    · have := hA.lt
      unfold RowI at hA ⊢
      rw [heap_grow_old _ _ this]
      exact hA
  · haveI : Inhabited (Fin s.size) := ⟨⟨0, by omega⟩⟩
    obtain ⟨F, hF⟩ := fins L s.size fun x hx => List.mem_range.1 (hp.mem_iff.1 hx)
    have hFl : F.length = s.size := by have := congrArg List.length hF; rw [List.length_map] at this; omega
    have es : F.toArray.size = s.size := by simpa using hFl
    have hH : Holds (encF (N := s.size)) w A 0 F.toArray := fun j hj => by
      have hj' : j < F.length := by simpa using hj
      have hjL : j < L.length := by omega
      rw [Nat.zero_add]
      refine ⟨?_, hA.frozen j⟩
      rw [hA.cell (by rw [ints_len]; exact hjL), sx.ints_at, getElem!_pos _ j hj]
      have : L.getD j 0 = (F[j]'hj').1 := by
        have h1 : L[j]? = (F.map Fin.val)[j]? := by rw [hF]
        rw [List.getD_eq_getElem?_getD, h1]
        simp [hj']
      rw [this]
      rfl
    have hless : LessReads Tryz.prog 34 #[.pointer (some ⟨X, 0, none⟩), .pointer (some ⟨O, 0, none⟩)] (encF (N := s.size)) (ltE s) A 0 F.toArray.size w := fun m os dk hdk i j hi hj => by
      have hg := grown_sorted (enc := encF (N := s.size)) (w := w) (g := A) (n := m) (os := os) dk
      have hdk' : dk.size = s.size := by omega
      have hb := hA
      unfold RowI at hb
      have hcell : ∀ t, t < s.size → (sortWorld (encF (N := s.size)) w A 0 m dk os).cell? ⟨A, t, none⟩ = some (.int .i64 (((dk[t]!).1 : Nat) : Int)) := fun t ht => by
        have hh := heap_sorted (enc := encF (N := s.size)) (n := m) (os := os) dk hb
        simp only [World.cell?, hh]
        have h1 : t < dk.size := by omega
        simp [putCells, rowI, ints, hlen, ht, h1, encF]
      have hc := lessE_at s X O A s.size c (fun t => (dk[t]!).1) _ hs (cell_grown hX hg hAX) (cell_grown hO hg hAO) hs hcell i j (by omega) (by omega) (Nat.le_of_lt (dk[i]!).2) (Nat.le_of_lt (dk[j]!).2)
      exact hc
    have hS := Any.sort_Slice_sorted layG.laid 22 3 siT siE (by kernel_rfl) (by kernel_rfl) (by kernel_rfl) (by kernel_rfl) 2 (fun _ => by kernel_rfl) (by kernel_rfl) (fun _ => by kernel_rfl) (encF (N := s.size)) (fun _ => rfl) (ltE s) (swoE s) 34 _
      (enters_of Tryz.func34 (by kernel_rfl) rfl) A 0 c F.toArray (by rw [es]; exact h2) (by rw [es]; omega) 80 (by rw [siK _ (by rw [es]; exact h2)]; kernel_rfl) true
      (fun args W => run_callFunc_extern Tryz.func80 (by kernel_rfl) (by kernel_rfl) (by kernel_rfl) (e := Extern.ReflectliteSwapper.swap true) (by kernel_rfl) args W) _ hless hH hA.lt
    rw [es] at hS
    refine hS.mono ?_
    rintro e w' ⟨rfl, d', k, os, hperm, hsort, hw'⟩
    have hw2 : w' = sortWorld (encF (N := s.size)) w A 0 k d' os := hw'
    subst hw2
    obtain ⟨hsz, _, hpp⟩ := hperm
    have hs' : d'.size = s.size := by rw [hsz, es]
    have hpm : (d'.toList.map Fin.val).Perm (List.range s.size) := by
      have h1 : d'.toList.Perm F := by
        rw [Array.extract_eq_self_of_le (by omega), Array.extract_eq_self_of_le (by omega)] at hpp
        simpa using hpp
      have h2 := h1.map Fin.val
      rw [hF] at h2
      exact h2.trans hp
    refine ⟨rfl, grown_sorted d', d'.toList.map Fin.val, ⟨hpm, ?_⟩, ?_⟩
    · have hnd : (d'.toList.map Fin.val).Nodup := hpm.nodup_iff.2 List.nodup_range
      rw [List.pairwise_map, List.pairwise_iff_getElem]
      intro i j hi hj hij
      rw [Array.length_toList] at hi hj
      have h1 := hsort i j (Nat.zero_le _) hij (by omega)
      rw [ltE_no, getElem!_pos d' i hi, getElem!_pos d' j hj] at h1
      simp only [Array.getElem_toList]
      rcases (gs_tx s).tri (d'[i]).2 (d'[j]).2 with h3 | h3 | h3
      · exact h3
      · exfalso
        have := (List.pairwise_iff_getElem.1 (List.nodup_iff_pairwise_ne.1 hnd) i j (by simpa using hi) (by simpa using hj) hij)
        simp only [List.getElem_map, Array.getElem_toList] at this
        exact this h3
      · exact absurd h3 h1
    · unfold RowI at hA ⊢
      rw [heap_sorted d' hA]
      congr 2
      apply Array.ext'
      apply List.ext_getElem?
      intro j
      by_cases hj : j < s.size
      · have hj2 : j < d'.size := by omega
        simp [putCells, rowI, ints, hj2, hlen, hj, encF]
      · simp [putCells, rowI, ints, hlen, hj, hs']
end Go.Proofs.YtnhdaolieifhnaaGreatDoor.sx
