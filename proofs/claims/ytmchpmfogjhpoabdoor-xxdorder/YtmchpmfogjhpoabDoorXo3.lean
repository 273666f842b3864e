/- What the library's own answer of lines. -/
import Derived.Test.YtmchpmfogjhpoabDoorXo2
import Derived.Test.YtmchpmfogjhpoabDoorLayO
import Derived.Test.YtmchpmfogjhpoabDoorLayV
import Derived.Shelf.Vars
namespace Go.Proofs.YtmchpmfogjhpoabDoor.xo
set_option linter.unusedVariables false
open Go.ChangeShapes Go.WideShapes Go.ChangeAt Go.RowKit Go.Sort
open mem rows xd xl xb

/-- The variable holds some number, whatever it is. -/
def Ml (w : World) : Prop := ∃ m : Int, w.cell? ⟨0, 0, none⟩ = some (.int .i64 m)
theorem Ml.step {w w' : World} (h : Ml w) (hb : Bl w w') : Ml w' := by
  obtain ⟨m, hm⟩ := h
  exact ⟨m, at_bl hb hm⟩
theorem ml_of {W : World} (h : W.ShapedOpen Tryd.prog) : Ml W :=
  cell_of_shapedOpen_int (P := Tryd.prog) (g := 0) (t := 3) (zero := #[.int .i64 0]) h (of_decide_eq_true (by kernel_rfl)) (by kernel_rfl) rfl (by kernel_rfl) (by kernel_rfl) Tryd.underlying3
theorem trim_at (Z : List Int) (w : World) (h : Z.length ≤ 2000000) :
    Calls Tryd.prog 8 #[.string (strOfNums (Z ++ [10])), .string ⟨#[10]⟩] w fun e w' => e = .returned (.string (strOfNums Z)) ∧ w' = w := by
  have c := Any.strings_TrimSuffix layO.laid102 (strOfNums (Z ++ [10])) ⟨#[10]⟩ w (by rw [strOfNums_size, List.length_append]; simp only [List.length_cons, List.length_nil]; omega)
  rw [show (⟨#[10]⟩ : ByteArray).data.toList = [10] from rfl, trim_ten] at c
  exact c
theorem inf9 : (Tryd.prog.info? 9).map (fun i => (i.zero, i.size, i.bytes)) = some (some (.string ByteArray.empty), 1, 16) := by kernel_rfl
/-- Lines, as a row of texts. -/
def cl (L : List (List Int)) : Array Value := ((L.map strOfNums).map Value.string).toArray
theorem split_at (L : List (List Int)) (w : World) (hne : L ≠ []) (hL : ∀ r ∈ L, Lw r) (hs : (jo L).length ≤ 2000000) (hm : Ml w) :
    Calls Tryd.prog 7 #[.string (strOfNums (jo L)), .string ⟨#[10]⟩] w fun e w' => e = .returned (.slice (some ⟨w.heap.size, 0, none⟩) L.length L.length) ∧ w' = w.alloc (.cells (cl L) 9) := by
  obtain ⟨m, hm⟩ := hm
  obtain ⟨h1, h2⟩ := split_jo L hne hL
  have c := Any.strings_Split layO.laid146 inf9 (strOfNums (jo L)) ⟨#[10]⟩ m w (by rw [strOfNums_size]; omega) hm (by decide)
  rw [h1, h2] at c
  exact c
theorem idx_at (s : ByteArray) (w : World) (hs : s.size ≤ 4000) (hm : Ml w) : Calls Tryd.prog 9 #[.string s, .string ⟨#[32, 32]⟩] w fun e w' => e = .returned (.int .i64 (Lib.index s.data.toList [32, 32])) ∧ w' = w := by
  obtain ⟨m, hm⟩ := hm
  exact Any.strings_Index layO.laid143 s ⟨#[32, 32]⟩ m w (by omega) hm
/-- A row of texts lies in block B. -/
def Tx (w : World) (B : Nat) (L : List (List Int)) : Prop := w.heap[B]? = some (.cells (cl L) 9 (0, 0))
theorem Tx.at {w : World} {B : Nat} {L : List (List Int)} (h : Tx w B L) (j : Nat) (hj : j < L.length) : w.cell? ⟨B, j, none⟩ = some (.string (strOfNums (L.getD j []))) := by
  unfold Tx at h
  simp only [World.cell?, h]
  simp [cl, List.getD_eq_getElem?_getD, List.getElem?_eq_getElem hj]
theorem rev_at (w : World) (B : Nat) (L : List (List Int)) (h : Tx w B L) (hl : L.length ≤ 100000) :
    Calls Tryd.prog 10 #[.slice (some ⟨B, 0, none⟩) L.length L.length] w fun e w' => e = .returned (.tuple #[]) ∧ Below B w w' ∧ B < w'.heap.size ∧ ∀ (j : Nat) x, (L.reverse.map strOfNums)[j]? = some x → w'.cell? ⟨B, 0 + j, none⟩ = some (.string x) := by
  have hB : B < w.heap.size := (Array.getElem?_eq_some_iff.1 h).1
  have hz : (L.map ub).length = L.length := List.length_map ..
  have he : ∀ r : List Int, encStr (ub r) = .string (strOfNums r) := fun r => by
    show Value.string ⟨(ub r).toArray⟩ = _
    rw [str_ub]
  have hH : Holds encStr w B 0 (L.map ub).toArray := by
    intro j hj
    have hj' : j < L.length := by simpa using hj
    refine ⟨?_, by simp [World.frozen?, show w.heap[B]? = _ from h]⟩
    rw [Nat.zero_add, h.at j hj', getElem!_pos _ j hj]
    simp [List.getD_eq_getElem?_getD, List.getElem?_eq_getElem hj', he]
  have c := Any.slices_Reverse_string layV.laid17 B 0 L.length (L.map ub) w hH (by rw [hz]; omega)
  rw [hz] at c
  refine c.mono ?_
  rintro e w' ⟨rfl, n, rfl⟩
  have hP := holds_putRow encStr (Sort.ahead w n) B 0 (L.map ub).toArray (L.map ub).reverse.toArray (holds_ahead encStr w n B 0 _ hH) (by simp)
  refine ⟨rfl, ⟨rfl, rfl, rfl, by simp [putRow, mapBlock, Sort.ahead], fun k hk => ?_⟩, by simpa [putRow, mapBlock, Sort.ahead] using hB, fun j x hx => ?_⟩
  · have : B ≠ k := by omega
    simp [putRow, mapBlock, Sort.ahead, Array.getElem?_modify, this]
  · have hj : j < L.length := by
      have := (List.getElem?_eq_some_iff.1 hx).1
      simpa using this
    have hj2 : j < (L.map ub).reverse.toArray.size := by simpa using hj
    obtain ⟨h1, _⟩ := hP j hj2
    rw [h1, getElem!_pos _ j hj2]
    have hx2 : strOfNums (L.reverse[j]'(by simpa using hj)) = x := by
      have := (List.getElem?_eq_some_iff.1 hx).2
      simpa using this
    rw [← hx2, ← he]
    simp
theorem join_at (w : World) (B : Nat) (L : List (List Int)) (hB : B < w.heap.size) (hc : ∀ (j : Nat) x, (L.map strOfNums)[j]? = some x → w.cell? ⟨B, 0 + j, none⟩ = some (.string x)) (hl : L.length ≤ 100000) (hs : (jo L).length ≤ 2000000) :
    Calls Tryd.prog 12 #[.slice (some ⟨B, 0, none⟩) L.length L.length, .string ⟨#[10]⟩] w fun e w' => e = .returned (.string (strOfNums (jo L))) ∧ Bl w w' := by
  have hz : (L.map strOfNums).length = L.length := List.length_map ..
  have c := Any.strings_Join layO.laid156 layO.extra B 0 L.length (L.map strOfNums) ⟨#[10]⟩ w hc hB (by rw [hz]; omega) (by rw [hz]; exact Nat.le_refl _) (by rw [show (⟨#[10]⟩ : ByteArray).data.toList = [10] from rfl, join_jo, ub_len]; omega)
  rw [hz, show (⟨#[10]⟩ : ByteArray).data.toList = [10] from rfl, join_jo, str_ub] at c
  exact c
end Go.Proofs.YtmchpmfogjhpoabDoor.xo
