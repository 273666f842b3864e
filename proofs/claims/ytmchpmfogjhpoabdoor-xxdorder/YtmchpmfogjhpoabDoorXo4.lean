/- A dump's lines: none is longer than the first, and each has two blanks together. -/
import Derived.Test.YtmchpmfogjhpoabDoorXo3
namespace Go.Proofs.YtmchpmfogjhpoabDoor.xo
set_option linter.unusedVariables false
open Go.ChangeShapes Go.WideShapes Go.ChangeAt Go.RowKit
open mem rows xd xl xb

theorem rws_get (s : ByteArray) (c i : Nat) (hi : i < np s c) : (rws s c).getD i [] = rowd c 1 (pt s c i).1.1 (pt s c i).1.2 := by
  simp [rws, ptl, List.getD_eq_getElem?_getD, hi]
theorem pt_size (s : ByteArray) (c i : Nat) (hs : s.size ≤ 600) (hc : c ≤ 256) (h1 : 1 ≤ c) (hi : i < np s c) : (pt s c i).1.2.size = min c (s.size - i * c) := by
  have hlt := (np_lt s c i h1).1 hi
  obtain ⟨a, ha⟩ : ∃ a, a = i * c := ⟨_, rfl⟩
  obtain ⟨e, he⟩ : ∃ e, e = min (a + c) s.size := ⟨_, rfl⟩
  rw [← ha] at hlt ⊢
  have hsz : (s.extract a e).size = e - a := by rw [ByteArray.size_extract]; omega
  rw [pt_is s c i a e ha (by omega) (by omega) he (by dsimp only; omega)]
  dsimp only
  omega
theorem rws_row (s : ByteArray) (c i : Nat) (hs : s.size ≤ 600) (hc : c ≤ 256) (h1 : 1 ≤ c) (hi : i < (rws s c).length) :
    (strOfNums ((rws s c).getD i [])).size ≤ (strOfNums ((rws s c).getD 0 [])).size ∧ (strOfNums ((rws s c).getD i [])).size ≤ 4000 ∧ 0 ≤ Lib.index (strOfNums ((rws s c).getD i [])).data.toList [32, 32] := by
  rw [rws_len] at hi
  rw [rws_get s c i hi, rws_get s c 0 (by omega), strOfNums_size, strOfNums_size, rowd_len, rowd_len, pt_size s c i hs hc h1 hi, pt_size s c 0 hs hc h1 (by omega), ub_str]
  refine ⟨?_, ?_, rowd_two _ _ _⟩
  · rw [Nat.zero_mul]
    omega
  · omega
theorem jo_len (s : ByteArray) (c : Nat) (hs : s.size ≤ 600) (hc : c ≤ 256) (h1 : 1 ≤ c) (h0 : 0 < s.size) : (jo (rws s c)).length ≤ 2000000 ∧ (jo (rws s c).reverse).length ≤ 2000000 ∧ (rws s c).length ≤ 600 := by
  have hnp := np_le s c h1
  have hpos := np_pos s c h0 h1
  have hlen := dmp_len c 1 hc (ptl s c (np s c))
  have hlen2 := dmp_len c 1 hc (ptl s c (np s c)).reverse
  rw [ptl_len, dmp_rws s c h0 h1, List.length_append] at hlen
  rw [List.length_reverse, ptl_len] at hlen2
  have hz : jo (rws s c).reverse ++ [10] = dmp c 1 (ptl s c (np s c)).reverse := by
    rw [dmp_flat, flat_jo]
    · unfold rws
      rw [List.map_reverse]
    · intro e
      have h2 := congrArg List.length e
      rw [List.length_reverse, ptl_len, List.length_nil] at h2
      omega
  have := congrArg List.length hz
  rw [List.length_append] at this
  rw [rws_len]
  omega
theorem zero_size {a : ByteArray} (h : ¬ a.size = 0) : (a.toList == []) = false := by
  have e := isEmpty_at a
  rw [decide_eq_false h] at e
  cases hl : a.toList with
  | nil => rw [hl] at e; cases e
  | cons x y => rfl
theorem join_rev (w : World) (B : Nat) (L : List (List Int)) (hB : B < w.heap.size) (hc : ∀ (j : Nat) x, (L.reverse.map strOfNums)[j]? = some x → w.cell? ⟨B, 0 + j, none⟩ = some (.string x)) (hl : L.length ≤ 100000) (hs : (jo L.reverse).length ≤ 2000000) :
    Calls Tryd.prog 12 #[.slice (some ⟨B, 0, none⟩) L.length L.length, .string ⟨#[10]⟩] w fun e w' => e = .returned (.string (strOfNums (jo L.reverse))) ∧ Bl w w' := by
  have h := join_at w B L.reverse hB hc (by rw [List.length_reverse]; exact hl) hs
  rw [List.length_reverse] at h
  exact h
end Go.Proofs.YtmchpmfogjhpoabDoor.xo
