/- Texts as Go compares them, and the ends of a text. -/
import Derived.Test.YtnhdaolieifhnaaGreatDoorSx7
import Derived.Laws.Cover1
namespace Go.Proofs.YtnhdaolieifhnaaGreatDoor.sx
set_option linter.unusedVariables false
open Go.ChangeShapes Go.WideShapes Go.ChangeAt Go.RowKit
open mem rows fd

/-- A list's byte from 1 on, 0 behind its end. -/
def gl (l : List UInt8) (t : Nat) : Int := if t < l.length then ((l.getD t 0).toNat : Int) + 1 else 0
theorem gl_nil (t : Nat) : gl [] t = 0 := by simp [gl]
theorem gl_zero (a : UInt8) (l : List UInt8) : gl (a :: l) 0 = (a.toNat : Int) + 1 := by simp [gl]
theorem gl_succ (a : UInt8) (l : List UInt8) (t : Nat) : gl (a :: l) (t + 1) = gl l t := by simp [gl]
theorem gl_nonneg (l : List UInt8) (t : Nat) : 0 ≤ gl l t := by unfold gl; split <;> omega
theorem less_iff : ∀ (x y : List UInt8), Op.bytesLess x y = true ↔ ∃ k, (∀ t, t < k → gl x t = gl y t) ∧ gl x k < gl y k
  | x, [] => by
    have e : Op.bytesLess x [] = false := by cases x <;> rfl
    rw [e]
    refine ⟨fun h => absurd h (by decide), ?_⟩
    rintro ⟨k, _, h⟩
    rw [gl_nil] at h
    have := gl_nonneg x k
    omega
  | [], b :: y => by
    simp only [Op.bytesLess, true_iff]
    exact ⟨0, fun t ht => absurd ht (Nat.not_lt_zero _), by rw [gl_nil, gl_zero]; omega⟩
  | a :: x, b :: y => by
    simp only [Op.bytesLess, Bool.or_eq_true, decide_eq_true_eq, Bool.and_eq_true, beq_iff_eq]
    rw [less_iff x y]
    constructor
    · rintro (h | ⟨rfl, k, h1, h2⟩)
      · refine ⟨0, fun t ht => absurd ht (Nat.not_lt_zero _), ?_⟩
        rw [gl_zero, gl_zero]
        have := UInt8.lt_iff_toNat_lt.1 h
        omega
      · refine ⟨k + 1, fun t ht => ?_, by rw [gl_succ, gl_succ]; exact h2⟩
        cases t with
        | zero => rw [gl_zero, gl_zero]
        | succ t => rw [gl_succ, gl_succ]; exact h1 t (by omega)
    · rintro ⟨k, h1, h2⟩
      cases k with
      | zero =>
        rw [gl_zero, gl_zero] at h2
        exact Or.inl (UInt8.lt_iff_toNat_lt.2 (by omega))
      | succ k =>
        have h0 := h1 0 (by omega)
        rw [gl_zero, gl_zero] at h0
        refine Or.inr ⟨UInt8.toNat_inj.1 (by omega), k, fun t ht => ?_, by rw [gl_succ, gl_succ] at h2; exact h2⟩
        have := h1 (t + 1) (by omega)
        rwa [gl_succ, gl_succ] at this
theorem gl_text (s : ByteArray) (t : Nat) : gl s.toList t = if t < s.size then sb s t + 1 else 0 := by
  rw [ByteArray.toList_eq]
  rfl
theorem gl_end (s : ByteArray) (i t : Nat) : gl (s.extract i s.size).toList t = gs s (i + t) := by
  rw [gl_text, gs_end]
/-- One end stands ahead of another one just as Go compares them. -/
theorem less_end (s : ByteArray) (i j : Nat) : Op.bytesLess (s.extract i s.size).toList (s.extract j s.size).toList = true ↔ lt (gs s) i j := by
  rw [less_iff]
  unfold lt Eqm
  simp only [gl_end]
theorem toList_inj {x y : ByteArray} (hl : x.size = y.size) (h : ∀ t, t < x.size → sb x t = sb y t) : x.toList = y.toList := by
  rw [ByteArray.toList_eq, ByteArray.toList_eq]
  apply List.ext_getElem?
  intro t
  by_cases ht : t < x.size
  · have h1 : t < x.data.toList.length := ht
    have h2 : t < y.data.toList.length := by have : y.size = y.data.toList.length := rfl; omega
    have := h t ht
    unfold sb at this
    rw [List.getD_eq_getElem?_getD, List.getD_eq_getElem?_getD, List.getElem?_eq_getElem h1, List.getElem?_eq_getElem h2] at this
    rw [List.getElem?_eq_getElem h1, List.getElem?_eq_getElem h2]
    simp only [Option.getD_some] at this
    exact congrArg some (UInt8.toNat_inj.1 (by omega))
  · have e1 : x.size = x.data.toList.length := rfl
    have e2 : y.size = y.data.toList.length := rfl
    rw [List.getElem?_eq_none (by omega), List.getElem?_eq_none (by omega)]
theorem sb_extract (s : ByteArray) (i n t : Nat) (hn : i + n ≤ s.size) (ht : t < n) : sb (s.extract i (i + n)) t = sb s (i + t) := by
  have h1 : t < (s.extract i (i + n)).size := by rw [ByteArray.size_extract]; omega
  rw [sb_get _ _ h1, sb_get _ _ (by omega), ByteArray.getElem_extract]
theorem sb_head (s : ByteArray) (n t : Nat) (hn : n ≤ s.size) (ht : t < n) : sb (s.extract 0 n) t = sb s t := by
  have := sb_extract s 0 n t (by omega) ht
  rw [Nat.zero_add, Nat.zero_add] at this
  exact this
end Go.Proofs.YtnhdaolieifhnaaGreatDoor.sx
