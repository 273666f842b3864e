/- What TextDecode, of the document's own, answers: the very signs that package text's Decode answers. -/
import Derived.Test.YtaboemchkmmgeaaDoorRefT3
namespace Go.Proofs.YtaboemchkmmgeaaDoor.utf
set_option linter.unusedVariables false
open Go.ChangeShapes Go.WideShapes Go.ChangeAt Go.RowKit
open mem rows

/-- What has been found behind k - 1 bytes that some sign begins with: none of them is one yet. -/
def yet (n b0 b1 b2 b3 k : Nat) : Prop := k ≤ n + 1 ∧ ∀ j, 1 ≤ j → j < k → bgN j b0 b1 b2 b3 ∧ j ≠ lenN b0
theorem yet_k (n b0 b1 b2 b3 k : Nat) (h : yet n b0 b1 b2 b3 k) (hk : 1 ≤ k) : k = 1 ∨ (194 ≤ b0 ∧ b0 ≤ 244 ∧ k ≤ 4 ∧ k ≤ lenN b0) := by
  rcases Nat.lt_or_ge 1 k with h1 | h1
  · right
    have a1 := h.2 1 (by omega) (by omega)
    have a2 := h.2 2 (by omega)
    have a3 := h.2 3 (by omega)
    have a4 := h.2 4 (by omega)
    unfold bgN lenN at *
    generalize lo b0 = l at *
    generalize hi b0 = h' at *
    rcases (show b0 < 128 ∨ (128 ≤ b0 ∧ b0 < 224) ∨ (224 ≤ b0 ∧ b0 < 240) ∨ 240 ≤ b0 by omega) with c | c | c | c
    · rw [if_pos c] at a1; omega
    · rw [if_neg (by omega), if_pos (by omega)] at a1 a2 ⊢; omega
    · rw [if_neg (by omega), if_neg (by omega), if_pos (by omega)] at a1 a2 a3 ⊢; omega
    · rw [if_neg (by omega), if_neg (by omega), if_neg (by omega)] at a1 a2 a3 a4 ⊢; omega
  · left; omega
theorem st_stop (n b0 b1 b2 b3 k : Nat) (hn : 1 ≤ n) (h0 : b0 < 256) (hk : 1 ≤ k) (h : yet n b0 b1 b2 b3 k) (he : k = n + 1 ∨ ¬ bgN k b0 b1 b2 b3) : stN n b0 b1 b2 b3 = (65533, max (k - 1) 1) := by
  have hy := yet_k n b0 b1 b2 b3 k h hk
  have hkn := h.1
  have a1 := h.2 1 (by omega)
  have a2 := h.2 2 (by omega)
  have a3 := h.2 3 (by omega)
  clear h
  unfold bgN lenN at *
  unfold stN
  have hl := lohi b0
  generalize lo b0 = l at *
  generalize hi b0 = h' at *
  rcases (show b0 < 128 ∨ (128 ≤ b0 ∧ b0 < 224) ∨ (224 ≤ b0 ∧ b0 < 240) ∨ 240 ≤ b0 by omega) with c | c | c | c
  · rw [if_pos c] at a1 a2 a3 hy; omega
  · rw [if_neg (by omega), if_pos (by omega)] at a1 a2 a3 hy
    rw [if_neg (by omega)]
    repeat' split
    all_goals first | (exfalso; omega) | (rw [show max (k - 1) 1 = 1 by omega])
  · rw [if_neg (by omega), if_neg (by omega), if_pos (by omega)] at a1 a2 a3 hy
    rw [if_neg (by omega)]
    repeat' split
    all_goals first | (exfalso; omega) | (rw [show max (k - 1) 1 = 1 by omega]) | (rw [show max (k - 1) 1 = 2 by omega])
  · rw [if_neg (by omega), if_neg (by omega), if_neg (by omega)] at a1 a2 a3 hy
    rw [if_neg (by omega)]
    repeat' split
    all_goals first | (exfalso; omega) | (rw [show max (k - 1) 1 = 1 by omega]) | (rw [show max (k - 1) 1 = 2 by omega]) | (rw [show max (k - 1) 1 = 3 by omega])
/-- As far as k bytes go, n bytes are the sign that those are. -/
theorem st_is (n b0 b1 b2 b3 k : Nat) (hkn : k ≤ n) (hB : bgN k b0 b1 b2 b3) (hl : k = lenN b0) : stN n b0 b1 b2 b3 = stN k b0 b1 b2 b3 ∧ (stN k b0 b1 b2 b3).2 = k := by
  unfold bgN lenN at *
  unfold stN
  generalize lo b0 = l at *
  generalize hi b0 = h' at *
  rcases (show b0 < 128 ∨ (128 ≤ b0 ∧ b0 < 224) ∨ (224 ≤ b0 ∧ b0 < 240) ∨ 240 ≤ b0 by omega) with c | c | c | c
  · rw [if_pos c] at hl; rw [if_pos c, if_pos c]; exact ⟨rfl, hl.symm⟩
  · rw [if_neg (by omega), if_pos (by omega)] at hl
    rw [if_neg (by omega), if_neg (by omega), if_neg (by omega), if_pos (by omega), if_neg (by omega), if_neg (by omega), if_neg (by omega), if_pos (by omega)]
    exact ⟨rfl, hl.symm⟩
  · rw [if_neg (by omega), if_neg (by omega), if_pos (by omega)] at hl
    rw [if_neg (by omega), if_neg (by omega), if_neg (by omega), if_neg (by omega), if_neg (by omega), if_pos (by omega), if_neg (by omega), if_neg (by omega), if_neg (by omega), if_neg (by omega), if_neg (by omega), if_pos (by omega)]
    exact ⟨rfl, hl.symm⟩
  · rw [if_neg (by omega), if_neg (by omega), if_neg (by omega)] at hl
    rw [if_neg (by omega), if_neg (by omega), if_neg (by omega), if_neg (by omega), if_neg (by omega), if_neg (by omega), if_neg (by omega), if_neg (by omega), if_neg (by omega), if_neg (by omega), if_neg (by omega), if_neg (by omega), if_neg (by omega), if_neg (by omega)]
    exact ⟨rfl, hl.symm⟩
theorem bgN_cut (s : ByteArray) (k : Nat) (h1 : 1 ≤ k) (hk : k ≤ s.size) (sm : Bool) (r : Int) (h : told (s.extract 0 k).size (nb (s.extract 0 k) 0) (nb (s.extract 0 k) 1) (nb (s.extract 0 k) 2) (nb (s.extract 0 k) 3) sm r) : told k (nb s 0) (nb s 1) (nb s 2) (nb s 3) sm r := by
  have hz : (s.extract 0 k).size = k := by rw [ByteArray.size_extract]; omega
  rw [hz] at h
  have e0 : nb (s.extract 0 k) 0 = nb s 0 := by rw [extract_get s 0 k 0 hk (by omega)]
  have e1 : 1 < k → nb (s.extract 0 k) 1 = nb s 1 := fun h => by rw [extract_get s 0 k 1 hk (by omega)]
  have e2 : 2 < k → nb (s.extract 0 k) 2 = nb s 2 := fun h => by rw [extract_get s 0 k 2 hk (by omega)]
  have e3 : 3 < k → nb (s.extract 0 k) 3 = nb s 3 := fun h => by rw [extract_get s 0 k 3 hk (by omega)]
  rw [e0] at h
  obtain ⟨x1, hx1⟩ : ∃ x, nb (s.extract 0 k) 1 = x := ⟨_, rfl⟩
  obtain ⟨x2, hx2⟩ : ∃ x, nb (s.extract 0 k) 2 = x := ⟨_, rfl⟩
  obtain ⟨x3, hx3⟩ : ∃ x, nb (s.extract 0 k) 3 = x := ⟨_, rfl⟩
  rw [hx1, hx2, hx3] at h
  rw [hx1] at e1
  rw [hx2] at e2
  rw [hx3] at e3
  have hb : bgN k (nb s 0) x1 x2 x3 ↔ bgN k (nb s 0) (nb s 1) (nb s 2) (nb s 3) := by
    unfold bgN
    generalize nb s 1 = y1 at *
    generalize nb s 2 = y2 at *
    generalize nb s 3 = y3 at *
    constructor
    · intro hh
      rcases hh with hh | hh
      · exact Or.inl hh
      · right
        rcases hh with ⟨p1, p2, p3 | ⟨p3, p4⟩⟩
        · exact ⟨p1, p2, Or.inl p3⟩
        · have q1 := e1 (by omega)
          subst q1
          refine ⟨p1, p2, Or.inr ⟨p3, p4.1, p4.2.1, ?_⟩⟩
          rcases p4.2.2 with p5 | ⟨p5, p6⟩
          · exact Or.inl p5
          · have q2 := e2 (by omega)
            subst q2
            refine Or.inr ⟨p5, p6.1, p6.2.1, p6.2.2.1, ?_⟩
            rcases p6.2.2.2 with p7 | p7
            · exact Or.inl p7
            · have q3 := e3 (by omega)
              subst q3
              exact Or.inr p7
    · intro hh
      rcases hh with hh | hh
      · exact Or.inl hh
      · right
        rcases hh with ⟨p1, p2, p3 | ⟨p3, p4⟩⟩
        · exact ⟨p1, p2, Or.inl p3⟩
        · have q1 := e1 (by omega)
          subst q1
          refine ⟨p1, p2, Or.inr ⟨p3, p4.1, p4.2.1, ?_⟩⟩
          rcases p4.2.2 with p5 | ⟨p5, p6⟩
          · exact Or.inl p5
          · have q2 := e2 (by omega)
            subst q2
            refine Or.inr ⟨p5, p6.1, p6.2.1, p6.2.2.1, ?_⟩
            rcases p6.2.2.2 with p7 | p7
            · exact Or.inl p7
            · have q3 := e3 (by omega)
              subst q3
              exact Or.inr p7
  have hst : stN k (nb s 0) x1 x2 x3 = stN k (nb s 0) (nb s 1) (nb s 2) (nb s 3) := by
    unfold stN
    by_cases k1 : 1 < k
    · rw [e1 k1]
      by_cases k2 : 2 < k
      · rw [e2 k2]
        by_cases k3 : 3 < k
        · rw [e3 k3]
        · have : k < 4 := by omega
          simp only [this, true_or, if_true]
      · have a3 : k < 3 := by omega
        simp only [a3, true_or, if_true]
    · have a2 : k < 2 := by omega
      simp only [a2, true_or, if_true]
  unfold told at h ⊢
  rw [hst] at h
  exact ⟨h.1.trans hb, h.2⟩
end Go.Proofs.YtaboemchkmmgeaaDoor.utf
