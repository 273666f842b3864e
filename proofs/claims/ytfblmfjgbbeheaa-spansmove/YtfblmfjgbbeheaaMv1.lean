/- Where spans are behind an edit (Shift of package spans). -/
import Derived.Test.YtfblmfjgbbeheaaSp5
namespace Go.Proofs.Ytfblmfjgbbeheaa.sp
set_option linter.unusedVariables false
open Go.ChangeShapes Go.WideShapes Go.ChangeAt Go.RowKit
open mem rows span

/-- There are right spans of what any spans have, no more of them. -/
theorem exists_of (l : List (Int × Int)) : ∃ R, IsOf (has l) R ∧ R.length ≤ l.length := by
  obtain ⟨S, hp, hs⟩ : ∃ S : List (Int × Int), S.Perm (keepS l) ∧ S.Pairwise fun x y => x.1 ≤ y.1 := by
    refine ⟨(keepS l).mergeSort (fun x y => decide (x.1 ≤ y.1)), List.mergeSort_perm _ _, ?_⟩
    have h := List.pairwise_mergeSort (le := fun (x y : Int × Int) => decide (x.1 ≤ y.1)) (fun a b c h1 h2 => by simp only [decide_eq_true_iff] at *; omega) (fun a b => by simp only [Bool.or_eq_true, decide_eq_true_iff]; omega) (keepS l)
    exact h.imp (fun h => by simpa using h)
  have : ∀ k, k ≤ S.length → ∃ R, Mg S k R := by
    intro k
    induction k with
    | zero => intro _; exact ⟨[], Mg.start S⟩
    | succ k ih =>
      intro hk
      obtain ⟨R, hR⟩ := ih (by omega)
      have hkm := keep_mem hp k (by omega)
      by_cases h0 : R = []
      · subst h0
        exact ⟨_, hR.first (by omega) hkm.1 hkm.2⟩
      · obtain ⟨pre, c, d, rfl⟩ := snoc_of h0
        by_cases hd : (nth S k).1 ≤ d
        · exact ⟨_, hR.on hs (by omega) hd⟩
        · exact ⟨_, hR.new (by omega) (by omega) hkm.2⟩
  obtain ⟨R, hR⟩ := this S.length (Nat.le_refl _)
  refine ⟨R, ⟨hR.r, fun p => ?_⟩, ?_⟩
  · rw [hR.h, List.take_length, has_perm hp, has_keep]
  · have := hR.n
    rw [hp.length_eq] at this
    exact Nat.le_trans this (keepS_len l)
def mvx (a o i : Int) (x : Int × Int) : Int × Int := (mv x.1 a o i, mv x.2 a o i)
/-- Spans of which the first k have been moved. -/
def part (a o i : Int) (S : List (Int × Int)) (k : Nat) : List (Int × Int) := (S.take k).map (mvx a o i) ++ S.drop k
theorem part_len (a o i : Int) (S : List (Int × Int)) (k : Nat) (h : k ≤ S.length) : (part a o i S k).length = S.length := by
  unfold part
  simp
  omega
theorem part_nth (a o i : Int) (S : List (Int × Int)) (k : Nat) (h : k < S.length) : nth (part a o i S k) k = nth S k := by
  unfold nth part
  rw [List.getD_eq_getElem?_getD, List.getD_eq_getElem?_getD, List.getElem?_append_right (by simp; omega)]
  simp
  rw [show min k S.length = k by omega, Nat.sub_self, Nat.add_zero]
theorem part_step (a o i : Int) (S : List (Int × Int)) (k : Nat) (h : k < S.length) : (part a o i S k).set k (mvx a o i (nth S k)) = part a o i S (k + 1) := by
  unfold part
  rw [List.set_append_right _ _ (by simp; omega), take_nth S k h, List.map_append, drop_nth S k h]
  simp
  rw [show min k S.length = k by omega, Nat.sub_self]
  rfl
theorem own_pair {w : World} {base g cap : Nat} {l : List (Int × Int)} {k : Nat} {x : Int × Int} (h : OwnS w base (.slice (some ⟨g, 0, none⟩) l.length cap) l) (hk : k < l.length) :
    OwnS ((w.setCell ⟨g, k * 2, none⟩ (.int .i64 x.1)).setCell ⟨g, k * 2 + 1, none⟩ (.int .i64 x.2)) base (.slice (some ⟨g, 0, none⟩) l.length cap) (l.set k x) := by
  have h1 := own_set (l' := l.set k (x.1, (nth l k).2)) (t := k * 2) (x := .int .i64 x.1) h (by simp) (by omega) (rowS_set0 l k x.1 hk)
  have e1 : l.length = (l.set k (x.1, (nth l k).2)).length := by simp
  rw [e1] at h1 ⊢
  refine own_set h1 (by simp) (by simp; omega) ?_
  rw [rowS_set _ k x.2 (by simpa using hk)]
  congr 1
  rw [List.set_set]
  congr 1
  unfold nth
  rw [List.getD_eq_getElem?_getD, List.getElem?_set_self hk]
  rfl
end Go.Proofs.Ytfblmfjgbbeheaa.sp
