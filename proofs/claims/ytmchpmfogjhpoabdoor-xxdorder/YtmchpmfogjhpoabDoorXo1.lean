/- Lines joined, split, and read in whichever order. -/
import Derived.Test.YtmchpmfogjhpoabDoorXb3
import Derived.Lib.SplitLaws
import Derived.Lib.Split
import Derived.Lib.Join
import Derived.Lib.Strings
import Derived.Lib.Index
import Derived.Lib.CountLaws
namespace Go.Proofs.YtmchpmfogjhpoabDoor.xo
set_option linter.unusedVariables false
open Go.ChangeShapes Go.WideShapes Go.ChangeAt Go.RowKit
open mem rows xd xl xb

/-- Lines with a feed between them. -/
def jo : List (List Int) → List Int
  | [] => []
  | [r] => r
  | r :: q :: l => r ++ 10 :: jo (q :: l)
/-- A line's numbers. -/
def Lw (r : List Int) : Prop := ∀ z ∈ r, 32 ≤ z ∧ z ≤ 126
theorem ub_ne {r : List Int} (h : Lw r) : ∀ b ∈ ub r, b ≠ 10 := by
  intro b hb e
  obtain ⟨z, hz, rfl⟩ := List.mem_map.1 hb
  have hz2 := h z hz
  have := congrArg UInt8.toNat e
  rw [UInt8.toNat_ofNat'] at this
  have h10 : (10 : UInt8).toNat = 10 := rfl
  rw [h10] at this
  omega
theorem index_no : ∀ {l : List UInt8}, (∀ b ∈ l, b ≠ 10) → Lib.index l [10] = -1
  | [], _ => rfl
  | b :: l, h => by
    have h1 : ((10 : UInt8) == b) = false := by rw [beq_eq_false_iff_ne]; exact fun e => h b (by simp) e.symm
    rw [Lib.index, index_no (fun x hx => h x (by simp [hx]))]
    simp [List.isPrefixOf, h1]
theorem index_at : ∀ {l : List UInt8} (m : List UInt8), (∀ b ∈ l, b ≠ 10) → Lib.index (l ++ 10 :: m) [10] = (l.length : Int)
  | [], m, _ => by simp [Lib.index, List.isPrefixOf]
  | b :: l, m, h => by
    have h1 : ((10 : UInt8) == b) = false := by rw [beq_eq_false_iff_ne]; exact fun e => h b (by simp) e.symm
    have ih := index_at (l := l) m (fun x hx => h x (by simp [hx]))
    rw [List.cons_append, Lib.index, ih]
    have h2 : ¬ ((l.length : Int) == -1) = true := by rw [beq_iff_eq]; omega
    rw [if_neg (by simp [List.isPrefixOf, h1]), if_neg h2, List.length_cons]
    omega
theorem index_two : ∀ (a b : List UInt8), 0 ≤ Lib.index (a ++ 32 :: 32 :: b) [32, 32]
  | [], b => by simp [Lib.index, List.isPrefixOf]
  | x :: a, b => by
    have ih := index_two a b
    rw [List.cons_append, Lib.index]
    split
    · exact Int.le_refl _
    · have h2 : ¬ (Lib.index (a ++ 32 :: 32 :: b) [32, 32] == -1) = true := by rw [beq_iff_eq]; omega
      rw [if_neg h2]
      omega
theorem jo_size (r q : List Int) (l : List (List Int)) : (strOfNums (jo (r :: q :: l))).size = r.length + 1 + (jo (q :: l)).length := by
  rw [strOfNums_size, jo, List.length_append, List.length_cons]
  omega
theorem split_jo : ∀ (L : List (List Int)), L ≠ [] → (∀ r ∈ L, Lw r) → Lib.splitB ⟨#[10]⟩ 0 (Lib.countB (strOfNums (jo L)) ⟨#[10]⟩) (strOfNums (jo L)) = L.map strOfNums ∧ Lib.countB (strOfNums (jo L)) ⟨#[10]⟩ + 1 = L.length
  | [], h, _ => absurd rfl h
  | [r], _, h => by
    have hi : Lib.indexB (strOfNums (jo [r])) ⟨#[10]⟩ = -1 := by
      show Lib.index (strOfNums r).data.toList [10] = -1
      rw [ub_str]
      exact index_no (ub_ne (h r (by simp)))
    rw [Lib.splitB_miss _ _ _ _ hi, Lib.countB_miss _ _ hi]
    exact ⟨rfl, rfl⟩
  | r :: q :: l, _, h => by
    obtain ⟨i1, i2⟩ := split_jo (q :: l) (by simp) (fun x hx => h x (by simp at hx ⊢; exact Or.inr hx))
    have hi : Lib.indexB (strOfNums (jo (r :: q :: l))) ⟨#[10]⟩ = (r.length : Nat) := by
      show Lib.index (strOfNums (r ++ 10 :: jo (q :: l))).data.toList [10] = _
      rw [ub_str, ub_app]
      have e : ub (10 :: jo (q :: l)) = 10 :: ub (jo (q :: l)) := rfl
      rw [e, index_at _ (ub_ne (h r (by simp))), ub_len]
    have hcut : (strOfNums (jo (r :: q :: l))).extract (r.length + (⟨#[10]⟩ : ByteArray).size) (strOfNums (jo (r :: q :: l))).size = strOfNums (jo (q :: l)) := by
      rw [str_cut, jo_size]
      congr 1
      show ((r ++ 10 :: jo (q :: l)).drop (r.length + 1)).take _ = _
      rw [show r ++ 10 :: jo (q :: l) = (r ++ [10]) ++ jo (q :: l) by simp, show r.length + 1 = (r ++ [10]).length by simp, List.drop_left, List.take_of_length_le]
      have e10 : (⟨#[10]⟩ : ByteArray).size = 1 := rfl
      rw [List.length_append, List.length_cons, List.length_nil, e10]
      omega
    rw [Lib.countB_hit _ _ r.length (by decide) hi, hcut, Nat.add_comm 1, Lib.splitB_hit _ _ _ _ _ hi, hcut, i1, Nat.add_zero]
    refine ⟨?_, by rw [i2]; rfl⟩
    rw [str_cut, List.map_cons]
    congr 2
    show ((r ++ 10 :: jo (q :: l)).drop 0).take (r.length - 0) = r
    rw [List.drop_zero, Nat.sub_zero, List.take_left]
theorem join_jo : ∀ (L : List (List Int)), Lib.join ((L.map strOfNums).map (·.data.toList)) [10] = ub (jo L)
  | [] => rfl
  | [r] => by
    rw [List.map_cons, List.map_nil, List.map_cons, List.map_nil, Lib.join_one, ub_str, jo]
  | r :: q :: l => by
    have ih := join_jo (q :: l)
    rw [List.map_cons, List.map_cons] at ih ⊢
    rw [List.map_cons, List.map_cons]
    have e : ∀ (x y : List UInt8) (Y : List (List UInt8)), Lib.join (x :: y :: Y) [10] = x ++ 10 :: Lib.join (y :: Y) [10] := fun x y Y => by simp [Lib.join, List.intercalate]
    rw [e, ih, ub_str, jo, ub_app]
    rfl
theorem trim_ten (Z : List Int) : (⟨(Lib.trimSuffix (strOfNums (Z ++ [10])).data.toList [10]).toArray⟩ : ByteArray) = strOfNums Z := by
  have e : (strOfNums (Z ++ [10])).data.toList = ub Z ++ [10] := by rw [ub_str, ub_app]; rfl
  rw [e]
  unfold Lib.trimSuffix Lib.hasSuffix
  rw [if_pos (by rw [List.isSuffixOf_iff_suffix]; exact ⟨_, rfl⟩), List.length_append, List.length_cons, List.length_nil, Nat.add_sub_cancel, List.take_left]
  exact str_ub Z
theorem flat_jo {α : Type} (row : α → List Int) : ∀ l : List α, l ≠ [] → flat row l = jo (l.map row) ++ [10]
  | [], h => absurd rfl h
  | [x], _ => by simp [flat, jo]
  | x :: y :: l, _ => by
    have ih := flat_jo row (y :: l) (by simp)
    rw [flat, ih]
    show row x ++ [10] ++ (jo (row y :: l.map row) ++ [10]) = (row x ++ 10 :: jo (row y :: l.map row)) ++ [10]
    simp only [List.append_assoc, List.cons_append, List.nil_append]
theorem dmp_flat (c g : Nat) : ∀ l : List Pt, dmp c g l = flat (fun x : Pt => rowd c g x.1.1 x.1.2) l
  | [] => rfl
  | x :: l => by rw [dmp, flat, ln_row, dmp_flat c g l]
theorem Ln_cut {α : Type} (f : α → Nat × ByteArray) (row : α → List Int) (Z : List Int) (hZ : ∀ z ∈ Z, 0 ≤ z ∧ z < 256) : ∀ (xs : List α) (P : List Int), Z ++ [10] = P ++ flat row xs → (∀ x ∈ xs, 0 < (row x).length) → Ch f row P.length xs → Ln f (strOfNums Z) P.length xs
  | [], P, h, _, _ => Ln.fin _ (by
      have := congrArg List.length h
      rw [List.length_append, List.length_append] at this
      simp only [flat, List.length_cons, List.length_nil] at this
      rw [strOfNums_size]
      omega)
  | x :: l, P, h, hne, hc => by
    obtain ⟨h1, h2, h3⟩ := hc
    have h0 := hne x (by simp)
    have hz : Z ++ [10] = P ++ row x ++ ([10] ++ flat row l) := by rw [h, flat]; simp only [List.append_assoc]
    have hlen : Z.length = P.length + (row x).length + (flat row l).length := by
      have := congrArg List.length hz
      simp only [List.length_append, List.length_cons, List.length_nil] at this
      omega
    have hget : ∀ j, j < Z.length → sb (strOfNums Z) j = (P ++ row x ++ ([10] ++ flat row l)).getD j 0 := fun j hj => by
      rw [sb_str hZ, ← hz, List.getD_eq_getElem?_getD, List.getD_eq_getElem?_getD, List.getElem?_append_left hj]
    have hcut : (strOfNums Z).extract P.length (P.length + (row x).length) = strOfNums (row x) := by
      rw [str_cut]
      congr 1
      have e : (Z.drop P.length).take (P.length + (row x).length - P.length) = ((Z ++ [10]).drop P.length).take (P.length + (row x).length - P.length) := by
        rw [List.drop_append_of_le_length (by omega), List.take_append_of_le_length (by rw [List.length_drop]; omega)]
      rw [e, hz, List.append_assoc, List.drop_left, Nat.add_sub_cancel_left, List.take_left]
    refine Ln.step P.length (P.length + (row x).length) x l (by rw [strOfNums_size]; omega) (by omega) (by rw [strOfNums_size]; omega) (by rw [h1, hcut]) (fun j hj1 hj2 => ?_) ?_ ?_
    · rw [hget j (by omega), show j = P.length + (j - P.length) by omega, getD_mid _ _ _ _ (by omega)]
      exact h2 _ (getD_mem (by omega))
    · by_cases he : P.length + (row x).length = Z.length
      · exact Or.inl (by rw [strOfNums_size]; exact he)
      · right
        rw [hget _ (by omega), List.append_assoc, List.getD_eq_getElem?_getD, List.getElem?_append_right (by omega), Nat.add_sub_cancel_left, List.getElem?_append_right (Nat.le_refl _), Nat.sub_self]
        rfl
    · have h4 := Ln_cut f row Z hZ l (P ++ row x ++ [10]) (by rw [hz]; simp only [List.append_assoc]) (fun y hy => hne y (by simp [hy])) (by simpa [Nat.add_assoc] using h3)
      simpa [Nat.add_assoc] using h4
/-- Bytes put over others. -/
theorem putL_mid : ∀ (zs : List Nat) (t : List Int) (k : Nat), k + zs.length ≤ t.length → putL t k zs = t.take k ++ zs.map (fun z : Nat => (z : Int)) ++ t.drop (k + zs.length)
  | [], t, k, _ => by rw [putL]; simp
  | z :: zs, t, k, h => by
    rw [List.length_cons] at h
    have e : padL t k = t := by unfold padL; rw [show k + 1 - t.length = 0 by omega]; simp
    have ih := putL_mid zs (t.set k (z : Int)) (k + 1) (by rw [List.length_set]; omega)
    rw [putL, e, ih, List.length_cons, List.map_cons]
    have e1 : (t.set k (z : Int)).take (k + 1) = t.take k ++ [(z : Int)] := by
      rw [List.take_add_one, List.take_set_of_le (Nat.le_refl _), List.getElem?_set_self (by omega)]
      rfl
    have e2 : (t.set k (z : Int)).drop (k + 1 + zs.length) = t.drop (k + (zs.length + 1)) := by
      rw [List.drop_set_of_lt (by omega)]
      congr 1
      omega
    rw [e1, e2]
    simp only [List.append_assoc, List.cons_append, List.nil_append]
/-- Bytes put where nothing stands yet. -/
theorem putL_new (z : Nat) (zs : List Nat) (k : Nat) : putL [] k (z :: zs) = List.replicate k 0 ++ (z :: zs).map (fun z : Nat => (z : Int)) := by
  have e : (padL [] k).set k (z : Int) = List.replicate k 0 ++ [(z : Int)] := by
    unfold padL
    rw [List.nil_append, List.length_nil, Nat.sub_zero, List.replicate_succ', List.set_append_right _ _ (by simp)]
    simp
  have h := putL_app zs (List.replicate k 0 ++ [(z : Int)])
  rw [List.length_append, List.length_replicate, List.length_cons, List.length_nil] at h
  rw [putL, e, h]
  simp
end Go.Proofs.YtmchpmfogjhpoabDoor.xo
