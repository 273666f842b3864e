/- Lines as rows of numbers, and that they are read as the bytes that they show. -/
import Derived.Test.YtmchpmfogjhpoabDoorXl7
import Derived.Test.YtmchpmfogjhpoabDoorXd3
import Derived.Test.YtmchpmfogjhpoabDoorXd4
namespace Go.Proofs.YtmchpmfogjhpoabDoor.xb
set_option linter.unusedVariables false
open Go.ChangeShapes Go.WideShapes Go.ChangeAt Go.RowKit
open mem rows xd xl
open dig (dv ch pr pr_len pv okD dv_ch)
open digs (hexL hexL_len)
open shown (shL shL_len)

theorem sb_str {Z : List Int} (h : ∀ z ∈ Z, 0 ≤ z ∧ z < 256) (j : Nat) : sb (strOfNums Z) j = Z.getD j 0 := by
  rw [← bs_get, bs_str h]
theorem str_cut (l : List Int) (a b : Nat) : (strOfNums l).extract a b = strOfNums ((l.drop a).take (b - a)) := by
  apply ByteArray.ext
  apply Array.ext'
  rw [ByteArray.data_extract, Array.toList_extract, List.extract_eq_take_drop, strOfNums_data, strOfNums_data, List.map_take, List.map_drop]
/-- Rows, each with a line feed behind it. -/
def flat {α : Type} (row : α → List Int) : List α → List Int
  | [] => []
  | x :: l => row x ++ [10] ++ flat row l
/-- Each line is told where it stands, and has no line feed. -/
def Ch {α : Type} (f : α → Nat × ByteArray) (row : α → List Int) : Nat → List α → Prop
  | _, [] => True
  | a, x :: l => f x = (a, strOfNums (row x)) ∧ (∀ z ∈ row x, z ≠ 10) ∧ Ch f row (a + (row x).length + 1) l
theorem getD_mid (P R Q : List Int) (j : Nat) (h : j < R.length) : (P ++ R ++ Q).getD (P.length + j) 0 = R.getD j 0 := by
  rw [List.append_assoc, List.getD_eq_getElem?_getD, List.getElem?_append_right (by omega), Nat.add_sub_cancel_left, List.getElem?_append_left h, ← List.getD_eq_getElem?_getD]
theorem getD_mem {R : List Int} {j : Nat} (h : j < R.length) : R.getD j 0 ∈ R := by
  rw [List.getD_eq_getElem?_getD, List.getElem?_eq_getElem h]
  exact List.getElem_mem h
theorem Ln_of {α : Type} (f : α → Nat × ByteArray) (row : α → List Int) (Z : List Int) (hZ : ∀ z ∈ Z, 0 ≤ z ∧ z < 256) : ∀ (xs : List α) (P : List Int), Z = P ++ flat row xs → Ch f row P.length xs → Ln f (strOfNums Z) P.length xs
  | [], P, h, _ => Ln.fin _ (by rw [strOfNums_size, h]; simp [flat])
  | x :: l, P, h, hc => by
    obtain ⟨h1, h2, h3⟩ := hc
    have hz : Z = P ++ row x ++ ([10] ++ flat row l) := by rw [h, flat]; simp only [List.append_assoc]
    have hlen : Z.length = P.length + (row x).length + 1 + (flat row l).length := by rw [hz]; simp only [List.length_append, List.length_cons, List.length_nil]; omega
    have hcut : (strOfNums Z).extract P.length (P.length + (row x).length) = strOfNums (row x) := by
      rw [str_cut, hz, List.append_assoc, List.drop_left, Nat.add_sub_cancel_left, List.take_left]
    refine Ln.step P.length (P.length + (row x).length) x l (by rw [strOfNums_size]; omega) (by omega) (by rw [strOfNums_size]; omega) (by rw [h1, hcut]) (fun j hj1 hj2 => ?_) (Or.inr ?_) ?_
    · rw [sb_str hZ, hz, show j = P.length + (j - P.length) by omega, getD_mid _ _ _ _ (by omega)]
      exact h2 _ (getD_mem (by omega))
    · rw [sb_str hZ, hz, List.append_assoc, List.getD_eq_getElem?_getD, List.getElem?_append_right (by omega), Nat.add_sub_cancel_left, List.getElem?_append_right (Nat.le_refl _), Nat.sub_self]
      rfl
    · have h4 := Ln_of f row Z hZ l (P ++ row x ++ [10]) (by rw [hz]; simp only [List.append_assoc]) (by simpa [Nat.add_assoc] using h3)
      simpa [Nat.add_assoc] using h4
/-- A text's bytes, without a sign. -/
def by_ (p : ByteArray) : List Nat := (List.range p.size).map fun i => (sb p i).toNat
theorem by_len (p : ByteArray) : (by_ p).length = p.size := by simp [by_]
theorem by_bs (p : ByteArray) : (by_ p).map (fun z : Nat => (z : Int)) = bs p := by
  rw [bs_all]
  unfold by_
  rw [List.map_map]
  apply List.map_congr_left
  intro i _
  have := sb_bd p i
  show (((sb p i).toNat : Nat) : Int) = sb p i
  omega
theorem by_drop (p : ByteArray) (j : Nat) (h : j < p.size) : (by_ p).drop j = (sb p j).toNat :: (by_ p).drop (j + 1) := by
  have hl : j < (by_ p).length := by rw [by_len]; exact h
  rw [List.drop_eq_getElem_cons hl]
  simp [by_]
theorem putL_app : ∀ (zs : List Nat) (t : List Int), putL t t.length zs = t ++ zs.map (fun z : Nat => (z : Int))
  | [], t => by rw [putL]; simp
  | z :: zs, t => by
    have e : (padL t t.length).set t.length (z : Int) = t ++ [(z : Int)] := by
      unfold padL
      rw [Nat.add_sub_cancel_left, List.set_append_right _ _ (Nat.le_refl _), Nat.sub_self]
      rfl
    have ih := putL_app zs (t ++ [(z : Int)])
    rw [List.length_append, List.length_cons, List.length_nil] at ih
    rw [putL, e, ih]
    simp
theorem ch_bd (d : Nat) (h : d < 16) : (48 ≤ ch d ∧ ch d ≤ 57) ∨ (97 ≤ ch d ∧ ch d ≤ 102) := by
  unfold ch
  split <;> omega
theorem hi_lo (p : ByteArray) (j : Nat) : (sb p j).toNat / 16 < 16 ∧ (sb p j).toNat % 16 < 16 ∧ (sb p j).toNat / 16 * 16 + (sb p j).toNat % 16 = (sb p j).toNat := by
  have := sb_bd p j
  omega
/-- Two digits are a byte, wherever they stand. -/
theorem Rd_byte {Y : List Int} (hY : ∀ z ∈ Y, 0 ≤ z ∧ z < 256) (p : ByteArray) (j i : Nat) (P Q : List Int) (hP : P.length = i) (h : Y = P ++ hx p j ++ Q) (zs : List Nat) (hr : Rd (strOfNums Y) (i + 2) zs) : Rd (strOfNums Y) i ((sb p j).toNat :: zs) := by
  obtain ⟨h1, h2, h3⟩ := hi_lo p j
  have hl : Y.length = i + 2 + Q.length := by rw [h]; simp only [List.length_append, hP]; rfl
  have e0 : sb (strOfNums Y) i = ch ((sb p j).toNat / 16) := by
    rw [sb_str hY, h, ← hP]
    have := getD_mid P (hx p j) Q 0 (by show 0 < 2; omega)
    rw [Nat.add_zero] at this
    exact this
  have e1 : sb (strOfNums Y) (i + 1) = ch ((sb p j).toNat % 16) := by
    rw [sb_str hY, h, ← hP]
    exact getD_mid P (hx p j) Q 1 (by show 1 < 2; omega)
  have hb := ch_bd _ h1
  rw [← h3]
  exact Rd.byte i _ _ zs (by rw [strOfNums_size]; omega) (by rw [e0]; omega) (by rw [e0, dv_ch _ h1]) (by rw [e1, dv_ch _ h2]) hr
end Go.Proofs.YtmchpmfogjhpoabDoor.xb
