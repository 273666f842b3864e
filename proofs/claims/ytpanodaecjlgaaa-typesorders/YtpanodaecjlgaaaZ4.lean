/- Texts laid together: Lx1, LayI, Lx2, LayP. -/
import Derived.Test.YtpanodaecjlgaaaZ3
import Derived.WalkLawsBesides
import Derived.Shelf.Small.Strs
import Derived.Test.YtpanodaecjlgaaaChecked
import Derived.Shelf.Strings.Prefix
/- letter, digit, lineEnd and begin of package lex. -/
namespace Go.Proofs.Ytpanodaecjlgaaa.lx
set_option linter.unusedVariables false
open Go.ChangeShapes Go.WideShapes Go.ChangeAt Go.RowKit
open mem

theorem ret_bool {a b : Bool} (h : a = b) : Ending.returned (.bool a) = .returned (.bool b) := by rw [h]
theorem L_get (s : ByteArray) (i : Nat) (h : i < s.size) : (L s)[i]? = some (s[i]'h) := by
  have h' : i < (L s).length := by rw [L_len]; exact h
  rw [List.getElem?_eq_getElem h']
  rfl
theorem beq_sb (s : ByteArray) (i : Nat) (h : i < s.size) (c : UInt8) : ((((s[i]'h).toNat : Nat) : Int) == (c.toNat : Int)) = ((s[i]'h) == c) := by
  rw [Bool.eq_iff_iff, beq_iff_eq, beq_iff_eq]
  constructor
  · intro h; exact UInt8.toNat_inj.1 (by omega)
  · intro h; rw [h]
end Go.Proofs.Ytpanodaecjlgaaa.lx
namespace Go.Proofs.Ytpanodaecjlgaaa
end Go.Proofs.Ytpanodaecjlgaaa
/- lineEnd and begin of package lex. -/
namespace Go.Proofs.Ytpanodaecjlgaaa.lx
set_option linter.unusedVariables false
open Go.ChangeShapes Go.WideShapes Go.ChangeAt Go.RowKit
open mem

theorem index_rl (l : List UInt8) : (Lib.indexByte l 10 = -1 ∧ rl l = l.length) ∨ (Lib.indexByte l 10 = (rl l : Int) ∧ rl l < l.length) := by
  induction l with
  | nil => exact Or.inl ⟨rfl, rfl⟩
  | cons c l ih =>
    unfold Lib.indexByte
    by_cases h : (c == 10) = true
    · rw [if_pos h]
      have e : rl (c :: l) = 0 := by unfold rl; rw [List.takeWhile_cons_of_neg (by simp at h; simp [h])]; rfl
      rw [e]
      exact Or.inr ⟨rfl, by simp⟩
    · rw [if_neg h]
      have e : rl (c :: l) = rl l + 1 := by unfold rl; rw [List.takeWhile_cons_of_pos (by simp at h; simp [h])]; rfl
      rw [e]
      rcases ih with ⟨h1, h2⟩ | ⟨h1, h2⟩
      · rw [h1]; left; exact ⟨rfl, by simp [h2]⟩
      · rw [h1]; right
        rw [if_neg (by intro h; rw [beq_iff_eq] at h; omega)]
        exact ⟨by omega, by simp; omega⟩
theorem ret_int {a b : Int} (h : a = b) : Ending.returned (.int .i64 a) = .returned (.int .i64 b) := by rw [h]
theorem byte_is (s : ByteArray) (k : Nat) (h : k < s.size) (c : UInt8) (hc : sb s k = (c.toNat : Int)) : (L s)[k]? = some c := by
  rw [L_get s k h]
  rw [sb_get s k h] at hc
  rw [UInt8.toNat_inj.1 (show (s[k]'h).toNat = c.toNat by omega)]
theorem gap_none (s : ByteArray) (k : Nat) (h : k < s.size) (h1 : sb s k ≠ 32) (h2 : sb s k ≠ 10) (h3 : sb s k ≠ 9) (h4 : sb s k ≠ 35) : gap ((L s).drop k) = 0 := by
  rw [drop_cons (L s) k _ (L_get s k h), gap_cons]
  rw [sb_get s k h] at h1 h2 h3 h4
  generalize s[k]'h = c at *
  have e1 : isB c = false := by
    unfold isB
    simp only [Bool.or_eq_false_iff, beq_eq_false_iff_ne]
    refine ⟨⟨?_, ?_⟩, ?_⟩
    · rintro rfl; exact h1 rfl
    · rintro rfl; exact h2 rfl
    · rintro rfl; exact h3 rfl
  have e2 : (c == 35) = false := by
    rw [beq_eq_false_iff_ne]
    rintro rfl; exact h4 rfl
  rw [e1, e2]
  rfl
theorem dr_trans {a b c : World} (h : Dr a b) (k : Dr b c) : Dr a c := by
  obtain ⟨q, rfl⟩ := k
  exact Dr.drewN q h
/-- Where the next token begins. -/
def Beg (l : List UInt8) (I b : Nat) : Prop := I ≤ b ∧ b ≤ l.length ∧ lx (l.drop b) b = lx (l.drop I) I ∧ (b = l.length ∨ b < l.length ∧ gap (l.drop b) = 0)
end Go.Proofs.Ytpanodaecjlgaaa.lx
/- The library's own texts that a call comes to, as this program has them: laid on the shelf's. -/
namespace Go.Proofs.Ytpanodaecjlgaaa.layP
open Go.Shelf
def rf : FuncId → FuncId
  | 99 => 47
  | 206 => 54
  | x => x
def rt : TypeId → TypeId
  | 3 => 3
  | 4 => 4
  | 9 => 9
  | x => x
def rg : Nat → Nat

  | x => x
def ren : Ren := ⟨rf, rt, rg⟩
set_option maxRecDepth 100000 in
theorem laid : Lays.n99 Try.prog ren where
  mixed := by kernel_rfl
  f99 := by kernel_rfl
  f206 := by kernel_rfl
  t3 := by kernel_rfl
  a3 := fun _ => by kernel_rfl
  z3 := fun _ => by kernel_rfl
  v3 := fun _ => by kernel_rfl
  t4 := by kernel_rfl
  a4 := fun _ => by kernel_rfl
  z4 := fun _ => by kernel_rfl
  v4 := fun _ => by kernel_rfl
  t9 := by kernel_rfl
  a9 := fun _ => by kernel_rfl
  z9 := fun _ => by kernel_rfl
  v9 := fun _ => by kernel_rfl
end Go.Proofs.Ytpanodaecjlgaaa.layP
