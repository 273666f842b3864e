/- What put of package xxd answers, where a line can be read. -/
import Derived.Test.YtmchpmfogjhpoabDoorXl1
namespace Go.Proofs.YtmchpmfogjhpoabDoor.xl
set_option linter.unusedVariables false
open Go.ChangeShapes Go.WideShapes Go.ChangeAt Go.RowKit Go.Shelf
open mem rows bld
open dig (dv)

/-- From place i on a line tells these bytes, and then ends. -/
inductive Rd (x : ByteArray) : Nat → List Nat → Prop
  | fin (i : Nat) : x.size ≤ i → Rd x i []
  | two (i : Nat) : 0 < i → i + 1 < x.size → sb x i = 32 → sb x (i + 1) = 32 → Rd x i []
  | one (i : Nat) (zs : List Nat) : i < x.size → sb x i = 32 → (i = 0 ∨ ¬ (i + 1 < x.size ∧ sb x (i + 1) = 32)) → Rd x (i + 1) zs → Rd x i zs
  | byte (i h l : Nat) (zs : List Nat) : i + 1 < x.size → sb x i ≠ 32 → dv (sb x i) = (h : Int) → dv (sb x (i + 1)) = (l : Int) → Rd x (i + 2) zs → Rd x i ((h * 16 + l) :: zs)
/-- A row of bytes, with noughts up to place k. -/
def padL (t : List Int) (k : Nat) : List Int := t ++ List.replicate (k + 1 - t.length) 0
theorem padL_len (t : List Int) (k : Nat) : (padL t k).length = max t.length (k + 1) := by
  unfold padL
  rw [List.length_append, List.length_replicate]
  omega
/-- A row of bytes, with others from place k on. -/
def putL (t : List Int) (k : Nat) : List Nat → List Int
  | [] => t
  | z :: zs => putL ((padL t k).set k (z : Int)) (k + 1) zs
theorem hp_two (y : ByteArray) (h : 0 < y.size) (h0 : sb y 0 = 32) : Lib.hasPrefix y.data.toList [32, 32] = decide (1 < y.size ∧ sb y 1 = 32) := by
  have hs : y.size = y.data.toList.length := rfl
  have e0 : sb y 0 = ((y.data.toList.getD 0 0).toNat : Int) := rfl
  have e1 : sb y 1 = ((y.data.toList.getD 1 0).toNat : Int) := rfl
  rw [hs] at h ⊢
  rw [e0] at h0
  rw [e1]
  unfold Lib.hasPrefix
  cases hl : y.data.toList with
  | nil => rw [hl] at h; exact absurd h (by decide)
  | cons a l =>
    rw [hl] at h0
    have ha : a = 32 := by
      apply UInt8.toNat_inj.1
      have : (a.toNat : Int) = 32 := h0
      exact_mod_cast this
    subst ha
    cases l with
    | nil => rfl
    | cons b m =>
      by_cases hb : b = 32
      · subst hb
        simp [List.isPrefixOf]
      · have hne : ¬ ((b.toNat : Int) = 32) := fun e => hb (by
          apply UInt8.toNat_inj.1
          exact_mod_cast e)
        have h3 : (32 == b) = false := by rw [beq_eq_false_iff_ne]; exact fun e => hb e.symm
        rw [decide_eq_false (fun h => hne h.2)]
        simp [List.isPrefixOf, h3]
theorem prefix_at (y : ByteArray) (w : World) (h : 0 < y.size) (h0 : sb y 0 = 32) :
    Calls Tryd.prog 43 #[.string y, .string ⟨#[32, 32]⟩] w fun e w' => e = .returned (.bool (decide (1 < y.size ∧ sb y 1 = 32))) ∧ w' = w := by
  have := Any.strings_HasPrefix lay.laid99 y ⟨#[32, 32]⟩ w
  rw [show (⟨#[32, 32]⟩ : ByteArray).data.toList = [32, 32] from rfl, hp_two y h h0] at this
  exact this
theorem sb_tail (x : ByteArray) (i t : Nat) (h : i + t < x.size) : sb (x.extract i x.size) t = sb x (i + t) := by
  have h1 : t < (x.extract i x.size).size := by rw [ByteArray.size_extract]; omega
  rw [sb_get _ _ h1, sb_get _ _ h, ByteArray.getElem_extract]
end Go.Proofs.YtmchpmfogjhpoabDoor.xl
