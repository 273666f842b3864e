/- Lines that can be read, one behind the other: what they tell. -/
import Derived.Test.YtmchpmfogjhpoabDoorXl3
import Derived.Test.YtmchpmfogjhpoabDoorXl5
import Derived.Test.YtmchpmfogjhpoabDoorDigs2
namespace Go.Proofs.YtmchpmfogjhpoabDoor.xl
set_option linter.unusedVariables false
open Go.ChangeShapes Go.WideShapes Go.ChangeAt Go.RowKit Go.Shelf
open mem rows bld
open dig (dv pv okD)

theorem putL_len : ∀ (zs : List Nat) (t : List Int) (k : Nat), (putL t k zs).length ≤ max t.length (k + zs.length)
  | [], t, k => by rw [putL]; omega
  | z :: zs, t, k => by
    have h := putL_len zs ((padL t k).set k (z : Int)) (k + 1)
    rw [List.length_set, padL_len] at h
    rw [putL, List.length_cons]
    omega
/-- A line that can be read (b: with its place ahead): where it begins, its bytes; the place, and what it tells. -/
def Good (b : Bool) (mx : Nat) (x : (Nat × ByteArray) × (Nat × List Nat)) : Prop :=
  x.1.1 ≤ 2000000 ∧ x.1.2.size ≤ 5000 ∧ x.2.2.length ≤ mx ∧
    (if b = true then ∃ k, k < x.1.2.size ∧ sb x.1.2 k = 58 ∧ (∀ j, j < k → sb x.1.2 j ≠ 58) ∧ okD 16 (x.1.2.extract 0 k) ∧ pv 16 (x.1.2.extract 0 k) k = x.2.1 ∧ x.2.1 + x.2.2.length ≤ 4000 ∧ Rd (x.1.2.extract (k + 1) x.1.2.size) 0 x.2.2
     else (∀ j, j < x.1.2.size → sb x.1.2 j ≠ 58) ∧ Rd x.1.2 0 x.2.2)
abbrev Lt (b : Bool) (mx : Nat) := { x : (Nat × ByteArray) × (Nat × List Nat) // Good b mx x }
/-- What was told, and what a line tells. -/
def eff (b : Bool) (t : List Int) (x : Nat × List Nat) : List Int := putL t (if b = true then x.1 else t.length) x.2
/-- What lines tell. -/
def ap {b : Bool} {mx : Nat} (l : List (Lt b mx)) : List Int := l.foldl (fun t x => eff b t x.1.2) []
theorem ap_snoc {b : Bool} {mx : Nat} (l : List (Lt b mx)) (x : Lt b mx) : ap (l ++ [x]) = eff b (ap l) x.1.2 := by
  unfold ap
  rw [List.foldl_append]
  rfl
theorem ap_len {b : Bool} {mx : Nat} : ∀ (n : Nat) (l : List (Lt b mx)), l.length = n → (ap l).length ≤ if b = true then 4000 else mx * n
  | 0, l, h => by
    have : l = [] := List.eq_nil_of_length_eq_zero h
    subst this
    simp [ap]
  | n + 1, l, h => by
    obtain ⟨l', x, rfl⟩ : ∃ l' x, l = l' ++ [x] := ⟨l.dropLast, l.getLast (fun e => by rw [e] at h; cases h), (List.dropLast_concat_getLast _).symm⟩
    have hl : l'.length = n := by rw [List.length_append] at h; simpa using h
    have ih := ap_len n l' hl
    obtain ⟨x, h1, h2, h3, h4⟩ := x
    rw [ap_snoc]
    unfold eff
    have hp := putL_len x.2.2 (ap l') (if b = true then x.2.1 else (ap l').length)
    cases b with
    | true =>
      rw [if_pos rfl] at ih h4
      obtain ⟨k, _, _, _, _, _, h5, _⟩ := h4
      simp only [if_true] at hp ⊢
      omega
    | false =>
      rw [if_neg (by decide)] at ih
      simp only [Bool.false_eq_true, if_false] at hp ⊢
      rw [Nat.mul_succ]
      omega
end Go.Proofs.YtmchpmfogjhpoabDoor.xl
