/- Texts that stand again and again; pick of the laws. -/
import Derived.Test.YtmchpmfogjhpoaaLz9
import Derived.Test.YtmchpmfogjhpoaaLayR
namespace Go.Proofs.Ytmchpmfogjhpoaa.lz
set_option linter.unusedVariables false
open Go.ChangeShapes Go.WideShapes Go.ChangeAt Go.RowKit Go.Shelf
open mem rows

def pik (a : Int) (n : Nat) : Nat := ((a % 18446744073709551616) % (n : Int)).toNat
theorem pik_lt (a : Int) (n : Nat) (hn : 0 < n) : pik a n < n := by
  unfold pik
  have h2 := Int.emod_lt_of_pos (a % 18446744073709551616) (show (0 : Int) < (n : Int) by omega)
  have h3 := Int.emod_nonneg (a % 18446744073709551616) (show (n : Int) ≠ 0 by omega)
  omega
theorem pick_at (a : Int) (n : Nat) (w : World) (hn : 0 < n) (hn' : n ≤ 2147483648) : Calls Try.prog 9 #[.int .i64 a, .int .i64 n] w fun e w' => e = .returned (.int .i64 (pik a n)) ∧ w' = w := by
  go_enter Try.func9, Try.ntmps9
  go_wp2
  go_ret
  refine ⟨ret_int ?_, rfl⟩
  have h0 : 0 ≤ a % 18446744073709551616 := by omega
  have h1 := pik_lt a n hn
  have h2 := Int.emod_nonneg (a % 18446744073709551616) (show (n : Int) ≠ 0 by omega)
  rw [IntKind.wrap_u64, Int.tmod_eq_emod_of_nonneg h0]
  unfold pik at h1 ⊢
  unfold wrap64
  omega
/-- A text, c times. -/
def rp (s : ByteArray) (c : Nat) : ByteArray := ⟨(Lib.repeatL s.data.toList c).toArray⟩
theorem rp_size (s : ByteArray) (c : Nat) : (rp s c).size = c * s.size := by
  show (Lib.repeatL s.data.toList c).toArray.size = _
  rw [List.size_toArray, Lib.repeatL_length]
  rfl
theorem rp_per (s : ByteArray) (c : Nat) : Per (sb (rp s (c + 1))) (rp s (c + 1)).size s.size := by
  intro i hi
  rw [rp_size, Nat.succ_mul] at hi
  have e1 : (rp s (c + 1)).data.toList = s.data.toList ++ Lib.repeatL s.data.toList c := rfl
  have e2 : (rp s (c + 1)).data.toList = Lib.repeatL s.data.toList c ++ s.data.toList := by
    show Lib.repeatL s.data.toList (c + 1) = _
    rw [Lib.repeatL_add, Lib.repeatL_one]
  have hl : s.data.toList.length = s.size := rfl
  unfold sb
  conv => lhs; rw [e1, List.getD_eq_getElem?_getD, List.getElem?_append_right (by rw [hl]; omega), hl, Nat.add_sub_cancel]
  conv => rhs; rw [e2, List.getD_eq_getElem?_getD, List.getElem?_append_left (by rw [Lib.repeatL_length, hl]; omega)]
theorem rp_cost (s : ByteArray) (c : Nat) (h1 : 1 ≤ s.size) (h2 : s.size ≤ 100) : (packL (rp s (c + 1))).length ≤ s.size + (s.size + 3) / 4 + 3 * (c * s.size / 130 + 2) := by
  have h := per_all (rp_per s c) h1 (by omega) (by rw [rp_size, Nat.succ_mul]; omega) 0 0 (by omega) (Nat.le_refl _)
  have e : (rp s (c + 1)).size - s.size = c * s.size := by rw [rp_size, Nat.succ_mul]; omega
  rw [e] at h
  unfold packL
  generalize c * s.size / 130 = Q at *
  omega
theorem repeat_at (s : ByteArray) (c : Nat) (w : World) (hc : c ≤ 100) (hs : s.size ≤ 100) :
    Calls Try.prog 10 #[.string s, .int .i64 (c : Int)] w fun e w' => e = .returned (.string (rp s c)) ∧ Bl w w' :=
  Any.strings_Repeat layR.laid105 layR.extra s c w (by omega) (by
    have : s.size * c ≤ 100 * 100 := Nat.mul_le_mul hs hc
    omega)
end Go.Proofs.Ytmchpmfogjhpoaa.lz
