/- The document's letters, digits and names; no fault; one byte among others. -/
import Derived.Test.YtfngcphklfjhjaaDoorLx5
import Derived.Test.YtfngcphklfjhjaaDoorLayK
import Derived.Laws.Rows
import Derived.Laws.ResultCell
import Derived.Deep.CutRange
namespace Go.Proofs.YtfngcphklfjhjaaDoor.lx
set_option linter.unusedVariables false
open Go.ChangeShapes Go.WideShapes Go.ChangeAt Go.RowKit
open mem

theorem refLetter_at (x : Int) (w : World) : Calls Tryd.prog 25 #[.int .u8 x] w fun e w' => e = .returned (.bool (lt x)) ∧ w' = w := by
  go_enter Tryd.func25, Tryd.ntmps25
  go_wp2
  all_goals
    go_ret
    refine ⟨ret_bool ?_, rfl⟩
    rw [Bool.eq_iff_iff]
    simp [lt]
    try omega
theorem refDigit_at (x : Int) (w : World) : Calls Tryd.prog 26 #[.int .u8 x] w fun e w' => e = .returned (.bool (dg x)) ∧ w' = w := by
  go_enter Tryd.func26, Tryd.ntmps26
  go_wp2
  all_goals
    go_ret
    refine ⟨ret_bool ?_, rfl⟩
    rw [Bool.eq_iff_iff]
    simp [dg]
    try omega
theorem IsName_at (s : ByteArray) (w : World) : Calls Tryd.prog 12 #[.string s] w fun e w' => e = .returned (.bool (nmb (L s))) ∧ w' = w := by
  by_cases h0 : 0 < s.size
  · have e1 : (((s[0]'h0).toNat : Nat) : Int) = sb s 0 := (sb_get s 0 h0).symm
    have c1 := refLetter_at (sb s 0)
    have hnm : lt (sb s 0) = nmb (L s) := by
      unfold nmb
      have := L_get s 0 h0
      rw [List.head?_eq_getElem?, this, sb_get s 0 h0]
      rfl
    rw [hnm] at c1
    have hne : (s.toList == []) = false := by
      rw [beq_eq_false_iff_ne, ByteArray.toList_eq]
      intro e
      have := congrArg List.length e
      simp at this
      have h3 : s.size = 0 := by simpa using this
      omega
    go_enter Tryd.func12, Tryd.ntmps12
    go_wp2_with fail
    refine (c1 _).mono ?_
    rintro e w' ⟨rfl, rfl⟩
    go_wp2
    go_ret
    exact ⟨rfl, rfl⟩
  · obtain rfl : s = ⟨#[]⟩ := by
      have h : s.size = 0 := by omega
      exact L_inj (List.eq_nil_of_length_eq_zero (by rw [L_len]; exact h))
    go_enter Tryd.func12, Tryd.ntmps12
    go_wp2
    go_ret
    exact ⟨rfl, rfl⟩
def flt (c p : Int) : Value := .agg #[.int .i64 c, .int .i64 p]
theorem infoF : (Tryd.prog.info? 26).map (·.size) = some 2 := by kernel_rfl
theorem ldF (w : World) (B : Nat) (x y : Value) (h : w.heap[B]? = some (.cells #[x, y] 26 (0, 0))) : (loadVar 26 ⟨B, 0, none⟩).run Tryd.prog w = .ok (.agg #[x, y]) w :=
  run_loadVar_mid w B 0 26 [x, y] _ (fun j v hv => by
    rcases j with _ | _ | j
    · simp at hv; subst hv; rw [cell_of h]; rfl
    · simp at hv; subst hv; rw [cell_of h]; rfl
    · simp at hv) Tryd.underlying26 rfl infoF
theorem Good_at (w : World) : Calls Tryd.prog 29 #[] w fun e w' => e = .returned (flt 0 (-1)) ∧ Bl w w' := by
  go_enter Tryd.func29, Tryd.ntmps29
  go_wp2
  exact bodyPost_ret (v := flt 0 (-1)) (results_cell_row rfl _ _ w.heap.size 26 #[.int .i64 0, .int .i64 (-1)] (0, 0) _ rfl (new_at w _) Tryd.underlying26 rfl infoF) rfl ⟨rfl, (Bl.refl _).alloc _⟩
set_option maxRecDepth 100000 in
theorem one_byte (c : UInt8) (w : World) : Calls Tryd.prog 27 #[.string ⟨#[123, 125, 91, 93, 40, 41, 59, 44, 61, 43, 45, 42, 38, 124, 60, 62]⟩, .string ⟨#[c]⟩] w fun e w' => e = .returned (.bool (isM c)) ∧ w' = w := by
  have h := Any.strings_Contains_one layK.laid ⟨#[123, 125, 91, 93, 40, 41, 59, 44, 61, 43, 45, 42, 38, 124, 60, 62]⟩ c w
  have e : decide (0 ≤ Lib.indexByte (ByteArray.mk #[123, 125, 91, 93, 40, 41, 59, 44, 61, 43, 45, 42, 38, 124, 60, 62]).data.toList c) = isM c := by
    have key : ∀ c : Fin 256, decide (0 ≤ Lib.indexByte (ByteArray.mk #[123, 125, 91, 93, 40, 41, 59, 44, 61, 43, 45, 42, 38, 124, 60, 62]).data.toList (UInt8.ofNat c.1)) = isM (UInt8.ofNat c.1) := by decide
    have := key ⟨c.toNat, c.toNat_lt⟩
    simp only [UInt8.ofNat_toNat] at this
    exact this
  rw [e] at h
  exact h
theorem has_at (s : ByteArray) (I : Nat) (t : List UInt8) (w : World) : Calls Tryd.prog 28 #[.string (s.extract I s.size), .string (tx t)] w fun e w' => e = .returned (.bool (t.isPrefixOf ((L s).drop I))) ∧ w' = w := by
  have e1 : (s.extract I s.size).data.toList = (L s).drop I := by
    have := L_ext s I s.size
    rw [List.take_of_length_le (by rw [L_len]; exact Nat.le_refl _)] at this
    exact this
  have c := Any.strings_HasPrefix layP.laid (s.extract I s.size) (tx t) w
  rw [e1] at c
  exact c
end Go.Proofs.YtfngcphklfjhjaaDoor.lx
