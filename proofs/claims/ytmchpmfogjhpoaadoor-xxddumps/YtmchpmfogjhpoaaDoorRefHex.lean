/- What the document's own Hex answers. -/
import Derived.Test.YtmchpmfogjhpoaaDoorRefDig2
import Derived.Test.YtmchpmfogjhpoaaDoorDigs4
namespace Go.Proofs.YtmchpmfogjhpoaaDoor.digs
open Go.ChangeShapes Go.WideShapes Go.ChangeAt Go.RowKit
open mem dig

theorem hexL_push (s : ByteArray) (k : Nat) : strOfNums (hexL s k) ++ strOfNums (pr 16 (nb s k) 2) = strOfNums (hexL s (k + 1)) := by
  rw [nums_append]
  have h := nb_lt s k
  have e1 : nb s k / 16 ^ 1 % 16 = nb s k / 16 := by omega
  have e2 : nb s k / 16 ^ 0 % 16 = nb s k % 16 := by simp
  show strOfNums (hexL s k ++ [ch (nb s k / 16 ^ 1 % 16), ch (nb s k / 16 ^ 0 % 16)]) = _
  rw [e1, e2]; rfl
theorem refHex_at (s : ByteArray) (w : World) (hs : s.size ≤ 1000) : Calls Tryd.prog 28 #[.string s] w fun e w' => e = .returned (.string (strOfNums (hexL s s.size))) ∧ w' = w := by
  go_enter Tryd.func28, Tryd.ntmps28
  go_wp2
  go_loop [3, 4] (fun o i => ∃ k : Nat, k ≤ s.size ∧ i = .int .i64 (k : Int) ∧ o = .string (strOfNums (hexL s k))) (fun _ i => s.size - (intOf i).toNat)
  case atStart => exact ⟨0, Nat.zero_le _, rfl, rfl⟩
  case round =>
    obtain ⟨k, hk, rfl, rfl⟩ := hrel
    by_cases hlt : k < s.size
    · obtain ⟨C, hC⟩ : ∃ C, C = nb s k := ⟨_, rfl⟩
      have hCl : C < 256 := by rw [hC]; exact nb_lt s k
      have hgk : (((s[k]'hlt).toNat : Nat) : Int) = (C : Int) := by rw [← sb_get s k hlt, hC]; exact nb_sb s k
      have hz := strOfNums_size (hexL s k)
      have hz2 := strOfNums_size (pr 16 C 2)
      rw [hexL_len] at hz
      rw [pr_len] at hz2
      have cP : ∀ w, Calls Tryd.prog 29 #[.int .u64 (C : Int), .int .i64 16, .int .i64 2] w fun e w' => e = .returned (.tuple #[.string (strOfNums (pr 16 C 2)), .int .i64 0]) ∧ w' = w :=
        fun w => refPrint_at C 16 2 2 w (by omega) (by omega) (by omega) (by omega) ⟨by omega, by omega, by omega, Or.inr (Or.inl rfl)⟩
      have HP : Hid (strOfNums (hexL s k) ++ strOfNums (pr 16 C 2) = strOfNums (hexL s (k + 1))) := by rw [hC]; exact hexL_push s k
      clear hC
      go_wp2_with (go_at_call 29; refine (cP _).mono ?_; rintro e w2 ⟨rfl, rfl⟩)
      go_round
      case rel => exact ⟨k + 1, by omega, by go_num, by rw [← HP.out]⟩
      case measure => simp [intOf]; omega
    · obtain rfl : k = s.size := by omega
      go_wp2
      go_ret
      exact ⟨rfl, rfl⟩
end Go.Proofs.YtmchpmfogjhpoaaDoor.digs
