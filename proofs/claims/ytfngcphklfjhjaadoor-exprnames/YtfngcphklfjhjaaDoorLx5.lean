/- Lex and Name of package lex. -/
import Derived.Test.YtfngcphklfjhjaaDoorLx4
namespace Go.Proofs.YtfngcphklfjhjaaDoor.lx
set_option linter.unusedVariables false
open Go.ChangeShapes Go.WideShapes Go.ChangeAt Go.RowKit
open mem

theorem Lex_at (s : ByteArray) (w : World) (hs : s.size ≤ 3000) (hm : Mks w) :
    Calls Tryd.prog 9 #[.string s] w fun e w' => LxAns s w e w' := by
  have hn : ¬ 3000 < (s.size : Int) := by omega
  have c := cut_at s w hs hm
  go_enter Tryd.func9, Tryd.ntmps9
  go_wp2_with fail
  refine c.mono ?_
  rintro e w' ⟨hb, ⟨h1, v, rfl, h2⟩ | ⟨p, B, h1, rfl, h2⟩⟩
  · go_wp2
    go_ret2
    exact ⟨hb, Or.inl ⟨h1, v, rfl, h2⟩⟩
  · go_wp2
    go_ret2
    exact ⟨hb, Or.inr ⟨p, B, h1, rfl, h2⟩⟩
theorem Lex_long (s : ByteArray) (w : World) (hs : 3000 < s.size) :
    Calls Tryd.prog 9 #[.string s] w fun e w' => e = .returned (.tuple #[.slice none 0 0, .iface 24 (.int .i64 4)]) ∧ w' = w := by
  have hn : 3000 < (s.size : Int) := by omega
  go_enter Tryd.func9, Tryd.ntmps9
  go_wp2
  go_ret2
  exact ⟨rfl, rfl⟩
/-- Does a text begin with a letter? -/
def nmb (l : List UInt8) : Bool := match l.head? with | some c => isL c | none => false
theorem Name_at (s : ByteArray) (w : World) : Calls Tryd.prog 11 #[.string s] w fun e w' => e = .returned (.bool (nmb (L s))) ∧ w' = w := by
  by_cases h0 : 0 < s.size
  · have e1 : (((s[0]'h0).toNat : Nat) : Int) = sb s 0 := (sb_get s 0 h0).symm
    have c1 := letter_at (sb s 0)
    have hnm : lt (sb s 0) = nmb (L s) := by
      unfold nmb
      have := L_get s 0 h0
      rw [List.head?_eq_getElem?, this, sb_get s 0 h0]
      rfl
    rw [hnm] at c1
    have hne : (s.toList == []) = false := by
      rw [beq_eq_false_iff_ne, ByteArray.toList_eq]
      intro e
      have := congrArg List.length e
      simp at this
      have h3 : s.size = 0 := by simpa using this
      omega
    go_enter Tryd.func11, Tryd.ntmps11
    go_wp2_with fail
    refine (c1 _).mono ?_
    rintro e w' ⟨rfl, rfl⟩
    go_wp2
    go_ret
    exact ⟨rfl, rfl⟩
  · obtain rfl : s = ⟨#[]⟩ := by
      have h : s.size = 0 := by omega
      exact L_inj (List.eq_nil_of_length_eq_zero (by rw [L_len]; exact h))
    go_enter Tryd.func11, Tryd.ntmps11
    go_wp2
    go_ret
    exact ⟨rfl, rfl⟩
end Go.Proofs.YtfngcphklfjhjaaDoor.lx
