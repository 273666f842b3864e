/- What common of package lz answers: how many bytes are the same at two places. -/
import Derived.Test.YtmchpmfogjhpoaaDoorFdV
import Derived.Test.YtmchpmfogjhpoaaDoorLzP
namespace Go.Proofs.YtmchpmfogjhpoaaDoor.lz
set_option linter.unusedVariables false
open Go.ChangeShapes Go.WideShapes Go.ChangeAt Go.RowKit
open mem rows

set_option maxRecDepth 10000 in
theorem common_at (s : ByteArray) (k a : Nat) (w : World) (hk : k < a) (ha : a ≤ s.size) (hs : s.size ≤ 4000) :
    Calls Tryd.prog 48 #[.string s, .int .i64 (k : Int), .int .i64 (a : Int)] w fun e w' => e = .returned (.int .i64 ((cm (sb s) s.size k a : Nat) : Int)) ∧ Dr w w' := by
  have HA : Hid (∀ m, IsCm (sb s) s.size k a m → m = cm (sb s) s.size k a) := fun m h => h.uniq (cm_is _ _ _ _) ha
  go_enter Tryd.func48, Tryd.ntmps48
  go_wp2
  go_loopw [7] (fun i wr => ∃ m : Nat, m ≤ 130 ∧ a + m ≤ s.size ∧ i = .int .i64 (m : Int) ∧ Hid (∀ t, t < m → sb s (k + t) = sb s (a + t)) ∧ Dr w wr) (fun i _ => 130 - (intOf i).toNat)
  case atStart => exact ⟨0, by omega, by omega, rfl, fun t ht => absurd ht (Nat.not_lt_zero _), Dr.refl _⟩
  case round =>
    obtain ⟨m, hm, ham, rfl, HT, hd⟩ := hrel
    obtain ⟨q, rfl⟩ := hd
    generalize hwq : w.drewN q = wq
    have HW : Hid (w.drewN q = wq) := hwq
    clear hwq
    by_cases h1 : m < 130
    · have d1 : decide ((m : Int) < 130) = true := decide_eq_true (by omega)
      by_cases h2 : a + m < s.size
      · have d2 : decide ((a : Int) + (m : Int) < (s.size : Int)) = true := decide_eq_true (by omega)
        have h3 : k + m < s.size := by omega
        obtain ⟨i1, hi1⟩ : ∃ i1, i1 = k + m := ⟨_, rfl⟩
        obtain ⟨i2, hi2⟩ : ∃ i2, i2 = a + m := ⟨_, rfl⟩
        rw [← hi2] at h2
        rw [← hi1] at h3
        have z1 : IntKind.i64.wrap ((k : Int) + (m : Int)) = (i1 : Int) := by rw [IntKind.wrap_i64]; omega
        have z2 : IntKind.i64.wrap ((a : Int) + (m : Int)) = (i2 : Int) := by rw [IntKind.wrap_i64]; omega
        have d2 : decide ((i2 : Int) < (s.size : Int)) = true := decide_eq_true (by omega)
        have e1 : (((s[i1]'h3).toNat : Nat) : Int) = sb s i1 := (sb_get s i1 h3).symm
        have e2 : (((s[i2]'h2).toNat : Nat) : Int) = sb s i2 := (sb_get s i2 h2).symm
        have HI : Hid (i1 = k + m ∧ i2 = a + m) := ⟨hi1, hi2⟩
        by_cases h4 : sb s i1 = sb s i2
        · have d3 : (sb s i1 == sb s i2) = true := by rw [beq_iff_eq]; exact h4
          have HT2 : Hid (∀ t, t < m + 1 → sb s (k + t) = sb s (a + t)) := fun t ht => by
            rcases Nat.lt_or_ge t m with h | h
            · exact HT.out t h
            · obtain rfl : t = m := by omega
              rw [← HI.out.1, ← HI.out.2]
              exact h4
          have hb2 : a + (m + 1) ≤ s.size := by omega
          clear h4 hi1 hi2
          go_wp2
          go_quiet (fail)
          go_wp2
          go_roundw
          case rel => exact ⟨m + 1, h1, hb2, by go_num, HT2, by rw [← HW.out]; exact Dr.drewN _ ⟨q, rfl⟩⟩
          case measure => simp [intOf]; omega
        · have d3 : (sb s i1 == sb s i2) = false := by rw [beq_eq_false_iff_ne]; exact h4
          have H4 : Hid (sb s (k + m) ≠ sb s (a + m)) := by rw [← hi1, ← hi2]; exact h4
          clear h4 hi1 hi2
          go_wp2
          go_quiet (fail)
          go_wp2
          go_ret
          exact ⟨ret_int (by rw [HA.out m ⟨hm, fun _ => ham, HT.out, Or.inr (Or.inr H4.out)⟩]), by rw [← HW.out]; exact Dr.drewN _ ⟨q, rfl⟩⟩
      · obtain ⟨i2, hi2⟩ : ∃ i2, i2 = a + m := ⟨_, rfl⟩
        have z2 : IntKind.i64.wrap ((a : Int) + (m : Int)) = (i2 : Int) := by rw [IntKind.wrap_i64]; omega
        have d2 : decide ((i2 : Int) < (s.size : Int)) = false := decide_eq_false (by omega)
        have d3 : decide (i2 < s.size) = false := decide_eq_false (by omega)
        clear hi2
        go_wp2
        go_quiet (fail)
        go_wp2
        go_ret
        exact ⟨ret_int (by rw [HA.out m ⟨hm, fun _ => ham, HT.out, Or.inr (Or.inl (by omega))⟩]), by rw [← HW.out]; exact Dr.drewN _ ⟨q, rfl⟩⟩
    · have d1 : decide ((m : Int) < 130) = false := decide_eq_false (by omega)
      go_wp2
      go_quiet (fail)
      go_wp2
      go_ret
      exact ⟨ret_int (by rw [HA.out m ⟨hm, fun _ => ham, HT.out, Or.inl (by omega)⟩]), by rw [← HW.out]; exact Dr.drewN _ ⟨q, rfl⟩⟩
end Go.Proofs.YtmchpmfogjhpoaaDoor.lz
