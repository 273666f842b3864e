/- lineEnd and begin of package lex. -/
import Derived.Test.YtfngcphklfjhjaaDoorLx1
import Derived.Test.YtfngcphklfjhjaaDoorLayI
namespace Go.Proofs.YtfngcphklfjhjaaDoor.lx
set_option linter.unusedVariables false
open Go.ChangeShapes Go.WideShapes Go.ChangeAt Go.RowKit
open mem

theorem index_rl (l : List UInt8) : (Lib.indexByte l 10 = -1 ∧ rl l = l.length) ∨ (Lib.indexByte l 10 = (rl l : Int) ∧ rl l < l.length) := by
  induction l with
  | nil => exact Or.inl ⟨rfl, rfl⟩
  | cons c l ih =>
    unfold Lib.indexByte
    by_cases h : (c == 10) = true
    · rw [if_pos h]
      have e : rl (c :: l) = 0 := by unfold rl; rw [List.takeWhile_cons_of_neg (by simp at h; simp [h])]; rfl
      rw [e]
      exact Or.inr ⟨rfl, by simp⟩
    · rw [if_neg h]
      have e : rl (c :: l) = rl l + 1 := by unfold rl; rw [List.takeWhile_cons_of_pos (by simp at h; simp [h])]; rfl
      rw [e]
      rcases ih with ⟨h1, h2⟩ | ⟨h1, h2⟩
      · rw [h1]; left; exact ⟨rfl, by simp [h2]⟩
      · rw [h1]; right
        rw [if_neg (by intro h; rw [beq_iff_eq] at h; omega)]
        exact ⟨by omega, by simp; omega⟩
theorem ret_int {a b : Int} (h : a = b) : Ending.returned (.int .i64 a) = .returned (.int .i64 b) := by rw [h]
theorem lineEnd_at (s : ByteArray) (I : Nat) (w : World) (hs : s.size ≤ 100000) (hI : I ≤ s.size) :
    Calls Tryd.prog 61 #[.string s, .int .i64 (I : Int)] w fun e w' => e = .returned (.int .i64 ((I + rl ((L s).drop I) : Nat) : Int)) ∧ Dr w w' := by
  have e1 : (s.extract I s.size).data.toList = (L s).drop I := by
    have := L_ext s I s.size
    rw [List.take_of_length_le (by rw [L_len]; exact Nat.le_refl _)] at this
    exact this
  have c1 := Any.strings_IndexByte layI.laid (s.extract I s.size) 10
  rw [e1] at c1
  have hl : ((L s).drop I).length = s.size - I := by rw [List.length_drop, L_len]
  have hr := index_rl ((L s).drop I)
  rw [hl] at hr
  obtain ⟨R, hR⟩ : ∃ R, R = rl ((L s).drop I) := ⟨_, rfl⟩
  rw [← hR] at hr ⊢
  change ∀ w : World, Calls Tryd.prog 77 #[.string (s.extract I s.size), .int .u8 10] w fun e w' => e = .returned (.int .i64 (Lib.indexByte ((L s).drop I) 10)) ∧ w' = w at c1
  generalize Lib.indexByte ((L s).drop I) 10 = x at hr c1
  clear hR e1 hl
  rcases hr with ⟨rfl, h2⟩ | ⟨rfl, h2⟩
  · go_enter Tryd.func61, Tryd.ntmps61
    go_wp2_with fail
    refine (c1 _).mono ?_
    rintro e w1 ⟨rfl, rfl⟩
    go_wp2
    go_ret
    exact ⟨ret_int (by omega), Dr.refl _⟩
  · go_enter Tryd.func61, Tryd.ntmps61
    go_wp2_with fail
    refine (c1 _).mono ?_
    rintro e w1 ⟨rfl, rfl⟩
    go_wp2
    go_ret
    exact ⟨ret_int (by omega), Dr.refl _⟩

theorem byte_is (s : ByteArray) (k : Nat) (h : k < s.size) (c : UInt8) (hc : sb s k = (c.toNat : Int)) : (L s)[k]? = some c := by
  rw [L_get s k h]
  rw [sb_get s k h] at hc
  rw [UInt8.toNat_inj.1 (show (s[k]'h).toNat = c.toNat by omega)]
theorem gap_none (s : ByteArray) (k : Nat) (h : k < s.size) (h1 : sb s k ≠ 32) (h2 : sb s k ≠ 10) (h3 : sb s k ≠ 9) (h4 : sb s k ≠ 35) : gap ((L s).drop k) = 0 := by
  rw [drop_cons (L s) k _ (L_get s k h), gap_cons]
  rw [sb_get s k h] at h1 h2 h3 h4
  generalize s[k]'h = c at *
  have e1 : isB c = false := by
    unfold isB
    simp only [Bool.or_eq_false_iff, beq_eq_false_iff_ne]
    refine ⟨⟨?_, ?_⟩, ?_⟩
    · rintro rfl; exact h1 rfl
    · rintro rfl; exact h2 rfl
    · rintro rfl; exact h3 rfl
  have e2 : (c == 35) = false := by
    rw [beq_eq_false_iff_ne]
    rintro rfl; exact h4 rfl
  rw [e1, e2]
  rfl
theorem dr_trans {a b c : World} (h : Dr a b) (k : Dr b c) : Dr a c := by
  obtain ⟨q, rfl⟩ := k
  exact Dr.drewN q h
/-- Where the next token begins. -/
def Beg (l : List UInt8) (I b : Nat) : Prop := I ≤ b ∧ b ≤ l.length ∧ lx (l.drop b) b = lx (l.drop I) I ∧ (b = l.length ∨ b < l.length ∧ gap (l.drop b) = 0)
set_option maxRecDepth 10000 in
theorem begin_at (s : ByteArray) (I : Nat) (w : World) (hs : s.size ≤ 100000) (hI : I ≤ s.size) :
    Calls Tryd.prog 46 #[.string s, .int .i64 (I : Int)] w fun e w' => ∃ b : Nat, e = .returned (.int .i64 (b : Int)) ∧ Beg (L s) I b ∧ Dr w w' := by
  go_enter Tryd.func46, Tryd.ntmps46
  go_wp2
  go_loopw [1] (fun i wr => ∃ k : Nat, I ≤ k ∧ k ≤ s.size ∧ i = .int .i64 (k : Int) ∧ Hid (lx ((L s).drop k) k = lx ((L s).drop I) I) ∧ Dr w wr) (fun i _ => s.size - (intOf i).toNat)
  case atStart => exact ⟨I, Nat.le_refl _, hI, rfl, rfl, Dr.refl _⟩
  case round =>
    obtain ⟨k, hk, hks, rfl, HL, hd⟩ := hrel
    obtain ⟨q, rfl⟩ := hd
    generalize hwq : w.drewN q = wq
    have HW : Hid (w.drewN q = wq) := hwq
    clear hwq
    by_cases h1 : k < s.size
    · have e1 : (((s[k]'h1).toNat : Nat) : Int) = sb s k := (sb_get s k h1).symm
      have d1 : decide ((k : Int) < (s.size : Int)) = true := decide_eq_true (by omega)
      have HG : Hid (∀ c : UInt8, sb s k = (c.toNat : Int) → (L s)[k]? = some c) := byte_is s k h1
      have hgap : Hid (∀ _ : Nat, sb s k ≠ 32 → sb s k ≠ 10 → sb s k ≠ 9 → sb s k ≠ 35 → gap ((L s).drop k) = 0) := fun _ => gap_none s k h1
      generalize sb s k = x at *
      by_cases b32 : x = 32 ∨ x = 10 ∨ x = 9
      · have HB : Hid (lx ((L s).drop (k + 1)) (k + 1) = lx ((L s).drop I) I) := by
          rw [← HL.out]
          rcases b32 with h | h | h
          · exact (lx_over (L s) k 32 (HG.out 32 h) rfl).symm
          · exact (lx_over (L s) k 10 (HG.out 10 h) rfl).symm
          · exact (lx_over (L s) k 9 (HG.out 9 h) rfl).symm
        rcases b32 with rfl | rfl | rfl
        all_goals
          go_wp2
          go_roundw
          case rel => exact ⟨k + 1, by omega, by omega, by go_num, HB.out, ⟨q, HW.out.symm⟩⟩
          case measure => simp [intOf]; omega
      · have n32 : (x == 32) = false := by rw [beq_eq_false_iff_ne]; omega
        have n10 : (x == 10) = false := by rw [beq_eq_false_iff_ne]; omega
        have n9 : (x == 9) = false := by rw [beq_eq_false_iff_ne]; omega
        by_cases b35 : x = 35
        · subst b35
          have cE := lineEnd_at s k
          have hrl : 0 < rl ((L s).drop k) ∧ k + rl ((L s).drop k) ≤ s.size := by
            have e := drop_cons (L s) k 35 (HG.out 35 rfl)
            have h := tw_le (· != 10) ((L s).drop k)
            rw [List.length_drop, L_len] at h
            refine ⟨?_, by unfold rl; omega⟩
            rw [e]; unfold rl; rw [List.takeWhile_cons_of_pos (by decide)]; simp
          have HB : Hid (lx ((L s).drop (k + rl ((L s).drop k))) (k + rl ((L s).drop k)) = lx ((L s).drop I) I) := by
            rw [← HL.out]
            exact (rm_in (L s) k (HG.out 35 rfl)).symm
          generalize rl ((L s).drop k) = R at *
          clear b32
          go_wp2_with fail
          refine (cE _ hs hks).mono ?_
          rintro e w1 ⟨rfl, hd1⟩
          go_wp2
          go_roundw
          case rel => exact ⟨k + R, by omega, by omega, rfl, HB.out, by rw [← HW.out] at hd1; exact dr_trans ⟨q, rfl⟩ hd1⟩
          case measure => simp [intOf]; omega
        · have n35 : (x == 35) = false := by rw [beq_eq_false_iff_ne]; exact b35
          have HN : Hid (gap ((L s).drop k) = 0) := hgap.out 0 (by omega) (by omega) (by omega) b35
          clear b32 b35
          go_wp2
          go_ret
          exact ⟨k, rfl, ⟨hk, by rw [L_len]; exact hks, HL.out, Or.inr ⟨by rw [L_len]; exact h1, HN.out⟩⟩, ⟨q, HW.out.symm⟩⟩
    · have d1 : decide ((k : Int) < (s.size : Int)) = false := decide_eq_false (by omega)
      go_wp2
      go_ret
      exact ⟨k, rfl, ⟨hk, by rw [L_len]; exact hks, HL.out, Or.inl (by rw [L_len]; omega)⟩, ⟨q, HW.out.symm⟩⟩
end Go.Proofs.YtfngcphklfjhjaaDoor.lx
