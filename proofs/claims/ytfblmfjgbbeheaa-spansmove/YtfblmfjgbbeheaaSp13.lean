/- The document's own side: which spans are right. -/
import Derived.Test.YtfblmfjgbbeheaaSp2
namespace Go.Proofs.Ytfblmfjgbbeheaa.sp
set_option linter.unusedVariables false
open Go.ChangeShapes Go.WideShapes Go.ChangeAt Go.RowKit
open mem rows span

set_option maxHeartbeats 2000000 in
set_option maxRecDepth 20000 in
theorem refRight_at (v : Value) (l : List (Int × Int)) (w : World) (hv : View w v l) (hl : l.length ≤ 5000) :
    Calls Try.prog 16 #[v] w fun e w' => e = .returned (.bool (rightB (-1) l)) ∧ Bl w w' := by
  obtain ⟨q, c, rfl, hq⟩ := hv
  obtain ⟨m, hm⟩ : ∃ m, m = l.length := ⟨_, rfl⟩
  rw [← hm] at hl ⊢
  have HM : Hid (m = l.length) := hm
  have HP : Hid (InS w q l) := hq
  clear hm hq
  go_enter Try.func16, Try.ntmps16
  go_wp2
  go_loopw [7] (fun i wr => ∃ (k : Nat) (z : Int), k ≤ m ∧ i = .int .i64 (k : Int) ∧ Hid (z = if k = 0 then -1 else (nth l (k - 1)).2) ∧ Hid (rightB (-1) l = rightB z (l.drop k)) ∧ -1 ≤ z ∧ Bl w wr) (fun i _ => m - (intOf i).toNat)
  case atStart => exact ⟨0, -1, Nat.zero_le _, rfl, rfl, rfl, by omega, Bl.refl _⟩
  case round =>
    obtain ⟨k, z, hk, rfl, HZ, HN, hz1, hbl⟩ := hrel
    by_cases hlt : k < m
    · have hlz : (k : Int) < (m : Int) := by omega
      obtain ⟨x, rfl, hc1, hc2⟩ := (HP.out.step hbl).at k (by rw [← HM.out]; exact hlt)
      have HN' : Hid (rightB (-1) l = (decide (z < (nth l k).1) && (decide ((nth l k).1 < (nth l k).2) && rightB (nth l k).2 (l.drop (k + 1))))) := HN.out.trans (rightB_step z l k (by rw [← HM.out]; exact hlt))
      have HNX : Hid ((nth l k).2 = if k + 1 = 0 then -1 else (nth l (k + 1 - 1)).2) := by rw [Hid, if_neg (by omega), Nat.add_sub_cancel]
      clear HN
      generalize (nth l k).1 = a at hc1 HN'
      generalize (nth l k).2 = b at hc2 HN' HNX
      by_cases h1 : a < 0
      · have d1 : decide (a < 0) = true := decide_eq_true h1
        have HX : Hid (rightB (-1) l = false) := by rw [Hid, HN'.out, decide_eq_false (by omega)]; rfl
        go_wp2
        go_quiet (fail)
        go_wp2
        go_ret
        exact ⟨ret_bool HX.out.symm, (hbl.alloc _).drewN _⟩
      · have d1 : decide (a < 0) = false := decide_eq_false h1
        by_cases h2 : b ≤ a
        · have d2 : decide (b ≤ a) = true := decide_eq_true h2
          have HX : Hid (rightB (-1) l = false) := by rw [Hid, HN'.out, decide_eq_false (show ¬ a < b by omega), Bool.false_and, Bool.and_false]
          go_wp2
          go_quiet (fail)
          go_wp2
          go_ret
          exact ⟨ret_bool HX.out.symm, (hbl.alloc _).drewN _⟩
        · have d2 : decide (b ≤ a) = false := decide_eq_false h2
          by_cases h3 : 0 < k
          · have d3 : decide ((0 : Int) < (k : Int)) = true := decide_eq_true (by omega)
            have h3z : (0 : Int) < (k : Int) := by omega
            obtain ⟨k', hk'⟩ : ∃ k', k = k' + 1 := ⟨k - 1, by omega⟩
            obtain ⟨x', ex, _, hp2⟩ := (HP.out.step hbl).at k' (by rw [← HM.out]; omega)
            injection ex with ex
            subst ex
            have hzz : (nth l k').2 = z := by rw [HZ.out, if_neg (by omega), hk', Nat.add_sub_cancel]
            rw [hzz] at hp2
            have hw1 : IntKind.i64.wrap ((k : Int) - 1) = (k' : Int) := by rw [IntKind.wrap_i64]; omega
            have hw2 : (k' : Int) < (m : Int) := by omega
            have hp3 : (wr.alloc (.cells #[.int .i64 a, .int .i64 b] 28)).cell? { block := (x.add (k' * 2)).block, off := (x.add (k' * 2)).off + 1 } = some (.int .i64 z) := at_bl ((Bl.refl _).alloc _) hp2
            have HK : Hid (k = k' + 1) := hk'
            clear hk' hzz
            by_cases h4 : a ≤ z
            · have d4 : decide (a ≤ z) = true := decide_eq_true h4
              have HX : Hid (rightB (-1) l = false) := by rw [Hid, HN'.out, decide_eq_false (show ¬ z < a by omega)]; rfl
              go_wp2
              go_quiet (fail)
              go_wp2
              go_ret
              exact ⟨ret_bool HX.out.symm, (hbl.alloc _).drewN _⟩
            · have d4 : decide (a ≤ z) = false := decide_eq_false h4
              have HX : Hid (rightB (-1) l = rightB b (l.drop (k + 1))) := by rw [Hid, HN'.out, decide_eq_true (by omega), decide_eq_true (by omega)]; rfl
              go_wp2
              go_quiet (fail)
              go_wp2
              go_roundw
              case rel => exact ⟨k + 1, b, by omega, by go_num, HNX, HX, by omega, (hbl.alloc _).drewN _⟩
              case measure => simp [intOf]; omega
          · have d3 : decide ((0 : Int) < (k : Int)) = false := decide_eq_false (by omega)
            have h3z : ¬ ((0 : Int) < (k : Int)) := by omega
            have hz0 : z = -1 := by rw [HZ.out, if_pos (by omega)]
            have HX : Hid (rightB (-1) l = rightB b (l.drop (k + 1))) := by rw [Hid, HN'.out, decide_eq_true (by omega), decide_eq_true (by omega)]; rfl
            clear hz0
            go_wp2
            go_quiet (fail)
            go_wp2
            go_roundw
            case rel => exact ⟨k + 1, b, by omega, by go_num, HNX, HX, by omega, (hbl.alloc _).drewN _⟩
            case measure => simp [intOf]; omega
    · obtain rfl : k = m := by omega
      go_wp2
      go_ret
      exact ⟨ret_bool (by rw [HN.out, rightB_end z l k HM.out]), hbl⟩
end Go.Proofs.Ytfblmfjgbbeheaa.sp
