/- The document's own helpers on sums: powers, bits the other way round, which sums can be made; and which ones package sums holds so. -/
import Derived.Test.YthimjckimggpoaaDoorSums6
import Derived.Test.YthimjckimggpoaaDoorDivP
import Derived.Test.YthimjckimggpoaaDoorBoolRow
namespace Go.Proofs.YthimjckimggpoaaDoor.sums
open Go.ChangeShapes Go.WideShapes Go.ChangeAt Go.RowKit
open mem bit crc
attribute [local go_sem] World.cell?_alloc_some
theorem wrap_u6 (n : Int) (h0 : 0 ≤ n) (h1 : n < 18446744073709551616) : IntKind.u64.wrap n = n := by rw [IntKind.wrap_u64]; omega
theorem pow2_at (n r : Nat) (hn : n ≤ 63) (hr : 2 ^ n = r) (w : World) : Calls Tryd.prog 14 #[.int .i64 n] w fun e w' => e = .returned (.int .u64 r) ∧ w' = w := by
  go_enter Tryd.func14, Tryd.ntmps14
  go_wp2
  go_loop [0, 3] (fun i o => ∃ k y : Nat, k ≤ n ∧ i = .int .i64 (k : Int) ∧ o = .int .u64 (y : Int) ∧ Hid (y = 2 ^ (n - k))) (fun i _ => (intOf i).toNat)
  case atStart => exact ⟨n, 1, Nat.le_refl _, rfl, rfl, by simp [Hid]⟩
  case round =>
    obtain ⟨k, y, hk, rfl, rfl, HY⟩ := hrel
    by_cases h0 : 0 < k
    · have t1 : (0 : Int) < (k : Int) := by omega
      obtain ⟨k', hk'⟩ : ∃ k', k = k' + 1 := ⟨k - 1, by omega⟩
      obtain ⟨y', hy'⟩ : ∃ y', y' = y * 2 := ⟨_, rfl⟩
      have hyl : y ≤ 2 ^ 62 := by rw [HY.out]; exact Nat.pow_le_pow_right (by omega) (by omega)
      have t2 : IntKind.u64.wrap ((y : Int) * 2) = (y' : Int) := (wrap_u6 _ (by omega) (by omega)).trans (by omega)
      have t3 : IntKind.i64.wrap ((k : Int) - 1) = (k' : Int) := (wrap_i _ (by omega) (by omega)).trans (by omega)
      have HY' : Hid (y' = 2 ^ (n - k')) := by
        have e : n - k' = (n - k) + 1 := by omega
        rw [hy', e, Nat.pow_succ, ← HY.out]; rfl
      have HK : Hid (k = k' + 1) := hk'
      clear hk' hy'
      go_wp2
      go_round
      case rel => exact ⟨k', y', by have := HK.out; omega, by simp [*], by simp [*], HY'⟩
      case measure => have := HK.out; simp [intOf]; omega
    · obtain rfl : k = 0 := by omega
      have hyr : y = r := by rw [HY.out, ← hr]; rfl
      clear HY
      subst hyr
      go_wp2
      go_ret
      exact ⟨rfl, rfl⟩
theorem one_at (b : Bool) (w : World) : Calls Tryd.prog 15 #[.bool b] w fun e w' => e = .returned (.int .i64 (if b then 1 else 0)) ∧ w' = w := by
  cases b <;> (go_enter Tryd.func15, Tryd.ntmps15; go_wp2; go_ret; exact ⟨rfl, rfl⟩)
theorem flips_at (r W : Nat) (w : World) (hr : r < 4294967296) (hW : W ≤ 32) : Calls Tryd.prog 16 #[.int .u64 r, .int .i64 W] w fun e w' => e = .returned (.int .u64 (rev W r : Nat)) ∧ w' = w := by
  go_enter Tryd.func16, Tryd.ntmps16
  go_wp2
  go_loop [0, 1, 5] (fun m i o => ∃ k j q h : Nat, j + k = W ∧ i = .int .i64 (j : Int) ∧ m = .int .u64 (q : Int) ∧ o = .int .u64 (h : Int) ∧ Hid (q = r / 2 ^ k) ∧ Hid (h = hb (fun i => r.testBit i) k)) (fun _ i _ => (intOf i).toNat)
  case atStart => exact ⟨0, W, r, 0, rfl, rfl, rfl, rfl, by simp [Hid], rfl⟩
  case round =>
    obtain ⟨k, j, q, h, hjk, rfl, rfl, rfl, HQ, HH⟩ := hrel
    have hql : q ≤ r := by rw [HQ.out]; exact Nat.div_le_self _ _
    have hhl : h < 4294967296 := by
      rw [HH.out]
      exact Nat.lt_of_lt_of_le (hb_lt _ k) (le32 k (by omega))
    by_cases h0 : 0 < j
    · have HH' : Hid (h * 2 + q % 2 = hb (fun i => r.testBit i) (k + 1)) := by
        show _ = _
        rw [hb, ← HH.out, HQ.out, bit_nat]
      have HQ' : Hid (q / 2 = r / 2 ^ (k + 1)) := by
        show _ = _
        rw [HQ.out, Nat.div_div_eq_div_mul, Nat.pow_succ]
      go_wp2
      go_round
      case rel => exact ⟨k + 1, j - 1, q / 2, h * 2 + q % 2, by omega, by congr 1; omega, by congr 1, by congr 1, HQ', HH'⟩
      case measure => simp [intOf]; omega
    · obtain rfl : j = 0 := by omega
      obtain rfl : k = W := by omega
      go_wp2
      go_ret
      exact ⟨ret_int (by rw [HH.out, hb_rev]), rfl⟩
theorem width_cases (W : Nat) (h : W = 8 ∨ W = 16 ∨ W = 32) : (((W : Int) != 8) = false) ∨ (((W : Int) != 8) = true ∧ ((W : Int) != 16) = false) ∨ (((W : Int) != 8) = true ∧ ((W : Int) != 16) = true ∧ ((W : Int) != 32) = false) := by
  rcases h with rfl | rfl | rfl
  · exact Or.inl rfl
  · exact Or.inr (Or.inl ⟨rfl, rfl⟩)
  · exact Or.inr (Or.inr ⟨rfl, rfl, rfl⟩)
/-- A width that no sum has. -/
theorem Right_wide (W P I O : Int) (t : Bool) (w : World) (h : W ≠ 8 ∧ W ≠ 16 ∧ W ≠ 32) :
    Calls Tryd.prog 8 #[.agg #[.int .i64 W, .int .u32 P, .bool t, .int .u32 I, .int .u32 O]] w fun e w' => e = .returned (.bool false) ∧ Gb w w' := by
  have q1 : (W != 8) = true := by rw [bne_iff_ne]; exact h.1
  have q2 : (W != 16) = true := by rw [bne_iff_ne]; exact h.2.1
  have q3 : (W != 32) = true := by rw [bne_iff_ne]; exact h.2.2
  clear h
  go_enter Tryd.func8, Tryd.ntmps8
  go_wp2
  go_ret
  exact ⟨rfl, (Gb.refl _).alloc _ _⟩
theorem refRight_wide (W P I O : Int) (t : Bool) (w : World) (h : W ≠ 8 ∧ W ≠ 16 ∧ W ≠ 32) :
    Calls Tryd.prog 9 #[.agg #[.int .i64 W, .int .u32 P, .bool t, .int .u32 I, .int .u32 O]] w fun e w' => e = .returned (.bool false) ∧ Gb w w' := by
  have q1 : (W != 8) = true := by rw [bne_iff_ne]; exact h.1
  have q2 : (W != 16) = true := by rw [bne_iff_ne]; exact h.2.1
  have q3 : (W != 32) = true := by rw [bne_iff_ne]; exact h.2.2
  clear h
  go_enter Tryd.func9, Tryd.ntmps9
  go_wp2
  go_ret
  exact ⟨rfl, (Gb.refl _).alloc _ _⟩
theorem Right_is (W P I O : Nat) (t : Bool) (w : World) (hw : W = 8 ∨ W = 16 ∨ W = 32) (hP : P < 4294967296) :
    Calls Tryd.prog 8 #[.agg #[.int .i64 W, .int .u32 P, .bool t, .int .u32 I, .int .u32 O]] w fun e w' => e = .returned (.bool (decide (P % 2 = 1) && decide (P < 2 ^ W) && decide (I < 2 ^ W) && decide (O < 2 ^ W))) ∧ Gb w w' := by
  have h8 : 8 ≤ W := by omega
  have h32 : W ≤ 32 := by omega
  have e1 : (bits .and .u32 (P : Int) 1 == 1) = decide (P % 2 = 1) := odd_u32 P hP
  have y1 := fun w => within_at P W w h8 h32
  have y2 := fun w => within_at I W w h8 h32
  have y3 := fun w => within_at O W w h8 h32
  have hw := width_cases W hw
  generalize decide (P % 2 = 1) = b1 at e1 ⊢
  generalize decide (P < 2 ^ W) = b2 at y1 ⊢
  generalize decide (I < 2 ^ W) = b3 at y2 ⊢
  generalize decide (O < 2 ^ W) = b4 at y3 ⊢
  cases b1
  · rcases hw with q1 | ⟨q1, q2⟩ | ⟨q1, q2, q3⟩
    all_goals
      go_enter Tryd.func8, Tryd.ntmps8
      go_wp2
      go_ret
      exact ⟨rfl, (Gb.refl _).alloc _ _⟩
  cases b2
  · rcases hw with q1 | ⟨q1, q2⟩ | ⟨q1, q2, q3⟩
    all_goals
      go_enter Tryd.func8, Tryd.ntmps8
      go_wp2_with (go_at_call 19; refine (y1 _).mono ?_; rintro e w1 ⟨rfl, rfl⟩)
      go_ret
      exact ⟨rfl, (Gb.refl _).alloc _ _⟩
  cases b3
  · rcases hw with q1 | ⟨q1, q2⟩ | ⟨q1, q2, q3⟩
    all_goals
      go_enter Tryd.func8, Tryd.ntmps8
      go_wp2_with (first | (go_at_call_of 19 (Value.int IntKind.u32 (P : Int)); refine (y1 _).mono ?_; rintro e w1 ⟨rfl, rfl⟩) | (go_at_call_of 19 (Value.int IntKind.u32 (I : Int)); refine (y2 _).mono ?_; rintro e w2 ⟨rfl, rfl⟩))
      go_ret
      exact ⟨rfl, (Gb.refl _).alloc _ _⟩
  · rcases hw with q1 | ⟨q1, q2⟩ | ⟨q1, q2, q3⟩
    all_goals
      go_enter Tryd.func8, Tryd.ntmps8
      go_wp2_with (first | (go_at_call_of 19 (Value.int IntKind.u32 (P : Int)); refine (y1 _).mono ?_; rintro e w1 ⟨rfl, rfl⟩) | (go_at_call_of 19 (Value.int IntKind.u32 (I : Int)); refine (y2 _).mono ?_; rintro e w2 ⟨rfl, rfl⟩) | (go_at_call_of 19 (Value.int IntKind.u32 (O : Int)); refine (y3 _).mono ?_; rintro e w3 ⟨rfl, rfl⟩))
      go_ret
      exact ⟨rfl, (Gb.refl _).alloc _ _⟩
theorem refRight_is (W P I O : Nat) (t : Bool) (w : World) (hw : W = 8 ∨ W = 16 ∨ W = 32) (hP : P < 4294967296) (hI : I < 4294967296) (hO : O < 4294967296) :
    Calls Tryd.prog 9 #[.agg #[.int .i64 W, .int .u32 P, .bool t, .int .u32 I, .int .u32 O]] w fun e w' => e = .returned (.bool (decide (P % 2 = 1) && decide (P < 2 ^ W) && decide (I < 2 ^ W) && decide (O < 2 ^ W))) ∧ Gb w w' := by
  have h32 : W ≤ 32 := by omega
  obtain ⟨N, hN⟩ : ∃ N, 2 ^ W = N := ⟨_, rfl⟩
  have hp := fun w => pow2_at W N (by omega) hN w
  rw [hN]
  clear hN
  have hw := width_cases W hw
  have e1 : ((P : Int) % 2 == 1) = decide (P % 2 = 1) := by
    rw [Bool.eq_iff_iff, beq_iff_eq, decide_eq_true_iff]; omega
  generalize decide (P % 2 = 1) = b1 at e1 ⊢
  generalize hb2 : decide (P < N) = b2
  generalize hb3 : decide (I < N) = b3
  generalize hb4 : decide (O < N) = b4
  cases b1
  · rcases hw with q1 | ⟨q1, q2⟩ | ⟨q1, q2, q3⟩
    all_goals
      go_enter Tryd.func9, Tryd.ntmps9
      go_wp2_with (go_at_call 14; refine (hp _).mono ?_; rintro e w1 ⟨rfl, rfl⟩)
      go_ret
      exact ⟨rfl, (Gb.refl _).alloc _ _⟩
  cases b2
  · rcases hw with q1 | ⟨q1, q2⟩ | ⟨q1, q2, q3⟩
    all_goals
      go_enter Tryd.func9, Tryd.ntmps9
      go_wp2_with (go_at_call 14; refine (hp _).mono ?_; rintro e w1 ⟨rfl, rfl⟩)
      go_ret
      exact ⟨rfl, (Gb.refl _).alloc _ _⟩
  cases b3
  · rcases hw with q1 | ⟨q1, q2⟩ | ⟨q1, q2, q3⟩
    all_goals
      go_enter Tryd.func9, Tryd.ntmps9
      go_wp2_with (go_at_call 14; refine (hp _).mono ?_; rintro e w1 ⟨rfl, rfl⟩)
      go_ret
      exact ⟨rfl, (Gb.refl _).alloc _ _⟩
  · rcases hw with q1 | ⟨q1, q2⟩ | ⟨q1, q2, q3⟩
    all_goals
      go_enter Tryd.func9, Tryd.ntmps9
      go_wp2_with (go_at_call 14; refine (hp _).mono ?_; rintro e w1 ⟨rfl, rfl⟩)
      go_ret
      exact ⟨rfl, (Gb.refl _).alloc _ _⟩
end Go.Proofs.YthimjckimggpoaaDoor.sums
