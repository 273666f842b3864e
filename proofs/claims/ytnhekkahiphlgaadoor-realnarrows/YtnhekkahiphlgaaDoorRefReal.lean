/- The document's own: powers of two, forms, and reals taken apart. -/
import Derived.Test.YtnhekkahiphlgaaDoorReal3
namespace Go.Proofs.YtnhekkahiphlgaaDoor.rl
open Go.RowKit
open mem
attribute [local go_sem] World.cell?_alloc_some
theorem pow2_at (n r : Nat) (hn : n ≤ 63) (hr : 2 ^ n = r) (w : World) : Calls Tryd.prog 24 #[.int .i64 n] w fun e w' => e = .returned (.int .u64 r) ∧ w' = w := by
  go_enter Tryd.func24, Tryd.ntmps24
  go_wp2
  go_loop [0, 3] (fun i o => ∃ k y : Nat, k ≤ n ∧ i = .int .i64 (k : Int) ∧ o = .int .u64 (y : Int) ∧ Hid (y = 2 ^ (n - k))) (fun i _ => (intOf i).toNat)
  case atStart => exact ⟨n, 1, Nat.le_refl _, rfl, rfl, by simp [Hid]⟩
  case round =>
    obtain ⟨k, y, hk, rfl, rfl, HY⟩ := hrel
    by_cases h0 : 0 < k
    · have t1 : (0 : Int) < (k : Int) := by omega
      obtain ⟨k', hk'⟩ : ∃ k', k = k' + 1 := ⟨k - 1, by omega⟩
      obtain ⟨y', hy'⟩ : ∃ y', y' = y * 2 := ⟨_, rfl⟩
      have hyl : y ≤ 2 ^ 62 := by rw [HY.out]; exact Nat.pow_le_pow_right (by omega) (by omega)
      have t2 : IntKind.u64.wrap ((y : Int) * 2) = (y' : Int) := (wrap_u64 _ (by omega) (by omega)).trans (by omega)
      have t3 : IntKind.i64.wrap ((k : Int) - 1) = (k' : Int) := (wrap_i64 _ (by omega) (by omega)).trans (by omega)
      have HY' : Hid (y' = 2 ^ (n - k')) := by
        have e : n - k' = (n - k) + 1 := by omega
        rw [hy', e, Nat.pow_succ, ← HY.out]; rfl
      have HK : Hid (k = k' + 1) := hk'
      clear hk' hy'
      go_wp2
      go_round
      case rel => exact ⟨k', y', by have := HK.out; omega, by simp [*], by simp [*], HY'⟩
      case measure => have := HK.out; simp [intOf]; omega
    · obtain rfl : k = 0 := by omega
      have hyr : y = r := by rw [HY.out, ← hr]; rfl
      clear HY
      subst hyr
      go_wp2
      go_ret
      exact ⟨rfl, rfl⟩
theorem one_at (b : Bool) (w : World) : Calls Tryd.prog 25 #[.bool b] w fun e w' => e = .returned (.int .i64 (if b then 1 else 0)) ∧ w' = w := by
  cases b <;> (go_enter Tryd.func25, Tryd.ntmps25; go_wp2; go_ret; exact ⟨rfl, rfl⟩)
theorem form_no (d : Int) (hd : d ≠ 32 ∧ d ≠ 64) (w : World) : Calls Tryd.prog 23 #[.int .i64 d] w fun e w' => e = .returned (.tuple #[.int .i64 11, .int .i64 52, .bool false]) ∧ w' = w := by
  have e1 : (d == 32) = false := by simp; omega
  have e2 : (d == 64) = false := by simp; omega
  go_enter Tryd.func23, Tryd.ntmps23
  go_wp2
  go_ret3
  exact ⟨rfl, rfl⟩
theorem form32 (w : World) : Calls Tryd.prog 23 #[.int .i64 32] w fun e w' => e = .returned (.tuple #[.int .i64 8, .int .i64 23, .bool true]) ∧ w' = w := by
  go_enter Tryd.func23, Tryd.ntmps23
  go_wp2
  go_ret3
  exact ⟨rfl, rfl⟩
theorem refApart32 (b x f : Nat) (n : Bool) (hb : b < 2 ^ 64) (hn : (b / 2 ^ 31 % 2 == 1) = n) (hx : b / 2 ^ 23 % 256 = x) (hf : b % 2 ^ 23 = f) (w : World) :
    Calls Tryd.prog 31 #[.int .u64 b, .int .i64 32] w fun e w' => e = .returned (.tuple #[.agg #[.bool n, .int .i64 x, .int .u64 f], .int .i64 0]) ∧ Gb w w' := by
  have pF : ∀ w, Calls Tryd.prog 24 #[.int .i64 23] w fun e w' => e = .returned (.int .u64 8388608) ∧ w' = w := fun w => pow2_at 23 8388608 (by omega) rfl w
  have pE : ∀ w, Calls Tryd.prog 24 #[.int .i64 8] w fun e w' => e = .returned (.int .u64 256) ∧ w' = w := fun w => pow2_at 8 256 (by omega) rfl w
  have pW : ∀ w, Calls Tryd.prog 24 #[.int .i64 31] w fun e w' => e = .returned (.int .u64 2147483648) ∧ w' = w := fun w => pow2_at 31 2147483648 (by omega) rfl w
  have t0 : IntKind.i64.wrap 31 = 31 := rfl
  have t1 : (b : Int).tmod 8388608 = (f : Int) := by rw [Int.tmod_eq_emod_of_nonneg (by omega)]; omega
  have t2 : (b : Int).tdiv 8388608 = ((b / 8388608 : Nat) : Int) := by rw [Int.tdiv_eq_ediv_of_nonneg (by omega)]; omega
  have t3 : ((b / 8388608 : Nat) : Int).tmod 256 = (x : Int) := by rw [Int.tmod_eq_emod_of_nonneg (by omega)]; omega
  have t4 : (b : Int).tdiv 2147483648 = ((b / 2147483648 : Nat) : Int) := by rw [Int.tdiv_eq_ediv_of_nonneg (by omega)]; omega
  have t5 : ((b / 2147483648 : Nat) : Int).tmod 2 = ((b / 2147483648 % 2 : Nat) : Int) := by rw [Int.tmod_eq_emod_of_nonneg (by omega)]; omega
  have t6 : (((b / 2147483648 % 2 : Nat) : Int) == 1) = n := by rw [← hn, Bool.eq_iff_iff]; simp; omega
  have t7 : IntKind.i64.wrap (x : Int) = (x : Int) := wrap_i64 _ (by omega) (by omega)
  have t8 : IntKind.u64.wrap ((b / 8388608 : Nat) : Int) = ((b / 8388608 : Nat) : Int) := wrap_u64 _ (by omega) (by omega)
  have t9 : IntKind.u64.wrap ((b / 2147483648 : Nat) : Int) = ((b / 2147483648 : Nat) : Int) := wrap_u64 _ (by omega) (by omega)
  generalize b / 8388608 = B at t2 t3 t8
  generalize b / 2147483648 % 2 = D at t5 t6
  generalize b / 2147483648 = C at t4 t5 t9
  clear hn hx hf
  go_enter Tryd.func31, Tryd.ntmps31
  go_wp2_with (go_at_call 23; refine (form32 _).mono ?_; rintro e w1 ⟨rfl, rfl⟩)
  go_region_held3 (fun _ => True) (trivial) (first | (go_at_call_of 24 (Value.int IntKind.i64 23); refine (pF _).mono ?_; rintro e w2 ⟨rfl, rfl⟩) | (go_at_call_of 24 (Value.int IntKind.i64 8); refine (pE _).mono ?_; rintro e w2 ⟨rfl, rfl⟩) | (go_at_call_of 24 (Value.int IntKind.i64 31); refine (pW _).mono ?_; rintro e w2 ⟨rfl, rfl⟩))
  go_wp2
  refine bodyPost_ret (v := .tuple #[.agg #[.bool n, .int .i64 x, .int .u64 f], .int .i64 0]) (by simp [results, Tryd.f31, go_sem]) rfl ⟨rfl, ?_⟩
  exact Gb.drew (Gb.alloc (Gb.refl w) _ _)
theorem form64 (w : World) : Calls Tryd.prog 23 #[.int .i64 64] w fun e w' => e = .returned (.tuple #[.int .i64 11, .int .i64 52, .bool true]) ∧ w' = w := by
  go_enter Tryd.func23, Tryd.ntmps23
  go_wp2
  go_ret3
  exact ⟨rfl, rfl⟩
theorem refApart64 (b x f : Nat) (n : Bool) (hb : b < 2 ^ 64) (hn : (b / 2 ^ 63 % 2 == 1) = n) (hx : b / 2 ^ 52 % 2048 = x) (hf : b % 2 ^ 52 = f) (w : World) :
    Calls Tryd.prog 31 #[.int .u64 b, .int .i64 64] w fun e w' => e = .returned (.tuple #[.agg #[.bool n, .int .i64 x, .int .u64 f], .int .i64 0]) ∧ Gb w w' := by
  have pF : ∀ w, Calls Tryd.prog 24 #[.int .i64 52] w fun e w' => e = .returned (.int .u64 4503599627370496) ∧ w' = w := fun w => pow2_at 52 4503599627370496 (by omega) rfl w
  have pE : ∀ w, Calls Tryd.prog 24 #[.int .i64 11] w fun e w' => e = .returned (.int .u64 2048) ∧ w' = w := fun w => pow2_at 11 2048 (by omega) rfl w
  have pW : ∀ w, Calls Tryd.prog 24 #[.int .i64 63] w fun e w' => e = .returned (.int .u64 9223372036854775808) ∧ w' = w := fun w => pow2_at 63 9223372036854775808 (by omega) rfl w
  have t0 : IntKind.i64.wrap 63 = 63 := rfl
  have t1 : (b : Int).tmod 4503599627370496 = (f : Int) := by rw [Int.tmod_eq_emod_of_nonneg (by omega)]; omega
  have t2 : (b : Int).tdiv 4503599627370496 = ((b / 4503599627370496 : Nat) : Int) := by rw [Int.tdiv_eq_ediv_of_nonneg (by omega)]; omega
  have t3 : ((b / 4503599627370496 : Nat) : Int).tmod 2048 = (x : Int) := by rw [Int.tmod_eq_emod_of_nonneg (by omega)]; omega
  have t4 : (b : Int).tdiv 9223372036854775808 = ((b / 9223372036854775808 : Nat) : Int) := by rw [Int.tdiv_eq_ediv_of_nonneg (by omega)]; omega
  have t5 : ((b / 9223372036854775808 : Nat) : Int).tmod 2 = ((b / 9223372036854775808 % 2 : Nat) : Int) := by rw [Int.tmod_eq_emod_of_nonneg (by omega)]; omega
  have t6 : (((b / 9223372036854775808 % 2 : Nat) : Int) == 1) = n := by rw [← hn, Bool.eq_iff_iff]; simp; omega
  have t7 : IntKind.i64.wrap (x : Int) = (x : Int) := wrap_i64 _ (by omega) (by omega)
  have t8 : IntKind.u64.wrap ((b / 4503599627370496 : Nat) : Int) = ((b / 4503599627370496 : Nat) : Int) := wrap_u64 _ (by omega) (by omega)
  have t9 : IntKind.u64.wrap ((b / 9223372036854775808 : Nat) : Int) = ((b / 9223372036854775808 : Nat) : Int) := wrap_u64 _ (by omega) (by omega)
  generalize b / 4503599627370496 = B at t2 t3 t8
  generalize b / 9223372036854775808 % 2 = D at t5 t6
  generalize b / 9223372036854775808 = C at t4 t5 t9
  clear hn hx hf
  go_enter Tryd.func31, Tryd.ntmps31
  go_wp2_with (go_at_call 23; refine (form64 _).mono ?_; rintro e w1 ⟨rfl, rfl⟩)
  go_region_held3 (fun _ => True) (trivial) (first | (go_at_call_of 24 (Value.int IntKind.i64 52); refine (pF _).mono ?_; rintro e w2 ⟨rfl, rfl⟩) | (go_at_call_of 24 (Value.int IntKind.i64 11); refine (pE _).mono ?_; rintro e w2 ⟨rfl, rfl⟩) | (go_at_call_of 24 (Value.int IntKind.i64 63); refine (pW _).mono ?_; rintro e w2 ⟨rfl, rfl⟩))
  go_wp2
  refine bodyPost_ret (v := .tuple #[.agg #[.bool n, .int .i64 x, .int .u64 f], .int .i64 0]) (by simp [results, Tryd.f31, go_sem]) rfl ⟨rfl, ?_⟩
  exact Gb.drew (Gb.alloc (Gb.refl w) _ _)
end Go.Proofs.YtnhekkahiphlgaaDoor.rl
