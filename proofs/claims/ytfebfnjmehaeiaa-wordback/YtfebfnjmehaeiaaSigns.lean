/- What the functions of package word that tell numbers with a sign and without one, and the document's own ones, answer: each is one of two plain functions of numbers, unsB and sigB, or a test of them. -/
import Derived.Test.YtfebfnjmehaeiaaRows
import Derived.WalkKit
import Derived.ProofKit
import Derived.OpenShut
namespace Go.Proofs.Ytfebfnjmehaeiaa.signs
open Go.ChangeShapes Go.WideShapes Go.ChangeAt Go.RowKit

theorem ret_int {k : IntKind} {a b : Int} (h : a = b) : Ending.returned (.int k a) = .returned (.int k b) := by rw [h]
theorem ret_bool {a b : Bool} (h : a = b) : Ending.returned (.bool a) = .returned (.bool b) := by rw [h]

/-- A number's low bytes, as many as x. -/
def unsB (n x : Int) : Int :=
  if x = 1 then n % 256 else if x = 2 then n % 65536 else if x = 3 then n % 16777216 else if x = 4 then n % 4294967296
  else if x = 5 then n % 1099511627776 else if x = 6 then n % 281474976710656 else if x = 7 then n % 72057594037927936 else if x = 8 then n % 18446744073709551616 else 0

/-- The same with a sign. -/
def sigB (n x : Int) : Int :=
  if x = 1 then (n + 128) % 256 - 128 else if x = 2 then (n + 32768) % 65536 - 32768 else if x = 3 then (n + 8388608) % 16777216 - 8388608 else if x = 4 then (n + 2147483648) % 4294967296 - 2147483648
  else if x = 5 then (n + 549755813888) % 1099511627776 - 549755813888 else if x = 6 then (n + 140737488355328) % 281474976710656 - 140737488355328
  else if x = 7 then (n + 36028797018963968) % 72057594037927936 - 36028797018963968 else if x = 8 then (n + 9223372036854775808) % 18446744073709551616 - 9223372036854775808 else 0

theorem eight (x : Int) : x < 1 ∨ 8 < x ∨ x = 1 ∨ x = 2 ∨ x = 3 ∨ x = 4 ∨ x = 5 ∨ x = 6 ∨ x = 7 ∨ x = 8 := by omega

theorem unsB1 (n : Int) : unsB n 1 = n % 256 := rfl
theorem unsB2 (n : Int) : unsB n 2 = n % 65536 := rfl
theorem unsB3 (n : Int) : unsB n 3 = n % 16777216 := rfl
theorem unsB4 (n : Int) : unsB n 4 = n % 4294967296 := rfl
theorem unsB5 (n : Int) : unsB n 5 = n % 1099511627776 := rfl
theorem unsB6 (n : Int) : unsB n 6 = n % 281474976710656 := rfl
theorem unsB7 (n : Int) : unsB n 7 = n % 72057594037927936 := rfl
theorem unsB8 (n : Int) : unsB n 8 = n % 18446744073709551616 := rfl
theorem unsB_out (n x : Int) (h : x < 1 ∨ 8 < x) : unsB n x = 0 := by
  unfold unsB
  repeat rw [if_neg (by omega)]
theorem sigB1 (n : Int) : sigB n 1 = (n + 128) % 256 - 128 := rfl
theorem sigB2 (n : Int) : sigB n 2 = (n + 32768) % 65536 - 32768 := rfl
theorem sigB3 (n : Int) : sigB n 3 = (n + 8388608) % 16777216 - 8388608 := rfl
theorem sigB4 (n : Int) : sigB n 4 = (n + 2147483648) % 4294967296 - 2147483648 := rfl
theorem sigB5 (n : Int) : sigB n 5 = (n + 549755813888) % 1099511627776 - 549755813888 := rfl
theorem sigB6 (n : Int) : sigB n 6 = (n + 140737488355328) % 281474976710656 - 140737488355328 := rfl
theorem sigB7 (n : Int) : sigB n 7 = (n + 36028797018963968) % 72057594037927936 - 36028797018963968 := rfl
theorem sigB8 (n : Int) : sigB n 8 = (n + 9223372036854775808) % 18446744073709551616 - 9223372036854775808 := rfl
theorem sigB_out (n x : Int) (h : x < 1 ∨ 8 < x) : sigB n x = 0 := by
  unfold sigB
  repeat rw [if_neg (by omega)]

theorem uns_any (n x : Int) (h0 : 0 ≤ n) (h1 : n < 18446744073709551616) (w : World) :
    Calls Try.prog 9 #[.int .u64 n, .int .i64 x] w fun e w' => e = .returned (.int .u64 (unsB n x)) ∧ w' = w := by
  rcases eight x with h | h | rfl | rfl | rfl | rfl | rfl | rfl | rfl | rfl
  · go_enter Try.func9, Try.ntmps9
    go_wp2
    go_ret
    exact ⟨ret_int (unsB_out n x (Or.inl h)).symm, rfl⟩
  · have hd : decide (x ≤ 8) = false := by simp; omega
    go_enter Try.func9, Try.ntmps9
    go_wp2
    go_ret
    exact ⟨ret_int (unsB_out n x (Or.inr h)).symm, rfl⟩
  all_goals
    go_enter Try.func9, Try.ntmps9
    go_wp2
    go_ret
    exact ⟨ret_int (by simp only [unsB1, unsB2, unsB3, unsB4, unsB5, unsB6, unsB7, unsB8, IntKind.wrap_u64]; omega), rfl⟩

theorem sig_any (n x : Int) (h0 : 0 ≤ n) (h1 : n < 18446744073709551616) (w : World) :
    Calls Try.prog 7 #[.int .u64 n, .int .i64 x] w fun e w' => e = .returned (.int .i64 (sigB n x)) ∧ w' = w := by
  rcases eight x with h | h | rfl | rfl | rfl | rfl | rfl | rfl | rfl | rfl
  · go_enter Try.func7, Try.ntmps7
    go_wp2
    go_ret
    exact ⟨ret_int (sigB_out n x (Or.inl h)).symm, rfl⟩
  · have hd : decide (x ≤ 8) = false := by simp; omega
    go_enter Try.func7, Try.ntmps7
    go_wp2
    go_ret
    exact ⟨ret_int (sigB_out n x (Or.inr h)).symm, rfl⟩
  all_goals
    go_enter Try.func7, Try.ntmps7
    go_wp2
    go_ret
    exact ⟨ret_int (by simp only [sigB1, sigB2, sigB3, sigB4, sigB5, sigB6, sigB7, sigB8, IntKind.wrap_u64, wrap64] <;> omega), rfl⟩
def pw (j : Nat) : Int := 256 ^ j
theorem pw_succ (j : Nat) : pw (j + 1) = pw j * 256 := by unfold pw; exact Int.pow_succ ..
theorem pw_pos (j : Nat) : 1 ≤ pw j := by
  induction j with
  | zero => exact Int.le_refl _
  | succ k ih => rw [pw_succ]; omega
theorem pw_le6 (j : Nat) (h : j ≤ 6) : pw j ≤ 281474976710656 := by
  match j, h with
  | 0, _ => decide
  | 1, _ => decide
  | 2, _ => decide
  | 3, _ => decide
  | 4, _ => decide
  | 5, _ => decide
  | 6, _ => decide
theorem pw7 : pw 7 = 72057594037927936 := by decide

theorem power_to7 (K : Nat) (hK : K ≤ 7) (w : World) :
    Calls Try.prog 21 #[.int .i64 K] w fun e w' => e = .returned (.tuple #[.int .u64 (pw K), .bool true]) ∧ w' = w := by
  go_enter Try.func21, Try.ntmps21
  go_wp2
  go_loop [0, 4] (fun k n => ∃ j : Nat, j ≤ K ∧ k = .int .i64 (K - j : Int) ∧ n = .int .u64 (pw j)) (fun k _ => (intOf k).toNat)
  case atStart => exact ⟨0, Nat.zero_le _, by go_num, rfl⟩
  case round =>
    obtain ⟨j, hj, rfl, rfl⟩ := hrel
    have hp := pw_pos j
    by_cases hlt : j < K
    · have hq := pw_le6 j (by omega)
      go_wp2
      go_round
      case rel => exact ⟨j + 1, by omega, by go_num, by rw [pw_succ]⟩
      case measure => simp [intOf]; omega
    · obtain rfl : j = K := by omega
      go_wp2
      go_ret2
      exact ⟨rfl, rfl⟩

theorem power_8 (w : World) :
    Calls Try.prog 21 #[.int .i64 8] w fun e w' => e = .returned (.tuple #[.int .u64 0, .bool false]) ∧ w' = w := by
  go_enter Try.func21, Try.ntmps21
  go_wp2
  go_loop [0, 4] (fun k n => ∃ j : Nat, j ≤ 7 ∧ k = .int .i64 (8 - j : Int) ∧ n = .int .u64 (pw j)) (fun k _ => (intOf k).toNat)
  case atStart => exact ⟨0, Nat.zero_le _, by go_num, rfl⟩
  case round =>
    obtain ⟨j, hj, rfl, rfl⟩ := hrel
    have hp := pw_pos j
    by_cases hlt : j < 7
    · have hq := pw_le6 j (by omega)
      go_wp2
      go_round
      case rel => exact ⟨j + 1, by omega, by go_num, by rw [pw_succ]⟩
      case measure => simp [intOf]; omega
    · have hq : 36028797018963968 < pw j := by
        have e : j = 7 := by omega
        rw [e, pw7]; decide
      go_wp2
      go_ret2
      exact ⟨rfl, rfl⟩

/-- Does v fit x bytes, with a sign (s), or without? -/
def fitsB (v x : Int) (s : Bool) : Bool :=
  decide (1 ≤ x ∧ x ≤ 8) && (if s then sigB v x == v else decide (0 ≤ v) && unsB v x == v)

theorem sigB_u64 (v x : Int) : sigB (v % 18446744073709551616) x = sigB v x := by
  rcases eight x with h | h | rfl | rfl | rfl | rfl | rfl | rfl | rfl | rfl
  · rw [sigB_out _ _ (Or.inl h), sigB_out _ _ (Or.inl h)]
  · rw [sigB_out _ _ (Or.inr h), sigB_out _ _ (Or.inr h)]
  all_goals (simp only [sigB1, sigB2, sigB3, sigB4, sigB5, sigB6, sigB7, sigB8]; omega)
theorem unsB_u64 (v x : Int) : unsB (v % 18446744073709551616) x = unsB v x := by
  rcases eight x with h | h | rfl | rfl | rfl | rfl | rfl | rfl | rfl | rfl
  · rw [unsB_out _ _ (Or.inl h), unsB_out _ _ (Or.inl h)]
  · rw [unsB_out _ _ (Or.inr h), unsB_out _ _ (Or.inr h)]
  all_goals (simp only [unsB1, unsB2, unsB3, unsB4, unsB5, unsB6, unsB7, unsB8]; omega)

theorem fits_out (v x : Int) (s : Bool) (w : World) (h : x < 1 ∨ 8 < x) :
    Calls Try.prog 11 #[.int .i64 v, .int .i64 x, .bool s] w fun e w' => e = .returned (.bool (fitsB v x s)) ∧ w' = w := by
  have hf : fitsB v x s = false := by
    unfold fitsB
    rw [show decide (1 ≤ x ∧ x ≤ 8) = false from by simp; omega]; rfl
  rw [hf]
  rcases h with h | h
  · go_enter Try.func11, Try.ntmps11
    go_wp2
    go_ret
    exact ⟨rfl, rfl⟩
  · have hd : decide (x ≤ 8) = false := by simp; omega
    go_enter Try.func11, Try.ntmps11
    go_wp2
    go_ret
    exact ⟨rfl, rfl⟩

theorem wrap_lo (v : Int) : 0 ≤ IntKind.u64.wrap v := by rw [IntKind.wrap_u64]; omega
theorem wrap_hi (v : Int) : IntKind.u64.wrap v < 18446744073709551616 := by rw [IntKind.wrap_u64]; omega
theorem some_yes (x : Int) (w : World) (h1 : 1 ≤ x) (h2 : x ≤ 8) :
    Calls Try.prog 19 #[.int .i64 x] w fun e w' => e = .returned (.bool true) ∧ w' = w := by
  have hd : decide (x ≤ 8) = true := by simp; omega
  go_enter Try.func19, Try.ntmps19
  go_wp2
  go_ret
  exact ⟨rfl, rfl⟩

theorem fits_sig (v x : Int) (w : World) (h1 : 1 ≤ x) (h2 : x ≤ 8) :
    Calls Try.prog 11 #[.int .i64 v, .int .i64 x, .bool true] w fun e w' => e = .returned (.bool (fitsB v x true)) ∧ w' = w := by
  go_enter Try.func11, Try.ntmps11
  go_wp2_with (first | (go_at_call 19; refine (some_yes _ _ (by omega) (by omega)).mono ?_; rintro e w' ⟨rfl, rfl⟩) | (go_at_call 7; refine (sig_any _ _ (wrap_lo _) (wrap_hi _) _).mono ?_; rintro e w' ⟨rfl, rfl⟩))
  go_ret
  exact ⟨ret_bool (by rw [IntKind.wrap_u64, sigB_u64]; simp [fitsB, h1, h2]), rfl⟩

theorem fits_uns (v x : Int) (w : World) (h1 : 1 ≤ x) (h2 : x ≤ 8) (hv : v ≤ 9223372036854775807) :
    Calls Try.prog 11 #[.int .i64 v, .int .i64 x, .bool false] w fun e w' => e = .returned (.bool (fitsB v x false)) ∧ w' = w := by
  by_cases h0 : 0 ≤ v
  all_goals
    go_enter Try.func11, Try.ntmps11
    go_wp2_with (first | (go_at_call 19; refine (some_yes _ _ (by omega) (by omega)).mono ?_; rintro e w' ⟨rfl, rfl⟩) | (go_at_call 9; refine (uns_any _ _ (by first | exact wrap_lo _ | omega) (by first | exact wrap_hi _ | omega) _).mono ?_; rintro e w' ⟨rfl, rfl⟩))
    go_ret
    exact ⟨ret_bool (by first | (simp [fitsB, h1, h2, h0]; done) | (simp [fitsB, h1, h2]; intro _; omega)), rfl⟩

theorem pw_hi (j : Nat) (h : j ≤ 7) : pw j ≤ 72057594037927936 := by
  by_cases e : j ≤ 6
  · have := pw_le6 j e; omega
  · rw [show j = 7 from by omega, pw7]; decide
theorem pw_even (j : Nat) (h : 1 ≤ j) : pw j % 256 = 0 := by
  obtain ⟨k, rfl⟩ : ∃ k, j = k + 1 := ⟨j - 1, by omega⟩
  rw [pw_succ]; omega
theorem pwn1 : pw (Int.toNat 1) = 256 := by decide
theorem pwn2 : pw (Int.toNat 2) = 65536 := by decide
theorem pwn3 : pw (Int.toNat 3) = 16777216 := by decide
theorem pwn4 : pw (Int.toNat 4) = 4294967296 := by decide
theorem pwn5 : pw (Int.toNat 5) = 1099511627776 := by decide
theorem pwn6 : pw (Int.toNat 6) = 281474976710656 := by decide
theorem pwn7 : pw (Int.toNat 7) = 72057594037927936 := by decide
theorem seven {x : Int} (h1 : 1 ≤ x) (h2 : x ≤ 7) : x = 1 ∨ x = 2 ∨ x = 3 ∨ x = 4 ∨ x = 5 ∨ x = 6 ∨ x = 7 := by omega
theorem unsB_pw (n x : Int) (h1 : 1 ≤ x) (h2 : x ≤ 7) : unsB n x = n % pw x.toNat := by
  rcases seven h1 h2 with rfl | rfl | rfl | rfl | rfl | rfl | rfl
  all_goals simp only [unsB1, unsB2, unsB3, unsB4, unsB5, unsB6, unsB7, pwn1, pwn2, pwn3, pwn4, pwn5, pwn6, pwn7]
theorem sigB_pw (n x : Int) (h1 : 1 ≤ x) (h2 : x ≤ 7) : sigB n x = if pw x.toNat / 2 ≤ unsB n x then unsB n x - pw x.toNat else unsB n x := by
  rcases seven h1 h2 with rfl | rfl | rfl | rfl | rfl | rfl | rfl
  all_goals
    simp only [sigB1, sigB2, sigB3, sigB4, sigB5, sigB6, sigB7, unsB1, unsB2, unsB3, unsB4, unsB5, unsB6, unsB7, pwn1, pwn2, pwn3, pwn4, pwn5, pwn6, pwn7]
    split <;> omega
theorem fitsB_sig (v x : Int) (h1 : 1 ≤ x) (h2 : x ≤ 7) : fitsB v x true = (decide (-(pw x.toNat / 2) ≤ v) && decide (v < pw x.toNat / 2)) := by
  rw [Bool.eq_iff_iff]
  rcases seven h1 h2 with rfl | rfl | rfl | rfl | rfl | rfl | rfl
  all_goals
    simp only [fitsB, sigB1, sigB2, sigB3, sigB4, sigB5, sigB6, sigB7, pwn1, pwn2, pwn3, pwn4, pwn5, pwn6, pwn7, if_true, Bool.and_eq_true, decide_eq_true_eq, beq_iff_eq]
    omega
theorem fitsB_uns (v x : Int) (h1 : 1 ≤ x) (h2 : x ≤ 7) : fitsB v x false = (decide (0 ≤ v) && decide (v < pw x.toNat)) := by
  rw [Bool.eq_iff_iff]
  rcases seven h1 h2 with rfl | rfl | rfl | rfl | rfl | rfl | rfl
  all_goals
    simp only [fitsB, unsB1, unsB2, unsB3, unsB4, unsB5, unsB6, unsB7, pwn1, pwn2, pwn3, pwn4, pwn5, pwn6, pwn7, if_false, Bool.and_eq_true, decide_eq_true_eq, beq_iff_eq, Bool.false_eq_true]
    omega
theorem fitsB_sig8 (v : Int) (h1 : -9223372036854775808 ≤ v) (h2 : v ≤ 9223372036854775807) : fitsB v 8 true = true := by
  simp only [fitsB, sigB8, if_true, Bool.and_eq_true, decide_eq_true_eq, beq_iff_eq]; omega
theorem fitsB_uns8 (v : Int) (h1 : -9223372036854775808 ≤ v) (h2 : v ≤ 9223372036854775807) : fitsB v 8 false = decide (0 ≤ v) := by
  rw [Bool.eq_iff_iff]
  simp only [fitsB, unsB8, if_false, Bool.and_eq_true, decide_eq_true_eq, beq_iff_eq, Bool.false_eq_true]; omega

theorem power_any (x : Int) (h1 : 1 ≤ x) (h2 : x ≤ 7) (w : World) :
    Calls Try.prog 21 #[.int .i64 x] w fun e w' => e = .returned (.tuple #[.int .u64 (pw x.toNat), .bool true]) ∧ w' = w := by
  obtain ⟨K, rfl⟩ := Int.eq_ofNat_of_zero_le (show 0 ≤ x by omega)
  rw [Int.toNat_natCast]
  exact power_to7 K (by omega) w

theorem refUns_out (n x : Int) (h : x < 1 ∨ 8 < x) (w : World) :
    Calls Try.prog 10 #[.int .u64 n, .int .i64 x] w fun e w' => e = .returned (.int .u64 (unsB n x)) ∧ w' = w := by
  rw [unsB_out n x h]
  rcases h with h | h
  · go_enter Try.func10, Try.ntmps10
    go_wp2
    go_ret
    exact ⟨rfl, rfl⟩
  · have hd : decide (x ≤ 8) = false := by simp; omega
    go_enter Try.func10, Try.ntmps10
    go_wp2
    go_ret
    exact ⟨rfl, rfl⟩
theorem within_yes (x : Int) (w : World) (h1 : 1 ≤ x) (h2 : x ≤ 8) :
    Calls Try.prog 20 #[.int .i64 x, .int .i64 1, .int .i64 8] w fun e w' => e = .returned (.bool true) ∧ w' = w := by
  have hd : decide (x ≤ 8) = true := by simp; omega
  go_enter Try.func20, Try.ntmps20
  go_wp2
  go_ret
  exact ⟨rfl, rfl⟩
theorem refUns_any (n x : Int) (h0 : 0 ≤ n) (h1 : n < 18446744073709551616) (w : World) :
    Calls Try.prog 10 #[.int .u64 n, .int .i64 x] w fun e w' => e = .returned (.int .u64 (unsB n x)) ∧ w' = w := by
  by_cases ho : x < 1 ∨ 8 < x
  · exact refUns_out n x ho w
  by_cases h7 : x ≤ 7
  · have hx : 1 ≤ x := by omega
    have hp := pw_pos x.toNat
    rw [unsB_pw n x hx h7]
    clear ho
    go_enter Try.func10, Try.ntmps10
    go_wp2_with (first | (go_at_call 20; refine (within_yes _ _ (by omega) (by omega)).mono ?_; rintro e w' ⟨rfl, rfl⟩) | (go_at_call 21; refine (power_any _ (by omega) (by omega) _).mono ?_; rintro e w' ⟨rfl, rfl⟩))
    go_ret
    exact ⟨rfl, rfl⟩
  · obtain rfl : x = 8 := by omega
    rw [unsB8, Int.emod_eq_of_lt h0 h1]
    clear ho h7
    go_enter Try.func10, Try.ntmps10
    go_wp2_with (first | (go_at_call 20; refine (within_yes _ _ (by omega) (by omega)).mono ?_; rintro e w' ⟨rfl, rfl⟩) | (go_at_call 21; refine (power_8 _).mono ?_; rintro e w' ⟨rfl, rfl⟩))
    go_ret
    exact ⟨rfl, rfl⟩

theorem refSig_out (n x : Int) (h : x < 1 ∨ 8 < x) (w : World) :
    Calls Try.prog 8 #[.int .u64 n, .int .i64 x] w fun e w' => e = .returned (.int .i64 (sigB n x)) ∧ w' = w := by
  rw [sigB_out n x h]
  rcases h with h | h
  · go_enter Try.func8, Try.ntmps8
    go_wp2
    go_ret
    exact ⟨rfl, rfl⟩
  · have hd : decide (x ≤ 8) = false := by simp; omega
    go_enter Try.func8, Try.ntmps8
    go_wp2
    go_ret
    exact ⟨rfl, rfl⟩
theorem refSig_any (n x : Int) (h0 : 0 ≤ n) (h1 : n < 18446744073709551616) (w : World) :
    Calls Try.prog 8 #[.int .u64 n, .int .i64 x] w fun e w' => e = .returned (.int .i64 (sigB n x)) ∧ w' = w := by
  by_cases ho : x < 1 ∨ 8 < x
  · exact refSig_out n x ho w
  by_cases h7 : x ≤ 7
  · have hx : 1 ≤ x := by omega
    have hp := pw_pos x.toNat
    have hq := pw_hi x.toNat (by omega)
    have hm0 : 0 ≤ unsB n x := by rw [unsB_pw n x hx h7]; exact Int.emod_nonneg _ (by omega)
    have hm1 : unsB n x < pw x.toNat := by rw [unsB_pw n x hx h7]; exact Int.emod_lt_of_pos _ (by omega)
    have hs : Hid (sigB n x = if pw x.toNat / 2 ≤ unsB n x then unsB n x - pw x.toNat else unsB n x) := sigB_pw n x hx h7
    clear ho
    by_cases hc : pw x.toNat / 2 ≤ unsB n x
    all_goals
      go_enter Try.func8, Try.ntmps8
      go_wp2_with (first | (go_at_call 20; refine (within_yes _ _ (by omega) (by omega)).mono ?_; rintro e w' ⟨rfl, rfl⟩) | (go_at_call 10; refine (refUns_any _ _ (by omega) (by omega) _).mono ?_; rintro e w' ⟨rfl, rfl⟩) | (go_at_call 21; refine (power_any _ (by omega) (by omega) _).mono ?_; rintro e w' ⟨rfl, rfl⟩))
      go_ret
      exact ⟨ret_int (by rw [hs.out]; split <;> omega), rfl⟩
  · obtain rfl : x = 8 := by omega
    rw [sigB8]
    clear ho h7
    go_enter Try.func8, Try.ntmps8
    go_wp2_with (first | (go_at_call 20; refine (within_yes _ _ (by omega) (by omega)).mono ?_; rintro e w' ⟨rfl, rfl⟩) | (go_at_call 10; refine (refUns_any _ _ (by omega) (by omega) _).mono ?_; rintro e w' ⟨rfl, rfl⟩) | (go_at_call 21; refine (power_8 _).mono ?_; rintro e w' ⟨rfl, rfl⟩))
    go_ret
    exact ⟨ret_int (by rw [unsB8, Int.emod_eq_of_lt h0 h1]; unfold wrap64; rfl), rfl⟩

theorem refFits_out (v x : Int) (s : Bool) (w : World) (h : x < 1 ∨ 8 < x) :
    Calls Try.prog 12 #[.int .i64 v, .int .i64 x, .bool s] w fun e w' => e = .returned (.bool (fitsB v x s)) ∧ w' = w := by
  have hf : fitsB v x s = false := by
    unfold fitsB
    rw [show decide (1 ≤ x ∧ x ≤ 8) = false from by simp; omega]; rfl
  rw [hf]
  rcases h with h | h
  · go_enter Try.func12, Try.ntmps12
    go_wp2
    go_ret
    exact ⟨rfl, rfl⟩
  · have hd : decide (x ≤ 8) = false := by simp; omega
    go_enter Try.func12, Try.ntmps12
    go_wp2
    go_ret
    exact ⟨rfl, rfl⟩
theorem refFits_sig (v x : Int) (w : World) (h1 : -9223372036854775808 ≤ v) (h2 : v ≤ 9223372036854775807) :
    Calls Try.prog 12 #[.int .i64 v, .int .i64 x, .bool true] w fun e w' => e = .returned (.bool (fitsB v x true)) ∧ w' = w := by
  by_cases ho : x < 1 ∨ 8 < x
  · exact refFits_out v x true w ho
  by_cases h7 : x ≤ 7
  · have hx : 1 ≤ x := by omega
    have hp := pw_pos x.toNat
    have hq := pw_hi x.toNat (by omega)
    rw [fitsB_sig v x hx h7]
    have e8 : (x == 8) = false := by simp; omega
    clear ho
    by_cases hc : -(pw x.toNat / 2) ≤ v
    all_goals
      go_enter Try.func12, Try.ntmps12
      go_wp2_with (first | (go_at_call 20; refine (within_yes _ _ (by omega) (by omega)).mono ?_; rintro e w' ⟨rfl, rfl⟩) | (go_at_call 21; refine (power_any _ (by omega) (by omega) _).mono ?_; rintro e w' ⟨rfl, rfl⟩))
      go_ret
      exact ⟨ret_bool (by first | (simp [hc]; done) | (simp; intro _; omega)), rfl⟩
  · obtain rfl : x = 8 := by omega
    rw [fitsB_sig8 v h1 h2]
    clear ho h7
    go_enter Try.func12, Try.ntmps12
    go_wp2_with (first | (go_at_call 20; refine (within_yes _ _ (by omega) (by omega)).mono ?_; rintro e w' ⟨rfl, rfl⟩))
    go_ret
    exact ⟨rfl, rfl⟩
theorem refFits_uns (v x : Int) (w : World) (h1 : -9223372036854775808 ≤ v) (h2 : v ≤ 9223372036854775807) :
    Calls Try.prog 12 #[.int .i64 v, .int .i64 x, .bool false] w fun e w' => e = .returned (.bool (fitsB v x false)) ∧ w' = w := by
  by_cases ho : x < 1 ∨ 8 < x
  · exact refFits_out v x false w ho
  by_cases h7 : x ≤ 7
  · have hx : 1 ≤ x := by omega
    have hp := pw_pos x.toNat
    have hq := pw_hi x.toNat (by omega)
    rw [fitsB_uns v x hx h7]
    have e8 : (x == 8) = false := by simp; omega
    clear ho
    by_cases hc : 0 ≤ v
    all_goals
      go_enter Try.func12, Try.ntmps12
      go_wp2_with (first | (go_at_call 20; refine (within_yes _ _ (by omega) (by omega)).mono ?_; rintro e w' ⟨rfl, rfl⟩) | (go_at_call 21; refine (power_any _ (by omega) (by omega) _).mono ?_; rintro e w' ⟨rfl, rfl⟩))
      go_ret
      exact ⟨ret_bool (by first | (simp [hc]; done) | (simp; intro _; omega)), rfl⟩
  · obtain rfl : x = 8 := by omega
    rw [fitsB_uns8 v h1 h2]
    clear ho h7
    go_enter Try.func12, Try.ntmps12
    go_wp2_with (first | (go_at_call 20; refine (within_yes _ _ (by omega) (by omega)).mono ?_; rintro e w' ⟨rfl, rfl⟩))
    go_ret
    exact ⟨rfl, rfl⟩
theorem fits_any (v x : Int) (s : Bool) (w : World) (h2 : v ≤ 9223372036854775807) :
    Calls Try.prog 11 #[.int .i64 v, .int .i64 x, .bool s] w fun e w' => e = .returned (.bool (fitsB v x s)) ∧ w' = w := by
  by_cases ho : x < 1 ∨ 8 < x
  · exact fits_out v x s w ho
  cases s with
  | true => exact fits_sig v x w (by omega) (by omega)
  | false => exact fits_uns v x w (by omega) (by omega) h2
theorem refFits_any (v x : Int) (s : Bool) (w : World) (h1 : -9223372036854775808 ≤ v) (h2 : v ≤ 9223372036854775807) :
    Calls Try.prog 12 #[.int .i64 v, .int .i64 x, .bool s] w fun e w' => e = .returned (.bool (fitsB v x s)) ∧ w' = w := by
  cases s with
  | true => exact refFits_sig v x w h1 h2
  | false => exact refFits_uns v x w h1 h2
end Go.Proofs.Ytfebfnjmehaeiaa.signs
