/- What Swap of package word answers, and the bytes of what it answers. -/
import Derived.Test.YtfebfnjmehaeiaaFacts
import Derived.Deep.RegionWith
namespace Go.Proofs.Ytfebfnjmehaeiaa.words
open Go.ChangeShapes Go.WideShapes Go.ChangeAt Go.RowKit
open mem signs

theorem gv_digit (f : Nat → Int) (hf : ∀ i, 0 ≤ f i ∧ f i < 256) (k i : Nat) (hi : i < k) : gv f k / 256 ^ i % 256 = f i := by
  induction k with
  | zero => omega
  | succ k ih =>
    have hb := gv_bd f hf k
    have hp : (0 : Int) < 256 ^ k := Int.pow_pos (by decide)
    by_cases e : i = k
    · subst e
      have := hf i
      simp only [gv]
      rw [Int.add_mul_ediv_right _ _ (by omega), Int.ediv_eq_zero_of_lt hb.1 hb.2]
      omega
    · have hik : i < k := by omega
      simp only [gv]
      obtain ⟨d, rfl⟩ : ∃ d, k = i + 1 + d := ⟨k - i - 1, by omega⟩
      have hpi : (0 : Int) < 256 ^ i := Int.pow_pos (by decide)
      have e2 : f (i + 1 + d) * 256 ^ (i + 1 + d) = (f (i + 1 + d) * 256 ^ d * 256) * 256 ^ i := by
        rw [Int.pow_add, Int.pow_add, Int.pow_one]
        simp only [Int.mul_comm, Int.mul_left_comm, Int.mul_assoc]
      rw [e2, Int.add_mul_ediv_right _ _ (by omega), Int.add_mul_emod_self_right]
      exact ih hik
/-- The number whose bytes are n's the other way round. -/
def rev (n : Int) (W : Nat) : Int := gv (fun i => n / 256 ^ (W - 1 - i) % 256) W
theorem dig_bd (n : Int) (c : Nat → Nat) : ∀ i, 0 ≤ n / 256 ^ (c i) % 256 ∧ n / 256 ^ (c i) % 256 < 256 := fun i => by omega
theorem rev_digit (n : Int) (W i : Nat) (hi : i < W) : rev n W / 256 ^ i % 256 = n / 256 ^ (W - 1 - i) % 256 :=
  gv_digit _ (dig_bd n _) W i hi
theorem rev_rev (n : Int) (h0 : 0 ≤ n) (W : Nat) : rev (rev n W) W = n % 256 ^ W := by
  rw [← gv_bytes n h0 W]
  unfold rev
  apply gv_congr
  intro i hi
  show rev n W / 256 ^ (W - 1 - i) % 256 = _
  rw [rev_digit n W _ (by omega), show W - 1 - (W - 1 - i) = i from by omega]
theorem rev_put (n : Int) (W : Nat) : putL (rev n W) W true W = putL n W false W := by
  unfold putL
  apply List.map_congr_left
  intro j hj
  have hj' : j < W := by simpa using hj
  have e1 : pl W true j = W - 1 - j := rfl
  have e2 : pl W false j = j := rfl
  rw [e1, e2, if_pos (by omega), if_pos hj', rev_digit n W _ (by omega), show W - 1 - (W - 1 - j) = j from by omega]
theorem rev_bd (n : Int) (W : Nat) (hW : W ≤ 8) : 0 ≤ rev n W ∧ rev n W < 18446744073709551616 := by
  have h := gv_bd _ (dig_bd n (fun i => W - 1 - i)) W
  have hp : (256 : Int) ^ W ≤ 256 ^ 8 := by
    obtain ⟨d, hd⟩ : ∃ d, 8 = W + d := ⟨8 - W, by omega⟩
    rw [hd, Int.pow_add]
    have h1 : (0 : Int) < 256 ^ W := Int.pow_pos (by decide)
    have h2 : (0 : Int) < 256 ^ d := Int.pow_pos (by decide)
    have h3 := Int.mul_le_mul_of_nonneg_left (show (1 : Int) ≤ 256 ^ d by omega) (Int.le_of_lt h1)
    omega
  unfold rev
  have : (256 : Int) ^ 8 = 18446744073709551616 := by decide
  omega
theorem unsB_mod (n : Int) (W : Nat) (hW : (W : Int) = 1 ∨ (W : Int) = 2 ∨ (W : Int) = 4 ∨ (W : Int) = 8) : unsB n W = n % 256 ^ W := by
  rcases (show W = 1 ∨ W = 2 ∨ W = 4 ∨ W = 8 by omega) with rfl | rfl | rfl | rfl
  · exact unsB1 n
  · exact unsB2 n
  · exact unsB4 n
  · exact unsB8 n
theorem put_at (n : Int) (W : Nat) (o : Bool) (O : Int) (w : World) (hO : (if o then (1 : Int) else 0) = O) (hW : (W : Int) = 1 ∨ (W : Int) = 2 ∨ (W : Int) = 4 ∨ (W : Int) = 8) :
    Calls Try.prog 16 #[.int .u64 n, .int .i64 W, .int .i64 O] w fun e w' => e = .returned (.tuple #[.string (strOfNums (putL n W o W)), .nilIface]) ∧ Gb w w' := by
  subst hO
  exact put_any n W o w hW
theorem get_swap (n : Int) (W : Nat) (w : World) (hW : (W : Int) = 1 ∨ (W : Int) = 2 ∨ (W : Int) = 4 ∨ (W : Int) = 8) :
    Calls Try.prog 17 #[.string (strOfNums (putL n W false W)), .int .i64 0, .int .i64 W, .int .i64 1] w fun e w' => e = .returned (.tuple #[.int .u64 (rev n W), .nilIface]) ∧ w' = w := by
  have hw8 : W ≤ 8 := by omega
  have hl := put_len n W false
  have hr : gv (fun i => sb (strOfNums (putL n W false W)) (0 + pl W true i)) W = rev n W := by
    unfold rev
    apply gv_congr
    intro i hi
    have h := putL_get n W false (pl W true i) (by unfold pl; split <;> omega)
    rw [Nat.zero_add, sb_nums _ (putL_bd n W false W)]
    exact h
  have hg := get_any (strOfNums (putL n W false W)) 0 W true 1 w rfl hW (by rw [hl]; unfold maxLen; omega) (by rw [hl]; omega)
  rw [hr] at hg
  exact hg
theorem swap_any (n : Int) (W : Nat) (w : World) (hW : (W : Int) = 1 ∨ (W : Int) = 2 ∨ (W : Int) = 4 ∨ (W : Int) = 8) :
    Calls Try.prog 18 #[.int .u64 n, .int .i64 W] w fun e w' => e = .returned (.tuple #[.int .u64 (rev n W), .nilIface]) ∧ Gb w w' := by
  have HW : Hid ((W : Int) = 1 ∨ (W : Int) = 2 ∨ (W : Int) = 4 ∨ (W : Int) = 8) := hW
  clear hW
  go_enter Try.func18, Try.ntmps18
  go_wp2_with (first | (go_at_call 16; refine (put_at n W false 0 _ rfl HW.out).mono ?_; rintro e w1 ⟨rfl, hgb⟩) | (go_at_call 17; refine (get_swap _ _ _ HW.out).mono ?_; rintro e w2 ⟨rfl, rfl⟩))
  go_ret2
  exact ⟨rfl, hgb⟩
theorem swap_back (n : Int) (W : Nat) (w : World) (h0 : 0 ≤ n) (hW : (W : Int) = 1 ∨ (W : Int) = 2 ∨ (W : Int) = 4 ∨ (W : Int) = 8) :
    Calls Try.prog 18 #[.int .u64 (rev n W), .int .i64 W] w fun e w' => e = .returned (.tuple #[.int .u64 (unsB n W), .nilIface]) ∧ Gb w w' := by
  have h := swap_any (rev n W) W w hW
  rw [rev_rev n h0 W, ← unsB_mod n W hW] at h
  exact h
theorem put_rev (n : Int) (W : Nat) (w : World) (hW : (W : Int) = 1 ∨ (W : Int) = 2 ∨ (W : Int) = 4 ∨ (W : Int) = 8) :
    Calls Try.prog 16 #[.int .u64 (rev n W), .int .i64 W, .int .i64 1] w fun e w' => e = .returned (.tuple #[.string (strOfNums (putL n W false W)), .nilIface]) ∧ Gb w w' := by
  have h := put_at (rev n W) W true 1 w rfl hW
  rw [rev_put] at h
  exact h
end Go.Proofs.Ytfebfnjmehaeiaa.words
