/- Plain facts on numbers as bytes: putL lays a number's bytes, gv is the number that bytes are, rev turns them round. No program. -/
import Derived.WalkKit
import Derived.ProofKit
import Derived.OpenShut
import Derived.Laws.BytesArg
namespace Go.Proofs.YtaboemchkmmgeaaDoor.num
open Go.RowKit

theorem ret_int {k : IntKind} {a b : Int} (h : a = b) : Ending.returned (.int k a) = .returned (.int k b) := by rw [h]
theorem ret_bool {a b : Bool} (h : a = b) : Ending.returned (.bool a) = .returned (.bool b) := by rw [h]
/-- Where, of W bytes, the one of weight k stands. -/
def pl (W : Nat) (o : Bool) (k : Nat) : Nat := if o then W - 1 - k else k
/-- The bytes of n, as many as W, of which those below weight k are laid. -/
def putL (n : Int) (W : Nat) (o : Bool) (k : Nat) : List Int := (List.range W).map fun j => if pl W o j < k then n / 256 ^ (pl W o j) % 256 else 0
theorem putL_len (n : Int) (W : Nat) (o : Bool) (k : Nat) : (putL n W o k).length = W := by simp [putL]
theorem putL_zero (n : Int) (W : Nat) (o : Bool) : putL n W o 0 = List.replicate W 0 := by
  simp [putL, List.map_const']
theorem putL_set (n : Int) (W : Nat) (o : Bool) (k : Nat) (hk : k < W) : (putL n W o k).set (pl W o k) (n / 256 ^ k % 256) = putL n W o (k + 1) := by
  apply List.ext_getElem
  · simp [putL]
  · intro i h1 h2
    have hi : i < W := by simpa [putL] using h1
    have hinv : pl W o (pl W o k) = k := by unfold pl; split <;> omega
    rw [List.getElem_set]
    by_cases e : pl W o k = i
    · subst e
      simp [putL, hinv]
    · have hne : pl W o i ≠ k := by
        intro h
        apply e
        rw [← h]
        unfold pl; split <;> omega
      rw [if_neg e]
      simp only [putL, List.getElem_map, List.getElem_range]
      by_cases hlt : pl W o i < k
      · rw [if_pos hlt, if_pos (by omega)]
      · rw [if_neg hlt, if_neg (by omega)]
theorem wrap8 (k : Nat) (hk : k ≤ 8) : IntKind.i64.wrap (8 * (k : Int)) = 8 * (k : Int) := by
  rw [IntKind.wrap_i64]; omega
theorem two256 (k : Nat) : (2 : Int) ^ (8 * k) = 256 ^ k := by rw [Int.pow_mul]; rfl
theorem run_shr8 {P : Program} (n : Int) (k : Nat) (hk : k ≤ 8) (w : World) :
    (Op.shift .shr .u64 n .i64 (IntKind.i64.wrap (8 * (k : Int)))).run P w = .ok (.int .u64 (n / 256 ^ k)) w := by
  rw [wrap8 k hk]
  unfold Op.shift
  rw [if_neg (by omega)]
  have e : min (8 * (k : Int)).toNat IntKind.u64.bits = 8 * k := by
    show min (8 * (k : Int)).toNat 64 = 8 * k
    omega
  simp only [e]
  rw [two256, Int.fdiv_eq_ediv_of_nonneg _ (Int.le_of_lt (Int.pow_pos (by decide)))]
  rfl
/-- The number whose byte of weight i is f i, up to weight k. -/
def gv (f : Nat → Int) : Nat → Int
  | 0 => 0
  | k + 1 => gv f k + f k * 256 ^ k
/-- Byte j of a text. -/
def sb (s : ByteArray) (j : Nat) : Int := ((s.data.toList.getD j 0).toNat : Int)
theorem sb_bd (s : ByteArray) (j : Nat) : 0 ≤ sb s j ∧ sb s j < 256 := by
  unfold sb
  have := (s.data.toList.getD j 0).toNat_lt
  omega
theorem gv_bd (f : Nat → Int) (hf : ∀ i, 0 ≤ f i ∧ f i < 256) (k : Nat) : 0 ≤ gv f k ∧ gv f k < 256 ^ k := by
  induction k with
  | zero => simp [gv]
  | succ k ih =>
    have := hf k
    have hp : (0 : Int) < 256 ^ k := Int.pow_pos (by decide)
    have h1 : 0 ≤ f k * 256 ^ k := Int.mul_nonneg this.1 (Int.le_of_lt hp)
    have h2 : f k * 256 ^ k ≤ 255 * 256 ^ k := Int.mul_le_mul_of_nonneg_right (by omega) (Int.le_of_lt hp)
    have h3 : (256 : Int) ^ (k + 1) = 256 ^ k * 256 := Int.pow_succ ..
    simp only [gv]
    omega
theorem sb_get (s : ByteArray) (j : Nat) (h : j < s.size) : sb s j = ((s[j]'h).toNat : Int) := by
  unfold sb
  have h' : j < s.data.toList.length := by simpa using h
  rw [List.getD_eq_getElem?_getD, List.getElem?_eq_getElem h']
  rfl
theorem pow256_le (k : Nat) (hk : k ≤ 7) : (256 : Int) ^ k ≤ 72057594037927936 := by
  rcases (show k = 0 ∨ k = 1 ∨ k = 2 ∨ k = 3 ∨ k = 4 ∨ k = 5 ∨ k = 6 ∨ k = 7 by omega) with rfl | rfl | rfl | rfl | rfl | rfl | rfl | rfl <;> decide
theorem or_step (g b : Int) (k : Nat) (hk : k < 8) (hg0 : 0 ≤ g) (hg : g < 256 ^ k) (hb0 : 0 ≤ b) (hb : b < 256) :
    bits .or .u64 g (IntKind.u64.wrap (IntKind.u64.wrap b * 2 ^ (8 * k))) = g + b * 256 ^ k := by
  have hp : (0 : Int) < 256 ^ k := Int.pow_pos (by decide)
  have hq := pow256_le k (by omega)
  have h1 : 0 ≤ b * 256 ^ k := Int.mul_nonneg hb0 (Int.le_of_lt hp)
  have h2 : b * 256 ^ k ≤ 255 * 256 ^ k := Int.mul_le_mul_of_nonneg_right (by omega) (Int.le_of_lt hp)
  rw [IntKind.wrap_u64 b, Int.emod_eq_of_lt hb0 (by omega), two256, IntKind.wrap_u64, Int.emod_eq_of_lt h1 (by omega), u64_or _ _ hg0 (by omega) h1 (by omega)]
  obtain ⟨G, rfl⟩ := Int.eq_ofNat_of_zero_le hg0
  obtain ⟨B, rfl⟩ := Int.eq_ofNat_of_zero_le hb0
  have e : ((B : Int) * 256 ^ k) = ((B * 256 ^ k : Nat) : Int) := by simp
  rw [e, Int.toNat_natCast, Int.toNat_natCast, Nat.or_comm, nat_join (8 * k)]
  · rw [Int.natCast_add, Int.add_comm]
  · rw [Nat.pow_mul]; exact Nat.mul_mod_left _ _
  · have : (G : Int) < ((256 ^ k : Nat) : Int) := by simpa using hg
    have h' : G < 256 ^ k := by exact_mod_cast this
    rw [Nat.pow_mul]
    exact h'
theorem p256 (a : Nat) : ((256 ^ a : Nat) : Int) = (256 : Int) ^ a := by rw [Int.natCast_pow]; rfl
theorem nat_mod_step (N a : Nat) : N % 256 ^ (a + 1) = N % 256 ^ a + 256 ^ a * (N / 256 ^ a % 256) := by
  rw [Nat.pow_succ, Nat.mod_mul]
theorem mod_step (n : Int) (h0 : 0 ≤ n) (a : Nat) : n % 256 ^ (a + 1) = n % 256 ^ a + n / 256 ^ a % 256 * 256 ^ a := by
  obtain ⟨N, rfl⟩ := Int.eq_ofNat_of_zero_le h0
  have h := nat_mod_step N a
  rw [Nat.mul_comm] at h
  rw [← p256, ← p256]
  have h' := congrArg (fun x : Nat => (x : Int)) h
  simp only [Int.natCast_add, Int.natCast_mul, Int.natCast_emod, Int.natCast_ediv] at h'
  exact h'
theorem gv_congr (f g : Nat → Int) (k : Nat) (h : ∀ i, i < k → f i = g i) : gv f k = gv g k := by
  induction k with
  | zero => rfl
  | succ k ih => simp only [gv]; rw [ih (fun i hi => h i (by omega)), h k (by omega)]
theorem gv_bytes (n : Int) (h0 : 0 ≤ n) (k : Nat) : gv (fun i => n / 256 ^ i % 256) k = n % 256 ^ k := by
  induction k with
  | zero => simp [gv]
  | succ k ih => rw [mod_step n h0 k, ← ih]; rfl
theorem sb_nums (zs : List Int) (h : ∀ z ∈ zs, 0 ≤ z ∧ z < 256) (j : Nat) : sb (strOfNums zs) j = zs.getD j 0 := by
  unfold sb
  rw [strOfNums_data]
  by_cases hj : j < zs.length
  · have hz := h _ (List.getElem_mem hj)
    simp only [List.getD_eq_getElem?_getD, List.getElem?_map, List.getElem?_eq_getElem hj, Option.map_some, Option.getD_some]
    rw [UInt8.toNat_ofNat']
    omega
  · simp [List.getD_eq_getElem?_getD, List.getElem?_eq_none (Nat.le_of_not_lt hj)]
theorem putL_bd (n : Int) (W : Nat) (o : Bool) (k : Nat) : ∀ z ∈ putL n W o k, 0 ≤ z ∧ z < 256 := by
  intro z hz
  simp only [putL, List.mem_map] at hz
  obtain ⟨j, _, rfl⟩ := hz
  split <;> omega
theorem putL_get (n : Int) (W : Nat) (o : Bool) (j : Nat) (hj : j < W) : (putL n W o W).getD (pl W o j) 0 = n / 256 ^ j % 256 := by
  have h1 : pl W o j < W := by unfold pl; split <;> omega
  have h2 : pl W o (pl W o j) = j := by unfold pl; split <;> omega
  simp [putL, List.getD_eq_getElem?_getD, h1, h2, hj]
theorem put_len (n : Int) (W : Nat) (o : Bool) : (strOfNums (putL n W o W)).size = W := by rw [strOfNums_size, putL_len]
/-- WHAT IS PUT IS THERE: among other bytes, too. -/
theorem back (n : Int) (h0 : 0 ≤ n) (W : Nat) (o : Bool) (t : ByteArray) (A : Nat) (ht : ∀ j, j < W → sb t (A + j) = sb (strOfNums (putL n W o W)) j) :
    gv (fun i => sb t (A + pl W o i)) W = n % 256 ^ W := by
  rw [← gv_bytes n h0 W]
  apply gv_congr
  intro i hi
  have h1 : pl W o i < W := by unfold pl; split <;> omega
  rw [ht _ h1, sb_nums _ (putL_bd n W o W), putL_get n W o i hi]
theorem sb_mid (a s b : ByteArray) (j : Nat) (hj : j < s.size) : sb (a ++ s ++ b) (a.size + j) = sb s j := by
  unfold sb
  congr 2
  have e : (a ++ s ++ b).data.toList = a.data.toList ++ (s.data.toList ++ b.data.toList) := by simp
  have ha : a.data.toList.length = a.size := rfl
  have hs : s.data.toList.length = s.size := rfl
  rw [e, List.getD_eq_getElem?_getD, List.getD_eq_getElem?_getD, List.getElem?_append_right (by omega), List.getElem?_append_left (by omega)]
  congr 2
  omega
theorem putL_mod (n : Int) (h0 : 0 ≤ n) (W : Nat) (o : Bool) : putL (n % 256 ^ W) W o W = putL n W o W := by
  unfold putL
  apply List.map_congr_left
  intro j hj
  have hj' : j < W := by simpa using hj
  have h1 : pl W o j < W := by unfold pl; split <;> omega
  rw [if_pos h1, if_pos h1]
  obtain ⟨N, rfl⟩ := Int.eq_ofNat_of_zero_le h0
  have : N % 256 ^ W / 256 ^ (pl W o j) % 256 = N / 256 ^ (pl W o j) % 256 := by
    generalize pl W o j = i at h1
    obtain ⟨d, rfl⟩ : ∃ d, W = i + 1 + d := ⟨W - i - 1, by omega⟩
    rw [Nat.pow_add, Nat.pow_add, Nat.pow_one, Nat.mul_assoc, Nat.mod_mul_right_div_self]
    exact Nat.mod_mul_right_mod ..
  rw [← p256, ← p256]
  have h' := congrArg (fun x : Nat => (x : Int)) this
  simp only [Int.natCast_emod, Int.natCast_ediv] at h'
  exact h'
theorem gv_digit (f : Nat → Int) (hf : ∀ i, 0 ≤ f i ∧ f i < 256) (k i : Nat) (hi : i < k) : gv f k / 256 ^ i % 256 = f i := by
  induction k with
  | zero => omega
  | succ k ih =>
    have hb := gv_bd f hf k
    have hp : (0 : Int) < 256 ^ k := Int.pow_pos (by decide)
    by_cases e : i = k
    · subst e
      have := hf i
      simp only [gv]
      rw [Int.add_mul_ediv_right _ _ (by omega), Int.ediv_eq_zero_of_lt hb.1 hb.2]
      omega
    · have hik : i < k := by omega
      simp only [gv]
      obtain ⟨d, rfl⟩ : ∃ d, k = i + 1 + d := ⟨k - i - 1, by omega⟩
      have hpi : (0 : Int) < 256 ^ i := Int.pow_pos (by decide)
      have e2 : f (i + 1 + d) * 256 ^ (i + 1 + d) = (f (i + 1 + d) * 256 ^ d * 256) * 256 ^ i := by
        rw [Int.pow_add, Int.pow_add, Int.pow_one]
        simp only [Int.mul_comm, Int.mul_left_comm, Int.mul_assoc]
      rw [e2, Int.add_mul_ediv_right _ _ (by omega), Int.add_mul_emod_self_right]
      exact ih hik
/-- The number whose bytes are n's the other way round. -/
def rev (n : Int) (W : Nat) : Int := gv (fun i => n / 256 ^ (W - 1 - i) % 256) W
theorem dig_bd (n : Int) (c : Nat → Nat) : ∀ i, 0 ≤ n / 256 ^ (c i) % 256 ∧ n / 256 ^ (c i) % 256 < 256 := fun i => by omega
theorem rev_digit (n : Int) (W i : Nat) (hi : i < W) : rev n W / 256 ^ i % 256 = n / 256 ^ (W - 1 - i) % 256 :=
  gv_digit _ (dig_bd n _) W i hi
theorem rev_rev (n : Int) (h0 : 0 ≤ n) (W : Nat) : rev (rev n W) W = n % 256 ^ W := by
  rw [← gv_bytes n h0 W]
  unfold rev
  apply gv_congr
  intro i hi
  show rev n W / 256 ^ (W - 1 - i) % 256 = _
  rw [rev_digit n W _ (by omega), show W - 1 - (W - 1 - i) = i from by omega]
theorem rev_put (n : Int) (W : Nat) : putL (rev n W) W true W = putL n W false W := by
  unfold putL
  apply List.map_congr_left
  intro j hj
  have hj' : j < W := by simpa using hj
  have e1 : pl W true j = W - 1 - j := rfl
  have e2 : pl W false j = j := rfl
  rw [e1, e2, if_pos (by omega), if_pos hj', rev_digit n W _ (by omega), show W - 1 - (W - 1 - j) = j from by omega]
theorem rev_bd (n : Int) (W : Nat) (hW : W ≤ 8) : 0 ≤ rev n W ∧ rev n W < 18446744073709551616 := by
  have h := gv_bd _ (dig_bd n (fun i => W - 1 - i)) W
  have hp : (256 : Int) ^ W ≤ 256 ^ 8 := by
    obtain ⟨d, hd⟩ : ∃ d, 8 = W + d := ⟨8 - W, by omega⟩
    rw [hd, Int.pow_add]
    have h1 : (0 : Int) < 256 ^ W := Int.pow_pos (by decide)
    have h2 : (0 : Int) < 256 ^ d := Int.pow_pos (by decide)
    have h3 := Int.mul_le_mul_of_nonneg_left (show (1 : Int) ≤ 256 ^ d by omega) (Int.le_of_lt h1)
    omega
  unfold rev
  have : (256 : Int) ^ 8 = 18446744073709551616 := by decide
  omega
end Go.Proofs.YtaboemchkmmgeaaDoor.num
