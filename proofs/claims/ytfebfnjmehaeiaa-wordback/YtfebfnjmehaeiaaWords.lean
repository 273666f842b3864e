/- What Put, Get and Swap of package word answer where width and order are right: the number's low bytes in their order, and the number that bytes are. -/
import Derived.Test.YtfebfnjmehaeiaaSigns
import Derived.Test.YtfebfnjmehaeiaaMem
namespace Go.Proofs.Ytfebfnjmehaeiaa.words
open Go.ChangeShapes Go.WideShapes Go.ChangeAt Go.RowKit
open mem

/-- Where, of W bytes, the one of weight k stands. -/
def pl (W : Nat) (o : Bool) (k : Nat) : Nat := if o then W - 1 - k else k
/-- The bytes of n, as many as W, of which those below weight k are laid. -/
def putL (n : Int) (W : Nat) (o : Bool) (k : Nat) : List Int := (List.range W).map fun j => if pl W o j < k then n / 256 ^ (pl W o j) % 256 else 0

theorem putL_len (n : Int) (W : Nat) (o : Bool) (k : Nat) : (putL n W o k).length = W := by simp [putL]
theorem putL_zero (n : Int) (W : Nat) (o : Bool) : putL n W o 0 = List.replicate W 0 := by
  simp [putL, List.map_const']
theorem putL_set (n : Int) (W : Nat) (o : Bool) (k : Nat) (hk : k < W) : (putL n W o k).set (pl W o k) (n / 256 ^ k % 256) = putL n W o (k + 1) := by
  apply List.ext_getElem
  · simp [putL]
  · intro i h1 h2
    have hi : i < W := by simpa [putL] using h1
    have hinv : pl W o (pl W o k) = k := by unfold pl; split <;> omega
    rw [List.getElem_set]
    by_cases e : pl W o k = i
    · subst e
      simp [putL, hinv]
    · have hne : pl W o i ≠ k := by
        intro h
        apply e
        rw [← h]
        unfold pl; split <;> omega
      rw [if_neg e]
      simp only [putL, List.getElem_map, List.getElem_range]
      by_cases hlt : pl W o i < k
      · rw [if_pos hlt, if_pos (by omega)]
      · rw [if_neg hlt, if_neg (by omega)]

theorem whole_yes (W : Int) (w : World) (h : W = 1 ∨ W = 2 ∨ W = 4 ∨ W = 8) :
    Calls Try.prog 22 #[.int .i64 W] w fun e w' => e = .returned (.bool true) ∧ w' = w := by
  rcases h with rfl | rfl | rfl | rfl
  all_goals
    go_enter Try.func22, Try.ntmps22
    go_wp2
    go_ret
    exact ⟨rfl, rfl⟩
theorem known_yes (o : Int) (w : World) (h : o = 0 ∨ o = 1) :
    Calls Try.prog 23 #[.int .i64 o] w fun e w' => e = .returned (.bool true) ∧ w' = w := by
  rcases h with rfl | rfl
  all_goals
    go_enter Try.func23, Try.ntmps23
    go_wp2
    go_ret
    exact ⟨rfl, rfl⟩
theorem place_any (k W : Nat) (o : Bool) (w : World) (hk : k < W) (hW : W ≤ 8) :
    Calls Try.prog 24 #[.int .i64 k, .int .i64 W, .int .i64 (if o then 1 else 0)] w fun e w' => e = .returned (.int .i64 (pl W o k : Nat)) ∧ w' = w := by
  cases o
  all_goals
    simp only [if_true, Bool.false_eq_true, if_false]
    go_enter Try.func24, Try.ntmps24
    go_wp2
    go_ret
    exact ⟨signs.ret_int (by simp [pl]; try omega), rfl⟩

theorem place_at (k W : Nat) (o : Bool) (O : Int) (w : World) (hk : k < W) (hW : W ≤ 8) (hO : (if o then (1 : Int) else 0) = O) :
    Calls Try.prog 24 #[.int .i64 k, .int .i64 W, .int .i64 O] w fun e w' => e = .returned (.int .i64 (pl W o k : Nat)) ∧ w' = w := by
  subst hO
  exact place_any k W o w hk hW

theorem wrap8 (k : Nat) (hk : k ≤ 8) : IntKind.i64.wrap (8 * (k : Int)) = 8 * (k : Int) := by
  rw [IntKind.wrap_i64]; omega
theorem two256 (k : Nat) : (2 : Int) ^ (8 * k) = 256 ^ k := by rw [Int.pow_mul]; rfl
theorem run_shr8 {P : Program} (n : Int) (k : Nat) (hk : k ≤ 8) (w : World) :
    (Op.shift .shr .u64 n .i64 (IntKind.i64.wrap (8 * (k : Int)))).run P w = .ok (.int .u64 (n / 256 ^ k)) w := by
  rw [wrap8 k hk]
  unfold Op.shift
  rw [if_neg (by omega)]
  have e : min (8 * (k : Int)).toNat IntKind.u64.bits = 8 * k := by
    show min (8 * (k : Int)).toNat 64 = 8 * k
    omega
  simp only [e]
  rw [two256, Int.fdiv_eq_ediv_of_nonneg _ (Int.le_of_lt (Int.pow_pos (by decide)))]
  rfl

theorem Try.info5 : (Try.prog.info? 5).map (fun i => (i.zero, i.size, i.bytes)) = some (some (.int .u8 0), 1, 1) := by kernel_rfl

theorem put_any (n : Int) (W : Nat) (o : Bool) (w : World) (hW : (W : Int) = 1 ∨ (W : Int) = 2 ∨ (W : Int) = 4 ∨ (W : Int) = 8) :
    Calls Try.prog 16 #[.int .u64 n, .int .i64 W, .int .i64 (if o then 1 else 0)] w fun e w' => e = .returned (.tuple #[.string (strOfNums (putL n W o W)), .nilIface]) ∧ Gb w w' := by
  have hmk := fun w => run_make_row' (P := Try.prog) 46 5 (.int .u8 0) 1 Try.underlying46 Try.info5 rfl .i64 .i64 W (by omega) (by omega) w
  have ho : (if o then (1 : Int) else 0) = 0 ∨ (if o then (1 : Int) else 0) = 1 := by cases o <;> simp
  have hw8 : W ≤ 8 := by omega
  have HW : Hid ((W : Int) = 1 ∨ (W : Int) = 2 ∨ (W : Int) = 4 ∨ (W : Int) = 8) := hW
  have HO : Hid ((if o then (1 : Int) else 0) = 0 ∨ (if o then (1 : Int) else 0) = 1) := ho
  clear hW ho
  generalize hO : (if o then (1 : Int) else 0) = O at *
  have HOO : Hid ((if o then (1 : Int) else 0) = O) := hO
  clear hO
  go_enter Try.func16, Try.ntmps16
  go_wp2_with (first | (go_at_call 22; refine (whole_yes _ _ HW.out).mono ?_; rintro e w' ⟨rfl, rfl⟩) | (go_at_call 23; refine (known_yes _ _ HO.out).mono ?_; rintro e w' ⟨rfl, rfl⟩))
  go_loopw [22] (fun i wr => ∃ k : Nat, k ≤ W ∧ i = .int .i64 k ∧ Row wr 5 w'.heap.size (putL n W o k) ∧ Gb w' wr) (fun i _ => W - (intOf i).toNat)
  case atStart => exact ⟨0, Nat.zero_le _, rfl, by rw [putL_zero]; exact Row.made _ _ _, (Gb.refl _).alloc _ _⟩
  case round =>
    obtain ⟨k, hk, rfl, hrow, hgb⟩ := hrel
    by_cases hlt : k < W
    · have hpl : pl W o k < W := by unfold pl; split <;> omega
      have hc := hrow.cell (j := pl W o k) (by rw [putL_len]; exact hpl)
      have hf := hrow.frozen (pl W o k)
      have hsh := run_shr8 (P := Try.prog) n k (by omega)
      have hu8 := IntKind.wrap_u8' (n / 256 ^ k)
      go_wp2_with fail
      go_region_with (go_at_call 24; refine (place_at _ _ o _ _ (by omega) (by omega) HOO.out).mono ?_; rintro e w2 ⟨rfl, rfl⟩)
      go_wp2
      go_roundw
      case rel => exact ⟨k + 1, by omega, by go_num, by rw [← putL_set n W o k hlt]; exact (hrow.set _ _).drew, (hgb.setCell (Nat.le_refl _) _).drew⟩
      case measure => simp [intOf]; omega
    · obtain rfl : k = W := by omega
      have hcv := hrow.text (P := Try.prog) Try.underlying46 Try.underlying5 Try.underlying9 k (putL_len _ _ _ _)
      go_wp2
      go_ret2
      exact ⟨rfl, hgb⟩

/-- The number whose byte of weight i is f i, up to weight k. -/
def gv (f : Nat → Int) : Nat → Int
  | 0 => 0
  | k + 1 => gv f k + f k * 256 ^ k
/-- Byte j of a text. -/
def sb (s : ByteArray) (j : Nat) : Int := ((s.data.toList.getD j 0).toNat : Int)
theorem sb_bd (s : ByteArray) (j : Nat) : 0 ≤ sb s j ∧ sb s j < 256 := by
  unfold sb
  have := (s.data.toList.getD j 0).toNat_lt
  omega
theorem gv_bd (f : Nat → Int) (hf : ∀ i, 0 ≤ f i ∧ f i < 256) (k : Nat) : 0 ≤ gv f k ∧ gv f k < 256 ^ k := by
  induction k with
  | zero => simp [gv]
  | succ k ih =>
    have := hf k
    have hp : (0 : Int) < 256 ^ k := Int.pow_pos (by decide)
    have h1 : 0 ≤ f k * 256 ^ k := Int.mul_nonneg this.1 (Int.le_of_lt hp)
    have h2 : f k * 256 ^ k ≤ 255 * 256 ^ k := Int.mul_le_mul_of_nonneg_right (by omega) (Int.le_of_lt hp)
    have h3 : (256 : Int) ^ (k + 1) = 256 ^ k * 256 := Int.pow_succ ..
    simp only [gv]
    omega

theorem sb_get (s : ByteArray) (j : Nat) (h : j < s.size) : sb s j = ((s[j]'h).toNat : Int) := by
  unfold sb
  have h' : j < s.data.toList.length := by simpa using h
  rw [List.getD_eq_getElem?_getD, List.getElem?_eq_getElem h']
  rfl
theorem pow256_le (k : Nat) (hk : k ≤ 7) : (256 : Int) ^ k ≤ 72057594037927936 := signs.pw_hi k hk
theorem or_step (g b : Int) (k : Nat) (hk : k < 8) (hg0 : 0 ≤ g) (hg : g < 256 ^ k) (hb0 : 0 ≤ b) (hb : b < 256) :
    bits .or .u64 g (IntKind.u64.wrap (IntKind.u64.wrap b * 2 ^ (8 * k))) = g + b * 256 ^ k := by
  have hp : (0 : Int) < 256 ^ k := Int.pow_pos (by decide)
  have hq := pow256_le k (by omega)
  have h1 : 0 ≤ b * 256 ^ k := Int.mul_nonneg hb0 (Int.le_of_lt hp)
  have h2 : b * 256 ^ k ≤ 255 * 256 ^ k := Int.mul_le_mul_of_nonneg_right (by omega) (Int.le_of_lt hp)
  rw [IntKind.wrap_u64 b, Int.emod_eq_of_lt hb0 (by omega), two256, IntKind.wrap_u64, Int.emod_eq_of_lt h1 (by omega), u64_or _ _ hg0 (by omega) h1 (by omega)]
  obtain ⟨G, rfl⟩ := Int.eq_ofNat_of_zero_le hg0
  obtain ⟨B, rfl⟩ := Int.eq_ofNat_of_zero_le hb0
  have e : ((B : Int) * 256 ^ k) = ((B * 256 ^ k : Nat) : Int) := by simp
  rw [e, Int.toNat_natCast, Int.toNat_natCast, Nat.or_comm, nat_join (8 * k)]
  · rw [Int.natCast_add, Int.add_comm]
  · rw [Nat.pow_mul]; exact Nat.mul_mod_left _ _
  · have : (G : Int) < ((256 ^ k : Nat) : Int) := by simpa using hg
    have h' : G < 256 ^ k := by exact_mod_cast this
    rw [Nat.pow_mul]
    exact h'

theorem get_any (s : ByteArray) (A W : Nat) (o : Bool) (O : Int) (w : World) (hO : (if o then (1 : Int) else 0) = O) (hW : (W : Int) = 1 ∨ (W : Int) = 2 ∨ (W : Int) = 4 ∨ (W : Int) = 8) (hs : s.size ≤ maxLen) (hA : A + W ≤ s.size) :
    Calls Try.prog 17 #[.string s, .int .i64 A, .int .i64 W, .int .i64 O] w fun e w' => e = .returned (.tuple #[.int .u64 (gv (fun i => sb s (A + pl W o i)) W), .nilIface]) ∧ w' = w := by
  have ho : O = 0 ∨ O = 1 := by cases o <;> simp at hO <;> omega
  have hw8 : W ≤ 8 := by omega
  have HW : Hid ((W : Int) = 1 ∨ (W : Int) = 2 ∨ (W : Int) = 4 ∨ (W : Int) = 8) := hW
  have HO : Hid (O = 0 ∨ O = 1) := ho
  have HOO : Hid ((if o then (1 : Int) else 0) = O) := hO
  clear hW ho hO
  unfold maxLen at hs
  go_enter Try.func17, Try.ntmps17
  go_wp2_with (first | (go_at_call 22; refine (whole_yes _ _ HW.out).mono ?_; rintro e w' ⟨rfl, rfl⟩) | (go_at_call 23; refine (known_yes _ _ HO.out).mono ?_; rintro e w' ⟨rfl, rfl⟩))
  go_loop [10, 33] (fun n i => ∃ k : Nat, k ≤ W ∧ i = .int .i64 k ∧ n = .int .u64 (gv (fun i => sb s (A + pl W o i)) k)) (fun _ i => W - (intOf i).toNat)
  case atStart => exact ⟨0, Nat.zero_le _, rfl, rfl⟩
  case round =>
    obtain ⟨k, hk, rfl, rfl⟩ := hrel
    by_cases hlt : k < W
    · have hpl : pl W o k < W := by unfold pl; split <;> omega
      go_wp2_with (go_at_call 24; refine (place_at _ _ o _ _ (by omega) (by omega) HOO.out).mono ?_; rintro e w2 ⟨rfl, rfl⟩)
      go_round
      case rel => exact ⟨k + 1, by omega, by go_num, by
        have hb := sb_bd s (A + pl W o k)
        have hv := gv_bd (fun i => sb s (A + pl W o i)) (fun i => sb_bd s _) k
        rw [← sb_get s (A + pl W o k) (by omega), or_step _ _ k (by omega) hv.1 hv.2 hb.1 hb.2]
        rfl⟩
      case measure => simp [intOf]; omega
    · obtain rfl : k = W := by omega
      go_wp2
      go_ret2
      exact ⟨rfl, rfl⟩

theorem p256 (a : Nat) : ((256 ^ a : Nat) : Int) = (256 : Int) ^ a := by rw [Int.natCast_pow]; rfl
theorem nat_mod_step (N a : Nat) : N % 256 ^ (a + 1) = N % 256 ^ a + 256 ^ a * (N / 256 ^ a % 256) := by
  rw [Nat.pow_succ, Nat.mod_mul]
theorem mod_step (n : Int) (h0 : 0 ≤ n) (a : Nat) : n % 256 ^ (a + 1) = n % 256 ^ a + n / 256 ^ a % 256 * 256 ^ a := by
  obtain ⟨N, rfl⟩ := Int.eq_ofNat_of_zero_le h0
  have h := nat_mod_step N a
  rw [Nat.mul_comm] at h
  rw [← p256, ← p256]
  have h' := congrArg (fun x : Nat => (x : Int)) h
  simp only [Int.natCast_add, Int.natCast_mul, Int.natCast_emod, Int.natCast_ediv] at h'
  exact h'
theorem gv_congr (f g : Nat → Int) (k : Nat) (h : ∀ i, i < k → f i = g i) : gv f k = gv g k := by
  induction k with
  | zero => rfl
  | succ k ih => simp only [gv]; rw [ih (fun i hi => h i (by omega)), h k (by omega)]
theorem gv_bytes (n : Int) (h0 : 0 ≤ n) (k : Nat) : gv (fun i => n / 256 ^ i % 256) k = n % 256 ^ k := by
  induction k with
  | zero => simp [gv]
  | succ k ih => rw [mod_step n h0 k, ← ih]; rfl
theorem sb_nums (zs : List Int) (h : ∀ z ∈ zs, 0 ≤ z ∧ z < 256) (j : Nat) : sb (strOfNums zs) j = zs.getD j 0 := by
  unfold sb
  rw [strOfNums_data]
  by_cases hj : j < zs.length
  · have hz := h _ (List.getElem_mem hj)
    simp only [List.getD_eq_getElem?_getD, List.getElem?_map, List.getElem?_eq_getElem hj, Option.map_some, Option.getD_some]
    rw [UInt8.toNat_ofNat']
    omega
  · simp [List.getD_eq_getElem?_getD, List.getElem?_eq_none (Nat.le_of_not_lt hj)]
theorem putL_bd (n : Int) (W : Nat) (o : Bool) (k : Nat) : ∀ z ∈ putL n W o k, 0 ≤ z ∧ z < 256 := by
  intro z hz
  simp only [putL, List.mem_map] at hz
  obtain ⟨j, _, rfl⟩ := hz
  split <;> omega
theorem putL_get (n : Int) (W : Nat) (o : Bool) (j : Nat) (hj : j < W) : (putL n W o W).getD (pl W o j) 0 = n / 256 ^ j % 256 := by
  have h1 : pl W o j < W := by unfold pl; split <;> omega
  have h2 : pl W o (pl W o j) = j := by unfold pl; split <;> omega
  simp [putL, List.getD_eq_getElem?_getD, h1, h2, hj]
theorem put_len (n : Int) (W : Nat) (o : Bool) : (strOfNums (putL n W o W)).size = W := by rw [strOfNums_size, putL_len]
/-- WHAT IS PUT IS THERE: among other bytes, too. -/
theorem back (n : Int) (h0 : 0 ≤ n) (W : Nat) (o : Bool) (t : ByteArray) (A : Nat) (ht : ∀ j, j < W → sb t (A + j) = sb (strOfNums (putL n W o W)) j) :
    gv (fun i => sb t (A + pl W o i)) W = n % 256 ^ W := by
  rw [← gv_bytes n h0 W]
  apply gv_congr
  intro i hi
  have h1 : pl W o i < W := by unfold pl; split <;> omega
  rw [ht _ h1, sb_nums _ (putL_bd n W o W), putL_get n W o i hi]
theorem sb_mid (a s b : ByteArray) (j : Nat) (hj : j < s.size) : sb (a ++ s ++ b) (a.size + j) = sb s j := by
  unfold sb
  congr 2
  have e : (a ++ s ++ b).data.toList = a.data.toList ++ (s.data.toList ++ b.data.toList) := by simp
  have ha : a.data.toList.length = a.size := rfl
  have hs : s.data.toList.length = s.size := rfl
  rw [e, List.getD_eq_getElem?_getD, List.getD_eq_getElem?_getD, List.getElem?_append_right (by omega), List.getElem?_append_left (by omega)]
  congr 2
  omega
theorem putL_mod (n : Int) (h0 : 0 ≤ n) (W : Nat) (o : Bool) : putL (n % 256 ^ W) W o W = putL n W o W := by
  unfold putL
  apply List.map_congr_left
  intro j hj
  have hj' : j < W := by simpa using hj
  have h1 : pl W o j < W := by unfold pl; split <;> omega
  rw [if_pos h1, if_pos h1]
  obtain ⟨N, rfl⟩ := Int.eq_ofNat_of_zero_le h0
  have : N % 256 ^ W / 256 ^ (pl W o j) % 256 = N / 256 ^ (pl W o j) % 256 := by
    generalize pl W o j = i at h1
    obtain ⟨d, rfl⟩ : ∃ d, W = i + 1 + d := ⟨W - i - 1, by omega⟩
    rw [Nat.pow_add, Nat.pow_add, Nat.pow_one, Nat.mul_assoc, Nat.mod_mul_right_div_self]
    exact Nat.mod_mul_right_mod ..
  rw [← p256, ← p256]
  have h' := congrArg (fun x : Nat => (x : Int)) this
  simp only [Int.natCast_emod, Int.natCast_ediv] at h'
  exact h'
end Go.Proofs.Ytfebfnjmehaeiaa.words
