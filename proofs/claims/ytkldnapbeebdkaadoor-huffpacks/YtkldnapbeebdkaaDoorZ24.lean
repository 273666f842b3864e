/- Texts laid together: Hp1, Hr1. -/
import Derived.Test.YtkldnapbeebdkaaDoorZ6
import Derived.Test.YtkldnapbeebdkaaDoorZ3
import Derived.Laws.Bits64b
import Derived.Laws.Externs
import Derived.WalkSpells
import Derived.Test.YtkldnapbeebdkaaDoorZ8
import Derived.Deep.Upon
import Derived.Deep.MidRow
/- What the document's own char, WordPut, BitsGet and DigitsParse answer, as HuffPack and HuffUnpack ask them. -/
namespace Go.Proofs.YtkldnapbeebdkaaDoor.bitw
set_option linter.unusedVariables false
open Go.ChangeShapes Go.WideShapes Go.ChangeAt Go.RowKit
open mem bit
theorem bitAt_any (s : ByteArray) (k : Nat) (o : Bool) (O : Int) (w : World) (hs : s.size ≤ 140737488351232) (hk : k < 8 * s.size) (hO : (if o then (1 : Int) else 0) = O) :
    Calls Tryd.prog 50 #[.string s, .int .i64 k, .int .i64 O] w fun e w' => e = .returned (.int .u64 ((tbit s o k).toNat : Nat)) ∧ w' = w := by
  have hix := run_byte (P := Tryd.prog) s (k / 8) ((k : Int) / 8) (by omega) (by omega) Tryd.underlying9
  have hx := byteN_lt s (k / 8)
  cases o
  · have hO0 : (O == 1) = false := by simp at hO; simp; omega
    clear hO
    have HE : Hid (bk false (byteN s (k / 8)) (k % 8) % 2 = (tbit s false k).toNat) := bk_end2 s k
    go_enter Tryd.func50, Tryd.ntmps50
    go_wp2
    go_loop [7, 8] (fun b i => ∃ m : Nat, m ≤ k % 8 ∧ i = .int .i64 m ∧ b = .int .u64 (bk false (byteN s (k / 8)) m : Nat)) (fun _ i => k % 8 - (intOf i).toNat)
    case atStart => exact ⟨0, Nat.zero_le _, rfl, by rw [bk_zero _ _ hx]⟩
    case round =>
      obtain ⟨m, hm, rfl, rfl⟩ := hrel
      have hl := bk_lt false (byteN s (k / 8)) m hx
      by_cases hlt : m < k % 8
      · have hS : Hid (bk false (byteN s (k / 8)) m / 2 = bk false (byteN s (k / 8)) (m + 1)) := bk_little _ _
        go_wp2
        go_round
        case rel => exact ⟨m + 1, by omega, by go_num, by have h := hS.out; congr 1; omega⟩
        case measure => simp [intOf]; omega
      · obtain rfl : m = k % 8 := by omega
        go_wp2
        go_ret
        exact ⟨ret_int (by have h := HE.out; omega), rfl⟩
  · have hO1 : (O == 1) = true := by simp at hO; simp; omega
    clear hO
    have HE : Hid (bk true (byteN s (k / 8)) (k % 8) / 128 = (tbit s true k).toNat) := bk_end s k
    go_enter Tryd.func50, Tryd.ntmps50
    go_wp2
    go_loop [7, 8] (fun b i => ∃ m : Nat, m ≤ k % 8 ∧ i = .int .i64 m ∧ b = .int .u64 (bk true (byteN s (k / 8)) m : Nat)) (fun _ i => k % 8 - (intOf i).toNat)
    case atStart => exact ⟨0, Nat.zero_le _, rfl, by rw [bk_zero _ _ hx]⟩
    case round =>
      obtain ⟨m, hm, rfl, rfl⟩ := hrel
      have hl := bk_lt true (byteN s (k / 8)) m hx
      by_cases hlt : m < k % 8
      · have hS : Hid (bk true (byteN s (k / 8)) m * 2 % 256 = bk true (byteN s (k / 8)) (m + 1)) := bk_big _ _
        go_wp2
        go_round
        case rel => exact ⟨m + 1, by omega, by go_num, by have h := hS.out; congr 1; omega⟩
        case measure => simp [intOf]; omega
      · obtain rfl : m = k % 8 := by omega
        go_wp2
        go_ret
        exact ⟨ret_int (by have h := HE.out; omega), rfl⟩
theorem bitAt_at (s : ByteArray) (K : Int) (k : Nat) (o : Bool) (O : Int) (w : World) (hK : K = k) (hs : s.size ≤ 140737488351232) (hk : k < 8 * s.size) (hO : (if o then (1 : Int) else 0) = O) :
    Calls Tryd.prog 50 #[.string s, .int .i64 K, .int .i64 O] w fun e w' => e = .returned (.int .u64 ((tbit s o k).toNat : Nat)) ∧ w' = w := by
  subst hK
  exact bitAt_any s k o O w hs hk hO
theorem Row.new (w : World) (e : TypeId) (x : Int) : Row (w.alloc (.cells #[.int .u8 x] e)) e w.heap.size [x] := by
  unfold Row
  show (w.heap.push _)[w.heap.size]? = _
  rw [Array.getElem?_push, if_pos rfl]
  rfl
theorem char_any (b : Nat) (w : World) (hb : b < 256) : Calls Tryd.prog 29 #[.int .u64 b] w fun e w' => e = .returned (.string (strOfNums [(b : Int)])) ∧ Gb w w' := by
  have hcv := (Row.new w 5 (b : Int)).text (P := Tryd.prog) Tryd.underlying66 Tryd.underlying5 Tryd.underlying9 1 rfl
  have hm : (b : Int) % 256 = (b : Int) := by omega
  go_enter Tryd.func29, Tryd.ntmps29
  go_wp2
  go_ret
  exact ⟨rfl, (Gb.refl _).alloc _ _⟩
theorem nums_append (a b : List Int) : strOfNums a ++ strOfNums b = strOfNums (a ++ b) := by
  apply ByteArray.ext
  apply Array.ext'
  simp [strOfNums]
theorem bytesOf_succ (g : Nat → Bool) (o : Bool) (i : Nat) : strOfNums (bytesOf g o i) ++ strOfNums [((nb (fun j => g (at8 o i j)) 8 : Nat) : Int)] = strOfNums (bytesOf g o (i + 1)) := by
  rw [nums_append]
  unfold bytesOf
  rw [List.range_succ, List.map_append]
  rfl
theorem hb_byte (g : Nat → Bool) (i : Nat) : hb (fun k => g (8 * i + k)) 8 = nb (fun j => g (at8 true i j)) 8 := by
  rw [hb_nb]
  apply nb_congr
  intro j hj
  rfl
def okO (O : Int) : Prop := O = 0 ∨ O = 1
/-- Are there n bits from bit A on? -/
def okR (s : ByteArray) (A n : Int) : Prop := 0 ≤ n ∧ n ≤ 64 ∧ 0 ≤ A ∧ A + n ≤ 8 * (s.size : Int)
theorem within_any (x a b : Int) (w : World) : Calls Tryd.prog 17 #[.int .i64 x, .int .i64 a, .int .i64 b] w fun e w' => e = .returned (.bool (decide (a ≤ x ∧ x ≤ b))) ∧ w' = w := by
  by_cases h1 : a ≤ x
  · by_cases h2 : x ≤ b
    · have hd : decide (x ≤ b) = true := by simpa using h2
      go_enter Tryd.func17, Tryd.ntmps17
      go_wp2
      go_ret
      exact ⟨ret_bool (by simp [h1, h2]), rfl⟩
    · have hd : decide (x ≤ b) = false := by simpa using h2
      go_enter Tryd.func17, Tryd.ntmps17
      go_wp2
      go_ret
      exact ⟨ret_bool (by first | rfl | (simp; omega)), rfl⟩
  · go_enter Tryd.func17, Tryd.ntmps17
    go_wp2
    go_ret
    exact ⟨ret_bool (by first | rfl | (simp; omega)), rfl⟩
theorem within_yes (x a b : Int) (w : World) (h : a ≤ x ∧ x ≤ b) : Calls Tryd.prog 17 #[.int .i64 x, .int .i64 a, .int .i64 b] w fun e w' => e = .returned (.bool true) ∧ w' = w := by
  have hw := within_any x a b w
  rw [decide_eq_true h] at hw
  exact hw
theorem within_no (x a b : Int) (w : World) (h : ¬ (a ≤ x ∧ x ≤ b)) : Calls Tryd.prog 17 #[.int .i64 x, .int .i64 a, .int .i64 b] w fun e w' => e = .returned (.bool false) ∧ w' = w := by
  have hw := within_any x a b w
  rw [decide_eq_false h] at hw
  exact hw
theorem there_ok (s : ByteArray) (A n O : Int) (w : World) (hs : s.size ≤ 140737488351232) (hO : okO O) (h : okR s A n) : Calls Tryd.prog 49 #[.string s, .int .i64 A, .int .i64 n, .int .i64 O] w fun e w' => e = .returned (.int .i64 0) ∧ w' = w := by
  obtain ⟨h1, h2, h3, h4⟩ := h
  have HO : Hid (0 ≤ O ∧ O ≤ 1) := by unfold okO at hO; show 0 ≤ O ∧ O ≤ 1; omega
  clear hO
  have hd : decide (8 * (s.size : Int) - A < n) = false := by simp; omega
  go_enter Tryd.func49, Tryd.ntmps49
  go_wp2_with (first | (go_at_call_of 17 (Value.int IntKind.i64 O); refine (within_yes _ _ _ _ HO.out).mono ?_; rintro e w1 ⟨rfl, rfl⟩) | (go_at_call 17; refine (within_yes _ _ _ _ ⟨h1, h2⟩).mono ?_; rintro e w1 ⟨rfl, rfl⟩))
  go_ret
  exact ⟨rfl, rfl⟩
theorem hb_gN (t : Nat → Bool) (n : Nat) (o : Bool) : hb (fun k => t (pl n (!o) k)) n = gN t n o := by
  rw [hb_nb]
  unfold gN
  apply nb_congr
  intro i hi
  show t (pl n (!o) (n - 1 - i)) = t (pl n o i)
  congr 1
  unfold pl
  cases o <;> simp <;> omega
theorem push64 (h b : Nat) (h1 : h < 9223372036854775808) (h2 : b ≤ 1) : IntKind.u64.wrap (IntKind.u64.wrap ((h : Int) * 2) + (b : Int)) = ((h * 2 + b : Nat) : Int) := by
  simp only [IntKind.wrap_u64]
  omega
theorem refGet_any (s : ByteArray) (A n : Nat) (o : Bool) (O : Int) (w : World) (hO : (if o then (1 : Int) else 0) = O) (hs : s.size ≤ 140737488351232) (hn : n ≤ 64) (hA : A + n ≤ 8 * s.size) :
    Calls Tryd.prog 33 #[.string s, .int .i64 A, .int .i64 n, .int .i64 O] w fun e w' => e = .returned (.tuple #[.int .u64 (gN (fun i => tbit s o (A + i)) n o : Nat), .int .i64 0]) ∧ w' = w := by
  have HO : Hid ((if o then (1 : Int) else 0) = O) := hO
  have HK : Hid (okO O) := by cases o <;> simp at hO <;> show _ ∨ _ <;> omega
  have HR : Hid (okR s A n) := ⟨by omega, by omega, by omega, by omega⟩
  rw [← hb_gN]
  have hOb : (O == 0) = !o := by cases o <;> simp at hO <;> simp <;> omega
  clear hO
  go_enter Tryd.func33, Tryd.ntmps33
  go_wp2_with (go_at_call 49; refine (there_ok _ _ _ _ _ (by omega) HK.out HR.out).mono ?_; rintro e w1 ⟨rfl, rfl⟩)
  go_loop [11, 12] (fun v i => ∃ k : Nat, k ≤ n ∧ i = .int .i64 k ∧ v = .int .u64 (hb (fun k => tbit s o (A + pl n (!o) k)) k : Nat)) (fun _ i => n - (intOf i).toNat)
  case atStart => exact ⟨0, Nat.zero_le _, rfl, rfl⟩
  case round =>
    obtain ⟨k, hk, rfl, rfl⟩ := hrel
    by_cases hlt : k < n
    · have hl := hb_lt (fun k => tbit s o (A + pl n (!o) k)) k
      have h63 : 2 ^ k ≤ 2 ^ 63 := Nat.pow_le_pow_right (by decide) (by omega)
      have e63 : (2 : Nat) ^ 63 = 9223372036854775808 := by decide
      have hl2 : hb (fun k => tbit s o (A + pl n (!o) k)) k < 9223372036854775808 := by omega
      have hb1 : (tbit s o (A + pl n (!o) k)).toNat ≤ 1 := Bool.toNat_le _
      clear hl h63 e63
      cases o
      · go_wp2_with (go_at_call 50; refine (bitAt_at _ ((A : Int) + (n : Int) - 1 - (k : Int)) (A + pl n true k) false _ _ (by unfold pl; simp; omega) (by omega) (by unfold pl; simp; omega) HO.out).mono ?_; rintro e w2 ⟨rfl, rfl⟩)
        go_round
        case rel => exact ⟨k + 1, by omega, by go_num, by show _ = Value.int .u64 ((hb (fun k => tbit s false (A + pl n (!false) k)) k * 2 + (tbit s false (A + pl n (!false) k)).toNat : Nat) : Int); congr 1; exact push64 _ _ hl2 hb1⟩
        case measure => simp [intOf]; omega
      · go_wp2_with (go_at_call 50; refine (bitAt_at _ ((A : Int) + (k : Int)) (A + pl n false k) true _ _ (by unfold pl; simp) (by omega) (by unfold pl; simp; omega) HO.out).mono ?_; rintro e w2 ⟨rfl, rfl⟩)
        go_round
        case rel => exact ⟨k + 1, by omega, by go_num, by show _ = Value.int .u64 ((hb (fun k => tbit s true (A + pl n (!true) k)) k * 2 + (tbit s true (A + pl n (!true) k)).toNat : Nat) : Int); congr 1; exact push64 _ _ hl2 hb1⟩
        case measure => simp [intOf]; omega
    · obtain rfl : k = n := by omega
      go_wp2
      go_ret2
      exact ⟨rfl, rfl⟩
end Go.Proofs.YtkldnapbeebdkaaDoor.bitw
namespace Go.Proofs.YtkldnapbeebdkaaDoor.hp
set_option linter.unusedVariables false
open Go.ChangeShapes Go.WideShapes Go.ChangeAt Go.RowKit
open mem bit bitw
def okW (W : Int) : Prop := W = 1 ∨ W = 2 ∨ W = 4 ∨ W = 8
theorem right_yes (W O : Int) (w : World) (hW : okW W) (hO : okO O) : Calls Tryd.prog 44 #[.int .i64 W, .int .i64 O] w fun e w' => e = .returned (.bool true) ∧ w' = w := by
  rcases hW with rfl | rfl | rfl | rfl <;> rcases hO with rfl | rfl
  all_goals
    go_enter Tryd.func44, Tryd.ntmps44
    go_wp2
    go_ret
    exact ⟨rfl, rfl⟩
/-- A text's first k bytes, the other way round. -/
def turnK (s : ByteArray) (k : Nat) : ByteArray := ⟨((s.data.toList.take k).reverse).toArray⟩
theorem turnK_size (s : ByteArray) (k : Nat) (hk : k ≤ s.size) : (turnK s k).size = k := by
  have h : s.data.toList.length = s.size := rfl
  simp only [turnK, ByteArray.size, List.size_toArray, List.length_reverse, List.length_take]
  omega
theorem turnK_succ (s : ByteArray) (k : Nat) (hk : k < s.size) : s.extract k (k + 1) ++ turnK s k = turnK s (k + 1) := by
  apply ByteArray.ext
  apply Array.ext'
  have h : k < s.data.toList.length := hk
  simp only [turnK, ByteArray.data_append, ByteArray.data_extract, Array.toList_append, Array.toList_extract]
  rw [List.take_succ_eq_append_getElem h]
  simp [List.extract_eq_take_drop, List.take_one, List.head?_drop]
  rw [Array.getElem?_eq_getElem (show k < s.data.size from hk)]
  rfl
theorem turn_any (s : ByteArray) (w : World) (hs : s.size ≤ 140737488351232) : Calls Tryd.prog 45 #[.string s] w fun e w' => e = .returned (.string (turnK s s.size)) ∧ w' = w := by
  go_enter Tryd.func45, Tryd.ntmps45
  go_wp2
  go_loop [3, 4] (fun o i => ∃ k : Nat, k ≤ s.size ∧ i = .int .i64 k ∧ o = .string (turnK s k)) (fun _ i => s.size - (intOf i).toNat)
  case atStart => exact ⟨0, Nat.zero_le _, rfl, rfl⟩
  case round =>
    obtain ⟨k, hk, rfl, rfl⟩ := hrel
    have hz := turnK_size s k hk
    by_cases hlt : k < s.size
    · go_wp2
      go_round
      case rel => exact ⟨k + 1, by omega, by go_num, by rw [turnK_succ s k hlt]⟩
      case measure => simp [intOf]; omega
    · obtain rfl : k = s.size := by omega
      go_wp2
      go_ret
      exact ⟨rfl, rfl⟩
/-- A number's low k bytes, the least first. -/
def low (n : Int) (k : Nat) : List Int := (List.range k).map fun j => n / 256 ^ j % 256
theorem low_len (n : Int) (k : Nat) : (low n k).length = k := by simp [low]
theorem low_succ (n : Int) (k : Nat) : strOfNums (low n k) ++ strOfNums [n / 256 ^ k % 256] = strOfNums (low n (k + 1)) := by
  rw [nums_append]
  unfold low
  rw [List.range_succ, List.map_append]
  rfl
theorem div_succ (n : Int) (k : Nat) : n / 256 ^ k / 256 = n / 256 ^ (k + 1) := by
  rw [Int.pow_succ, Int.ediv_ediv_of_nonneg (Int.le_of_lt (Int.pow_pos (by decide)))]
theorem div_bd (n : Int) (k : Nat) (h0 : 0 ≤ n) : 0 ≤ n / 256 ^ k ∧ n / 256 ^ k ≤ n :=
  ⟨Int.ediv_nonneg h0 (Int.le_of_lt (Int.pow_pos (by decide))), Int.ediv_le_self _ h0⟩
theorem turn_nums (zs : List Int) : turnK (strOfNums zs) (strOfNums zs).size = strOfNums zs.reverse := by
  apply ByteArray.ext
  apply Array.ext'
  have h : (strOfNums zs).size = zs.length := strOfNums_size zs
  rw [h]
  unfold turnK
  rw [strOfNums_data, List.take_of_length_le (by simp)]
  simp [strOfNums]
theorem char2_any (n : Int) (w : World) (h0 : 0 ≤ n) : Calls Tryd.prog 29 #[.int .u64 n] w fun e w' => e = .returned (.string (strOfNums [n % 256])) ∧ Gb w w' := by
  have hcv := (Row.new w 5 (n % 256)).text (P := Tryd.prog) Tryd.underlying66 Tryd.underlying5 Tryd.underlying9 1 rfl
  go_enter Tryd.func29, Tryd.ntmps29
  go_wp2
  go_ret
  exact ⟨rfl, (Gb.refl _).alloc _ _⟩
theorem refPut4_at (n : Int) (w : World) (h0 : 0 ≤ n) (h1 : n < 18446744073709551616) :
    Calls Tryd.prog 30 #[.int .u64 n, .int .i64 4, .int .i64 1] w fun e w' => e = .returned (.tuple #[.string (strOfNums (low n 4).reverse), .int .i64 0]) ∧ Gb w w' := by
  have hz := strOfNums_size (low n 4)
  rw [low_len] at hz
  have HT := turn_nums (low n 4)
  rw [hz] at HT
  have H1 : Hid (turnK (strOfNums (low n 4)) 4 = strOfNums (low n 4).reverse) := HT
  clear HT
  go_enter Tryd.func30, Tryd.ntmps30
  go_wp2_with (go_at_call 44; refine (right_yes _ _ _ (Or.inr (Or.inr (Or.inl rfl))) (Or.inr rfl)).mono ?_; rintro e w1 ⟨rfl, rfl⟩)
  go_loopw [0, 8, 9] (fun m s i wr => ∃ k : Nat, k ≤ 4 ∧ i = .int .i64 k ∧ m = .int .u64 (n / 256 ^ k) ∧ s = .string (strOfNums (low n k)) ∧ Gb w1 wr) (fun _ _ i _ => 4 - (intOf i).toNat)
  case atStart => exact ⟨0, Nat.zero_le _, rfl, by simp, rfl, Gb.refl _⟩
  case round =>
    obtain ⟨k, hk, rfl, rfl, rfl, hgb⟩ := hrel
    have hz' := strOfNums_size (low n k)
    rw [low_len] at hz'
    have hd := div_bd n k h0
    by_cases hlt : k < 4
    · have hz2 : (strOfNums [n / 256 ^ k % 256]).size = 1 := rfl
      go_wp2_with (go_at_call 29; refine (char2_any _ _ (by omega)).mono ?_; rintro e w2 ⟨rfl, hg2⟩)
      go_roundw
      case rel => exact ⟨k + 1, by omega, by go_num, by rw [div_succ], by rw [low_succ], hgb.trans hg2⟩
      case measure => simp [intOf]; omega
    · obtain rfl : k = 4 := by omega
      go_wp2_with (go_at_call 45; refine (turn_any _ _ (by omega)).mono ?_; rintro e w2 ⟨rfl, rfl⟩)
      go_ret2
      exact ⟨by rw [← H1.out]; rfl, hgb⟩
theorem add64_run (x y S C : Nat) (hS : S = (x + y) % 18446744073709551616) (hC : C = (x + y) / 18446744073709551616) (w : World) :
    (callFunc 48 #[.int .u64 (x : Int), .int .u64 (y : Int), .int .u64 0]).run Tryd.prog w = .ok (.value (.tuple #[.int .u64 (S : Int), .int .u64 (C : Int)])) w := by
  rw [run_callFunc_extern Tryd.func48 (by kernel_rfl) (by kernel_rfl) (by kernel_rfl) (e := add64Entry) (by kernel_rfl), run_add64 x y 0 (by omega) (by omega) (by omega) (by omega)]
  simp only [Result.andThen]
  have e1 : ((x : Int) + (y : Int) + 0) % 18446744073709551616 = (S : Int) := by omega
  have e2 : ((x : Int) + (y : Int) + 0) / 18446744073709551616 = (C : Int) := by omega
  rw [e1, e2]
theorem digit_at (c : Int) (w : World) (h : c = 48 ∨ c = 49) : Calls Tryd.prog 46 #[.int .u8 c] w fun e w' => e = .returned (.int .i64 (c - 48)) ∧ Gb w w' := by
  rcases h with rfl | rfl
  · go_enter Tryd.func46, Tryd.ntmps46
    go_wp2
    refine wp_loop_rounds 1 ?_
    rw [rounds_succ]
    go_wp2
    refine wp_loop_rounds 1 ?_
    rw [rounds_succ]
    go_wp2
    go_ret
    exact ⟨rfl, (Gb.refl _).alloc _ _⟩
  · go_enter Tryd.func46, Tryd.ntmps46
    go_wp2
    refine wp_loop_rounds 2 ?_
    rw [rounds_succ]
    go_wp2
    refine wp_loop_rounds 2 ?_
    rw [rounds_succ]
    go_wp2
    rw [rounds_succ]
    go_wp2
    rw [rounds_succ]
    go_wp2
    refine wp_loop_rounds 1 ?_
    rw [rounds_succ]
    go_wp2
    go_ret
    exact ⟨rfl, (Gb.refl _).alloc _ _⟩
theorem and32 (a : Nat) (ha : a < 18446744073709551616) : bits .and .u64 (a : Int) 4294967295 = ((a % 4294967296 : Nat) : Int) := by
  have h := bits_and_u64_nat a 4294967295 ha (by omega)
  rw [show a &&& 4294967295 = a % 4294967296 from Nat.and_two_pow_sub_one_eq_mod a 32] at h
  exact h
theorem u64N (a : Nat) (ha : a < 18446744073709551616) : IntKind.u64.wrap (a : Int) = (a : Int) := by rw [IntKind.wrap_u64]; omega
theorem mul64_at (x B H L : Nat) (w : World) (hx : x < 18446744073709551616) (hb : B ≤ 16) (hH : H = x * B / 18446744073709551616) (hL : L = x * B % 18446744073709551616) :
    Calls Tryd.prog 47 #[.int .u64 x, .int .u64 B] w fun e w' => e = .returned (.tuple #[.int .u64 H, .int .u64 L]) ∧ w' = w := by
  have a1 := and32 x hx
  have a2 := and32 B (by omega)
  rw [Nat.mod_eq_of_lt (show B < 4294967296 by omega)] at a2
  obtain ⟨X0, h0⟩ : ∃ X0, X0 = x % 4294967296 := ⟨_, rfl⟩
  obtain ⟨X1, h1⟩ : ∃ X1, X1 = x / 4294967296 := ⟨_, rfl⟩
  obtain ⟨P0, p0⟩ : ∃ P0, P0 = X0 * B := ⟨_, rfl⟩
  obtain ⟨P1, p1⟩ : ∃ P1, P1 = X1 * B := ⟨_, rfl⟩
  have l0 : P0 ≤ X0 * 16 := by rw [p0]; exact Nat.mul_le_mul_left _ hb
  have l1 : P1 ≤ X1 * 16 := by rw [p1]; exact Nat.mul_le_mul_left _ hb
  have hxx : x * B = P1 * 4294967296 + P0 := by
    have e : x = X1 * 4294967296 + X0 := by omega
    rw [e, Nat.add_mul, p0, p1, Nat.mul_right_comm]
  rw [hxx] at hH hL
  obtain ⟨Q0, q0⟩ : ∃ Q0, Q0 = P0 / 4294967296 := ⟨_, rfl⟩
  obtain ⟨T, t⟩ : ∃ T, T = P1 + Q0 := ⟨_, rfl⟩
  obtain ⟨T0, t0⟩ : ∃ T0, T0 = T % 4294967296 := ⟨_, rfl⟩
  rw [← h0] at a1
  have b1 : (x : Int) / 4294967296 = (X1 : Int) := by omega
  have b2 : (B : Int) / 4294967296 = 0 := by omega
  have b3 : IntKind.u64.wrap ((X1 : Int) * (B : Int)) = (P1 : Int) := by rw [← Int.natCast_mul, ← p1]; exact u64N _ (by omega)
  have b4 : IntKind.u64.wrap ((X0 : Int) * (B : Int)) = (P0 : Int) := by rw [← Int.natCast_mul, ← p0]; exact u64N _ (by omega)
  have b5 : (P0 : Int) / 4294967296 = (Q0 : Int) := by omega
  have b6 : IntKind.u64.wrap ((P1 : Int) + (Q0 : Int)) = (T : Int) := by rw [← Int.natCast_add, ← t]; exact u64N _ (by omega)
  have b7 : bits .and .u64 (T : Int) 4294967295 = (T0 : Int) := by rw [t0]; exact and32 T (by omega)
  have b8 : (T : Int) / 4294967296 = (H : Int) := by omega
  have b9 : IntKind.u64.wrap ((x : Int) * (B : Int)) = (L : Int) := by rw [← Int.natCast_mul, hxx, IntKind.wrap_u64]; omega
  have c0 : IntKind.u64.wrap (T0 : Int) = (T0 : Int) := u64N _ (by omega)
  have c1 : (T0 : Int) / 4294967296 = 0 := by omega
  have c2 : IntKind.u64.wrap (H : Int) = (H : Int) := u64N _ (by omega)
  clear hH hL h0 h1 p0 p1 l0 l1 hxx q0 t t0
  go_enter Tryd.func47, Tryd.ntmps47
  go_wp2
  go_ret2
  exact ⟨by simp [*], rfl⟩
theorem isEmpty_at (s : ByteArray) : s.toList.isEmpty = decide (s.size = 0) := by
  rw [ByteArray.toList_eq]
  have e : s.size = s.data.toList.length := rfl
  rw [e]
  cases s.data.toList <;> simp
set_option maxHeartbeats 1000000 in
/-- The number that binary digits are. -/
theorem parse2_at (s : ByteArray) (t : Nat → Bool) (w : World) (hs : s.size ≤ 8) (h0 : 0 < s.size) (ht : ∀ i, i < s.size → rows.sb s i = 48 + ((t i).toNat : Int)) :
    Calls Tryd.prog 31 #[.string s, .int .i64 2] w fun e' w' => e' = .returned (.tuple #[.int .u64 ((hb t s.size : Nat) : Int), .int .i64 0]) ∧ Gb w w' := by
  have HT : Hid (∀ i, i < s.size → rows.sb s i = 48 + ((t i).toNat : Int)) := ht
  have he : s.toList.isEmpty = false := by rw [isEmpty_at]; exact decide_eq_false (by omega)
  clear ht
  go_enter Tryd.func31, Tryd.ntmps31
  go_wp2_with (go_at_call 17; refine (within_yes _ _ _ _ ⟨by omega, by omega⟩).mono ?_; rintro e w1 ⟨rfl, rfl⟩)
  go_loopw [6, 7, 8] (fun hi n i wr => ∃ k N : Nat, k ≤ s.size ∧ i = .int .i64 (k : Int) ∧ n = .int .u64 (N : Int) ∧ hi = .int .u64 0 ∧ N < 256 ∧ Hid (N = hb t k ∧ N < 2 ^ k) ∧ Gb w1 wr) (fun _ _ i _ => s.size - (intOf i).toNat)
  case atStart => exact ⟨0, 0, Nat.zero_le _, rfl, rfl, rfl, by omega, ⟨rfl, by decide⟩, Gb.refl _⟩
  case round =>
    obtain ⟨k, N, hk, rfl, rfl, rfl, hNl, HK, hgb⟩ := hrel
    by_cases hlt : k < s.size
    · have hltz : (k : Int) < s.size := by omega
      have hgk : (((s[k]'hlt).toNat : Nat) : Int) = rows.sb s k := (rows.sb_get s k hlt).symm
      have hsb := HT.out k hlt
      obtain ⟨D, hD⟩ : ∃ D, D = (t k).toNat := ⟨_, rfl⟩
      rw [← hD] at hsb
      have hD1 : D ≤ 1 := by rw [hD]; cases t k <;> decide
      have hpk : 2 ^ (k + 1) ≤ 2 ^ 8 := Nat.pow_le_pow_right (by decide) (by omega)
      have HN2 : Hid (N * 2 + D = hb t (k + 1) ∧ N * 2 + D < 2 ^ (k + 1)) := by
        refine ⟨?_, ?_⟩
        · rw [HK.out.1, hD]; rfl
        · have := HK.out.2
          rw [Nat.pow_succ]
          omega
      have hb8 : N * 2 + D < 256 := by have := HN2.out.2; omega
      have hr := add64_run (N * 2) D (N * 2 + D) 0 (by omega) (by omega)
      have cm := fun w => mul64_at N 2 0 (N * 2) w (by omega) (by omega) (by omega) (by omega)
      have hwd : IntKind.u64.wrap (D : Int) = (D : Int) := u64N _ (by omega)
      have hq : rows.sb s k = 48 ∨ rows.sb s k = 49 := by omega
      have hsub : rows.sb s k - 48 = (D : Int) := by omega
      have cd := fun w => digit_at (rows.sb s k) w hq
      rw [hsub] at cd
      generalize rows.sb s k = cb at *
      obtain ⟨N2, hN2⟩ : ∃ N2, N2 = N * 2 := ⟨_, rfl⟩
      obtain ⟨N3, hN3⟩ : ∃ N3, N3 = N * 2 + D := ⟨_, rfl⟩
      rw [← hN3] at hr hb8 HN2
      rw [← hN2] at hr cm
      have hlD : (D : Int) ≤ 1 := by omega
      have hl0 : (0 : Int) ≤ (D : Int) := by omega
      clear hN2 hN3 hD hsb hsub HK hpk
      go_wp2_with fail
      refine (cd _).mono ?_
      rintro e w2 ⟨rfl, g2⟩
      clear cd
      go_wp2_with fail
      refine (within_yes _ _ _ _ ⟨by omega, by omega⟩).mono ?_
      rintro e w3 ⟨rfl, rfl⟩
      go_wp2_with fail
      refine (cm _).mono ?_
      rintro e w4 ⟨rfl, rfl⟩
      clear cm
      go_wp2
      go_roundw
      case rel => exact ⟨k + 1, N3, by omega, by go_num, rfl, rfl, hb8, HN2, hgb.trans g2⟩
      case measure => simp [intOf]; omega
    · have hltz : ¬ (k : Int) < s.size := by omega
      obtain rfl : k = s.size := by omega
      have HV : Hid (N = hb t s.size) := HK.out.1
      clear HK
      go_wp2
      go_ret2
      exact ⟨by rw [← HV.out]; rfl, hgb⟩
end Go.Proofs.YtkldnapbeebdkaaDoor.hp
/- The document's own groups that lie in a row: one more, or many more, behind them. -/
namespace Go.Proofs.YtkldnapbeebdkaaDoor.hr
set_option linter.unusedVariables false
open Go.ChangeShapes Go.WideShapes Go.ChangeAt Go.RowKit
open Go.Sort
open mem rows st
def rowG (l : List Gv) : List Value := l.flatMap fun x => [.int .i64 x.1, .slice x.2.1 x.2.2.1 x.2.2.2]
theorem rowG_len (l : List Gv) : (rowG l).length = l.length * 2 := by
  induction l with
  | nil => rfl
  | cons x l ih => unfold rowG at ih ⊢; rw [List.flatMap_cons, List.length_append, ih]; simp; omega
theorem rowG_append (a b : List Gv) : rowG (a ++ b) = rowG a ++ rowG b := by unfold rowG; rw [List.flatMap_append]
theorem rowG_get (l : List Gv) (k : Nat) (h : k < l.length) : (rowG l)[k * 2]? = some (.int .i64 l[k].1) ∧ (rowG l)[k * 2 + 1]? = some (.slice l[k].2.1 l[k].2.2.1 l[k].2.2.2) := by
  induction l generalizing k with
  | nil => exact absurd h (Nat.not_lt_zero _)
  | cons x l ih =>
    have e : rowG (x :: l) = [.int .i64 x.1, .slice x.2.1 x.2.2.1 x.2.2.2] ++ rowG l := by unfold rowG; rw [List.flatMap_cons]
    rw [e]
    cases k with
    | zero => exact ⟨rfl, rfl⟩
    | succ k =>
      have := ih k (by simpa using h)
      rw [show (k + 1) * 2 = k * 2 + 2 by omega]
      exact this
theorem rowG_one (l : List Gv) (u : Value) (hu : u ∈ rowG l) : u.oneCell' = true := by
  unfold rowG at hu
  rw [List.mem_flatMap] at hu
  obtain ⟨y, _, hy⟩ := hu
  simp at hy
  rcases hy with rfl | rfl <;> rfl
theorem infoG : (Tryd.prog.info? 43).map (fun i => (i.zero, i.size, i.bytes)) = some (some (.agg #[.int .i64 0, .slice none 0 0]), 2, 32) := by kernel_rfl
theorem infoG' : ∃ i, Tryd.prog.info? 43 = some i ∧ i.zero = some (.agg #[.int .i64 0, .slice none 0 0]) ∧ i.size = 2 ∧ i.bytes = 32 := by
  obtain ⟨i, h1, h2⟩ := Option.map_eq_some_iff.1 infoG
  simp only [Prod.mk.injEq] at h2
  exact ⟨i, h1, h2.1, h2.2.1, h2.2.2⟩
/-- The block of a row. -/
def bk : Value → Option Nat
  | .slice (some a) _ _ => some a.block
  | _ => none
/-- A row of the call's own, somewhere in a block, that holds just these groups. -/
def Gr (w : World) (base : Nat) (v : Value) (l : List Gv) : Prop :=
  (v = .slice none 0 0 ∧ l = []) ∨ ∃ g off cap cur, v = .slice (some ⟨g, off, none⟩) l.length cap ∧ base ≤ g ∧ w.heap[g]? = some (.cells cur 43 (0, 0)) ∧ l.length ≤ cap ∧ off + cap * 2 ≤ cur.size ∧ ∀ j u, (rowG l)[j]? = some u → cur[off + j]? = some u
theorem cell_of {w : World} {g : Nat} {cur : Array Value} {e : TypeId} {fr : Nat × Nat} (h : w.heap[g]? = some (.cells cur e fr)) (j : Nat) : w.cell? ⟨g, j, none⟩ = cur[j]? := by
  simp [World.cell?, h]
theorem lt_of_heap {w : World} {g : Nat} {o : Obj} (h : w.heap[g]? = some o) : g < w.heap.size := (Array.getElem?_eq_some_iff.1 h).1
theorem Gr.nil (w : World) (base : Nat) : Gr w base (.slice none 0 0) [] := Or.inl ⟨rfl, rfl⟩
/-- It stays as it is while its block does. -/
theorem Gr.kept {w w' : World} {base : Nat} {v : Value} {l : List Gv} {row : Option Nat} (h : Gr w base v l) (hg : w.grownBy w' row) (hne : ∀ k, bk v = some k → row ≠ some k) : Gr w' base v l := by
  rcases h with h | ⟨g, off, cap, cur, h1, h2, h3, h4⟩
  · exact Or.inl h
  · refine Or.inr ⟨g, off, cap, cur, h1, h2, ?_, h4⟩
    subst h1
    rw [hg.block g (lt_of_heap h3) (fun e => hne g rfl e.symm)]
    exact h3
theorem Gr.step {w w' : World} {base : Nat} {v : Value} {l : List Gv} (h : Gr w base v l) (hb : Bl w w') : Gr w' base v l := by
  rcases h with h | ⟨g, off, cap, cur, h1, h2, h3, h4⟩
  · exact Or.inl h
  · exact Or.inr ⟨g, off, cap, cur, h1, h2, by rw [Below.block hb g (lt_of_heap h3)]; exact h3, h4⟩
theorem Gr.shape {w : World} {base : Nat} {v : Value} {l : List Gv} (h : Gr w base v l) (h0 : 0 < l.length) : ∃ g off cap, v = .slice (some ⟨g, off, none⟩) l.length cap ∧ base ≤ g ∧ g < w.heap.size ∧ l.length ≤ cap ∧
    ∀ k, (hk : k < l.length) → w.cell? ⟨g, off + k * 2, none⟩ = some (.int .i64 l[k].1) ∧ w.cell? ⟨g, off + k * 2 + 1, none⟩ = some (.slice l[k].2.1 l[k].2.2.1 l[k].2.2.2) := by
  rcases h with ⟨_, rfl⟩ | ⟨g, off, cap, cur, h1, h2, h3, h4, h5, h6⟩
  · exact absurd h0 (Nat.lt_irrefl _)
  · refine ⟨g, off, cap, h1, h2, lt_of_heap h3, h4, fun k hk => ?_⟩
    obtain ⟨a, b⟩ := rowG_get l k hk
    rw [cell_of h3, cell_of h3, Nat.add_assoc]
    exact ⟨h6 _ _ a, h6 _ _ b⟩
/-- Without its first two groups. -/
theorem Gr.drop2 {w : World} {base g off cap : Nat} {l : List Gv} {a b : Gv} (h : Gr w base (.slice (some ⟨g, off, none⟩) (l.length + 2) cap) (a :: b :: l)) : Gr w base (.slice (some ⟨g, off + 4, none⟩) l.length (cap - 2)) l := by
  rcases h with ⟨h, _⟩ | ⟨g', off', cap', cur, h1, h2, h3, h4, h5, h6⟩
  · cases h
  · simp only [Value.slice.injEq, Option.some.injEq, Addr.mk.injEq] at h1
    obtain ⟨⟨rfl, rfl, _⟩, _, rfl⟩ := h1
    simp only [List.length_cons] at h4
    refine Or.inr ⟨g, off + 4, cap - 2, cur, rfl, h2, h3, by omega, by omega, fun j u hu => ?_⟩
    have e : rowG (a :: b :: l) = rowG [a, b] ++ rowG l := rowG_append [a, b] l
    have := h6 (4 + j) u (by rw [e, List.getElem?_append_right (by rw [rowG_len]; show 2 * 2 ≤ _; omega), rowG_len]; simpa using hu)
    rwa [← Nat.add_assoc] at this
theorem set_heap {w : World} {g : Nat} {cur : Array Value} {e : TypeId} (h : w.heap[g]? = some (.cells cur e (0, 0))) : ∀ (vs : List Value) (o : Nat), ∃ cur', (w.setCells g o vs).heap[g]? = some (.cells cur' e (0, 0)) ∧ cur'.size = cur.size ∧ (∀ j, j < o ∨ o + vs.length ≤ j → cur'[j]? = cur[j]?) ∧ (∀ j, j < vs.length → o + j < cur.size → cur'[o + j]? = vs[j]?) := by
  intro vs
  induction vs generalizing w cur with
  | nil => exact fun o => ⟨cur, h, rfl, fun _ _ => rfl, fun j hj => absurd hj (Nat.not_lt_zero _)⟩
  | cons v vs ih =>
    intro o
    have h1 : (w.setCell ⟨g, o, none⟩ v).heap[g]? = some (.cells (cur.setIfInBounds o v) e (0, 0)) := by
      simp [World.setCell, h, Array.getElem?_modify]
    obtain ⟨cur', a1, a2, a3, a4⟩ := ih h1 (o + 1)
    refine ⟨cur', a1, by rw [a2]; simp, fun j hj => ?_, fun j hj hs => ?_⟩
    · rw [a3 j (by simp only [List.length_cons] at hj; omega), Array.getElem?_setIfInBounds]
      simp only [List.length_cons] at hj
      rw [if_neg (by omega)]
    · cases j with
      | zero =>
        rw [Nat.add_zero, a3 o (by omega), Array.getElem?_setIfInBounds, if_pos rfl]
        simp at hs ⊢
        exact hs
      | succ j =>
        have := a4 j (by simpa using hj) (by simpa [Nat.add_assoc, Nat.add_comm 1 j] using hs)
        rw [show o + 1 + j = o + (j + 1) by omega] at this
        rw [this]
        rfl
theorem set_frame (g : Nat) : ∀ (vs : List Value) (o : Nat) (w : World), (w.setCells g o vs).os = w.os ∧ (w.setCells g o vs).tape = w.tape ∧ (w.setCells g o vs).output = w.output ∧ (w.setCells g o vs).heap.size = w.heap.size
  | [], _, _ => ⟨rfl, rfl, rfl, rfl⟩
  | v :: vs, o, w => by
    obtain ⟨a, b, c, d⟩ := set_frame g vs (o + 1) (w.setCell ⟨g, o, none⟩ v)
    exact ⟨a, b, c, d.trans (by simp)⟩
theorem app_gr (w : World) (base : Nat) (v : Value) (l : List Gv) (z : Gv) (X : Nat) (hown : Gr w base v l) (hX : w.cell? ⟨X, 0, none⟩ = some (.int .i64 z.1)) (hX1 : w.cell? ⟨X, 1, none⟩ = some (.slice z.2.1 z.2.2.1 z.2.2.2)) (hn : l.length ≤ 5000) (hb : base ≤ w.heap.size) :
    ∃ v' w', (Builtin.append_ #[40, 40] 40 #[v, .slice (some ⟨X, 0, none⟩) 1 1]).run Tryd.prog w = .ok v' w' ∧ Gr w' base v' (l ++ [z]) ∧ w.grownBy w' (bk v) ∧ (bk v' = bk v ∨ bk v' = some w.heap.size) := by
  obtain ⟨i, hi, hz, h1, h2⟩ := infoG'
  have hnews : ∀ j u, (rowG [z])[j]? = some u → w.cell? ((⟨X, 0, none⟩ : Addr).add j) = some u := fun j u hu => by
    rcases j with _ | _ | j
    · simp [rowG] at hu; subst hu; simpa [Addr.add] using hX
    · simp [rowG] at hu; subst hu; simpa [Addr.add] using hX1
    · simp [rowG] at hu
  have hsrc : Src Tryd.prog i.size 40 (.slice (some ⟨X, 0, none⟩) 1 1) 1 (rowG [z]) w := Src.ofSlice w Tryd.underlying40 ⟨X, 0, none⟩ 1 1 (rowG [z]) (by rw [h1]; rfl) hnews (rowG_one _)
  have hgrow : ∀ (p : Option Addr) (n c : Nat), n = l.length → c < n + 1 → (Builtin.firstCells i.size n (.slice p n c)).run Tryd.prog w.drew = .ok (rowG l).toArray w.drew →
      ∃ v' w', (Builtin.append_ #[40, 40] 40 #[.slice p n c, .slice (some ⟨X, 0, none⟩) 1 1]).run Tryd.prog w = .ok v' w' ∧ Gr w' base v' (l ++ [z]) ∧ w.grownBy w' (bk (.slice p n c)) ∧ bk v' = some w.heap.size := by
    intro p n c hnl hc hold
    have hr := run_append_grow_src (P := Tryd.prog) w 40 40 40 43 i (.agg #[.int .i64 0, .slice none 0 0]) Tryd.underlying40 hi hz p n c (rowG l) hold _ 1 (rowG [z]) hsrc hc (by omega) (growslice_fits hc (by rw [h2]; omega))
    have hge := grownCap_ge w (n + 1) c 43
    refine ⟨_, _, hr, Or.inr ⟨w.heap.size, 0, grownCap w (n + 1) c 43, _, by simp [hnl], hb, heap_alloc_new w.drew _, by simp [← hnl]; exact hge, ?_, fun j u hu => ?_⟩, ⟨rfl, rfl, rfl, by simp, fun k hk _ => Below.heap_alloc w.drew _ k hk⟩, rfl⟩
    · simp only [Array.size_append, List.size_toArray, List.length_append, rowG_len, size_zeroCells, List.length_singleton]
      show 0 + _ ≤ l.length * 2 + 1 * 2 + _ * 2
      omega
    · rw [Nat.zero_add, ← rowG_append, Array.getElem?_append_left (by rw [List.size_toArray]; exact (List.getElem?_eq_some_iff.1 hu).1), List.getElem?_toArray]
      exact hu
  rcases hown with ⟨rfl, rfl⟩ | ⟨g, off, cap, cur, rfl, h3, h4, h5, h6, h7⟩
  · obtain ⟨v', w', a1, a2, a3, a4⟩ := hgrow none 0 0 rfl (by omega) (run_firstCells_none w.drew i.size 0 0 0)
    exact ⟨v', w', a1, a2, a3, Or.inr a4⟩
  · by_cases hroom : l.length + 1 ≤ cap
    · have hc : ∀ j, j < (rowG [z]).length → off + l.length * i.size + j < cur.size := fun j hj => by
        rw [rowG_len] at hj
        simp only [List.length_singleton] at hj
        rw [h1]
        omega
      have hr := run_append_room_src (P := Tryd.prog) w 40 40 40 43 i Tryd.underlying40 hi g off l.length cap _ 1 (rowG [z]) hsrc hroom
        (fun j hj => by rw [cell_of h4, Array.getElem?_eq_getElem (hc j hj)]; rfl) (fun j hj => by simp [World.frozen?, h4])
      rw [h1] at hr hc
      obtain ⟨cur', b1, b2, b3, b4⟩ := set_heap h4 (rowG [z]) (off + l.length * 2)
      refine ⟨_, _, hr, Or.inr ⟨g, off, cap, cur', by simp, h3, b1, by simpa using hroom, by rw [b2]; exact h6, fun j u hu => ?_⟩, ⟨(set_frame g _ _ w).1, (set_frame g _ _ w).2.1, (set_frame g _ _ w).2.2.1, Nat.le_of_eq (set_frame g _ _ w).2.2.2.symm, fun k hk hne => World.heap_setCells_other w g _ _ hk (fun e => hne (by rw [e]; rfl))⟩, Or.inl rfl⟩
      · rw [rowG_append] at hu
        by_cases hj : j < l.length * 2
        · rw [List.getElem?_append_left (by rw [rowG_len]; exact hj)] at hu
          rw [b3 _ (by omega)]
          exact h7 j u hu
        · rw [List.getElem?_append_right (by rw [rowG_len]; omega), rowG_len] at hu
          have hj2 : j - l.length * 2 < (rowG [z]).length := (List.getElem?_eq_some_iff.1 hu).1
          have := b4 (j - l.length * 2) hj2 (hc _ hj2)
          rw [show off + l.length * 2 + (j - l.length * 2) = off + j by omega] at this
          rw [this]
          exact hu
    · obtain ⟨v', w', a1, a2, a3, a4⟩ := hgrow (some ⟨g, off, none⟩) l.length cap rfl (by omega) (run_firstCells_some (P := Tryd.prog) w.drew i.size l.length ⟨g, off, none⟩ l.length cap (rowG l) (by rw [h1, rowG_len]) (fun j u hu => by rw [Addr.add_mid]; show w.cell? _ = _; rw [cell_of h4]; exact h7 j u hu))
      exact ⟨v', w', a1, a2, a3, Or.inr a4⟩
/-- Some groups, as they lie at a place. -/
def Lies (w : World) (x : Addr) (zs : List Gv) : Prop := ∀ j u, (rowG zs)[j]? = some u → w.cell? (x.add j) = some u
theorem app_grs (w : World) (base : Nat) (g off cap n : Nat) (l zs : List Gv) (x : Addr) (m c : Nat) (hn : n = l.length) (hown : Gr w base (.slice (some ⟨g, off, none⟩) n cap) l) (hm : m = zs.length) (hnews : Lies w x zs) (hl : l.length + zs.length ≤ 5000) (hb : base ≤ w.heap.size) :
    ∃ v' w', (Builtin.append_ #[40, 40] 40 #[.slice (some ⟨g, off, none⟩) n cap, .slice (some x) m c]).run Tryd.prog w = .ok v' w' ∧ Gr w' base v' (l ++ zs) ∧ w.grownBy w' (some g) ∧ (∃ g' off' cap', v' = .slice (some ⟨g', off', none⟩) (l.length + zs.length) cap' ∧ (g' = g ∨ g' = w.heap.size)) := by
  obtain ⟨i, hi, hz, h1, h2⟩ := infoG'
  subst hn hm
  have hsrc : Src Tryd.prog i.size 40 (.slice (some x) zs.length c) zs.length (rowG zs) w := Src.ofSlice w Tryd.underlying40 x zs.length c (rowG zs) (by rw [h1, rowG_len]) hnews (rowG_one _)
  rcases hown with ⟨h, _⟩ | ⟨g', off', cap', cur, h, h3, h4, h5, h6, h7⟩
  · cases h
  simp only [Value.slice.injEq, Option.some.injEq, Addr.mk.injEq] at h
  obtain ⟨⟨rfl, rfl, _⟩, _, rfl⟩ := h
  by_cases hroom : l.length + zs.length ≤ cap
  · have hc : ∀ j, j < (rowG zs).length → off + l.length * i.size + j < cur.size := fun j hj => by
      rw [rowG_len] at hj
      rw [h1]
      omega
    have hr := run_append_room_src (P := Tryd.prog) w 40 40 40 43 i Tryd.underlying40 hi g off l.length cap _ zs.length (rowG zs) hsrc hroom
      (fun j hj => by rw [cell_of h4, Array.getElem?_eq_getElem (hc j hj)]; rfl) (fun j hj => by simp [World.frozen?, h4])
    rw [h1] at hr hc
    obtain ⟨cur', b1, b2, b3, b4⟩ := set_heap h4 (rowG zs) (off + l.length * 2)
    refine ⟨_, _, hr, Or.inr ⟨g, off, cap, cur', by simp, h3, b1, by simpa using hroom, by rw [b2]; exact h6, fun j u hu => ?_⟩, ⟨(set_frame g _ _ w).1, (set_frame g _ _ w).2.1, (set_frame g _ _ w).2.2.1, Nat.le_of_eq (set_frame g _ _ w).2.2.2.symm, fun k hk hne => World.heap_setCells_other w g _ _ hk (fun e => hne (by rw [e]))⟩, g, off, cap, rfl, Or.inl rfl⟩
    rw [rowG_append] at hu
    by_cases hj : j < l.length * 2
    · rw [List.getElem?_append_left (by rw [rowG_len]; exact hj)] at hu
      rw [b3 _ (by omega)]
      exact h7 j u hu
    · rw [List.getElem?_append_right (by rw [rowG_len]; omega), rowG_len] at hu
      have hj2 : j - l.length * 2 < (rowG zs).length := (List.getElem?_eq_some_iff.1 hu).1
      have := b4 (j - l.length * 2) hj2 (hc _ hj2)
      rw [show off + l.length * 2 + (j - l.length * 2) = off + j by omega] at this
      rw [this]
      exact hu
  · have hold := run_firstCells_some (P := Tryd.prog) w.drew i.size l.length ⟨g, off, none⟩ l.length cap (rowG l) (by rw [h1, rowG_len]) (fun j u hu => by rw [Addr.add_mid]; show w.cell? _ = _; rw [cell_of h4]; exact h7 j u hu)
    have hr := run_append_grow_src (P := Tryd.prog) w 40 40 40 43 i (.agg #[.int .i64 0, .slice none 0 0]) Tryd.underlying40 hi hz (some ⟨g, off, none⟩) l.length cap (rowG l) hold _ zs.length (rowG zs) hsrc (by omega) (by omega) (growslice_fits (by omega) (by rw [h2]; omega))
    have hge := grownCap_ge w (l.length + zs.length) cap 43
    refine ⟨_, _, hr, Or.inr ⟨w.heap.size, 0, grownCap w (l.length + zs.length) cap 43, _, by simp, hb, heap_alloc_new w.drew _, by simpa using hge, ?_, fun j u hu => ?_⟩, ⟨rfl, rfl, rfl, by simp, fun k hk _ => Below.heap_alloc w.drew _ k hk⟩, w.heap.size, 0, _, rfl, Or.inr rfl⟩
    · simp only [Array.size_append, List.size_toArray, List.length_append, rowG_len, size_zeroCells]
      show 0 + _ ≤ l.length * 2 + zs.length * 2 + _ * 2
      omega
    · rw [Nat.zero_add, ← rowG_append, Array.getElem?_append_left (by rw [List.size_toArray]; exact (List.getElem?_eq_some_iff.1 hu).1), List.getElem?_toArray]
      exact hu
end Go.Proofs.YtkldnapbeebdkaaDoor.hr
