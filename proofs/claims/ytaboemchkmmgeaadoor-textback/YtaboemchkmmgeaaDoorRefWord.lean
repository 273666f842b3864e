/- What the document's own WordPut and WordGet answer, and what Put, Get and Swap answer where something is wrong. -/
import Derived.Test.YtaboemchkmmgeaaDoorWords
import Derived.WalkSpells
namespace Go.Proofs.YtaboemchkmmgeaaDoor.words
open Go.ChangeShapes Go.WideShapes Go.ChangeAt Go.RowKit
open mem num

/-- Is it a width of a number that is put and got? -/
def okW (W : Int) : Prop := W = 1 ∨ W = 2 ∨ W = 4 ∨ W = 8
def okO (O : Int) : Prop := O = 0 ∨ O = 1

theorem whole_no (W : Int) (w : World) (h : ¬ okW W) : Calls Tryd.prog 51 #[.int .i64 W] w fun e w' => e = .returned (.bool false) ∧ w' = w := by
  have h1 : (W == 1) = false := by simp; intro e; exact h (Or.inl e)
  have h2 : (W == 2) = false := by simp; intro e; exact h (Or.inr (Or.inl e))
  have h3 : (W == 4) = false := by simp; intro e; exact h (Or.inr (Or.inr (Or.inl e)))
  have h4 : (W == 8) = false := by simp; intro e; exact h (Or.inr (Or.inr (Or.inr e)))
  clear h
  go_enter Tryd.func51, Tryd.ntmps51
  go_wp2
  go_ret
  exact ⟨rfl, rfl⟩
theorem known_no (O : Int) (w : World) (h : ¬ okO O) : Calls Tryd.prog 52 #[.int .i64 O] w fun e w' => e = .returned (.bool false) ∧ w' = w := by
  have h1 : (O == 0) = false := by simp; intro e; exact h (Or.inl e)
  have h2 : (O == 1) = false := by simp; intro e; exact h (Or.inr e)
  clear h
  go_enter Tryd.func52, Tryd.ntmps52
  go_wp2
  go_ret
  exact ⟨rfl, rfl⟩
theorem right_yes (W O : Int) (w : World) (hW : okW W) (hO : okO O) : Calls Tryd.prog 49 #[.int .i64 W, .int .i64 O] w fun e w' => e = .returned (.bool true) ∧ w' = w := by
  rcases hW with rfl | rfl | rfl | rfl <;> rcases hO with rfl | rfl
  all_goals
    go_enter Tryd.func49, Tryd.ntmps49
    go_wp2
    go_ret
    exact ⟨rfl, rfl⟩
theorem within_no (O : Int) (w : World) (h : ¬ okO O) : Calls Tryd.prog 32 #[.int .i64 O, .int .i64 0, .int .i64 1] w fun e w' => e = .returned (.bool false) ∧ w' = w := by
  have h' : O < 0 ∨ 1 < O := by unfold okO at h; omega
  clear h
  rcases h' with h | h
  · go_enter Tryd.func32, Tryd.ntmps32
    go_wp2
    go_ret
    exact ⟨rfl, rfl⟩
  · have hd : decide (O ≤ 1) = false := by simp; omega
    go_enter Tryd.func32, Tryd.ntmps32
    go_wp2
    go_ret
    exact ⟨rfl, rfl⟩
theorem right_noO (W O : Int) (w : World) (hW : okW W) (hO : ¬ okO O) : Calls Tryd.prog 49 #[.int .i64 W, .int .i64 O] w fun e w' => e = .returned (.bool false) ∧ w' = w := by
  have HO : Hid (¬ okO O) := hO
  clear hO
  rcases hW with rfl | rfl | rfl | rfl
  all_goals
    go_enter Tryd.func49, Tryd.ntmps49
    go_wp2_with (go_at_call 32; refine (within_no _ _ HO.out).mono ?_; rintro e w1 ⟨rfl, rfl⟩)
    go_ret
    exact ⟨rfl, rfl⟩
theorem right_noW (W O : Int) (w : World) (h : ¬ okW W) : Calls Tryd.prog 49 #[.int .i64 W, .int .i64 O] w fun e w' => e = .returned (.bool false) ∧ w' = w := by
  have h1 : (W == 1) = false := by simp; intro e; exact h (Or.inl e)
  have h2 : (W == 2) = false := by simp; intro e; exact h (Or.inr (Or.inl e))
  have h3 : (W == 4) = false := by simp; intro e; exact h (Or.inr (Or.inr (Or.inl e)))
  have h4 : (W == 8) = false := by simp; intro e; exact h (Or.inr (Or.inr (Or.inr e)))
  clear h
  go_enter Tryd.func49, Tryd.ntmps49
  go_wp2
  go_ret
  exact ⟨rfl, rfl⟩
theorem right_no (W O : Int) (w : World) (h : ¬ (okW W ∧ okO O)) : Calls Tryd.prog 49 #[.int .i64 W, .int .i64 O] w fun e w' => e = .returned (.bool false) ∧ w' = w := by
  by_cases hW : okW W
  · exact right_noO W O w hW (fun hO => h ⟨hW, hO⟩)
  · exact right_noW W O w hW

theorem put_no (n W O : Int) (w : World) (h : ¬ (okW W ∧ okO O)) : Calls Tryd.prog 36 #[.int .u64 n, .int .i64 W, .int .i64 O] w fun e w' => e = .returned (.tuple #[.string ⟨#[]⟩, .iface 27 (.int .i64 1)]) ∧ w' = w := by
  by_cases hW : okW W
  · have HO : Hid (¬ okO O) := fun hO => h ⟨hW, hO⟩
    have HW : Hid (okW W) := hW
    clear h hW
    go_enter Tryd.func36, Tryd.ntmps36
    go_wp2_with (first | (go_at_call 51; refine (whole_yes _ _ HW.out).mono ?_; rintro e w1 ⟨rfl, rfl⟩) | (go_at_call 52; refine (known_no _ _ HO.out).mono ?_; rintro e w1 ⟨rfl, rfl⟩))
    go_ret2
    exact ⟨rfl, rfl⟩
  · have HW : Hid (¬ okW W) := hW
    clear h hW
    go_enter Tryd.func36, Tryd.ntmps36
    go_wp2_with (first | (go_at_call 51; refine (whole_no _ _ HW.out).mono ?_; rintro e w1 ⟨rfl, rfl⟩))
    go_ret2
    exact ⟨rfl, rfl⟩
theorem get_no (s : ByteArray) (A W O : Int) (w : World) (h : ¬ (okW W ∧ okO O)) : Calls Tryd.prog 54 #[.string s, .int .i64 A, .int .i64 W, .int .i64 O] w fun e w' => e = .returned (.tuple #[.int .u64 0, .iface 27 (.int .i64 1)]) ∧ w' = w := by
  by_cases hW : okW W
  · have HO : Hid (¬ okO O) := fun hO => h ⟨hW, hO⟩
    have HW : Hid (okW W) := hW
    clear h hW
    go_enter Tryd.func54, Tryd.ntmps54
    go_wp2_with (first | (go_at_call 51; refine (whole_yes _ _ HW.out).mono ?_; rintro e w1 ⟨rfl, rfl⟩) | (go_at_call 52; refine (known_no _ _ HO.out).mono ?_; rintro e w1 ⟨rfl, rfl⟩))
    go_ret2
    exact ⟨rfl, rfl⟩
  · have HW : Hid (¬ okW W) := hW
    clear h hW
    go_enter Tryd.func54, Tryd.ntmps54
    go_wp2_with (first | (go_at_call 51; refine (whole_no _ _ HW.out).mono ?_; rintro e w1 ⟨rfl, rfl⟩))
    go_ret2
    exact ⟨rfl, rfl⟩
theorem get_out (s : ByteArray) (A W O : Int) (w : World) (hs : s.size ≤ 140737488351232) (hW : okW W) (hO : okO O) (hA : A < 0 ∨ (s.size : Int) - W < A) :
    Calls Tryd.prog 54 #[.string s, .int .i64 A, .int .i64 W, .int .i64 O] w fun e w' => e = .returned (.tuple #[.int .u64 0, .iface 27 (.int .i64 2)]) ∧ w' = w := by
  have HO : Hid (okO O) := hO
  have HW : Hid (okW W) := hW
  have hw1 : 1 ≤ W := by unfold okW at hW; omega
  have hw8 : W ≤ 8 := by unfold okW at hW; omega
  clear hO hW
  by_cases h0 : A < 0
  · clear hA
    go_enter Tryd.func54, Tryd.ntmps54
    go_wp2_with (first | (go_at_call 51; refine (whole_yes _ _ HW.out).mono ?_; rintro e w1 ⟨rfl, rfl⟩) | (go_at_call 52; refine (known_yes _ _ HO.out).mono ?_; rintro e w1 ⟨rfl, rfl⟩))
    go_ret2
    exact ⟨rfl, rfl⟩
  · have hA' : (s.size : Int) - W < A := by omega
    clear hA
    go_enter Tryd.func54, Tryd.ntmps54
    go_wp2_with (first | (go_at_call 51; refine (whole_yes _ _ HW.out).mono ?_; rintro e w1 ⟨rfl, rfl⟩) | (go_at_call 52; refine (known_yes _ _ HO.out).mono ?_; rintro e w1 ⟨rfl, rfl⟩))
    go_ret2
    exact ⟨rfl, rfl⟩
theorem Row.new (w : World) (e : TypeId) (x : Int) : Row (w.alloc (.cells #[.int .u8 x] e)) e w.heap.size [x] := by
  unfold Row
  show (w.heap.push _)[w.heap.size]? = _
  rw [Array.getElem?_push, if_pos rfl]
  rfl
theorem char_any (n : Int) (w : World) (h0 : 0 ≤ n) : Calls Tryd.prog 47 #[.int .u64 n] w fun e w' => e = .returned (.string (strOfNums [n % 256])) ∧ Gb w w' := by
  have hcv := (Row.new w 5 (n % 256)).text (P := Tryd.prog) Tryd.underlying58 Tryd.underlying5 Tryd.underlying9 1 rfl
  go_enter Tryd.func47, Tryd.ntmps47
  go_wp2
  go_ret
  exact ⟨rfl, (Gb.refl _).alloc _ _⟩

/-- A text's first k bytes, the other way round. -/
def turnK (s : ByteArray) (k : Nat) : ByteArray := ⟨((s.data.toList.take k).reverse).toArray⟩
theorem turnK_size (s : ByteArray) (k : Nat) (hk : k ≤ s.size) : (turnK s k).size = k := by
  have h : s.data.toList.length = s.size := rfl
  simp only [turnK, ByteArray.size, List.size_toArray, List.length_reverse, List.length_take]
  omega
theorem turnK_succ (s : ByteArray) (k : Nat) (hk : k < s.size) : s.extract k (k + 1) ++ turnK s k = turnK s (k + 1) := by
  apply ByteArray.ext
  apply Array.ext'
  have h : k < s.data.toList.length := hk
  simp only [turnK, ByteArray.data_append, ByteArray.data_extract, Array.toList_append, Array.toList_extract]
  rw [List.take_succ_eq_append_getElem h]
  simp [List.extract_eq_take_drop, List.take_one, List.head?_drop]
  rw [Array.getElem?_eq_getElem (show k < s.data.size from hk)]
  rfl
theorem turn_any (s : ByteArray) (w : World) (hs : s.size ≤ 140737488351232) : Calls Tryd.prog 50 #[.string s] w fun e w' => e = .returned (.string (turnK s s.size)) ∧ w' = w := by
  go_enter Tryd.func50, Tryd.ntmps50
  go_wp2
  go_loop [3, 4] (fun o i => ∃ k : Nat, k ≤ s.size ∧ i = .int .i64 k ∧ o = .string (turnK s k)) (fun _ i => s.size - (intOf i).toNat)
  case atStart => exact ⟨0, Nat.zero_le _, rfl, rfl⟩
  case round =>
    obtain ⟨k, hk, rfl, rfl⟩ := hrel
    have hz := turnK_size s k hk
    by_cases hlt : k < s.size
    · go_wp2
      go_round
      case rel => exact ⟨k + 1, by omega, by go_num, by rw [turnK_succ s k hlt]⟩
      case measure => simp [intOf]; omega
    · obtain rfl : k = s.size := by omega
      go_wp2
      go_ret
      exact ⟨rfl, rfl⟩

/-- A number's low k bytes, the least first. -/
def low (n : Int) (k : Nat) : List Int := (List.range k).map fun j => n / 256 ^ j % 256
theorem low_len (n : Int) (k : Nat) : (low n k).length = k := by simp [low]
theorem nums_append (a b : List Int) : strOfNums a ++ strOfNums b = strOfNums (a ++ b) := by
  apply ByteArray.ext
  apply Array.ext'
  simp [strOfNums]
theorem low_succ (n : Int) (k : Nat) : strOfNums (low n k) ++ strOfNums [n / 256 ^ k % 256] = strOfNums (low n (k + 1)) := by
  rw [nums_append]
  unfold low
  rw [List.range_succ, List.map_append]
  rfl
theorem div_succ (n : Int) (k : Nat) : n / 256 ^ k / 256 = n / 256 ^ (k + 1) := by
  rw [Int.pow_succ, Int.ediv_ediv_of_nonneg (Int.le_of_lt (Int.pow_pos (by decide)))]
theorem div_bd (n : Int) (k : Nat) (h0 : 0 ≤ n) : 0 ≤ n / 256 ^ k ∧ n / 256 ^ k ≤ n :=
  ⟨Int.ediv_nonneg h0 (Int.le_of_lt (Int.pow_pos (by decide))), Int.ediv_le_self _ h0⟩
theorem low_little (n : Int) (W : Nat) : low n W = putL n W false W := by
  unfold low putL
  apply List.map_congr_left
  intro j hj
  have hj' : j < W := by simpa using hj
  rw [if_pos (show pl W false j < W from hj')]
  rfl
theorem low_big (n : Int) (W : Nat) : (low n W).reverse = putL n W true W := by
  apply List.ext_getElem
  · simp [low, putL]
  · intro i h1 h2
    have hi : i < W := by simpa [putL] using h2
    have hp : pl W true i < W := by show W - 1 - i < W; omega
    rw [List.getElem_reverse]
    simp only [low, putL, List.getElem_map, List.getElem_range, List.length_map, List.length_range]
    rw [if_pos hp]
    rfl
theorem turn_nums (zs : List Int) : turnK (strOfNums zs) (strOfNums zs).size = strOfNums zs.reverse := by
  apply ByteArray.ext
  apply Array.ext'
  have h : (strOfNums zs).size = zs.length := strOfNums_size zs
  rw [h]
  unfold turnK
  rw [strOfNums_data, List.take_of_length_le (by simp)]
  simp [strOfNums]

theorem refPut_any (n : Int) (W : Nat) (o : Bool) (O : Int) (w : World) (h0 : 0 ≤ n) (h1 : n < 18446744073709551616) (hO : (if o then (1 : Int) else 0) = O) (hW : okW W) :
    Calls Tryd.prog 33 #[.int .u64 n, .int .i64 W, .int .i64 O] w fun e w' => e = .returned (.tuple #[.string (strOfNums (putL n W o W)), .int .i64 0]) ∧ Gb w w' := by
  have hok : okO O := by cases o <;> simp at hO <;> unfold okO <;> omega
  have HW : Hid (okW W) := hW
  have HK : Hid (okO O) := hok
  have HO : Hid ((if o then (1 : Int) else 0) = O) := hO
  have hw8 : W ≤ 8 := by unfold okW at hW; omega
  have HT := turn_nums (low n W)
  have HTB := low_big n W
  have HTL := low_little n W
  have hz := strOfNums_size (low n W)
  rw [low_len] at hz
  rw [hz] at HT
  have H1 : Hid (turnK (strOfNums (low n W)) W = strOfNums (putL n W true W)) := by rw [← HTB]; exact HT
  have H2 : Hid (low n W = putL n W false W) := HTL
  clear hW hok hO HT HTB HTL
  go_enter Tryd.func33, Tryd.ntmps33
  go_wp2_with (go_at_call 49; refine (right_yes _ _ _ HW.out HK.out).mono ?_; rintro e w1 ⟨rfl, rfl⟩)
  go_loopw [0, 8, 9] (fun m s i wr => ∃ k : Nat, k ≤ W ∧ i = .int .i64 k ∧ m = .int .u64 (n / 256 ^ k) ∧ s = .string (strOfNums (low n k)) ∧ Gb w1 wr) (fun _ _ i _ => W - (intOf i).toNat)
  case atStart => exact ⟨0, Nat.zero_le _, rfl, by simp, rfl, Gb.refl _⟩
  case round =>
    obtain ⟨k, hk, rfl, rfl, rfl, hgb⟩ := hrel
    have hz' := strOfNums_size (low n k)
    rw [low_len] at hz'
    have hd := div_bd n k h0
    by_cases hlt : k < W
    · have hz2 : (strOfNums [n / 256 ^ k % 256]).size = 1 := rfl
      go_wp2_with (go_at_call 47; refine (char_any _ _ (by omega)).mono ?_; rintro e w2 ⟨rfl, hg2⟩)
      go_roundw
      case rel => exact ⟨k + 1, by omega, by go_num, by rw [div_succ], by rw [low_succ], hgb.trans hg2⟩
      case measure => simp [intOf]; omega
    · obtain rfl : k = W := by omega
      cases o
      · have hO0 : (O == 1) = false := by have := HO.out; simp at this; simp; omega
        go_wp2
        go_ret2
        exact ⟨by rw [← H2.out]; rfl, hgb⟩
      · have hO1 : (O == 1) = true := by have := HO.out; simp at this; simp; omega
        go_wp2_with (go_at_call 50; refine (turn_any _ _ (by omega)).mono ?_; rintro e w2 ⟨rfl, rfl⟩)
        go_ret2
        exact ⟨by rw [← H1.out]; rfl, hgb⟩
theorem refPut_no (n W O : Int) (w : World) (h : ¬ (okW W ∧ okO O)) : Calls Tryd.prog 33 #[.int .u64 n, .int .i64 W, .int .i64 O] w fun e w' => e = .returned (.tuple #[.string ⟨#[]⟩, .int .i64 1]) ∧ w' = w := by
  have H : Hid (¬ (okW W ∧ okO O)) := h
  clear h
  go_enter Tryd.func33, Tryd.ntmps33
  go_wp2_with (go_at_call 49; refine (right_no _ _ _ H.out).mono ?_; rintro e w1 ⟨rfl, rfl⟩)
  go_ret2
  exact ⟨rfl, rfl⟩
theorem refGet_no (s : ByteArray) (A W O : Int) (w : World) (h : ¬ (okW W ∧ okO O)) : Calls Tryd.prog 38 #[.string s, .int .i64 A, .int .i64 W, .int .i64 O] w fun e w' => e = .returned (.tuple #[.int .u64 0, .int .i64 1]) ∧ w' = w := by
  have H : Hid (¬ (okW W ∧ okO O)) := h
  clear h
  go_enter Tryd.func38, Tryd.ntmps38
  go_wp2_with (go_at_call 49; refine (right_no _ _ _ H.out).mono ?_; rintro e w1 ⟨rfl, rfl⟩)
  go_ret2
  exact ⟨rfl, rfl⟩
theorem refGet_out (s : ByteArray) (A W O : Int) (w : World) (_hs : s.size ≤ 140737488351232) (hW : okW W) (hO : okO O) (hA : A < 0 ∨ (s.size : Int) - W < A) (hAb : A ≤ 9223372036854775807) :
    Calls Tryd.prog 38 #[.string s, .int .i64 A, .int .i64 W, .int .i64 O] w fun e w' => e = .returned (.tuple #[.int .u64 0, .int .i64 2]) ∧ w' = w := by
  have HO : Hid (okO O) := hO
  have HW : Hid (okW W) := hW
  have hw1 : 1 ≤ W := by unfold okW at hW; omega
  have hw8 : W ≤ 8 := by unfold okW at hW; omega
  clear hO hW
  by_cases h0 : A < 0
  · clear hA
    go_enter Tryd.func38, Tryd.ntmps38
    go_wp2_with (go_at_call 49; refine (right_yes _ _ _ HW.out HO.out).mono ?_; rintro e w1 ⟨rfl, rfl⟩)
    go_ret2
    exact ⟨rfl, rfl⟩
  · have hA' : (s.size : Int) - W < A := by omega
    clear hA
    by_cases h1 : (s.size : Int) < A
    · go_enter Tryd.func38, Tryd.ntmps38
      go_wp2_with (go_at_call 49; refine (right_yes _ _ _ HW.out HO.out).mono ?_; rintro e w1 ⟨rfl, rfl⟩)
      go_ret2
      exact ⟨rfl, rfl⟩
    · have h2 : (s.size : Int) - A < W := by omega
      go_enter Tryd.func38, Tryd.ntmps38
      go_wp2_with (go_at_call 49; refine (right_yes _ _ _ HW.out HO.out).mono ?_; rintro e w1 ⟨rfl, rfl⟩)
      go_ret2
      exact ⟨rfl, rfl⟩
/-- The number that bytes are, the greatest first. -/
def hv (f : Nat → Int) : Nat → Int
  | 0 => 0
  | k + 1 => hv f k * 256 + f k
theorem gv_front (g : Nat → Int) (k : Nat) : gv g (k + 1) = g 0 + gv (fun i => g (i + 1)) k * 256 := by
  induction k with
  | zero => simp [gv]
  | succ k ih =>
    rw [gv, ih, gv]
    have e : (256 : Int) ^ (k + 1) = 256 ^ k * 256 := Int.pow_succ ..
    rw [e, Int.add_mul]
    have e2 : g (k + 1) * (256 ^ k * 256) = g (k + 1) * 256 ^ k * 256 := (Int.mul_assoc ..).symm
    omega
theorem hv_gv (f : Nat → Int) (k : Nat) : hv f k = gv (fun i => f (k - 1 - i)) k := by
  induction k with
  | zero => rfl
  | succ k ih =>
    rw [gv_front, hv, ih]
    have e : gv (fun i => f (k + 1 - 1 - (i + 1))) k = gv (fun i => f (k - 1 - i)) k := gv_congr _ _ _ (fun i _ => by congr 1; omega)
    rw [e]
    show _ = f (k + 1 - 1 - 0) + _
    rw [show k + 1 - 1 - 0 = k from by omega]
    omega
theorem hv_bd (f : Nat → Int) (hf : ∀ i, 0 ≤ f i ∧ f i < 256) (k : Nat) : 0 ≤ hv f k ∧ hv f k < 256 ^ k := by
  rw [hv_gv]; exact gv_bd _ (fun i => hf _) k
/-- The bytes of a text from A on, W of them, in that order: least first, or last. -/
def cutB (s : ByteArray) (A W : Nat) (o : Bool) : ByteArray := if o then s.extract A (A + W) else turnK (s.extract A (A + W)) W
theorem sb_extract (s : ByteArray) (A W i : Nat) (hi : i < W) (_hA : A + W ≤ s.size) : sb (s.extract A (A + W)) i = sb s (A + i) := by
  unfold sb
  congr 2
  rw [List.getD_eq_getElem?_getD, List.getD_eq_getElem?_getD]
  congr 1
  simp only [ByteArray.data_extract, Array.toList_extract, List.extract_eq_take_drop]
  rw [List.getElem?_take_of_lt (by omega), List.getElem?_drop]
theorem sb_turn (t : ByteArray) (W i : Nat) (hi : i < W) (hW : t.size = W) : sb (turnK t W) i = sb t (W - 1 - i) := by
  unfold sb turnK
  congr 2
  have hl : t.data.toList.length = W := hW
  rw [List.take_of_length_le (by omega), List.getD_eq_getElem?_getD, List.getD_eq_getElem?_getD]
  congr 1
  show t.data.toList.reverse[i]? = _
  rw [List.getElem?_reverse (by omega), hl]
theorem cutB_hv (s : ByteArray) (A W : Nat) (o : Bool) (hA : A + W ≤ s.size) : hv (fun i => sb (cutB s A W o) i) W = gv (fun i => sb s (A + pl W o i)) W := by
  rw [hv_gv]
  apply gv_congr
  intro i hi
  cases o
  · show sb (turnK (s.extract A (A + W)) W) (W - 1 - i) = _
    rw [sb_turn _ W _ (by omega) (by rw [ByteArray.size_extract]; omega), show W - 1 - (W - 1 - i) = i from by omega, sb_extract s A W i hi hA]
    rfl
  · show sb (s.extract A (A + W)) (W - 1 - i) = _
    rw [sb_extract s A W _ (by omega) hA]
    rfl
theorem cutB_size (s : ByteArray) (A W : Nat) (o : Bool) (hA : A + W ≤ s.size) : (cutB s A W o).size = W := by
  have h : (s.extract A (A + W)).size = W := by rw [ByteArray.size_extract]; omega
  cases o
  · exact turnK_size _ _ (by omega)
  · exact h
theorem hv_step (h b : Int) (k : Nat) (hk : k ≤ 7) (h0 : 0 ≤ h) (h1 : h < 256 ^ k) (hb0 : 0 ≤ b) (hb : b < 256) :
    IntKind.u64.wrap (IntKind.u64.wrap (h * 256) + IntKind.u64.wrap b) = h * 256 + b := by
  have hp := pow256_le k hk
  simp only [IntKind.wrap_u64]
  omega
theorem refGet_any (s : ByteArray) (A W : Nat) (o : Bool) (O : Int) (w : World) (hO : (if o then (1 : Int) else 0) = O) (hW : okW W) (hs : s.size ≤ 140737488351232) (hA : A + W ≤ s.size) :
    Calls Tryd.prog 38 #[.string s, .int .i64 A, .int .i64 W, .int .i64 O] w fun e w' => e = .returned (.tuple #[.int .u64 (gv (fun i => sb s (A + pl W o i)) W), .int .i64 0]) ∧ w' = w := by
  have hok : okO O := by cases o <;> simp at hO <;> unfold okO <;> omega
  have HW : Hid (okW W) := hW
  have HK : Hid (okO O) := hok
  have hw1 : 1 ≤ W := by unfold okW at hW; omega
  have hw8 : W ≤ 8 := by unfold okW at hW; omega
  have hx : (s.extract A (A + W)).size = W := by rw [ByteArray.size_extract]; omega
  have hc := cutB_size s A W o hA
  rw [← cutB_hv s A W o hA]
  clear hW hok
  cases o
  · have hO0 : (O == 0) = true := by simp at hO; simp; omega
    have hc' : (turnK (s.extract A (A + W)) W).size = W := hc
    clear hO hc
    have hf : ∀ i, 0 ≤ sb (cutB s A W false) i ∧ sb (cutB s A W false) i < 256 := fun i => sb_bd _ i
    have HF : Hid (∀ i, 0 ≤ sb (cutB s A W false) i ∧ sb (cutB s A W false) i < 256) := hf
    clear hf
    go_enter Tryd.func38, Tryd.ntmps38
    go_wp2_with (first | (go_at_call 49; refine (right_yes _ _ _ HW.out HK.out).mono ?_; rintro e w1 ⟨rfl, rfl⟩) | (go_at_call 50; refine (turn_any _ _ (by omega)).mono ?_; rintro e w2 ⟨rfl, rfl⟩))
    go_loop [11, 12] (fun n i => ∃ k : Nat, k ≤ W ∧ i = .int .i64 k ∧ n = .int .u64 (hv (fun i => sb (cutB s A W false) i) k)) (fun _ i => W - (intOf i).toNat)
    case atStart => exact ⟨0, Nat.zero_le _, rfl, rfl⟩
    case round =>
      obtain ⟨k, hk, rfl, rfl⟩ := hrel
      by_cases hlt : k < W
      · have hb := hv_bd _ HF.out k
        have hp := pow256_le k (by omega)
        have hbk := HF.out k
        have hg : Hid (sb (cutB s A W false) k = (((turnK (s.extract A (A + W)) W)[k]'(by omega)).toNat : Int)) := sb_get (turnK (s.extract A (A + W)) W) k (by omega)
        go_wp2
        go_round
        case rel => exact ⟨k + 1, by omega, by go_num, by rw [← hg.out, hv_step _ _ k (by omega) hb.1 hb.2 hbk.1 hbk.2]; rfl⟩
        case measure => simp [intOf]; omega
      · obtain rfl : k = W := by omega
        go_wp2
        go_ret2
        exact ⟨rfl, rfl⟩
  · have hO0 : (O == 0) = false := by simp at hO; simp; omega
    clear hO hc
    have hf : ∀ i, 0 ≤ sb (cutB s A W true) i ∧ sb (cutB s A W true) i < 256 := fun i => sb_bd _ i
    have HF : Hid (∀ i, 0 ≤ sb (cutB s A W true) i ∧ sb (cutB s A W true) i < 256) := hf
    clear hf
    go_enter Tryd.func38, Tryd.ntmps38
    go_wp2_with (first | (go_at_call 49; refine (right_yes _ _ _ HW.out HK.out).mono ?_; rintro e w1 ⟨rfl, rfl⟩))
    go_loop [11, 12] (fun n i => ∃ k : Nat, k ≤ W ∧ i = .int .i64 k ∧ n = .int .u64 (hv (fun i => sb (cutB s A W true) i) k)) (fun _ i => W - (intOf i).toNat)
    case atStart => exact ⟨0, Nat.zero_le _, rfl, rfl⟩
    case round =>
      obtain ⟨k, hk, rfl, rfl⟩ := hrel
      by_cases hlt : k < W
      · have hb := hv_bd _ HF.out k
        have hp := pow256_le k (by omega)
        have hbk := HF.out k
        have hg : Hid (sb (cutB s A W true) k = (((s.extract A (A + W))[k]'(by omega)).toNat : Int)) := sb_get (s.extract A (A + W)) k (by omega)
        go_wp2
        go_round
        case rel => exact ⟨k + 1, by omega, by go_num, by rw [← hg.out, hv_step _ _ k (by omega) hb.1 hb.2 hbk.1 hbk.2]; rfl⟩
        case measure => simp [intOf]; omega
      · obtain rfl : k = W := by omega
        go_wp2
        go_ret2
        exact ⟨rfl, rfl⟩
end Go.Proofs.YtaboemchkmmgeaaDoor.words
