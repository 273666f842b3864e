/- What a text's sum is in package sums, of a sum that is made as is right. -/
import Derived.Test.YthimjckimggpoaaDoorSums3
import Derived.Test.YthimjckimggpoaaDoorSums1
namespace Go.Proofs.YthimjckimggpoaaDoor.sums
open Go.ChangeShapes Go.WideShapes Go.ChangeAt Go.RowKit
open mem bit crc
attribute [local go_sem] World.cell?_alloc_some

theorem rev_cut (W r : Nat) (h32 : W ≤ 32) : rev 32 r / 2 ^ (32 - W) = rev W r := by
  apply Nat.eq_of_testBit_eq
  intro i
  rw [← Nat.shiftRight_eq_div_pow, Nat.testBit_shiftRight, rev_test, rev_test]
  by_cases hi : i < W
  · rw [decide_eq_true hi, decide_eq_true (show 32 - W + i < 32 by omega), show 32 - 1 - (32 - W + i) = W - 1 - i from by omega]
  · rw [decide_eq_false hi, decide_eq_false (show ¬ 32 - W + i < 32 by omega)]
    rfl
theorem turned_at (W : Nat) (P I O : Int) (t : Bool) (r : Nat) (w : World) (h8 : 8 ≤ W) (h32 : W ≤ 32) (hr : r < 2 ^ W) :
    Calls Tryd.prog 21 #[.agg #[.int .i64 W, .int .u32 P, .bool t, .int .u32 I, .int .u32 O], .int .u32 r] w fun e w' => e = .returned (.int .u32 (trn t W r : Nat)) ∧ Gb w w' := by
  have hle := le32 W h32
  cases t
  · go_enter Tryd.func21, Tryd.ntmps21
    go_wp2
    go_ret
    exact ⟨rfl, (Gb.refl _).alloc _ _⟩
  · have HR : Hid (rev 32 r / 2 ^ (32 - W) = rev W r) := rev_cut W r h32
    obtain ⟨t, ht⟩ : ∃ t, t = true := ⟨_, rfl⟩
    obtain ⟨d, hd⟩ : ∃ d, d = 32 - W := ⟨_, rfl⟩
    have wr1 : IntKind.i64.wrap (32 - (W : Int)) = (d : Int) := (wrap_i _ (by omega) (by omega)).trans (by omega)
    have hdl : d ≤ 32 := by omega
    rw [← hd] at HR
    rw [← ht]
    have Ht : Hid (t = true) := ht
    clear hd
    go_enter Tryd.func21, Tryd.ntmps21
    go_wp2
    go_region_held3 (fun w' => (World.cell? w' ⟨w.heap.size, 0, none⟩ = some (.int .i64 W) ∧ World.cell? w' ⟨w.heap.size, 1, none⟩ = some (.int .u32 P) ∧ World.cell? w' ⟨w.heap.size, 2, none⟩ = some (.bool t) ∧ World.cell? w' ⟨w.heap.size, 3, none⟩ = some (.int .u32 I) ∧ World.cell? w' ⟨w.heap.size, 4, none⟩ = some (.int .u32 O))) (simp (maxDischargeDepth := 9) [*]) (first | (go_at_call 26; refine (rev32_at r _ (by omega)).mono ?_; rintro e w1 ⟨rfl, rfl⟩))
    go_wp2
    go_ret
    exact ⟨ret_int (by rw [Ht.out]; show _ = ((rev W r : Nat) : Int); rw [← HR.out, ← p2, Int.natCast_ediv]), ((Gb.alloc (Gb.refl w) _ _).drew)⟩
theorem within_at (n W : Nat) (w : World) (h8 : 8 ≤ W) (h32 : W ≤ 32) :
    Calls Tryd.prog 19 #[.int .u32 n, .int .i64 W] w fun e w' => e = .returned (.bool (decide (n < 2 ^ W))) ∧ w' = w := by
  go_enter Tryd.func19, Tryd.ntmps19
  go_wp2
  go_ret
  exact ⟨ret_bool (by
    rw [← p2, ← Int.natCast_ediv]
    have h0 := Nat.two_pow_pos W
    by_cases h : n < 2 ^ W
    · rw [Nat.div_eq_of_lt h]; simp [h]
    · have : 0 < n / 2 ^ W := Nat.div_pos (by omega) h0
      rw [decide_eq_false h, beq_eq_false_iff_ne]; omega), rfl⟩
/-- Is a sum made so that it can be? -/
structure Rt (W P I O : Nat) : Prop where
  w : W = 8 ∨ W = 16 ∨ W = 32
  odd : P % 2 = 1
  p : P < 2 ^ W
  i : I < 2 ^ W
  o : O < 2 ^ W
theorem Rt.h8 {W P I O : Nat} (h : Rt W P I O) : 8 ≤ W := by have := h.w; omega
theorem Rt.h32 {W P I O : Nat} (h : Rt W P I O) : W ≤ 32 := by have := h.w; omega
theorem Rt.p32 {W P I O : Nat} (h : Rt W P I O) : P < 4294967296 := Nat.lt_of_lt_of_le h.p (le32 W h.h32)
theorem Rt.i32 {W P I O : Nat} (h : Rt W P I O) : I < 4294967296 := Nat.lt_of_lt_of_le h.i (le32 W h.h32)
theorem Rt.o32 {W P I O : Nat} (h : Rt W P I O) : O < 4294967296 := Nat.lt_of_lt_of_le h.o (le32 W h.h32)
theorem odd_u32 (P : Nat) (hP : P < 4294967296) : (bits .and .u32 (P : Int) 1 == 1) = decide (P % 2 = 1) := by
  have := u32_and_nat P 1 hP (by decide)
  rw [show ((1 : Nat) : Int) = 1 from rfl] at this
  rw [this, nat_mask1]
  rcases Nat.mod_two_eq_zero_or_one P with h | h <;> rw [h] <;> rfl
theorem Right_yes (W P I O : Nat) (t : Bool) (w : World) (h : Rt W P I O) :
    Calls Tryd.prog 8 #[.agg #[.int .i64 W, .int .u32 P, .bool t, .int .u32 I, .int .u32 O]] w fun e w' => e = .returned (.bool true) ∧ Gb w w' := by
  have H : Hid (Rt W P I O) := h
  have h8 := h.h8
  have h32 := h.h32
  have e1 : (bits .and .u32 (P : Int) 1 == 1) = true := (odd_u32 P h.p32).trans (decide_eq_true h.odd)
  have y1 : ∀ w, Calls Tryd.prog 19 #[.int .u32 P, .int .i64 W] w fun e w' => e = .returned (.bool true) ∧ w' = w := fun w => by
    have := within_at P W w h8 h32
    rw [decide_eq_true h.p] at this; exact this
  have y2 : ∀ w, Calls Tryd.prog 19 #[.int .u32 I, .int .i64 W] w fun e w' => e = .returned (.bool true) ∧ w' = w := fun w => by
    have := within_at I W w h8 h32
    rw [decide_eq_true h.i] at this; exact this
  have y3 : ∀ w, Calls Tryd.prog 19 #[.int .u32 O, .int .i64 W] w fun e w' => e = .returned (.bool true) ∧ w' = w := fun w => by
    have := within_at O W w h8 h32
    rw [decide_eq_true h.o] at this; exact this
  have hw : (((W : Int) != 8) = false) ∨ (((W : Int) != 8) = true ∧ ((W : Int) != 16) = false) ∨ (((W : Int) != 8) = true ∧ ((W : Int) != 16) = true ∧ ((W : Int) != 32) = false) := by
    rcases h.w with rfl | rfl | rfl
    · exact Or.inl rfl
    · exact Or.inr (Or.inl ⟨rfl, rfl⟩)
    · exact Or.inr (Or.inr ⟨rfl, rfl, rfl⟩)
  clear h
  rcases hw with q1 | ⟨q1, q2⟩ | ⟨q1, q2, q3⟩
  all_goals
    go_enter Tryd.func8, Tryd.ntmps8
    go_wp2_with (first | (go_at_call_of 19 (Value.int IntKind.u32 (P : Int)); refine (y1 _).mono ?_; rintro e w1 ⟨rfl, rfl⟩) | (go_at_call_of 19 (Value.int IntKind.u32 (I : Int)); refine (y2 _).mono ?_; rintro e w2 ⟨rfl, rfl⟩) | (go_at_call_of 19 (Value.int IntKind.u32 (O : Int)); refine (y3 _).mono ?_; rintro e w3 ⟨rfl, rfl⟩))
    go_ret
    exact ⟨rfl, (Gb.refl _).alloc _ _⟩
theorem sum_at (W P I O : Nat) (t : Bool) (s : ByteArray) (w : World) (h : Rt W P I O) (hs : s.size ≤ 140737488351232) :
    Calls Tryd.prog 17 #[.agg #[.int .i64 W, .int .u32 P, .bool t, .int .u32 I, .int .u32 O], .string s] w fun e w' => e = .returned (.int .u32 (sumV W P t I O s : Nat)) ∧ Gb w w' := by
  have H : Hid (Rt W P I O) := h
  have hle := le32 W h.h32
  have hO := h.o32
  clear h
  go_enter Tryd.func17, Tryd.ntmps17
  go_wp2
  go_loopw [5, 11] (fun x i wr => ∃ k : Nat, k ≤ s.size ∧ i = .int .i64 (k : Int) ∧ x = .int .u32 (fr W P t s I k : Nat) ∧ Gb (w.alloc (.cells #[.int .i64 W, .int .u32 P, .bool t, .int .u32 I, .int .u32 O] 24)) wr) (fun _ i _ => s.size - (intOf i).toNat)
  case atStart => exact ⟨0, Nat.zero_le _, rfl, rfl, Gb.refl _⟩
  case round =>
    obtain ⟨k, hk, rfl, rfl, gr⟩ := hrel
    have d0 := at_gb gr (a := ⟨w.heap.size, 0, none⟩) (v := .int .i64 W) (by go_simp); have d1 := at_gb gr (a := ⟨w.heap.size, 1, none⟩) (v := .int .u32 P) (by go_simp); have d2 := at_gb gr (a := ⟨w.heap.size, 2, none⟩) (v := .bool t) (by go_simp); have d3 := at_gb gr (a := ⟨w.heap.size, 3, none⟩) (v := .int .u32 I) (by go_simp); have d4 := at_gb gr (a := ⟨w.heap.size, 4, none⟩) (v := .int .u32 O) (by go_simp)
    by_cases hlt : k < s.size
    · have hix := run_byte (P := Tryd.prog) s k (k : Int) rfl hlt Tryd.underlying9
      have hz := fr_lt W P t s I k H.out.i
      obtain ⟨x, hxx⟩ : ∃ x, x = fr W P t s I k := ⟨_, rfl⟩
      have HZ : Hid (fr W P t s I (k + 1) = fw W P t x (byteN s k)) := by rw [hxx]; rfl
      rw [← hxx] at hz ⊢
      clear hxx
      go_wp2
      go_region_held3 (fun w' => (World.cell? w' ⟨w.heap.size, 0, none⟩ = some (.int .i64 W) ∧ World.cell? w' ⟨w.heap.size, 1, none⟩ = some (.int .u32 P) ∧ World.cell? w' ⟨w.heap.size, 2, none⟩ = some (.bool t) ∧ World.cell? w' ⟨w.heap.size, 3, none⟩ = some (.int .u32 I) ∧ World.cell? w' ⟨w.heap.size, 4, none⟩ = some (.int .u32 O))) (simp (maxDischargeDepth := 9) [*]) (first | (go_at_call 20; refine (forth_at W P I O t x (byteN s k) _ (byteN_lt s k) H.out.h8 H.out.h32 hz H.out.p).mono ?_; rintro e w1 ⟨rfl, g1⟩; have c0 := at_gb g1 (a := ⟨w.heap.size, 0, none⟩) (v := .int .i64 W) (by go_simp); have c1 := at_gb g1 (a := ⟨w.heap.size, 1, none⟩) (v := .int .u32 P) (by go_simp); have c2 := at_gb g1 (a := ⟨w.heap.size, 2, none⟩) (v := .bool t) (by go_simp); have c3 := at_gb g1 (a := ⟨w.heap.size, 3, none⟩) (v := .int .u32 I) (by go_simp); have c4 := at_gb g1 (a := ⟨w.heap.size, 4, none⟩) (v := .int .u32 O) (by go_simp)))
      go_wp2
      go_roundw
      case rel => exact ⟨k + 1, by omega, by go_num, by rw [HZ.out], gr.drew.trans g1⟩
      case measure => simp [intOf]; omega
    · obtain rfl : k = s.size := by omega
      have hz := fr_lt W P t s I s.size H.out.i
      go_wp2
      go_region_held3 (fun w' => (World.cell? w' ⟨w.heap.size, 0, none⟩ = some (.int .i64 W) ∧ World.cell? w' ⟨w.heap.size, 1, none⟩ = some (.int .u32 P) ∧ World.cell? w' ⟨w.heap.size, 2, none⟩ = some (.bool t) ∧ World.cell? w' ⟨w.heap.size, 3, none⟩ = some (.int .u32 I) ∧ World.cell? w' ⟨w.heap.size, 4, none⟩ = some (.int .u32 O))) (simp (maxDischargeDepth := 9) [*]) (first | (go_at_call 21; refine (turned_at W P I O t (fr W P t s I s.size) _ H.out.h8 H.out.h32 hz).mono ?_; rintro e w1 ⟨rfl, g1⟩; have c0 := at_gb g1 (a := ⟨w.heap.size, 0, none⟩) (v := .int .i64 W) (by go_simp); have c1 := at_gb g1 (a := ⟨w.heap.size, 1, none⟩) (v := .int .u32 P) (by go_simp); have c2 := at_gb g1 (a := ⟨w.heap.size, 2, none⟩) (v := .bool t) (by go_simp); have c3 := at_gb g1 (a := ⟨w.heap.size, 3, none⟩) (v := .int .u32 I) (by go_simp); have c4 := at_gb g1 (a := ⟨w.heap.size, 4, none⟩) (v := .int .u32 O) (by go_simp)))
      go_wp2
      go_ret
      have hq := trn_lt t W _ hz
      exact ⟨ret_int (u32_xor_nat _ _ (by omega) hO), (Gb.alloc (Gb.refl w) _ _).trans (gr.drew.trans g1)⟩
end Go.Proofs.YthimjckimggpoaaDoor.sums
