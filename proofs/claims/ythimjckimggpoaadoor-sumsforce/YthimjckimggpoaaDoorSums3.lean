/- What the steps of a register are in package sums: a byte as it comes in, the register behind it, and ahead of it. -/
import Derived.Test.YthimjckimggpoaaDoorSums2
import Derived.Deep.RegionHeld3
namespace Go.Proofs.YthimjckimggpoaaDoor.sums
open Go.ChangeShapes Go.WideShapes Go.ChangeAt Go.RowKit
open mem bit crc
attribute [local go_sem] World.cell?_alloc_some

theorem asIn_at (W P I O : Int) (t : Bool) (c : Nat) (w : World) (hc : c < 256) :
    Calls Tryd.prog 27 #[.agg #[.int .i64 W, .int .u32 P, .bool t, .int .u32 I, .int .u32 O], .int .u8 c] w fun e w' => e = .returned (.int .u8 (trn t 8 c : Nat)) ∧ Gb w w' := by
  cases t
  · go_enter Tryd.func27, Tryd.ntmps27
    go_wp2
    go_ret
    exact ⟨rfl, (Gb.refl _).alloc _ _⟩
  · go_enter Tryd.func27, Tryd.ntmps27
    go_wp2_with (go_at_call 30; refine (rev8_at c _ hc).mono ?_; rintro e w1 ⟨rfl, rfl⟩)
    go_ret
    exact ⟨rfl, (Gb.refl _).alloc _ _⟩
theorem run_shr_nat {P : Program} (k : IntKind) (x : Int) (c : Nat) (hc : c ≤ k.bits) (w : World) : (Op.shift .shr k x .i64 (c : Int)).run P w = .ok (.int k (x / 2 ^ c)) w := by
  unfold Op.shift
  rw [if_neg (by omega)]
  have e : min (c : Int).toNat k.bits = c := by omega
  simp only [e]
  rw [Int.fdiv_eq_ediv_of_nonneg _ (Int.le_of_lt (Int.pow_pos (by decide)))]
  rfl
theorem run_shl_nat {P : Program} (k : IntKind) (x : Int) (c : Nat) (hc : c ≤ k.bits) (w : World) : (Op.shift .shl k x .i64 (c : Int)).run P w = .ok (.int k (k.wrap (x * 2 ^ c))) w := by
  unfold Op.shift
  rw [if_neg (by omega)]
  have e : min (c : Int).toNat k.bits = c := by omega
  simp only [e]
  rfl
theorem run_shl_u32 {P : Program} (x c : Nat) (hc : c ≤ 32) (hx : x * 2 ^ c < 4294967296) (w : World) : (Op.shift .shl .u32 (x : Int) .i64 (c : Int)).run P w = .ok (.int .u32 (x * 2 ^ c : Nat)) w := by
  rw [run_shl_nat _ _ _ hc, ← p2, ← Int.natCast_mul, IntKind.wrap_u32', show ((x * 2 ^ c : Nat) : Int) % 4294967296 = ((x * 2 ^ c : Nat) : Int) by omega]
theorem run_shr_u32 {P : Program} (x c : Nat) (hc : c ≤ 32) (w : World) : (Op.shift .shr .u32 (x : Int) .i64 (c : Int)).run P w = .ok (.int .u32 (x / 2 ^ c : Nat)) w := by
  rw [run_shr_nat _ _ _ hc, ← p2, ← Int.natCast_ediv]
theorem wrap_i (n : Int) (h0 : -9223372036854775808 ≤ n) (h1 : n < 9223372036854775808) : IntKind.i64.wrap n = n := by
  rw [IntKind.wrap_i64]; omega
theorem wrap_u (n : Nat) (h1 : n < 4294967296) : IntKind.u32.wrap (n : Int) = (n : Int) := by
  rw [IntKind.wrap_u32']; omega
theorem top_lt (W x : Nat) (h8 : 8 ≤ W) (hx : x < 256) : x * 2 ^ (W - 8) < 2 ^ W := by
  have h : 256 * 2 ^ (W - 8) = 2 ^ W := by
    rw [show (256 : Nat) = 2 ^ 8 from rfl, ← Nat.pow_add]; congr 1; omega
  have h2 := Nat.two_pow_pos (W - 8)
  rw [← h]
  exact Nat.mul_lt_mul_of_pos_right hx h2
theorem le32 (W : Nat) (h : W ≤ 32) : 2 ^ W ≤ 4294967296 := Nat.pow_le_pow_right (n := 2) (by decide) h
theorem lt_block {w : World} {a : Addr} {v : Value} (hc : w.cell? a = some v) : a.block < w.heap.size := by
  rcases Nat.lt_or_ge a.block w.heap.size with h | h
  · exact h
  · simp [World.cell?, Array.getElem?_eq_none h] at hc
theorem at_gb {w w' : World} (h : Gb w w') {a : Addr} {v : Value} (hv : w.cell? a = some v) : w'.cell? a = some v := by
  rw [h.b.cell (lt_block hv)]; exact hv
theorem atTop_at (W : Nat) (P I O : Int) (t : Bool) (c : Nat) (w : World) (hc : c < 256) (h8 : 8 ≤ W) (h32 : W ≤ 32) :
    Calls Tryd.prog 25 #[.agg #[.int .i64 W, .int .u32 P, .bool t, .int .u32 I, .int .u32 O], .int .u8 c] w fun e w' => e = .returned (.int .u32 (trn t 8 c * 2 ^ (W - 8) : Nat)) ∧ Gb w w' := by
  have hl := trn8_lt t c hc
  have wr2 := wrap_u (trn t 8 c) (by omega)
  obtain ⟨d, hd⟩ : ∃ d, d = W - 8 := ⟨_, rfl⟩
  have hdl : d ≤ 32 := by omega
  have hmul := Nat.lt_of_lt_of_le (top_lt W _ h8 hl) (le32 W h32)
  rw [← hd] at hmul ⊢
  have wr1 : IntKind.i64.wrap ((W : Int) - 8) = (d : Int) := (wrap_i _ (by omega) (by omega)).trans (by omega)
  clear hd
  go_enter Tryd.func25, Tryd.ntmps25
  go_wp2
  go_region_held3 (fun w' => (World.cell? w' ⟨w.heap.size, 0, none⟩ = some (.int .i64 W) ∧ World.cell? w' ⟨w.heap.size, 1, none⟩ = some (.int .u32 P) ∧ World.cell? w' ⟨w.heap.size, 2, none⟩ = some (.bool t) ∧ World.cell? w' ⟨w.heap.size, 3, none⟩ = some (.int .u32 I) ∧ World.cell? w' ⟨w.heap.size, 4, none⟩ = some (.int .u32 O))) (simp (maxDischargeDepth := 9) [*]) (first | (go_at_call 27; refine (asIn_at _ _ _ _ _ c _ hc).mono ?_; rintro e w1 ⟨rfl, g1⟩; have c0 := at_gb g1 (a := ⟨w.heap.size, 0, none⟩) (v := .int .i64 W) (by go_simp); have c1 := at_gb g1 (a := ⟨w.heap.size, 1, none⟩) (v := .int .u32 P) (by go_simp); have c2 := at_gb g1 (a := ⟨w.heap.size, 2, none⟩) (v := .bool t) (by go_simp); have c3 := at_gb g1 (a := ⟨w.heap.size, 3, none⟩) (v := .int .u32 I) (by go_simp); have c4 := at_gb g1 (a := ⟨w.heap.size, 4, none⟩) (v := .int .u32 O) (by go_simp)))
  go_wp2
  go_ret
  exact ⟨ret_int (by rw [← p2, ← Int.natCast_mul]; exact wrap_u _ hmul), ((Gb.alloc (Gb.refl w) _ _).drew).trans g1⟩
theorem xor_u32 (a b : Nat) (ha : a < 4294967296) (hb : b < 4294967296) : bits .xor .u32 (a : Int) (b : Int) = ((a ^^^ b : Nat) : Int) := u32_xor_nat a b ha hb
theorem top_bit (W r : Nat) (h : r < 2 ^ W) (h1 : 0 < W) : r / 2 ^ (W - 1) = (r.testBit (W - 1)).toNat := by
  have hlt : r / 2 ^ (W - 1) < 2 := by
    apply Nat.div_lt_of_lt_mul
    rw [← Nat.pow_succ, show (W - 1).succ = W from by omega]; exact h
  rw [← bit_nat, Nat.mod_eq_of_lt hlt]
theorem mask_val (W : Nat) (h : W ≤ 32) : (((2 : Int) ^ W - 1) % 4294967296) = ((2 ^ W - 1 : Nat) : Int) := by
  have h1 := le32 W h
  have h2 := Nat.two_pow_pos W
  rw [← p2]
  generalize (2 : Nat) ^ W = Q at h1 h2 ⊢
  omega
theorem step_u32 (W P x : Nat) (h32 : W ≤ 32) (Q : Nat) (hP : Q = if x.testBit (W - 1) then P else 0) : ((x * 2 % 4294967296) ^^^ Q) &&& (2 ^ W - 1) = crc.step W P x := by
  rw [Nat.and_two_pow_sub_one_eq_mod]
  apply Nat.eq_of_testBit_eq
  intro i
  rw [crc.step, Nat.testBit_mod_two_pow, Nat.testBit_mod_two_pow, Nat.testBit_xor, Nat.testBit_xor, ← hP, show (4294967296 : Nat) = 2 ^ 32 from rfl, Nat.testBit_mod_two_pow, Nat.mul_comm x 2]
  by_cases hi : i < W
  · rw [decide_eq_true (show i < 32 by omega)]; simp
  · rw [decide_eq_false hi]; rfl
theorem step_no (W P x : Nat) (h32 : W ≤ 32) (h1 : 0 < W) (hx : x < 2 ^ W) (h : ((x : Int) / 2 ^ (W - 1) == 1) = false) :
    bits .and .u32 ((x : Int) * 2 % 4294967296) (((2 : Int) ^ W - 1) % 4294967296) = (crc.step W P x : Nat) := by
  have hb := top_bit W x hx h1
  have hle := le32 W h32
  rw [← p2, ← Int.natCast_ediv, hb] at h
  have hf : x.testBit (W - 1) = false := by
    cases e : x.testBit (W - 1)
    · rfl
    · rw [e] at h; simp at h
  rw [mask_val W h32, show (x : Int) * 2 % 4294967296 = ((x * 2 % 4294967296 : Nat) : Int) by omega, u32_and_nat _ _ (by omega) (by omega), ← step_u32 W P x h32 0 (by rw [hf]; rfl), Nat.xor_zero]
theorem step_yes (W P x : Nat) (h32 : W ≤ 32) (h1 : 0 < W) (hx : x < 2 ^ W) (hP : P < 2 ^ W) (h : ((x : Int) / 2 ^ (W - 1) == 1) = true) :
    bits .and .u32 (bits .xor .u32 ((x : Int) * 2 % 4294967296) (P : Int)) (((2 : Int) ^ W - 1) % 4294967296) = (crc.step W P x : Nat) := by
  have hb := top_bit W x hx h1
  have hle := le32 W h32
  rw [← p2, ← Int.natCast_ediv, hb] at h
  have hf : x.testBit (W - 1) = true := by
    cases e : x.testBit (W - 1)
    · rw [e] at h; simp at h
    · rfl
  have hl : (x * 2 % 4294967296) ^^^ P < 4294967296 := Nat.xor_lt_two_pow (n := 32) (Nat.mod_lt _ (by decide)) (by omega)
  rw [mask_val W h32, show (x : Int) * 2 % 4294967296 = ((x * 2 % 4294967296 : Nat) : Int) by omega, u32_xor_nat _ _ (by omega) (by omega), u32_and_nat _ _ hl (by omega), ← step_u32 W P x h32 P (by rw [hf]; rfl)]
theorem forth_at (W P : Nat) (I O : Int) (t : Bool) (r c : Nat) (w : World) (hc : c < 256) (h8 : 8 ≤ W) (h32 : W ≤ 32) (hr : r < 2 ^ W) (hP : P < 2 ^ W) :
    Calls Tryd.prog 20 #[.agg #[.int .i64 W, .int .u32 P, .bool t, .int .u32 I, .int .u32 O], .int .u32 r, .int .u8 c] w fun e w' => e = .returned (.int .u32 (fw W P t r c : Nat)) ∧ Gb w w' := by
  have hl := trn8_lt t c hc
  have hle := le32 W h32
  have htop := top_lt W _ h8 hl
  obtain ⟨q, hq⟩ : ∃ q, q = trn t 8 c * 2 ^ (W - 8) := ⟨_, rfl⟩
  have HW : Hid (fw W P t r c = Z W P (r ^^^ q) 8) := by rw [hq]; exact rfl
  have hat : ∀ w, Calls Tryd.prog 25 #[.agg #[.int .i64 W, .int .u32 P, .bool t, .int .u32 I, .int .u32 O], .int .u8 c] w fun e w' => e = .returned (.int .u32 (q : Nat)) ∧ Gb w w' := fun w => by rw [hq]; exact atTop_at W P I O t c w hc h8 h32
  rw [← hq] at htop
  clear hq
  have hx := xor_u32 r q (by omega) (by omega)
  have hx0 : r ^^^ q < 2 ^ W := Nat.xor_lt_two_pow hr htop
  obtain ⟨r0, hr0⟩ : ∃ r0, r0 = r ^^^ q := ⟨_, rfl⟩
  rw [← hr0] at hx hx0 HW
  clear hr0
  go_enter Tryd.func20, Tryd.ntmps20
  go_wp2_with (go_at_call 25; refine (hat _).mono ?_; rintro e w1 ⟨rfl, g1⟩; have c0 := at_gb g1 (a := ⟨w.heap.size, 0, none⟩) (v := .int .i64 W) (by go_simp); have c1 := at_gb g1 (a := ⟨w.heap.size, 1, none⟩) (v := .int .u32 P) (by go_simp); have c2 := at_gb g1 (a := ⟨w.heap.size, 2, none⟩) (v := .bool t) (by go_simp); have c3 := at_gb g1 (a := ⟨w.heap.size, 3, none⟩) (v := .int .u32 I) (by go_simp); have c4 := at_gb g1 (a := ⟨w.heap.size, 4, none⟩) (v := .int .u32 O) (by go_simp))
  go_loop [1, 13] (fun x i => ∃ k : Nat, k ≤ 8 ∧ i = .int .i64 (k : Int) ∧ x = .int .u32 (Z W P r0 k : Nat)) (fun _ i => 8 - (intOf i).toNat)
  case atStart => exact ⟨0, Nat.zero_le _, rfl, rfl⟩
  case round =>
    obtain ⟨k, hk, rfl, rfl⟩ := hrel
    by_cases hlt : k < 8
    · have hz := Z_lt W P r0 k hx0
      have HZ : Hid (Z W P r0 (k + 1) = crc.step W P (Z W P r0 k)) := rfl
      obtain ⟨x, hxx⟩ : ∃ x, x = Z W P r0 k := ⟨_, rfl⟩
      rw [← hxx] at hz HZ ⊢
      clear hxx
      have hb := top_bit W x hz (by omega)
      clear hb
      go_wp2
      · go_round
        case rel =>
          rename_i hyes
          exact ⟨k + 1, by omega, by go_num, by rw [HZ.out]; exact congrArg (Value.int IntKind.u32) (step_yes W P x h32 (by omega) hz hP hyes)⟩
        case measure => simp [intOf]; omega
      · go_round
        case rel =>
          rename_i hno
          exact ⟨k + 1, by omega, by go_num, by rw [HZ.out]; exact congrArg (Value.int IntKind.u32) (step_no W P x h32 (by omega) hz hno)⟩
        case measure => simp [intOf]; omega
    · obtain rfl : k = 8 := by omega
      go_wp2
      go_ret
      exact ⟨ret_int (by rw [HW.out]), (Gb.alloc (Gb.refl w) _ _).trans g1⟩
end Go.Proofs.YthimjckimggpoaaDoor.sums
