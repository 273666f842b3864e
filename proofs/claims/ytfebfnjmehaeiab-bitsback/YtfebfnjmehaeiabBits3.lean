/- What Count, Turn and Rotate of package bits answer. -/
import Derived.Test.YtfebfnjmehaeiabBits
namespace Go.Proofs.Ytfebfnjmehaeiab.bitw
open Go.ChangeShapes Go.WideShapes Go.ChangeAt Go.RowKit
open mem bit

theorem count_any (s : ByteArray) (w : World) (hs : s.size ≤ 140737488351232) :
    Calls Try.prog 7 #[.string s] w fun e w' => e = .returned (.int .i64 (cnt s s.size : Nat)) ∧ w' = w := by
  go_enter Try.func7, Try.ntmps7
  go_wp2
  go_loop [3, 8] (fun c i => ∃ m : Nat, m ≤ s.size ∧ i = .int .i64 m ∧ c = .int .i64 (cnt s m : Nat)) (fun _ i => s.size - (intOf i).toNat)
  case atStart => exact ⟨0, Nat.zero_le _, rfl, rfl⟩
  case round =>
    obtain ⟨m, hm, rfl, rfl⟩ := hrel
    by_cases hlt : m < s.size
    · have hix := run_byte (P := Try.prog) s m (m : Int) rfl hlt Try.underlying9
      have hc := cnt_le s m
      go_wp2
      go_loop [3, 11] (fun c j => ∃ k : Nat, k ≤ 8 ∧ j = .int .i64 k ∧ c = .int .i64 (cnt s m + pck (byteN s m) k : Nat)) (fun _ j => 8 - (intOf j).toNat)
      case atStart => exact ⟨0, by omega, rfl, rfl⟩
      case round =>
        obtain ⟨k, hk, rfl, rfl⟩ := hrel
        have hp := pck_le (byteN s m) k
        by_cases hl2 : k < 8
        · have HB : Hid (Go.bits .and .u8 ((byteN s m : Int) / 2 ^ k) 1 = (((byteN s m).testBit k).toNat : Nat)) := u8_bit (byteN s m) k (byteN_lt _ _)
          go_wp2
          go_round
          case rel => exact ⟨k + 1, by omega, by go_num, by
            have hb : ((byteN s m).testBit k).toNat ≤ 1 := Bool.toNat_le _
            rw [HB.out]
            congr 1
            unfold wrap64
            show _ = ((cnt s m + (pck (byteN s m) k + ((byteN s m).testBit k).toNat) : Nat) : Int)
            omega⟩
          case measure => simp [intOf]; omega
        · obtain rfl : k = 8 := by omega
          go_wp2
          go_round
          case rel => exact ⟨m + 1, by omega, by go_num, rfl⟩
          case measure => simp [intOf]; omega
    · obtain rfl : m = s.size := by omega
      go_wp2
      go_ret
      exact ⟨rfl, rfl⟩
theorem turned_any (c : Nat) (w : World) (hc : c < 256) :
    Calls Try.prog 18 #[.int .u8 c] w fun e w' => e = .returned (.int .u8 (hb (fun j => c.testBit j) 8 : Nat)) ∧ w' = w := by
  go_enter Try.func18, Try.ntmps18
  go_wp2
  go_loop [3, 5] (fun t i => ∃ k : Nat, k ≤ 8 ∧ i = .int .i64 k ∧ t = .int .u8 (hb (fun j => c.testBit j) k : Nat)) (fun _ i => 8 - (intOf i).toNat)
  case atStart => exact ⟨0, Nat.zero_le _, rfl, rfl⟩
  case round =>
    obtain ⟨k, hk, rfl, rfl⟩ := hrel
    by_cases hlt : k < 8
    · have HB : Hid (Go.bits .and .u8 ((c : Int) / 2 ^ k) 1 = ((c.testBit k).toNat : Nat)) := u8_bit c k hc
      go_wp2
      go_round
      case rel => exact ⟨k + 1, by omega, by go_num, by
        have hl := hb_lt (fun j => c.testBit j) k
        have h7 : 2 ^ k ≤ 2 ^ 7 := Nat.pow_le_pow_right (by decide) (by omega)
        rw [HB.out, u8_push _ _ (Nat.lt_of_lt_of_le hl h7)]
        rfl⟩
      case measure => simp [intOf]; omega
    · obtain rfl : k = 8 := by omega
      go_wp2
      go_ret
      exact ⟨rfl, rfl⟩
theorem info8 : (Try.prog.info? 5).map (fun i => (i.zero, i.size, i.bytes)) = some (some (.int .u8 0), 1, 1) := by kernel_rfl
theorem turn_any (s : ByteArray) (w : World) (hs : s.size ≤ 140737488351232) :
    Calls Try.prog 9 #[.string s] w fun e w' => e = .returned (.string (strOfNums (bytesOf (fun k => tbit s false k) true s.size))) ∧ Gb w w' := by
  have hmk := fun w => run_make_row' (P := Try.prog) 39 5 (.int .u8 0) 1 Try.underlying39 info8 rfl .i64 .i64 s.size (by omega) (by omega) w
  rw [← fillL_all]
  go_enter Try.func9, Try.ntmps9
  go_wp2
  go_loopw [10] (fun i wr => ∃ k : Nat, k ≤ s.size ∧ i = .int .i64 k ∧ Row wr 5 w.heap.size (fillL (fun i => ((nb (fun j => tbit s false (at8 true i j)) 8 : Nat) : Int)) s.size k) ∧ Gb w wr) (fun i _ => s.size - (intOf i).toNat)
  case atStart => exact ⟨0, Nat.zero_le _, rfl, by rw [fillL_zero]; exact Row.made _ _ _, (Gb.refl _).alloc _ _⟩
  case round =>
    obtain ⟨k, hk, rfl, hrow, hgb⟩ := hrel
    by_cases hlt : k < s.size
    · have hix := run_byte (P := Try.prog) s k (k : Int) rfl hlt Try.underlying9
      have hc := hrow.cell (j := k) (by rw [fillL_len]; exact hlt)
      have hf := hrow.frozen k
      go_wp2_with (go_at_call 18; refine (turned_any _ _ (byteN_lt _ _)).mono ?_; rintro e w2 ⟨rfl, rfl⟩)
      go_roundw
      case rel => exact ⟨k + 1, by omega, by go_num, by rw [turn_byte, ← fillL_set _ s.size k _ rfl]; exact hrow.set _ _, hgb.setCell (Nat.le_refl _) _⟩
      case measure => simp [intOf]; omega
    · obtain rfl : k = s.size := by omega
      have htx := hrow.text (P := Try.prog) Try.underlying39 Try.underlying5 Try.underlying9 s.size (fillL_len _ _ _)
      go_wp2
      go_ret
      exact ⟨rfl, hgb⟩
theorem rotate_any (s : ByteArray) (n : Int) (w : World) (hs : s.size ≤ 140737488351232) (h0 : 0 < s.size) :
    Calls Try.prog 11 #[.string s, .int .i64 n] w fun e w' => e = .returned (.string (strOfNums (bytesOf (rotG s (n % (8 * (s.size : Int))).toNat) true s.size))) ∧ Gb w w' := by
  have hmk := fun w => run_make_row' (P := Try.prog) 39 5 (.int .u8 0) 1 Try.underlying39 info8 rfl .i64 .i64 s.size (by omega) (by omega) w
  have hM : (0 : Int) < 8 * (s.size : Int) := by omega
  have htb := tm_bd n (8 * (s.size : Int)) hM
  have htm := tm_mod n (8 * (s.size : Int)) hM
  have hN0 := Int.emod_nonneg n (show 8 * (s.size : Int) ≠ 0 by omega)
  have hN1 := Int.emod_lt_of_pos n hM
  obtain ⟨N, hN⟩ := Int.eq_ofNat_of_zero_le hN0
  rw [hN] at htm hN1 ⊢
  rw [Int.toNat_natCast, ← fillL_all]
  clear hN0 hM hN
  have hsz : ((s.size : Int) == 0) = false := by rw [beq_eq_false_iff_ne]; omega
  go_enter Try.func11, Try.ntmps11
  go_wp2
  clear htb htm
  go_loopw [33] (fun i wr => ∃ k : Nat, k ≤ s.size ∧ i = .int .i64 k ∧ Row wr 5 w.heap.size (fillL (fun i => ((nb (fun j => rotG s N (at8 true i j)) 8 : Nat) : Int)) s.size k) ∧ Gb w wr) (fun i _ => s.size - (intOf i).toNat)
  case atStart => exact ⟨0, Nat.zero_le _, rfl, by rw [fillL_zero]; exact Row.made _ _ _, (Gb.refl _).alloc _ _⟩
  case round =>
    obtain ⟨k, hk, rfl, hrow, hgb⟩ := hrel
    by_cases hlt : k < s.size
    · have hc := hrow.cell (j := k) (by rw [fillL_len]; exact hlt)
      have hf := hrow.frozen k
      have hm1 : (k + N / 8) % s.size < s.size := Nat.mod_lt _ h0
      have hm2 : (k + N / 8 + 1) % s.size < s.size := Nat.mod_lt _ h0
      have q1 : IntKind.i64.wrap ((k : Int) + (N : Int) / 8) = (k : Int) + (N : Int) / 8 := by rw [IntKind.wrap_i64]; omega
      have q2 : IntKind.i64.wrap ((k : Int) + (N : Int) / 8 + 1) = (k : Int) + (N : Int) / 8 + 1 := by rw [IntKind.wrap_i64]; omega
      have q3 : ((k : Int) + (N : Int) / 8).tmod (s.size : Int) = ((k : Int) + (N : Int) / 8) % (s.size : Int) := Int.tmod_eq_emod_of_nonneg (by omega)
      have q4 : ((k : Int) + (N : Int) / 8 + 1).tmod (s.size : Int) = ((k : Int) + (N : Int) / 8 + 1) % (s.size : Int) := Int.tmod_eq_emod_of_nonneg (by omega)
      have i1 := run_byte (P := Try.prog) s ((k + N / 8) % s.size) (((k : Int) + (N : Int) / 8) % (s.size : Int)) (by rw [Int.natCast_emod, Int.natCast_add, Int.natCast_ediv]; rfl) hm1 Try.underlying9
      have i2 := run_byte (P := Try.prog) s ((k + N / 8 + 1) % s.size) (((k : Int) + (N : Int) / 8 + 1) % (s.size : Int)) (by rw [Int.natCast_emod, Int.natCast_add, Int.natCast_add, Int.natCast_ediv]; rfl) hm2 Try.underlying9
      go_wp2
      go_region
      go_wp2
      go_region
      go_wp2
      go_roundw
      case rel => exact ⟨k + 1, by omega, by go_num, by
        rw [rot_val _ _ _ (byteN_lt _ _), rot_byte, ← fillL_set _ s.size k _ rfl]
        exact (hrow.set _ _).drew.drew, (hgb.setCell (Nat.le_refl _) _).drew.drew⟩
      case measure => simp [intOf]; omega
    · obtain rfl : k = s.size := by omega
      have htx := hrow.text (P := Try.prog) Try.underlying39 Try.underlying5 Try.underlying9 s.size (fillL_len _ _ _)
      go_wp2
      go_ret
      exact ⟨rfl, hgb⟩
theorem rotate_none (s : ByteArray) (n : Int) (w : World) (h0 : s.size = 0) :
    Calls Try.prog 11 #[.string s, .int .i64 n] w fun e w' => e = .returned (.string ⟨#[]⟩) ∧ w' = w := by
  have hsz : ((s.size : Int) == 0) = true := by rw [h0]; rfl
  clear h0
  go_enter Try.func11, Try.ntmps11
  go_wp2
  go_ret
  exact ⟨rfl, rfl⟩
end Go.Proofs.Ytfebfnjmehaeiab.bitw
