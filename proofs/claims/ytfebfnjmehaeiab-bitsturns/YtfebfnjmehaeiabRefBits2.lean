/- What the document's own BitsCount, BitsTurn and BitsRotate answer. -/
import Derived.Test.YtfebfnjmehaeiabRefBits
namespace Go.Proofs.Ytfebfnjmehaeiab.bitw
open Go.ChangeShapes Go.WideShapes Go.ChangeAt Go.RowKit
open mem bit

theorem refCount_any (s : ByteArray) (w : World) (hs : s.size ≤ 140737488351232) :
    Calls Try.prog 8 #[.string s] w fun e w' => e = .returned (.int .i64 (cnt s s.size : Nat)) ∧ w' = w := by
  rw [← cnt_big]
  go_enter Try.func8, Try.ntmps8
  go_wp2
  go_loop [3, 4] (fun c i => ∃ k : Nat, k ≤ 8 * s.size ∧ i = .int .i64 k ∧ c = .int .i64 (sm (fun k => (tbit s true k).toNat) k : Nat)) (fun _ i => 8 * s.size - (intOf i).toNat)
  case atStart => exact ⟨0, Nat.zero_le _, rfl, rfl⟩
  case round =>
    obtain ⟨k, hk, rfl, rfl⟩ := hrel
    have hc := sm_le (fun k => (tbit s true k).toNat) 1 k (fun _ => Bool.toNat_le _)
    have hb : (tbit s true k).toNat ≤ 1 := Bool.toNat_le _
    by_cases hlt : k < 8 * s.size
    · go_wp2_with (go_at_call 17; refine (bitAt_any _ _ true 1 _ (by omega) (by omega) rfl).mono ?_; rintro e w2 ⟨rfl, rfl⟩)
      go_round
      case rel => exact ⟨k + 1, by omega, by go_num, by show _ = Value.int .i64 ((sm (fun k => (tbit s true k).toNat) k + (tbit s true k).toNat : Nat) : Int); congr 1⟩
      case measure => simp [intOf]; omega
    · obtain rfl : k = 8 * s.size := by omega
      go_wp2
      go_ret
      exact ⟨rfl, rfl⟩
theorem refTurn_any (s : ByteArray) (w : World) (hs : s.size ≤ 140737488351232) :
    Calls Try.prog 10 #[.string s] w fun e w' => e = .returned (.string (strOfNums (bytesOf (fun k => tbit s false k) true s.size))) ∧ Gb w w' := by
  go_enter Try.func10, Try.ntmps10
  go_wp2
  go_loopw [3, 4] (fun c i wr => ∃ m : Nat, m ≤ s.size ∧ i = .int .i64 m ∧ c = .string (strOfNums (bytesOf (fun k => tbit s false k) true m)) ∧ Gb w wr) (fun _ i _ => s.size - (intOf i).toNat)
  case atStart => exact ⟨0, Nat.zero_le _, rfl, rfl, Gb.refl _⟩
  case round =>
    obtain ⟨m, hm, rfl, rfl, hgb⟩ := hrel
    have hz := bytesOf_size (fun k => tbit s false k) true m
    by_cases hlt : m < s.size
    · obtain ⟨wo, rfl⟩ : ∃ wo : World, wo = wr := ⟨_, rfl⟩
      have HBY : Hid (hb (fun k => tbit s false (8 * m + k)) 8 = nb (fun j => tbit s false (at8 true m j)) 8) := hb_byte (fun k => tbit s false k) m
      go_wp2
      go_loop [5, 6] (fun b j => ∃ k : Nat, k ≤ 8 ∧ j = .int .i64 k ∧ b = .int .u64 (hb (fun k => tbit s false (8 * m + k)) k : Nat)) (fun _ j => 8 - (intOf j).toNat)
      case atStart => exact ⟨0, by omega, rfl, rfl⟩
      case round =>
        obtain ⟨k, hk, rfl, rfl⟩ := hrel
        have hl := hb_lt (fun k => tbit s false (8 * m + k)) k
        by_cases hl2 : k < 8
        · have h8 : hb (fun k => tbit s false (8 * m + k)) k < 256 := Nat.lt_of_lt_of_le hl (Nat.pow_le_pow_right (by decide) hk)
          have hb1 : (tbit s false (8 * m + k)).toNat ≤ 1 := Bool.toNat_le _
          clear hl
          go_wp2_with (go_at_call 17; refine (bitAt_at _ (8 * (m : Int) + (k : Int)) (8 * m + k) false 0 _ (by omega) (by omega) (by omega) rfl).mono ?_; rintro e w2 ⟨rfl, rfl⟩)
          go_round
          case rel => exact ⟨k + 1, by omega, by go_num, by show _ = Value.int .u64 ((hb (fun k => tbit s false (8 * m + k)) k * 2 + (tbit s false (8 * m + k)).toNat : Nat) : Int); congr 1⟩
          case measure => simp [intOf]; omega
        · obtain rfl : k = 8 := by omega
          have h8 : hb (fun k => tbit s false (8 * m + k)) 8 < 256 := hl
          have hz1 : (strOfNums [((hb (fun k => tbit s false (8 * m + k)) 8 : Nat) : Int)]).size = 1 := rfl
          clear hl
          go_wp2_with (go_at_call 19; refine (char_any _ _ (by omega)).mono ?_; rintro e w2 ⟨rfl, hg2⟩)
          go_roundw
          case rel => exact ⟨m + 1, by omega, by go_num, by rw [HBY.out, bytesOf_succ], hgb.trans hg2⟩
          case measure => simp [intOf]; omega
    · obtain rfl : m = s.size := by omega
      go_wp2
      go_ret
      exact ⟨rfl, hgb⟩
theorem refRotate_none (s : ByteArray) (n : Int) (w : World) (h0 : s.size = 0) :
    Calls Try.prog 12 #[.string s, .int .i64 n] w fun e w' => e = .returned (.string ⟨#[]⟩) ∧ w' = w := by
  have hsz : ((8 : Int) * (s.size : Int) == 0) = true := by rw [h0]; rfl
  have hz : (s.size : Int) = 0 := by omega
  clear h0
  go_enter Try.func12, Try.ntmps12
  go_wp2
  go_ret
  exact ⟨rfl, rfl⟩
/-- Where a bit comes from, as the document reckons it. -/
theorem rot_at (n M x : Int) (hM : 0 < M) : (x + n.tmod M).tmod M % M = (x + n % M) % M := by
  rw [← Int.add_emod_right ((x + n.tmod M).tmod M) M, tm_mod _ _ hM, Int.add_emod, ← tm_mod n M hM, Int.add_emod_right, ← Int.add_emod, Int.add_emod x (n.tmod M % M), Int.emod_emod, ← Int.add_emod]
theorem bitAt_rot (s : ByteArray) (K : Int) (N x : Nat) (w : World) (hK : K = (((x + N) % (8 * s.size) : Nat) : Int)) (hs : s.size ≤ 140737488351232) (h0 : 0 < s.size) :
    Calls Try.prog 17 #[.string s, .int .i64 K, .int .i64 1] w fun e w' => e = .returned (.int .u64 ((rotG s N x).toNat : Nat)) ∧ w' = w :=
  bitAt_at s K ((x + N) % (8 * s.size)) true 1 w hK hs (Nat.mod_lt _ (by omega)) rfl
theorem refRotate_any (s : ByteArray) (n : Int) (w : World) (hs : s.size ≤ 140737488351232) (h0 : 0 < s.size) :
    Calls Try.prog 12 #[.string s, .int .i64 n] w fun e w' => e = .returned (.string (strOfNums (bytesOf (rotG s (n % (8 * (s.size : Int))).toNat) true s.size))) ∧ Gb w w' := by
  have hM : (0 : Int) < 8 * (s.size : Int) := by omega
  have htb := tm_bd n (8 * (s.size : Int)) hM
  have hN0 := Int.emod_nonneg n (show 8 * (s.size : Int) ≠ 0 by omega)
  have hN1 := Int.emod_lt_of_pos n hM
  have HR : Hid (∀ x, (x + n.tmod (8 * (s.size : Int))).tmod (8 * (s.size : Int)) % (8 * (s.size : Int)) = (x + n % (8 * (s.size : Int))) % (8 * (s.size : Int))) := fun x => rot_at n _ x hM
  obtain ⟨N, hN⟩ := Int.eq_ofNat_of_zero_le hN0
  rw [hN] at hN1 HR ⊢
  rw [Int.toNat_natCast]
  clear hN0 hN
  have hsz : ((8 : Int) * (s.size : Int) == 0) = false := by rw [beq_eq_false_iff_ne]; omega
  go_enter Try.func12, Try.ntmps12
  go_wp2
  go_loopw [6, 7] (fun c i wr => ∃ m : Nat, m ≤ s.size ∧ i = .int .i64 m ∧ c = .string (strOfNums (bytesOf (rotG s N) true m)) ∧ Gb w wr) (fun _ i _ => s.size - (intOf i).toNat)
  case atStart => exact ⟨0, Nat.zero_le _, rfl, rfl, Gb.refl _⟩
  case round =>
    obtain ⟨m, hm, rfl, rfl, hgb⟩ := hrel
    have hz := bytesOf_size (rotG s N) true m
    by_cases hlt : m < s.size
    · obtain ⟨wo, rfl⟩ : ∃ wo : World, wo = wr := ⟨_, rfl⟩
      have HBY : Hid (hb (fun k => rotG s N (8 * m + k)) 8 = nb (fun j => rotG s N (at8 true m j)) 8) := hb_byte (rotG s N) m
      go_wp2
      go_loop [8, 9] (fun b j => ∃ k : Nat, k ≤ 8 ∧ j = .int .i64 k ∧ b = .int .u64 (hb (fun k => rotG s N (8 * m + k)) k : Nat)) (fun _ j => 8 - (intOf j).toNat)
      case atStart => exact ⟨0, by omega, rfl, rfl⟩
      case round =>
        obtain ⟨k, hk, rfl, rfl⟩ := hrel
        have hl := hb_lt (fun k => rotG s N (8 * m + k)) k
        by_cases hl2 : k < 8
        · have h8 : hb (fun k => rotG s N (8 * m + k)) k < 256 := Nat.lt_of_lt_of_le hl (Nat.pow_le_pow_right (by decide) hk)
          have hb1 : (rotG s N (8 * m + k)).toNat ≤ 1 := Bool.toNat_le _
          have hx := tm_bd (8 * (m : Int) + (k : Int) + n.tmod (8 * (s.size : Int))) (8 * (s.size : Int)) hM
          have HK : Hid ((8 * (m : Int) + (k : Int) + n.tmod (8 * (s.size : Int))).tmod (8 * (s.size : Int)) % (8 * (s.size : Int)) = (((8 * m + k + N) % (8 * s.size) : Nat) : Int)) := by
            show _ = _
            rw [HR.out (8 * (m : Int) + (k : Int)), Int.natCast_emod, Int.natCast_add, Int.natCast_add, Int.natCast_mul, Int.natCast_mul]
            rfl
          clear hl
          go_wp2_with (go_at_call 17; refine (bitAt_rot _ _ N _ _ HK.out (by omega) (by omega)).mono ?_; rintro e w2 ⟨rfl, rfl⟩)
          go_round
          case rel => exact ⟨k + 1, by omega, by go_num, by show _ = Value.int .u64 ((hb (fun k => rotG s N (8 * m + k)) k * 2 + (rotG s N (8 * m + k)).toNat : Nat) : Int); congr 1⟩
          case measure => simp [intOf]; omega
        · obtain rfl : k = 8 := by omega
          have h8 : hb (fun k => rotG s N (8 * m + k)) 8 < 256 := hl
          have hz1 : (strOfNums [((hb (fun k => rotG s N (8 * m + k)) 8 : Nat) : Int)]).size = 1 := rfl
          clear hl
          go_wp2_with (go_at_call 19; refine (char_any _ _ (by omega)).mono ?_; rintro e w2 ⟨rfl, hg2⟩)
          go_roundw
          case rel => exact ⟨m + 1, by omega, by go_num, by rw [HBY.out, bytesOf_succ], hgb.trans hg2⟩
          case measure => simp [intOf]; omega
    · obtain rfl : m = s.size := by omega
      go_wp2
      go_ret
      exact ⟨rfl, hgb⟩
end Go.Proofs.Ytfebfnjmehaeiab.bitw
