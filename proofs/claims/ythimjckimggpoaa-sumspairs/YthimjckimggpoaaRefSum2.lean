/- What the document's own sums of two parts are. -/
import Derived.Test.YthimjckimggpoaaSums1
namespace Go.Proofs.Ythimjckimggpoaa.sums
open Go.ChangeShapes Go.WideShapes Go.ChangeAt Go.RowKit
open mem bit two

theorem pairs_end (s : ByteArray) (a M : Nat) (hs : s.size ≤ 1000) (ha : a ≤ 1) (hM0 : 1 < M) :
    (IntKind.u64.wrap ((sc s s.size s.size : Int) + IntKind.u64.wrap ((a : Int) * (s.size : Int)))).tmod (M : Int) = (fb s a M s.size : Nat) := by
  have h2 : sc s s.size s.size ≤ 255000000 := Nat.le_trans (sc_le s s.size s.size) (Nat.mul_le_mul (by omega : 255 * s.size ≤ 255000) (by omega : s.size ≤ 1000))
  obtain ⟨q, hq⟩ : ∃ q : Nat, a * s.size = q := ⟨_, rfl⟩
  have hqle : q ≤ 1000 := by rw [← hq]; exact Nat.mul_le_mul ha hs
  rw [← Int.natCast_mul, hq, fb_sb s a M s.size (by omega), sb_split, hq, ← sc_all]
  generalize sc s s.size s.size = C at h2 ⊢
  rw [IntKind.wrap_u64, IntKind.wrap_u64, show ((C : Int) + (q : Int) % 18446744073709551616) % 18446744073709551616 = ((q + C : Nat) : Int) by omega, Int.tmod_eq_emod_of_nonneg (by omega), Int.natCast_emod]
theorem refPairs_at (s : ByteArray) (a M : Nat) (w : World) (hs : s.size ≤ 1000) (ha : a ≤ 1) (hM : M ≤ 65521) (hM0 : 1 < M) :
    Calls Try.prog 7 #[.string s, .int .u64 a, .int .u64 M] w fun e w' => e = .returned (.tuple #[.int .u64 (fa s a M s.size : Nat), .int .u64 (fb s a M s.size : Nat)]) ∧ Dr w w' := by
  go_enter Try.func7, Try.ntmps7
  go_wp2
  go_loop [8, 9, 10] (fun x y i => ∃ k : Nat, k ≤ s.size ∧ i = .int .i64 (k : Int) ∧ x = .int .u64 (sa s a k : Nat) ∧ y = .int .u64 (sc s s.size k : Nat)) (fun _ _ i => s.size - (intOf i).toNat)
  case atStart => exact ⟨0, Nat.zero_le _, rfl, rfl, rfl⟩
  case round =>
    obtain ⟨k, hk, rfl, rfl, rfl⟩ := hrel
    have h1 := sa_le s a k
    have h2 : sc s s.size k ≤ 255000000 := Nat.le_trans (sc_le s s.size k) (Nat.mul_le_mul (by omega : 255 * s.size ≤ 255000) (by omega : k ≤ 1000))
    by_cases hlt : k < s.size
    · have hix := run_byte (P := Try.prog) s k (k : Int) rfl hlt Try.underlying9
      have hb := byteN_lt s k
      obtain ⟨p, hp⟩ : ∃ p : Nat, byteN s k * (s.size - k) = p := ⟨_, rfl⟩
      have hple : p ≤ 255000 := by rw [← hp]; exact Nat.mul_le_mul (by omega : byteN s k ≤ 255) (by omega : s.size - k ≤ 1000)
      have hpi : (byteN s k : Int) * ((s.size : Int) - (k : Int)) = (p : Int) := by rw [← hp, Int.natCast_mul]; congr 1; omega
      have HP : Hid (byteN s k * (s.size - k) = p) := hp
      clear hp
      go_wp2
      go_round
      case rel => exact ⟨k + 1, by omega, by go_num, by rw [sa]; go_num, by rw [sc, HP.out]; congr 1; omega⟩
      case measure => simp [intOf]; omega
    · obtain rfl : k = s.size := by omega
      have HS : Hid (sc s s.size s.size = sb s 0 s.size) := sc_all s s.size
      go_wp2
      go_region
      go_wp2
      rw [pairs_end s a M hs ha hM0, show (sa s a s.size : Int) % (M : Int) = (fa s a M s.size : Nat) by rw [fa_sa s a M s.size (by omega), Int.natCast_emod]]
      go_ret2
      exact ⟨rfl, ⟨1, rfl⟩⟩
end Go.Proofs.Ythimjckimggpoaa.sums
