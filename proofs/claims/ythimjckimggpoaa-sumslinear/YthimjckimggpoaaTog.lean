/- Texts bit by bit: what they are together, and that sums are linear. -/
import Derived.Test.YthimjckimggpoaaKeepSum
namespace Go.Proofs.Ythimjckimggpoaa.sums
open Go.ChangeShapes Go.WideShapes Go.ChangeAt Go.RowKit
open mem bit crc two

/-- Two texts of n bytes, bit by bit. -/
def tog (a b : ByteArray) (n : Nat) : ByteArray := strOfNums (fillL (fun i => ((byteN a i ^^^ byteN b i : Nat) : Int)) n n)
theorem tog_size (a b : ByteArray) (n : Nat) : (tog a b n).size = n := by rw [tog, strOfNums_size, fillL_len]
theorem xor_lt8 (x y : Nat) (hx : x < 256) (hy : y < 256) : x ^^^ y < 256 := Nat.xor_lt_two_pow (n := 8) hx hy
theorem tog_byte (a b : ByteArray) (n i : Nat) (hi : i < n) : byteN (tog a b n) i = byteN a i ^^^ byteN b i := by
  have h := byteN_nums (fillL (fun i => ((byteN a i ^^^ byteN b i : Nat) : Int)) n n) (fun z hz => by
    simp only [fillL, List.mem_map] at hz
    obtain ⟨j, _, rfl⟩ := hz
    have := xor_lt8 _ _ (byteN_lt a j) (byteN_lt b j)
    split <;> omega) i
  have e : (fillL (fun i => ((byteN a i ^^^ byteN b i : Nat) : Int)) n n).getD i 0 = ((byteN a i ^^^ byteN b i : Nat) : Int) := by
    simp [fillL, List.getD_eq_getElem?_getD, hi]
  rw [e] at h
  unfold tog
  omega
theorem tog_bit (a b : ByteArray) (n k : Nat) (o : Bool) (hk : k < 8 * n) : tbit (tog a b n) o k = (tbit a o k ^^ tbit b o k) := by
  unfold tbit
  rw [tog_byte a b n _ (by omega), Nat.testBit_xor]
theorem fr_tog (W P : Nat) (t : Bool) (a b : ByteArray) (x y n : Nat) (hW : 8 ≤ W) : fr W P t (tog a b n) (x ^^^ y) n = fr W P t a x n ^^^ fr W P t b y n := by
  rw [fr_R _ _ _ _ _ _ hW, fr_R _ _ _ _ _ _ hW, fr_R _ _ _ _ _ _ hW, ← R_xor]
  exact R_congr _ _ _ _ _ _ (fun i hi => tog_bit a b n i _ hi)
theorem linear (W P : Nat) (t : Bool) (I O : Nat) (a b c : ByteArray) (n : Nat) (hW : 8 ≤ W) (ha : a.size = n) (hb : b.size = n) (hc : c.size = n) :
    sumV W P t I O (tog (tog a b n) c n) = sumV W P t I O a ^^^ sumV W P t I O b ^^^ sumV W P t I O c := by
  unfold sumV
  rw [tog_size, ha, hb, hc]
  have h := fr_tog W P t (tog a b n) c (I ^^^ I) I n hW
  rw [fr_tog W P t a b I I n hW, Nat.xor_self, Nat.zero_xor] at h
  rw [h, trn_xor, trn_xor, xor4 (trn t W (fr W P t a I n)) O, Nat.xor_self, Nat.xor_zero, ← Nat.xor_assoc]
theorem info8 : (Try.prog.info? 5).map (fun i => (i.zero, i.size, i.bytes)) = some (some (.int .u8 0), 1, 1) := by kernel_rfl
theorem together_at (a b : ByteArray) (n : Nat) (w : World) (ha : a.size = n) (hb : b.size = n) (hn : n ≤ 200) :
    Calls Try.prog 13 #[.string a, .string b] w fun e w' => e = .returned (.string (tog a b n)) ∧ Gb w w' := by
  have hmin : (if (a.size : Int) < (b.size : Int) then (a.size : Int) else (b.size : Int)) = (n : Int) := by split <;> omega
  have hmk := fun w => run_make_row' (P := Try.prog) 50 5 (.int .u8 0) 1 Try.underlying50 info8 rfl .i64 .i64 n (by omega) (by omega) w
  go_enter Try.func13, Try.ntmps13
  go_wp2
  go_loopw [7] (fun i wr => ∃ k : Nat, k ≤ n ∧ i = .int .i64 (k : Int) ∧ Row wr 5 w.heap.size (fillL (fun i => ((byteN a i ^^^ byteN b i : Nat) : Int)) n k) ∧ Gb w wr) (fun i _ => n - (intOf i).toNat)
  case atStart => exact ⟨0, Nat.zero_le _, rfl, by rw [fillL_zero]; exact Row.made _ _ _, (Gb.refl _).alloc _ _⟩
  case round =>
    obtain ⟨k, hk, rfl, hrow, hgb⟩ := hrel
    by_cases hlt : k < n
    · have hix := run_byte (P := Try.prog) a k (k : Int) rfl (by omega) Try.underlying9
      have hiy := run_byte (P := Try.prog) b k (k : Int) rfl (by omega) Try.underlying9
      have hc := hrow.cell (j := k) (by rw [fillL_len]; exact hlt)
      have hf := hrow.frozen k
      have hx := u8_xor_nat (byteN a k) (byteN b k) (byteN_lt a k) (byteN_lt b k)
      go_wp2
      go_region
      go_wp2
      go_roundw
      case rel => exact ⟨k + 1, by omega, by go_num, by rw [← fillL_set _ n k _ rfl]; exact (hrow.set _ _).drew, (hgb.setCell (Nat.le_refl _) _).drew⟩
      case measure => simp [intOf]; omega
    · obtain rfl : k = n := by omega
      have htx := hrow.text (P := Try.prog) Try.underlying50 Try.underlying5 Try.underlying9 k (fillL_len _ _ _)
      go_wp2
      go_ret
      exact ⟨rfl, hgb⟩
end Go.Proofs.Ythimjckimggpoaa.sums
