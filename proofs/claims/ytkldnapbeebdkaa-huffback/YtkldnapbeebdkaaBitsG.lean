/- What the functions of package bits answer where nothing is wrong. -/
import Derived.Test.YtkldnapbeebdkaaRows
import Derived.Test.YtkldnapbeebdkaaMem
import Derived.Test.YtkldnapbeebdkaaBit
import Derived.WalkLawsBesides
import Derived.WalkSpells
import Derived.Laws.IdiomStrings
namespace Go.Proofs.Ytkldnapbeebdkaa.bitw
open Go.ChangeShapes Go.WideShapes Go.ChangeAt Go.RowKit
open mem bit

theorem inByte_any (k : Nat) (o : Bool) (O : Int) (w : World) (hk : k ≤ 9223372036854775807) (hO : (if o then (1 : Int) else 0) = O) :
    Calls Try.prog 39 #[.int .i64 k, .int .i64 O] w fun e w' => e = .returned (.int .i64 (ib o k : Nat)) ∧ w' = w := by
  subst hO
  cases o
  all_goals
    simp only [if_true, Bool.false_eq_true, if_false]
    go_enter Try.func39, Try.ntmps39
    go_wp2
    go_ret
    exact ⟨ret_int (by simp [ib]; try omega), rfl⟩
theorem inByte_at (K : Int) (k : Nat) (o : Bool) (O : Int) (w : World) (hK : K = k) (hk : k ≤ 9223372036854775807) (hO : (if o then (1 : Int) else 0) = O) :
    Calls Try.prog 39 #[.int .i64 K, .int .i64 O] w fun e w' => e = .returned (.int .i64 (ib o k : Nat)) ∧ w' = w := by
  subst hK
  exact inByte_any k o O w hk hO
theorem inNumber_any (k n : Nat) (o : Bool) (O : Int) (w : World) (hk : k < n) (hn : n ≤ 64) (hO : (if o then (1 : Int) else 0) = O) :
    Calls Try.prog 40 #[.int .i64 k, .int .i64 n, .int .i64 O] w fun e w' => e = .returned (.int .i64 (pl n o k : Nat)) ∧ w' = w := by
  subst hO
  cases o
  all_goals
    simp only [if_true, Bool.false_eq_true, if_false]
    go_enter Try.func40, Try.ntmps40
    go_wp2
    go_ret
    exact ⟨ret_int (by simp [pl]; try omega), rfl⟩
theorem wrong_ok (s : ByteArray) (A n : Nat) (o : Bool) (O : Int) (w : World) (hO : (if o then (1 : Int) else 0) = O) (hs : s.size ≤ 140737488351232) (hn : n ≤ 64) (hA : A + n ≤ 8 * s.size) :
    Calls Try.prog 38 #[.string s, .int .i64 A, .int .i64 n, .int .i64 O] w fun e w' => e = .returned .nilIface ∧ w' = w := by
  subst hO
  have hd : decide ((8 : Int) * s.size - n < A) = false := by simp; omega
  cases o
  all_goals
    simp only [if_true, Bool.false_eq_true, if_false]
    go_enter Try.func38, Try.ntmps38
    go_wp2
    go_ret
    exact ⟨rfl, rfl⟩
theorem run_byte {P : Program} {t : TypeId} (s : ByteArray) (j : Nat) (J : Int) (hJ : J = j) (hj : j < s.size) (h : P.underlying t = some .string) (w : World) :
    (Instr.index t (.string s) (.int .i64 J)).run P w = .ok (.int .u8 (byteN s j : Nat)) w := by
  subst hJ
  rw [run_index_string _ _ _ _ _ h, byteN_get s j hj]
  simp [hj]
theorem run_shr_nat {P : Program} (k : IntKind) (x : Int) (c : Nat) (hc : c ≤ k.bits) (w : World) : (Op.shift .shr k x .i64 (c : Int)).run P w = .ok (.int k (x / 2 ^ c)) w := by
  unfold Op.shift
  rw [if_neg (by omega)]
  have e : min (c : Int).toNat k.bits = c := by omega
  simp only [e]
  rw [Int.fdiv_eq_ediv_of_nonneg _ (Int.le_of_lt (Int.pow_pos (by decide)))]
  rfl
theorem run_shl_nat {P : Program} (k : IntKind) (x : Int) (c : Nat) (hc : c ≤ k.bits) (w : World) : (Op.shift .shl k x .i64 (c : Int)).run P w = .ok (.int k (k.wrap (x * 2 ^ c))) w := by
  unfold Op.shift
  rw [if_neg (by omega)]
  have e : min (c : Int).toNat k.bits = c := by omega
  simp only [e]
  rfl
theorem div8 (A k : Nat) (h : A + k ≤ 9223372036854775807) : IntKind.i64.wrap (((A : Int) + (k : Int)).tdiv 8) = ((A : Int) + (k : Int)) / 8 := by
  rw [IntKind.wrap_i64, Int.tdiv_eq_ediv_of_nonneg (by omega)]
  omega
theorem get_any (s : ByteArray) (A n : Nat) (o : Bool) (O : Int) (w : World) (hO : (if o then (1 : Int) else 0) = O) (hs : s.size ≤ 140737488351232) (hn : n ≤ 64) (hA : A + n ≤ 8 * s.size) :
    Calls Try.prog 36 #[.string s, .int .i64 A, .int .i64 n, .int .i64 O] w fun e w' => e = .returned (.tuple #[.int .u64 (gN (fun i => tbit s o (A + i)) n o : Nat), .nilIface]) ∧ Dr w w' := by
  have HOO : Hid ((if o then (1 : Int) else 0) = O) := hO
  clear hO
  rw [← gk_all]
  go_enter Try.func36, Try.ntmps36
  go_wp2_with (go_at_call 38; refine (wrong_ok _ _ _ o _ _ HOO.out (by omega) (by omega) (by omega)).mono ?_; rintro e w1 ⟨rfl, rfl⟩)
  go_loopw [11, 24] (fun v i wr => ∃ k : Nat, k ≤ n ∧ i = .int .i64 k ∧ v = .int .u64 (gk (fun i => tbit s o (A + i)) n o k : Nat) ∧ Dr w1 wr) (fun _ i _ => n - (intOf i).toNat)
  case atStart => exact ⟨0, Nat.zero_le _, rfl, by rw [gk_zero]; rfl, Dr.refl _⟩
  case round =>
    obtain ⟨k, hk, rfl, rfl, hdr⟩ := hrel
    by_cases hlt : k < n
    · have hq := div8 A k (by omega)
      have hix := run_byte (P := Try.prog) s ((A + k) / 8) (((A : Int) + (k : Int)) / 8) (by omega) (by omega) Try.underlying9
      have HB : Hid (Go.bits .and .u8 ((byteN s ((A + k) / 8) : Int) / 2 ^ (ib o (A + k))) 1 = (((byteN s ((A + k) / 8)).testBit (ib o (A + k))).toNat : Nat)) := u8_bit (byteN s ((A + k) / 8)) (ib o (A + k)) (byteN_lt _ _)
      go_wp2_with fail
      go_quiet ((go_at_call 39; exact Calls.quiet_of_same (inByte_at ((A : Int) + (k : Int)) (A + k) o _ _ (by omega) (by omega) HOO.out)))
      go_wp2_with (go_at_call 40; refine (inNumber_any _ _ o _ _ (by omega) (by omega) HOO.out).mono ?_; rintro e w2 ⟨rfl, rfl⟩)
      go_roundw
      case rel => exact ⟨k + 1, by omega, by go_num, by
        have h1 := ib_lt o (A + k)
        have h2 := pl_lt n o k hlt
        rw [Nat.min_eq_left (by omega), Nat.min_eq_left (by omega), HB.out]
        exact congrArg (Value.int IntKind.u64) (u64_step (fun i => tbit s o (A + i)) n o k hlt hn), hdr.drewN nq⟩
      case measure => simp [intOf]; omega
    · obtain rfl : k = n := by omega
      go_wp2
      go_ret2
      exact ⟨rfl, hdr⟩
end Go.Proofs.Ytkldnapbeebdkaa.bitw
