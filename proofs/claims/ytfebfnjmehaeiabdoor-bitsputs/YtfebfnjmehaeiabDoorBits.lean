/- What the functions of package bits answer where nothing is wrong. -/
import Derived.Test.YtfebfnjmehaeiabDoorRows
import Derived.Test.YtfebfnjmehaeiabDoorMem
import Derived.Test.YtfebfnjmehaeiabDoorBit
import Derived.WalkLawsBesides
import Derived.WalkSpells
import Derived.Laws.IdiomStrings
namespace Go.Proofs.YtfebfnjmehaeiabDoor.bitw
open Go.ChangeShapes Go.WideShapes Go.ChangeAt Go.RowKit
open mem bit

theorem inByte_any (k : Nat) (o : Bool) (O : Int) (w : World) (hk : k ≤ 9223372036854775807) (hO : (if o then (1 : Int) else 0) = O) :
    Calls Tryd.prog 13 #[.int .i64 k, .int .i64 O] w fun e w' => e = .returned (.int .i64 (ib o k : Nat)) ∧ w' = w := by
  subst hO
  cases o
  all_goals
    simp only [if_true, Bool.false_eq_true, if_false]
    go_enter Tryd.func13, Tryd.ntmps13
    go_wp2
    go_ret
    exact ⟨ret_int (by simp [ib]; try omega), rfl⟩
theorem inByte_at (K : Int) (k : Nat) (o : Bool) (O : Int) (w : World) (hK : K = k) (hk : k ≤ 9223372036854775807) (hO : (if o then (1 : Int) else 0) = O) :
    Calls Tryd.prog 13 #[.int .i64 K, .int .i64 O] w fun e w' => e = .returned (.int .i64 (ib o k : Nat)) ∧ w' = w := by
  subst hK
  exact inByte_any k o O w hk hO
theorem inNumber_any (k n : Nat) (o : Bool) (O : Int) (w : World) (hk : k < n) (hn : n ≤ 64) (hO : (if o then (1 : Int) else 0) = O) :
    Calls Tryd.prog 14 #[.int .i64 k, .int .i64 n, .int .i64 O] w fun e w' => e = .returned (.int .i64 (pl n o k : Nat)) ∧ w' = w := by
  subst hO
  cases o
  all_goals
    simp only [if_true, Bool.false_eq_true, if_false]
    go_enter Tryd.func14, Tryd.ntmps14
    go_wp2
    go_ret
    exact ⟨ret_int (by simp [pl]; try omega), rfl⟩
theorem wrong_ok (s : ByteArray) (A n : Nat) (o : Bool) (O : Int) (w : World) (hO : (if o then (1 : Int) else 0) = O) (hs : s.size ≤ 140737488351232) (hn : n ≤ 64) (hA : A + n ≤ 8 * s.size) :
    Calls Tryd.prog 12 #[.string s, .int .i64 A, .int .i64 n, .int .i64 O] w fun e w' => e = .returned .nilIface ∧ w' = w := by
  subst hO
  have hd : decide ((8 : Int) * s.size - n < A) = false := by simp; omega
  cases o
  all_goals
    simp only [if_true, Bool.false_eq_true, if_false]
    go_enter Tryd.func12, Tryd.ntmps12
    go_wp2
    go_ret
    exact ⟨rfl, rfl⟩
theorem run_byte {P : Program} {t : TypeId} (s : ByteArray) (j : Nat) (J : Int) (hJ : J = j) (hj : j < s.size) (h : P.underlying t = some .string) (w : World) :
    (Instr.index t (.string s) (.int .i64 J)).run P w = .ok (.int .u8 (byteN s j : Nat)) w := by
  subst hJ
  rw [run_index_string _ _ _ _ _ h, byteN_get s j hj]
  simp [hj]
theorem run_shr_nat {P : Program} (k : IntKind) (x : Int) (c : Nat) (hc : c ≤ k.bits) (w : World) : (Op.shift .shr k x .i64 (c : Int)).run P w = .ok (.int k (x / 2 ^ c)) w := by
  unfold Op.shift
  rw [if_neg (by omega)]
  have e : min (c : Int).toNat k.bits = c := by omega
  simp only [e]
  rw [Int.fdiv_eq_ediv_of_nonneg _ (Int.le_of_lt (Int.pow_pos (by decide)))]
  rfl
theorem run_shl_nat {P : Program} (k : IntKind) (x : Int) (c : Nat) (hc : c ≤ k.bits) (w : World) : (Op.shift .shl k x .i64 (c : Int)).run P w = .ok (.int k (k.wrap (x * 2 ^ c))) w := by
  unfold Op.shift
  rw [if_neg (by omega)]
  have e : min (c : Int).toNat k.bits = c := by omega
  simp only [e]
  rfl
theorem div8 (A k : Nat) (h : A + k ≤ 9223372036854775807) : IntKind.i64.wrap (((A : Int) + (k : Int)).tdiv 8) = ((A : Int) + (k : Int)) / 8 := by
  rw [IntKind.wrap_i64, Int.tdiv_eq_ediv_of_nonneg (by omega)]
  omega
theorem get_any (s : ByteArray) (A n : Nat) (o : Bool) (O : Int) (w : World) (hO : (if o then (1 : Int) else 0) = O) (hs : s.size ≤ 140737488351232) (hn : n ≤ 64) (hA : A + n ≤ 8 * s.size) :
    Calls Tryd.prog 6 #[.string s, .int .i64 A, .int .i64 n, .int .i64 O] w fun e w' => e = .returned (.tuple #[.int .u64 (gN (fun i => tbit s o (A + i)) n o : Nat), .nilIface]) ∧ Dr w w' := by
  have HOO : Hid ((if o then (1 : Int) else 0) = O) := hO
  clear hO
  rw [← gk_all]
  go_enter Tryd.func6, Tryd.ntmps6
  go_wp2_with (go_at_call 12; refine (wrong_ok _ _ _ o _ _ HOO.out (by omega) (by omega) (by omega)).mono ?_; rintro e w1 ⟨rfl, rfl⟩)
  go_loopw [11, 24] (fun v i wr => ∃ k : Nat, k ≤ n ∧ i = .int .i64 k ∧ v = .int .u64 (gk (fun i => tbit s o (A + i)) n o k : Nat) ∧ Dr w1 wr) (fun _ i _ => n - (intOf i).toNat)
  case atStart => exact ⟨0, Nat.zero_le _, rfl, by rw [gk_zero]; rfl, Dr.refl _⟩
  case round =>
    obtain ⟨k, hk, rfl, rfl, hdr⟩ := hrel
    by_cases hlt : k < n
    · have hq := div8 A k (by omega)
      have hix := run_byte (P := Tryd.prog) s ((A + k) / 8) (((A : Int) + (k : Int)) / 8) (by omega) (by omega) Tryd.underlying9
      have HB : Hid (Go.bits .and .u8 ((byteN s ((A + k) / 8) : Int) / 2 ^ (ib o (A + k))) 1 = (((byteN s ((A + k) / 8)).testBit (ib o (A + k))).toNat : Nat)) := u8_bit (byteN s ((A + k) / 8)) (ib o (A + k)) (byteN_lt _ _)
      go_wp2_with fail
      go_quiet ((go_at_call 13; exact Calls.quiet_of_same (inByte_at ((A : Int) + (k : Int)) (A + k) o _ _ (by omega) (by omega) HOO.out)))
      go_wp2_with (go_at_call 14; refine (inNumber_any _ _ o _ _ (by omega) (by omega) HOO.out).mono ?_; rintro e w2 ⟨rfl, rfl⟩)
      go_roundw
      case rel => exact ⟨k + 1, by omega, by go_num, by
        have h1 := ib_lt o (A + k)
        have h2 := pl_lt n o k hlt
        rw [Nat.min_eq_left (by omega), Nat.min_eq_left (by omega), HB.out]
        exact congrArg (Value.int IntKind.u64) (u64_step (fun i => tbit s o (A + i)) n o k hlt hn), hdr.drewN nq⟩
      case measure => simp [intOf]; omega
    · obtain rfl : k = n := by omega
      go_wp2
      go_ret2
      exact ⟨rfl, hdr⟩
theorem put_any (s : ByteArray) (A n : Nat) (o : Bool) (O : Int) (V : Nat) (w : World) (hO : (if o then (1 : Int) else 0) = O) (hs : s.size ≤ 140737488351232) (hn : n ≤ 64) (hA : A + n ≤ 8 * s.size) (hV : V < 18446744073709551616) :
    Calls Tryd.prog 9 #[.string s, .int .i64 A, .int .i64 n, .int .i64 O, .int .u64 V] w fun e w' => e = .returned (.tuple #[.string (strOfNums (bytesOf (putG (fun k => tbit s o k) A n o V n) o s.size)), .nilIface]) ∧ Bl w w' := by
  have HOO : Hid ((if o then (1 : Int) else 0) = O) := hO
  clear hO
  have hcv := fun w => run_bytes_of_string (P := Tryd.prog) w 9 47 5 s Tryd.underlying9 Tryd.underlying47 Tryd.underlying5
  go_enter Tryd.func9, Tryd.ntmps9
  go_wp2_with (go_at_call 12; refine (wrong_ok _ _ _ o _ _ HOO.out (by omega) (by omega) (by omega)).mono ?_; rintro e w1 ⟨rfl, rfl⟩)
  go_loopw [29] (fun i wr => ∃ k : Nat, k ≤ n ∧ i = .int .i64 k ∧ Rw wr 5 w1.heap.size (bytesOf (putG (fun k => tbit s o k) A n o V k) o s.size) ∧ Bl w1 wr) (fun i _ => n - (intOf i).toNat)
  case atStart => exact ⟨0, Nat.zero_le _, rfl, by rw [putG_zero, ← bytes_self]; exact (Rw.of_text _ _ _ _).drew, ((Bl.refl _).alloc _).drew⟩
  case round =>
    obtain ⟨k, hk, rfl, hrow, hbl⟩ := hrel
    by_cases hlt : k < n
    · have hq := div8 A k (by omega)
      have hi : (A + k) / 8 < s.size := by omega
      have hc := hrow.cell (j := (A + k) / 8) (by rw [bytesOf_len]; exact hi)
      have hf := hrow.frozen (j := (A + k) / 8) (by rw [bytesOf_len]; exact hi)
      rw [bytesOf_get _ _ _ _ hi] at hc
      go_wp2_with (first | (go_at_call 14; refine (inNumber_any _ _ o _ _ (by omega) (by omega) HOO.out).mono ?_; rintro e w2 ⟨rfl, rfl⟩) | (go_at_call 13; refine (inByte_at ((A : Int) + (k : Int)) (A + k) o _ _ (by omega) (by omega) HOO.out).mono ?_; rintro e w3 ⟨rfl, rfl⟩))
      go_region
      go_wp2
      go_roundw
      case rel => exact ⟨k + 1, by omega, by go_num, by
        have h1 := ib_lt o (A + k)
        have h2 := pl_lt n o k hlt
        have hx := nb_lt (fun j => putG (fun k => tbit s o k) A n o V k (at8 o ((A + k) / 8) j)) 8
        rw [put_val _ _ _ _ hx h1 (by omega) hV, put_byte]
        rw [← put_set (fun k => tbit s o k) A n o V k s.size _ rfl]
        exact (hrow.set _ _ (by rw [bytesOf_len]; exact hi)).drew, (hbl.setCell (Nat.le_refl _) _).drew⟩
      case measure => simp [intOf]; omega
    · obtain rfl : k = n := by omega
      have htx := hrow.text (P := Tryd.prog) Tryd.underlying47 Tryd.underlying5 Tryd.underlying9 s.size (grownCap w1 s.size 0 5) (bytesOf_len _ _ _)
      go_wp2
      go_ret2
      exact ⟨rfl, hbl⟩
end Go.Proofs.YtfebfnjmehaeiabDoor.bitw
