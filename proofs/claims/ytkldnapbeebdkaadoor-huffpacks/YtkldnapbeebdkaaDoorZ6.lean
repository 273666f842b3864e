/- Texts laid together: BitsG, Hh2. -/
import Derived.Test.YtkldnapbeebdkaaDoorRows
import Derived.Test.YtkldnapbeebdkaaDoorZ1
import Derived.Test.YtkldnapbeebdkaaDoorZ4
import Derived.WalkLawsBesides
import Derived.WalkSpells
import Derived.Laws.IdiomStrings
import Derived.Test.YtkldnapbeebdkaaDoorZ5
/- What the functions of package bits answer where nothing is wrong. -/
namespace Go.Proofs.YtkldnapbeebdkaaDoor.bitw
open Go.ChangeShapes Go.WideShapes Go.ChangeAt Go.RowKit
open mem bit

theorem inByte_any (k : Nat) (o : Bool) (O : Int) (w : World) (hk : k ≤ 9223372036854775807) (hO : (if o then (1 : Int) else 0) = O) :
    Calls Tryd.prog 74 #[.int .i64 k, .int .i64 O] w fun e w' => e = .returned (.int .i64 (ib o k : Nat)) ∧ w' = w := by
  subst hO
  cases o
  all_goals
    simp only [if_true, Bool.false_eq_true, if_false]
    go_enter Tryd.func74, Tryd.ntmps74
    go_wp2
    go_ret
    exact ⟨ret_int (by simp [ib]; try omega), rfl⟩
theorem inByte_at (K : Int) (k : Nat) (o : Bool) (O : Int) (w : World) (hK : K = k) (hk : k ≤ 9223372036854775807) (hO : (if o then (1 : Int) else 0) = O) :
    Calls Tryd.prog 74 #[.int .i64 K, .int .i64 O] w fun e w' => e = .returned (.int .i64 (ib o k : Nat)) ∧ w' = w := by
  subst hK
  exact inByte_any k o O w hk hO
theorem inNumber_any (k n : Nat) (o : Bool) (O : Int) (w : World) (hk : k < n) (hn : n ≤ 64) (hO : (if o then (1 : Int) else 0) = O) :
    Calls Tryd.prog 75 #[.int .i64 k, .int .i64 n, .int .i64 O] w fun e w' => e = .returned (.int .i64 (pl n o k : Nat)) ∧ w' = w := by
  subst hO
  cases o
  all_goals
    simp only [if_true, Bool.false_eq_true, if_false]
    go_enter Tryd.func75, Tryd.ntmps75
    go_wp2
    go_ret
    exact ⟨ret_int (by simp [pl]; try omega), rfl⟩
theorem wrong_ok (s : ByteArray) (A n : Nat) (o : Bool) (O : Int) (w : World) (hO : (if o then (1 : Int) else 0) = O) (hs : s.size ≤ 140737488351232) (hn : n ≤ 64) (hA : A + n ≤ 8 * s.size) :
    Calls Tryd.prog 73 #[.string s, .int .i64 A, .int .i64 n, .int .i64 O] w fun e w' => e = .returned .nilIface ∧ w' = w := by
  subst hO
  have hd : decide ((8 : Int) * s.size - n < A) = false := by simp; omega
  cases o
  all_goals
    simp only [if_true, Bool.false_eq_true, if_false]
    go_enter Tryd.func73, Tryd.ntmps73
    go_wp2
    go_ret
    exact ⟨rfl, rfl⟩
theorem run_byte {P : Program} {t : TypeId} (s : ByteArray) (j : Nat) (J : Int) (hJ : J = j) (hj : j < s.size) (h : P.underlying t = some .string) (w : World) :
    (Instr.index t (.string s) (.int .i64 J)).run P w = .ok (.int .u8 (byteN s j : Nat)) w := by
  subst hJ
  rw [run_index_string _ _ _ _ _ h, byteN_get s j hj]
  simp [hj]
theorem run_shr_nat {P : Program} (k : IntKind) (x : Int) (c : Nat) (hc : c ≤ k.bits) (w : World) : (Op.shift .shr k x .i64 (c : Int)).run P w = .ok (.int k (x / 2 ^ c)) w := by
  unfold Op.shift
  rw [if_neg (by omega)]
  have e : min (c : Int).toNat k.bits = c := by omega
  simp only [e]
  rw [Int.fdiv_eq_ediv_of_nonneg _ (Int.le_of_lt (Int.pow_pos (by decide)))]
  rfl
theorem run_shl_nat {P : Program} (k : IntKind) (x : Int) (c : Nat) (hc : c ≤ k.bits) (w : World) : (Op.shift .shl k x .i64 (c : Int)).run P w = .ok (.int k (k.wrap (x * 2 ^ c))) w := by
  unfold Op.shift
  rw [if_neg (by omega)]
  have e : min (c : Int).toNat k.bits = c := by omega
  simp only [e]
  rfl
theorem div8 (A k : Nat) (h : A + k ≤ 9223372036854775807) : IntKind.i64.wrap (((A : Int) + (k : Int)).tdiv 8) = ((A : Int) + (k : Int)) / 8 := by
  rw [IntKind.wrap_i64, Int.tdiv_eq_ediv_of_nonneg (by omega)]
  omega
theorem get_any (s : ByteArray) (A n : Nat) (o : Bool) (O : Int) (w : World) (hO : (if o then (1 : Int) else 0) = O) (hs : s.size ≤ 140737488351232) (hn : n ≤ 64) (hA : A + n ≤ 8 * s.size) :
    Calls Tryd.prog 67 #[.string s, .int .i64 A, .int .i64 n, .int .i64 O] w fun e w' => e = .returned (.tuple #[.int .u64 (gN (fun i => tbit s o (A + i)) n o : Nat), .nilIface]) ∧ Dr w w' := by
  have HOO : Hid ((if o then (1 : Int) else 0) = O) := hO
  clear hO
  rw [← gk_all]
  go_enter Tryd.func67, Tryd.ntmps67
  go_wp2_with (go_at_call 73; refine (wrong_ok _ _ _ o _ _ HOO.out (by omega) (by omega) (by omega)).mono ?_; rintro e w1 ⟨rfl, rfl⟩)
  go_loopw [11, 24] (fun v i wr => ∃ k : Nat, k ≤ n ∧ i = .int .i64 k ∧ v = .int .u64 (gk (fun i => tbit s o (A + i)) n o k : Nat) ∧ Dr w1 wr) (fun _ i _ => n - (intOf i).toNat)
  case atStart => exact ⟨0, Nat.zero_le _, rfl, by rw [gk_zero]; rfl, Dr.refl _⟩
  case round =>
    obtain ⟨k, hk, rfl, rfl, hdr⟩ := hrel
    by_cases hlt : k < n
    · have hq := div8 A k (by omega)
      have hix := run_byte (P := Tryd.prog) s ((A + k) / 8) (((A : Int) + (k : Int)) / 8) (by omega) (by omega) Tryd.underlying9
      have HB : Hid (Go.bits .and .u8 ((byteN s ((A + k) / 8) : Int) / 2 ^ (ib o (A + k))) 1 = (((byteN s ((A + k) / 8)).testBit (ib o (A + k))).toNat : Nat)) := u8_bit (byteN s ((A + k) / 8)) (ib o (A + k)) (byteN_lt _ _)
      go_wp2_with fail
      go_quiet ((go_at_call 74; exact Calls.quiet_of_same (inByte_at ((A : Int) + (k : Int)) (A + k) o _ _ (by omega) (by omega) HOO.out)))
      go_wp2_with (go_at_call 75; refine (inNumber_any _ _ o _ _ (by omega) (by omega) HOO.out).mono ?_; rintro e w2 ⟨rfl, rfl⟩)
      go_roundw
      case rel => exact ⟨k + 1, by omega, by go_num, by
        have h1 := ib_lt o (A + k)
        have h2 := pl_lt n o k hlt
        rw [Nat.min_eq_left (by omega), Nat.min_eq_left (by omega), HB.out]
        exact congrArg (Value.int IntKind.u64) (u64_step (fun i => tbit s o (A + i)) n o k hlt hn), hdr.drewN nq⟩
      case measure => simp [intOf]; omega
    · obtain rfl : k = n := by omega
      go_wp2
      go_ret2
      exact ⟨rfl, hdr⟩
end Go.Proofs.YtkldnapbeebdkaaDoor.bitw
/- What written answers. -/
namespace Go.Proofs.YtkldnapbeebdkaaDoor.hh
set_option linter.unusedVariables false
open Go.ChangeShapes Go.WideShapes Go.ChangeAt Go.RowKit
open mem rows bit
theorem infoU : (Tryd.prog.info? 5).map (fun i => (i.zero, i.size, i.bytes)) = some (some (.int .u8 0), 1, 1) := by kernel_rfl
def Lc (Ll : List Int) (c : Nat) : Nat := (Ll.getD c 0).toNat
def cs (s : ByteArray) (k : Nat) : List Nat := (List.range k).map fun j => (sb s j).toNat
theorem cs_succ (s : ByteArray) (k : Nat) : cs s (k + 1) = cs s k ++ [(sb s k).toNat] := by unfold cs; rw [List.range_succ, List.map_append]; rfl
theorem i64_and1 (n : Int) : Go.bits .and .i64 n 1 = n % 2 := by
  have h1 : (BitVec.ofInt 64 1).toNat = 2 ^ 1 - 1 := by decide
  have key : (BitVec.ofInt 64 n &&& BitVec.ofInt 64 1).toNat = (n % ((2 ^ 64 : Nat) : Int)).toNat % 2 ^ 1 := by
    rw [BitVec.toNat_and, BitVec.toNat_ofInt, h1, Nat.and_two_pow_sub_one_eq_mod]
  show IntKind.i64.wrap ((BitVec.ofInt 64 n &&& BitVec.ofInt 64 1).toNat : Nat) = n % 2
  rw [key, IntKind.wrap_i64]
  omega
theorem i64_bit (v p : Nat) : Go.bits .and .i64 ((v : Int) / 2 ^ p) 1 = (((v.testBit p).toNat : Nat) : Int) := by
  have e : ((v : Int) / 2 ^ p) = ((v / 2 ^ p : Nat) : Int) := by rw [Int.natCast_ediv, Int.natCast_pow]; rfl
  rw [i64_and1, e, ← bit_nat]
  omega
theorem or_val (x bb r : Nat) (hx : x < 256) (hb : bb ≤ 1) (hr : r < 8) : Go.bits .or .u8 (x : Int) ((bb : Int) * 2 ^ (7 - r) % 256) = ((x ||| bb * 2 ^ (7 - r) : Nat) : Int) := by
  have h7 : 2 ^ (7 - r) ≤ 2 ^ 7 := Nat.pow_le_pow_right (by decide) (by omega)
  have h7' : (2 : Nat) ^ 7 = 128 := by decide
  rw [h7'] at h7
  have h4 : bb * 2 ^ (7 - r) ≤ 1 * 2 ^ (7 - r) := Nat.mul_le_mul_right _ hb
  have e2 : ((bb : Int) * 2 ^ (7 - r) % 256) = ((bb * 2 ^ (7 - r) : Nat) : Int) := by
    rw [← p2, ← Int.natCast_mul]
    generalize bb * 2 ^ (7 - r) = Z at h4 ⊢
    generalize (2 : Nat) ^ (7 - r) = P at h7 h4
    omega
  rw [e2, u8_or_nat x _ hx (by generalize bb * 2 ^ (7 - r) = Z at h4 ⊢; generalize (2 : Nat) ^ (7 - r) = P at h7 h4; omega)]
theorem row_step {w : World} {B m A : Nat} {l t : List Bool} {b : Bool} (h : Row w 5 B (bytesOf (gb l) true m)) (hl : l.length = A) (hm : A < 8 * m) (x : Nat) (hx : x = nb (fun i => gb l (at8 true (A / 8) i)) 8) (ht : t = l ++ [b]) :
    Row (w.setCell ⟨B, A / 8, none⟩ (.int .u8 ((x ||| b.toNat * 2 ^ (7 - A % 8) : Nat) : Int))) 5 B (bytesOf (gb t) true m) := by
  subst hl
  subst hx
  rw [ht, ← row_snoc l b m hm]
  exact h.set _ _
/-- The bits of the first k bytes' signs. -/
def bk (Ll Sl : List Int) (s : ByteArray) (k : Nat) : List Bool := tb (Lc Ll) (Lc Sl) (cs s k)
theorem bk_succ (Ll Sl : List Int) (s : ByteArray) (k : Nat) : bk Ll Sl s (k + 1) = bk Ll Sl s k ++ sgb (Lc Ll (sb s k).toNat) (Lc Sl (sb s k).toNat) := by
  unfold bk
  rw [cs_succ, tb_append, tb_one]
theorem bk_mono (Ll Sl : List Int) (s : ByteArray) (k : Nat) : ∀ d, (bk Ll Sl s k).length ≤ (bk Ll Sl s (k + d)).length
  | 0 => Nat.le_refl _
  | d + 1 => by have := bk_mono Ll Sl s k d; rw [← Nat.add_assoc, bk_succ, List.length_append]; omega
set_option maxHeartbeats 4000000 in
theorem written_at (s : ByteArray) (p1 p2 : Option Addr) (c1 c2 : Nat) (Ll Sl : List Int) (w : World) (h1 : In w p1 Ll) (h2 : In w p2 Sl) (hl1 : Ll.length = 256) (hl2 : Sl.length = 256)
    (hok : ∀ c, c < 256 → 0 ≤ Ll.getD c 0 ∧ Ll.getD c 0 ≤ 24 ∧ 0 ≤ Sl.getD c 0 ∧ Sl.getD c 0 < 16777216) (N : Nat) (hN : N = (bk Ll Sl s s.size).length) (hN2 : N ≤ 200000) (hs : s.size ≤ 1000000) :
    Calls Tryd.prog 32 #[.string s, .slice p1 256 c1, .slice p2 256 c2, .int .i64 (N : Int)] w fun e w' => ∃ B, e = .returned (.slice (some ⟨B, 0, none⟩) ((N + 7) / 8) ((N + 7) / 8)) ∧ w.heap.size ≤ B ∧ Row w' 5 B (bytesOf (gb (bk Ll Sl s s.size)) true ((N + 7) / 8)) ∧ Bl w w' := by
  have HI1 : Hid (In w p1 Ll ∧ Ll.length = 256) := ⟨h1, hl1⟩
  have HI2 : Hid (In w p2 Sl ∧ Sl.length = 256) := ⟨h2, hl2⟩
  have HOK : Hid (∀ c, c < 256 → 0 ≤ Ll.getD c 0 ∧ Ll.getD c 0 ≤ 24 ∧ 0 ≤ Sl.getD c 0 ∧ Sl.getD c 0 < 16777216) := hok
  have HN : Hid (N = (bk Ll Sl s s.size).length) := hN
  clear h1 h2 hl1 hl2 hok hN
  obtain ⟨m, hm⟩ : ∃ m, m = (N + 7) / 8 := ⟨_, rfl⟩
  have hm1 : ((N : Int) + 7).tdiv 8 = (m : Int) := by rw [Int.tdiv_eq_ediv_of_nonneg (by omega)]; omega
  have hm2 : wrap64 ((N : Int) + 7) = (N : Int) + 7 := by unfold wrap64; omega
  have hmN : N ≤ 8 * m := by omega
  rw [← hm]
  have hmb : m ≤ 30000 := by omega
  have hmk := fun w => run_make_row' (P := Tryd.prog) 66 5 (.int .u8 0) 1 Tryd.underlying66 infoU rfl .i64 .i64 m (by omega) (by omega) w
  obtain ⟨w2, hw2⟩ : ∃ w2, w2 = w.alloc (.cells (madeCells #[.int .u8 0] m) 5) := ⟨_, rfl⟩
  have HB2 : Hid (Bl w w2) := by rw [hw2]; exact (Bl.refl w).alloc _
  have HR0 : Hid (Row w2 5 w.heap.size (bytesOf (gb (bk Ll Sl s 0)) true m)) := by
    have e : bk Ll Sl s 0 = [] := rfl
    rw [e, row_none, hw2]
    exact Row.made w _ m
  clear hm
  go_enter Tryd.func32, Tryd.ntmps32
  go_wp2
  rw [← hw2]
  obtain ⟨B, hB⟩ : ∃ B, B = w.heap.size := ⟨_, rfl⟩
  rw [← hB] at HR0 ⊢
  have HB : Hid (B = w.heap.size) := hB
  clear hw2 hmk hB hm1 hm2
  go_loopw [10, 11, 12, 13, 14, 15, 22] (fun a _ _ _ _ _ i wr => ∃ k A : Nat, k ≤ s.size ∧ A ≤ N ∧ i = .int .i64 (k : Int) ∧ a = .int .i64 (A : Int) ∧ Hid (A = (bk Ll Sl s k).length ∧ Row wr 5 B (bytesOf (gb (bk Ll Sl s k)) true m) ∧ Bl w wr)) (fun _ _ _ _ _ _ i _ => s.size - (intOf i).toNat)
  case atStart => exact ⟨0, 0, Nat.zero_le _, Nat.zero_le _, rfl, rfl, ⟨rfl, HR0.out, HB2.out⟩⟩
  case round =>
    clear HR0 HB2
    obtain ⟨k, A, hk, hA, rfl, rfl, H⟩ := hrel
    by_cases hlt : k < s.size
    · have hltz : (k : Int) < s.size := by omega
      have hcb : ((s[k]'hlt).toNat : Int) < 256 := by have := (s[k]'hlt).toNat_lt; omega
      have hcb' : (s[k]'hlt).toNat < 256 := by omega
      have hgb : (sb s k).toNat = (s[k]'hlt).toNat := by rw [sb_get s k hlt]; simp
      obtain ⟨x1, rfl, hc1⟩ := (HI1.out.1.step H.out.2.2).at (s[k]'hlt).toNat (by rw [HI1.out.2]; exact hcb')
      obtain ⟨x2, rfl, hc2⟩ := (HI2.out.1.step H.out.2.2).at (s[k]'hlt).toNat (by rw [HI2.out.2]; exact hcb')
      obtain ⟨o1, o2, o3, o4⟩ := HOK.out (s[k]'hlt).toNat hcb'
      obtain ⟨n, hn⟩ : ∃ n : Nat, Ll.getD (s[k]'hlt).toNat 0 = (n : Int) := ⟨(Ll.getD (s[k]'hlt).toNat 0).toNat, by omega⟩
      obtain ⟨v, hv⟩ : ∃ v : Nat, Sl.getD (s[k]'hlt).toNat 0 = (v : Int) := ⟨(Sl.getD (s[k]'hlt).toNat 0).toNat, by omega⟩
      rw [hn] at hc1 o1 o2
      rw [hv] at hc2 o3 o4
      have HBK : Hid (bk Ll Sl s (k + 1) = bk Ll Sl s k ++ sgb n v) := by
        rw [bk_succ, hgb]
        unfold Lc
        rw [hn, hv]
        rfl
      have HAN : Hid (A + n ≤ N) := by
        have h1 := bk_mono Ll Sl s (k + 1) (s.size - (k + 1))
        rw [show k + 1 + (s.size - (k + 1)) = s.size by omega, ← HN.out, HBK.out, List.length_append, sgb_len, ← H.out.1] at h1
        exact h1
      clear hn hv hgb
      go_wp2_with fail
      go_quiet (fail)
      have HD : Hid (Row (wr.drewN nq) 5 B (bytesOf (gb (bk Ll Sl s k)) true m) ∧ Bl w (wr.drewN nq)) := ⟨H.out.2.1, H.out.2.2.drewN nq⟩
      generalize wr.drewN nq = wq at HD ⊢
      clear hc1 hc2
      have HA : Hid (A = (bk Ll Sl s k).length) := H.out.1
      clear H
      go_wp2_with fail
      go_loopw [10, 14, 15, 38] (fun a _ _ i wx => ∃ j : Nat, j ≤ n ∧ i = .int .i64 (j : Int) ∧ a = .int .i64 ((A : Int) + (j : Int)) ∧ Hid (Row wx 5 B (bytesOf (gb (bk Ll Sl s k ++ (sgb n v).take j)) true m) ∧ Bl w wx)) (fun _ _ _ i _ => n - (intOf i).toNat)
      case atStart => exact ⟨0, Nat.zero_le _, rfl, by first | rfl | (congr 1; omega), ⟨by rw [List.take_zero, List.append_nil]; exact HD.out.1, HD.out.2⟩⟩
      case round =>
        clear HD
        obtain ⟨j, hj, rfl, rfl, H⟩ := hrel
        by_cases hjn : j < n
        · have hjz : (j : Int) < n := by omega
          have hlen : (bk Ll Sl s k ++ (sgb n v).take j).length = A + j := by rw [List.length_append, List.length_take, sgb_len, ← HA.out]; omega
          have hAj : A + j < 8 * m := by have := HAN.out; omega
          have hrc := H.out.1.cell (j := (A + j) / 8) (by rw [bytesOf_len]; omega)
          have hrf := H.out.1.frozen ((A + j) / 8)
          rw [bytesOf_get _ _ _ _ (by omega)] at hrc
          obtain ⟨x, hx⟩ : ∃ x, x = nb (fun i => gb (bk Ll Sl s k ++ (sgb n v).take j) (at8 true ((A + j) / 8) i)) 8 := ⟨_, rfl⟩
          rw [← hx] at hrc
          have hx8 : x < 256 := by rw [hx]; exact nb_lt _ 8
          have HS : Hid (Row (wr.setCell ⟨B, (A + j) / 8, none⟩ (.int .u8 ((x ||| (v.testBit (n - 1 - j)).toNat * 2 ^ (7 - (A + j) % 8) : Nat) : Int))) 5 B (bytesOf (gb (bk Ll Sl s k ++ (sgb n v).take (j + 1))) true m) ∧ Bl w (wr.setCell ⟨B, (A + j) / 8, none⟩ (.int .u8 ((x ||| (v.testBit (n - 1 - j)).toNat * 2 ^ (7 - (A + j) % 8) : Nat) : Int)))) := by
            exact ⟨row_step H.out.1 hlen hAj x hx (by rw [sgb_take n v j hjn, List.append_assoc]), H.out.2.setCell (by rw [HB.out]; exact Nat.le_refl _) _⟩
          have hbit := i64_bit v (n - 1 - j)
          have hb1 : (v.testBit (n - 1 - j)).toNat ≤ 1 := Bool.toNat_le _
          generalize (v.testBit (n - 1 - j)).toNat = bb at hbit hb1 HS
          have hd8 : ((A : Int) + (j : Int)).tdiv 8 = (((A + j) / 8 : Nat) : Int) := by rw [Int.tdiv_eq_ediv_of_nonneg (by omega)]; omega
          have hr8 : ((A : Int) + (j : Int)).tmod 8 = (((A + j) % 8 : Nat) : Int) := by rw [Int.tmod_eq_emod_of_nonneg (by omega)]; omega
          have hq8 : (((A + j) / 8 : Nat) : Int) < (m : Int) := by omega
          generalize (A + j) / 8 = q at hrc hrf HS hd8 hq8
          have hrr : (A + j) % 8 < 8 := Nat.mod_lt _ (by decide)
          generalize (A + j) % 8 = r at HS hr8 hrr
          have hor := or_val x bb r hx8 hb1 hrr
          have hA2 : A + j ≤ 400000 := by omega
          clear hlen hx hx8 H
          go_wp2_with fail
          go_region
          go_wp2
          go_roundw
          case rel => exact ⟨j + 1, hjn, by first | rfl | go_num | (congr 1; done), by first | (congr 1; omega) | (congr 1; done), ⟨HS.out.1.drew, HS.out.2.drew⟩⟩
          case measure => simp [intOf]; omega
        · have hjz : ¬ (j : Int) < n := by omega
          obtain rfl : j = n := by omega
          have HE : Hid (A + j = (bk Ll Sl s (k + 1)).length ∧ Row wr 5 B (bytesOf (gb (bk Ll Sl s (k + 1))) true m) ∧ Bl w wr) := by
            have h := H.out.1
            rw [List.take_of_length_le (by rw [sgb_len]; exact Nat.le_refl _), ← HBK.out] at h
            exact ⟨by rw [HBK.out, List.length_append, sgb_len, ← HA.out], h, H.out.2⟩
          clear H
          go_wp2
          go_roundw
          case rel => exact ⟨k + 1, A + j, hlt, HAN.out, by first | go_num | (congr 1; done), by first | rfl | (congr 1; done) | (congr 1; omega), HE⟩
          case measure => simp [intOf]; omega
    · have hltz : ¬ (k : Int) < s.size := by omega
      obtain rfl : k = s.size := by omega
      go_wp2
      go_ret
      exact ⟨B, rfl, by rw [HB.out]; exact Nat.le_refl _, H.out.2.1, H.out.2.2⟩
end Go.Proofs.YtkldnapbeebdkaaDoor.hh
