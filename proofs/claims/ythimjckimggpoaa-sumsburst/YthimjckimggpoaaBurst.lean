/- Bits that are turned within 32 in a row: what such a text is, and that the well-known sum tells it. -/
import Derived.Test.YthimjckimggpoaaKeepSum
namespace Go.Proofs.Ythimjckimggpoaa.sums
open Go.ChangeShapes Go.WideShapes Go.ChangeAt Go.RowKit
open mem bit crc two

/-- The bits that are turned, k of 32. -/
def dB (A V k K : Nat) : Bool := decide (A ≤ K ∧ K < A + k) && V.testBit (K - A)
/-- A text's bits, k of 32 of them turned. -/
def tB (s : ByteArray) (A V k K : Nat) : Bool := tbit s false K ^^ dB A V k K
theorem tB_zero (s : ByteArray) (A V : Nat) : tB s A V 0 = fun K => tbit s false K := by
  funext K
  simp only [tB, dB]
  rw [decide_eq_false (by omega)]
  simp
theorem bytesOf_set (g h : Nat → Bool) (o : Bool) (m i : Nat) (z : Int) (hz : z = ((nb (fun j => h (at8 o i j)) 8 : Nat) : Int)) (he : ∀ K, K < 8 * m → K / 8 ≠ i → g K = h K) : (bytesOf g o m).set i z = bytesOf h o m := by
  apply List.ext_getElem
  · simp [bytesOf]
  · intro j h1 h2
    have hj : j < m := by simpa [bytesOf] using h2
    rw [List.getElem_set]
    by_cases e : i = j
    · subst e
      rw [if_pos rfl, hz]
      simp [bytesOf]
    · rw [if_neg e]
      simp only [bytesOf, List.getElem_map, List.getElem_range]
      rw [nb_congr _ (fun q => h (at8 o j q)) 8 (fun q hq => he _ (by unfold at8; split <;> omega) (by rw [at8_div o j q hq]; exact fun x => e x.symm))]
theorem tB_step (s : ByteArray) (A V k K : Nat) : tB s A V (k + 1) K = (tB s A V k K ^^ (decide (K = A + k) && V.testBit k)) := by
  simp only [tB, dB]
  by_cases e : K = A + k
  · subst e
    rw [decide_eq_true (show A ≤ A + k ∧ A + k < A + (k + 1) by omega), decide_eq_false (show ¬ (A ≤ A + k ∧ A + k < A + k) by omega), Nat.add_sub_cancel_left]
    simp
  · rw [decide_eq_false e, show decide (A ≤ K ∧ K < A + (k + 1)) = decide (A ≤ K ∧ K < A + k) from decide_eq_decide.2 (by omega)]
    simp
theorem tB_byte (s : ByteArray) (A V k : Nat) (hV : V.testBit k = true) : nb (fun j => tB s A V k (at8 false ((A + k) / 8) j)) 8 ^^^ 2 ^ ((A + k) % 8) = nb (fun j => tB s A V (k + 1) (at8 false ((A + k) / 8) j)) 8 := by
  apply Nat.eq_of_testBit_eq
  intro j
  rw [Nat.testBit_xor, nb_test, nb_test, test_pow]
  by_cases hj : j < 8
  · rw [decide_eq_true hj, tB_step, hV, show decide (at8 false ((A + k) / 8) j = A + k) = decide (j = (A + k) % 8) from decide_eq_decide.2 (by unfold at8; simp; omega)]
    simp
  · rw [decide_eq_false hj, decide_eq_false (by omega)]
    simp
theorem tB_same (s : ByteArray) (A V k : Nat) (hV : V.testBit k = false) : tB s A V (k + 1) = tB s A V k := by
  funext K
  rw [tB_step, hV]; simp
theorem tB_set (s : ByteArray) (A V k m : Nat) (hV : V.testBit k = true) : (bytesOf (tB s A V k) false m).set ((A + k) / 8) ((nb (fun j => tB s A V k (at8 false ((A + k) / 8) j)) 8 ^^^ 2 ^ ((A + k) % 8) : Nat) : Int) = bytesOf (tB s A V (k + 1)) false m := by
  apply bytesOf_set
  · rw [tB_byte s A V k hV]
  · intro K _ hK
    rw [tB_step, decide_eq_false (show ¬ K = A + k from fun e => hK (by rw [e]))]
    simp
theorem tB_all (s : ByteArray) (A V k m : Nat) (hk : k ≤ 32) (h : k = 32 ∨ 8 * m ≤ A + k) : bytesOf (tB s A V k) false m = bytesOf (tB s A V 32) false m := by
  apply bytesOf_congr
  intro K hK
  simp only [tB, dB]
  rw [show decide (A ≤ K ∧ K < A + k) = decide (A ≤ K ∧ K < A + 32) from decide_eq_decide.2 (by omega)]
/-- A text some of whose bits are turned. -/
def tX (s : ByteArray) (A V : Nat) : ByteArray := strOfNums (bytesOf (tB s A V 32) false s.size)
theorem tX_size (s : ByteArray) (A V : Nat) : (tX s A V).size = s.size := bytesOf_size _ _ _
theorem tX_bit (s : ByteArray) (A V K : Nat) (hK : K < 8 * s.size) : tbit (tX s A V) false K = (tbit s false K ^^ dB A V 32 K) := tbit_bytesOf _ false s.size K hK
theorem T_none (W : Nat) (b : Nat → Bool) (k : Nat) (hk : k ≤ W) (h : T W b k = 0) (i : Nat) (hi : i < k) : b i = false := by
  have e := T_test W b k (W - 1 - i) hk
  rw [h, Nat.zero_testBit, decide_eq_true (show W - 1 - i < W ∧ W ≤ W - 1 - i + k by omega), show W - 1 - (W - 1 - i) = i from by omega] at e
  simpa using e.symm
theorem R_none (W P : Nat) (b : Nat → Bool) (k : Nat) (h : ∀ i, i < k → b i = false) : R W P b 0 k = 0 := by
  rw [R_congr W P b (fun _ => false) 0 k h, R_zero, Z_zero]
/-- Bits within W in a row leave 0 only where none is there. -/
theorem burst (W P : Nat) (b : Nat → Bool) (A n : Nat) (hW : 0 < W) (hP : P < 2 ^ W) (h1 : P % 2 = 1) (hA : A ≤ n) (hb : ∀ K, K < n → (K < A ∨ A + W ≤ K) → b K = false) (h : R W P b 0 n = 0) : ∀ K, K < n → b K = false := by
  obtain ⟨k, rfl⟩ : ∃ k, n = A + k := ⟨n - A, by omega⟩
  rw [R_add, R_none W P b A (fun i hi => hb i (by omega) (by omega))] at h
  have h0 : (0 : Nat) < 2 ^ W := Nat.two_pow_pos W
  have hT : ∀ j, j ≤ W → R W P (fun i => b (A + i)) 0 j = 0 → T W (fun i => b (A + i)) j = 0 := by
    intro j hj e
    rw [R_T W P _ _ j hj, Nat.zero_xor] at e
    have ht : T W (fun i => b (A + i)) j < 2 ^ W := lt_of_test _ _ (fun i hi => by rw [T_test _ _ _ _ hj, decide_eq_false (by omega)]; rfl)
    exact Z_inj W P _ 0 j hW hP h1 ht h0 (by rw [e, Z_zero])
  intro K hK
  by_cases hKA : K < A ∨ A + W ≤ K
  · exact hb K hK hKA
  · by_cases hk : k ≤ W
    · have := T_none W _ k hk (hT k hk h) (K - A) (by omega)
      simpa [show A + (K - A) = K from by omega] using this
    · obtain ⟨d, rfl⟩ : ∃ d, k = W + d := ⟨k - W, by omega⟩
      rw [R_add, R_congr W P _ (fun _ => false) _ d (fun i hi => hb _ (by omega) (by omega)), R_zero] at h
      have h2 := Z_inj W P _ 0 d hW hP h1 (R_lt W P _ 0 W h0) h0 (by rw [h, Z_zero])
      have := T_none W _ W (Nat.le_refl _) (hT W (Nat.le_refl _) h2) (K - A) (by omega)
      simpa [show A + (K - A) = K from by omega] using this
theorem crc_tells (s : ByteArray) (A V : Nat) (hA : A ≤ 8 * s.size) : crcV (tX s A V) = crcV s ↔ tX s A V = s := by
  refine ⟨fun h => ?_, fun h => by rw [h]⟩
  have hr := rtC
  unfold crcV sumV at h
  have h1 : fr 32 79764919 true (tX s A V) 4294967295 s.size = fr 32 79764919 true s 4294967295 s.size := by
    rw [tX_size, Nat.xor_comm, Nat.xor_comm (trn true 32 (fr 32 79764919 true s 4294967295 s.size))] at h
    exact trn_inj true 32 _ _ (fr_lt _ _ _ _ _ _ hr.i) (fr_lt _ _ _ _ _ _ hr.i) (xor_cancel _ _ _ h)
  rw [fr_R _ _ _ _ _ _ (by decide), fr_R _ _ _ _ _ _ (by decide), R_congr 32 _ (fun i => tbit (tX s A V) (!true) i) (fun i => tbit s false i ^^ dB A V 32 i) _ _ (fun i hi => tX_bit s A V i hi)] at h1
  have h2 := R_xor 32 79764919 (fun i => tbit s false i) (dB A V 32) 4294967295 0 (8 * s.size)
  rw [Nat.xor_zero] at h2
  rw [h2] at h1
  have h3 : R 32 79764919 (dB A V 32) 0 (8 * s.size) = 0 := by
    apply xor_cancel (R 32 79764919 (fun i => tbit s false i) 4294967295 (8 * s.size))
    rw [Nat.xor_zero]
    exact h1
  have h4 := burst 32 79764919 (dB A V 32) A (8 * s.size) (by decide) hr.p hr.odd hA (fun K _ hK => by unfold dB; rw [decide_eq_false (by omega)]; rfl) h3
  apply bits_ext _ _ false (tX_size s A V)
  intro K hK
  rw [tX_size] at hK
  rw [tX_bit s A V K hK, h4 K hK]
  simp
theorem isEmpty_at (s : ByteArray) : s.toList.isEmpty = decide (s.size = 0) := by
  rw [ByteArray.toList_eq]
  have e : s.size = s.data.toList.length := rfl
  rw [e]
  cases s.data.toList <;> simp
theorem bit_u32 (V k : Nat) (hV : V < 4294967296) : bits .and .u32 ((V : Int) / 2 ^ k) 1 = (((V.testBit k).toNat : Nat) : Int) := by
  have e : ((V : Int) / 2 ^ k) = ((V / 2 ^ k : Nat) : Int) := by rw [Int.natCast_ediv, p2]
  have hlt : V / 2 ^ k < 4294967296 := Nat.lt_of_le_of_lt (Nat.div_le_self _ _) hV
  have := u32_and_nat (V / 2 ^ k) 1 hlt (by decide)
  rw [show ((1 : Nat) : Int) = 1 from rfl] at this
  rw [e, this, nat_mask1, bit_nat]
theorem xor_pow8 (x p : Nat) (hx : x < 2 ^ 8) (hp : p < 8) : bits .xor .u8 (x : Int) ((2 : Int) ^ p % 256) = ((x ^^^ 2 ^ p : Nat) : Int) := by
  have h : 2 ^ p ≤ 2 ^ 7 := Nat.pow_le_pow_right (by decide) (by omega)
  have h' : 2 ^ p < 256 := Nat.lt_of_le_of_lt h (by decide)
  rw [← p2]
  generalize (2 : Nat) ^ p = Q at h' ⊢
  rw [show ((Q : Int) % 256) = (Q : Int) by omega]
  exact u8_xor_nat _ _ hx h'
theorem turned_none (s : ByteArray) (a : Int) (V : Nat) (w : World) (hs : s.size = 0) :
    Calls Try.prog 14 #[.string s, .int .i64 a, .int .u32 V] w fun e w' => e = .returned (.string s) ∧ w' = w := by
  have hne : s.toList.isEmpty = true := by rw [isEmpty_at]; exact decide_eq_true hs
  go_enter Try.func14, Try.ntmps14
  go_wp2
  go_ret
  exact ⟨rfl, rfl⟩
theorem turned_keep (s : ByteArray) (a : Int) (A V : Nat) (w : World) (hA : pickB a (8 * (s.size : Int)) = A) (hA8 : A < 8 * s.size) (hs : s.size ≤ 200) (hV : V < 4294967296) :
    Calls Try.prog 14 #[.string s, .int .i64 a, .int .u32 V] w fun e w' => e = .returned (.string (tX s A V)) ∧ Bl w w' := by
  have hne : s.toList.isEmpty = false := by rw [isEmpty_at]; exact decide_eq_false (by omega)
  have hpk : ∀ w, Calls Try.prog 16 #[.int .i64 a, .int .i64 (8 * (s.size : Int))] w fun e w' => e = .returned (.int .i64 (A : Int)) ∧ w' = w := fun w => by
    have := pick_any a (8 * (s.size : Int)) w (by omega) (by omega)
    rw [hA] at this; exact this
  clear hA
  have hcv := fun w => run_bytes_of_string (P := Try.prog) w 9 50 5 s Try.underlying9 Try.underlying50 Try.underlying5
  go_enter Try.func14, Try.ntmps14
  go_wp2_with (go_at_call 16; refine (hpk _).mono ?_; rintro e w1 ⟨rfl, rfl⟩)
  go_loopw [8] (fun i wr => ∃ k : Nat, k ≤ 32 ∧ A + k ≤ 8 * s.size ∧ i = .int .i64 (k : Int) ∧ Rw wr 5 w.heap.size (bytesOf (tB s A V k) false s.size) ∧ Bl w wr) (fun i _ => 32 - (intOf i).toNat)
  case atStart => exact ⟨0, Nat.zero_le _, by omega, rfl, by rw [tB_zero, ← bytes_self]; exact (Rw.of_text _ _ _ _), ((Bl.refl _).drew.alloc _)⟩
  case round =>
    obtain ⟨k, hk, hAk, rfl, hrow, hbl⟩ := hrel
    by_cases hend : k = 32 ∨ 8 * s.size ≤ A + k
    · have htx := hrow.text (P := Try.prog) Try.underlying50 Try.underlying5 Try.underlying9 s.size (grownCap w s.size 0 5) (bytesOf_len _ _ _)
      rw [tB_all s A V k s.size hk hend] at htx
      go_wp2
      all_goals go_ret
      all_goals exact ⟨rfl, hbl⟩
    · have hi : (A + k) / 8 < s.size := by omega
      have hc := hrow.cell (j := (A + k) / 8) (by rw [bytesOf_len]; exact hi)
      have hf := hrow.frozen (j := (A + k) / 8) (by rw [bytesOf_len]; exact hi)
      rw [bytesOf_get _ _ _ _ hi] at hc
      have hb := bit_u32 V k hV
      cases hv : V.testBit k
      · rw [hv] at hb
        have hb' : bits .and .u32 ((V : Int) / 2 ^ k) 1 = 0 := hb
        have HV : Hid (V.testBit k = false) := hv
        clear hb hv
        go_wp2
        go_roundw
        case rel => exact ⟨k + 1, by omega, by omega, by go_num, by rw [tB_same s A V k HV.out]; exact hrow, hbl⟩
        case measure => simp [intOf]; omega
      · rw [hv] at hb
        have hb' : bits .and .u32 ((V : Int) / 2 ^ k) 1 = 1 := hb
        have HV : Hid (V.testBit k = true) := hv
        clear hb hv
        have q0 : IntKind.i64.wrap ((A : Int) + (k : Int)) = (A : Int) + (k : Int) := wrap_i _ (by omega) (by omega)
        have q1 : IntKind.i64.wrap (((A : Int) + (k : Int)).tdiv 8) = (((A + k) / 8 : Nat) : Int) := by
          rw [Int.tdiv_eq_ediv_of_nonneg (by omega), wrap_i _ (by omega) (by omega)]; omega
        have q2 : IntKind.i64.wrap (((A : Int) + (k : Int)).tmod 8) = (((A + k) % 8 : Nat) : Int) := by
          rw [Int.tmod_eq_emod_of_nonneg (by omega), wrap_i _ (by omega) (by omega)]; omega
        go_wp2
        go_region
        go_wp2
        go_roundw
        case rel => exact ⟨k + 1, by omega, by omega, by go_num, by rw [xor_pow8 _ _ (nb_lt _ 8) (Nat.mod_lt _ (by decide)), ← tB_set s A V k s.size HV.out]; exact (hrow.set _ _ (by rw [bytesOf_len]; exact hi)).drew, (hbl.setCell (Nat.le_refl _) _).drew⟩
        case measure => simp [intOf]; omega
end Go.Proofs.Ythimjckimggpoaa.sums
