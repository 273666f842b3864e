/- Any sum may be had, by just one text: what fills a register between two. No program. -/
import Derived.Test.YthimjckimggpoaaDoorCrc
import Derived.Laws.Strings
namespace Go.Proofs.YthimjckimggpoaaDoor.crc
open bit Go.RowKit

theorem fw_bw (W P : Nat) (t : Bool) (r c : Nat) (hW : 0 < W) (hP : P < 2 ^ W) (h1 : P % 2 = 1) (hr : r < 2 ^ W) : fw W P t (bw W P t r c) c = r := by
  unfold fw bw
  rw [Nat.xor_assoc, Nat.xor_self, Nat.xor_zero, Z_U W P r 8 hW hP h1 hr]
theorem top_lt' (W x : Nat) (h8 : 8 ≤ W) (hx : x < 256) : x * 2 ^ (W - 8) < 2 ^ W := by
  have h : 256 * 2 ^ (W - 8) = 2 ^ W := by
    rw [show (256 : Nat) = 2 ^ 8 from rfl, ← Nat.pow_add]; congr 1; omega
  have h2 := Nat.two_pow_pos (W - 8)
  rw [← h]
  exact Nat.mul_lt_mul_of_pos_right hx h2
theorem bw_lt (W P : Nat) (t : Bool) (r c : Nat) (h8 : 8 ≤ W) (hP : P < 2 ^ W) (hr : r < 2 ^ W) (hc : c < 256) : bw W P t r c < 2 ^ W :=
  Nat.xor_lt_two_pow (U_lt W P r 8 (by omega) hP hr) (top_lt' W _ h8 (trn8_lt t c hc))
theorem fw_inj (W P : Nat) (t : Bool) (x y c : Nat) (h8 : 8 ≤ W) (hP : P < 2 ^ W) (h1 : P % 2 = 1) (hx : x < 2 ^ W) (hy : y < 2 ^ W) (hc : c < 256) (h : fw W P t x c = fw W P t y c) : x = y := by
  have hq := top_lt' W _ h8 (trn8_lt t c hc)
  have := Z_inj W P _ _ 8 (by omega) hP h1 (Nat.xor_lt_two_pow hx hq) (Nat.xor_lt_two_pow hy hq) h
  rw [Nat.xor_comm, Nat.xor_comm y] at this
  exact xor_cancel _ _ _ this
/-- The register behind k bytes of a text, from byte p on. -/
def G (W P : Nat) (t : Bool) (s : ByteArray) (p x : Nat) : Nat → Nat
  | 0 => x
  | k + 1 => fw W P t (G W P t s p x k) (byteN s (p + k))
theorem G_lt (W P : Nat) (t : Bool) (s : ByteArray) (p x k : Nat) (hx : x < 2 ^ W) : G W P t s p x k < 2 ^ W := by
  cases k with
  | zero => exact hx
  | succ k => exact fw_lt _ _ _ _ _
theorem G_fr (W P : Nat) (t : Bool) (s : ByteArray) (x k : Nat) : G W P t s 0 x k = fr W P t s x k := by
  induction k with
  | zero => rfl
  | succ k ih => rw [G, fr, ih, Nat.zero_add]
theorem G_add (W P : Nat) (t : Bool) (s : ByteArray) (p x j k : Nat) : G W P t s p x (j + k) = G W P t s (p + j) (G W P t s p x j) k := by
  induction k with
  | zero => rfl
  | succ k ih => rw [← Nat.add_assoc, G, ih, G, Nat.add_assoc]
theorem G_congr (W P : Nat) (t : Bool) (s s' : ByteArray) (p p' x k : Nat) (h : ∀ j, j < k → byteN s (p + j) = byteN s' (p' + j)) : G W P t s p x k = G W P t s' p' x k := by
  induction k with
  | zero => rfl
  | succ k ih => rw [G, G, ih (fun j hj => h j (by omega)), h k (by omega)]
theorem G_inj (W P : Nat) (t : Bool) (s : ByteArray) (p x y k : Nat) (h8 : 8 ≤ W) (hP : P < 2 ^ W) (h1 : P % 2 = 1) (hx : x < 2 ^ W) (hy : y < 2 ^ W) (h : G W P t s p x k = G W P t s p y k) : x = y := by
  induction k with
  | zero => exact h
  | succ k ih => exact ih (fw_inj W P t _ _ _ h8 hP h1 (G_lt _ _ _ _ _ _ _ hx) (G_lt _ _ _ _ _ _ _ hy) (byteN_lt _ _) h)
/-- The register ahead of the last j bytes of a text. -/
def bb (W P : Nat) (t : Bool) (s : ByteArray) (r : Nat) : Nat → Nat
  | 0 => r
  | j + 1 => bw W P t (bb W P t s r j) (byteN s (s.size - 1 - j))
theorem bb_lt (W P : Nat) (t : Bool) (s : ByteArray) (r j : Nat) (h8 : 8 ≤ W) (hP : P < 2 ^ W) (hr : r < 2 ^ W) : bb W P t s r j < 2 ^ W := by
  induction j with
  | zero => exact hr
  | succ j ih => exact bw_lt W P t _ _ h8 hP ih (byteN_lt _ _)
theorem G_bb (W P : Nat) (t : Bool) (s : ByteArray) (r j : Nat) (h8 : 8 ≤ W) (hP : P < 2 ^ W) (h1 : P % 2 = 1) (hr : r < 2 ^ W) (hj : j ≤ s.size) : G W P t s (s.size - j) (bb W P t s r j) j = r := by
  induction j with
  | zero => rfl
  | succ j ih =>
    rw [show j + 1 = 1 + j from Nat.add_comm _ _, G_add]
    have e : G W P t s (s.size - (1 + j)) (bb W P t s r (1 + j)) 1 = bb W P t s r j := by
      rw [show 1 + j = j + 1 from Nat.add_comm _ _]
      show fw W P t (bw W P t (bb W P t s r j) (byteN s (s.size - 1 - j))) (byteN s (s.size - (j + 1) + 0)) = _
      rw [show s.size - (j + 1) + 0 = s.size - 1 - j from by omega]
      exact fw_bw W P t _ _ (by omega) hP h1 (bb_lt W P t s r j h8 hP hr)
    rw [e, show s.size - (1 + j) + 1 = s.size - j from by omega]
    exact ih (by omega)
theorem byteN_app (x y : ByteArray) (j : Nat) : byteN (x ++ y) j = if j < x.size then byteN x j else byteN y (j - x.size) := by
  unfold byteN
  have e : (x ++ y).data.toList = x.data.toList ++ y.data.toList := by simp
  have hx : x.data.toList.length = x.size := rfl
  rw [e, List.getD_eq_getElem?_getD, List.getElem?_append, hx]
  split
  · rw [List.getD_eq_getElem?_getD]
  · rw [List.getD_eq_getElem?_getD]
theorem byteN_ext (s : ByteArray) (a b j : Nat) (hj : j < b - a) : byteN (s.extract a b) j = byteN s (a + j) := by
  unfold byteN
  rw [ByteArray.data_extract, Array.toList_extract, List.extract_eq_take_drop, List.getD_eq_getElem?_getD, List.getElem?_take, if_pos hj, List.getElem?_drop, List.getD_eq_getElem?_getD]
/-- A text with another one put in. -/
def put (s b : ByteArray) (at_ : Nat) : ByteArray := s.extract 0 at_ ++ b ++ s.extract at_ s.size
theorem put_size (s b : ByteArray) (a : Nat) (ha : a ≤ s.size) : (put s b a).size = s.size + b.size := by
  unfold put
  simp; omega
theorem put_ahead (s b : ByteArray) (a j : Nat) (ha : a ≤ s.size) (hj : j < a) : byteN (put s b a) j = byteN s j := by
  unfold put
  rw [byteN_app, if_pos (by simp; omega), byteN_app, if_pos (by simp; omega), byteN_ext s 0 a j (by omega), Nat.zero_add]
theorem put_in (s b : ByteArray) (a j : Nat) (ha : a ≤ s.size) (hj : j < b.size) : byteN (put s b a) (a + j) = byteN b j := by
  unfold put
  have h : (s.extract 0 a).size = a := by simp; omega
  rw [byteN_app, if_pos (by simp; omega), byteN_app, if_neg (by rw [h]; omega), h, Nat.add_sub_cancel_left]
theorem put_behind (s b : ByteArray) (a j : Nat) (ha : a ≤ s.size) (hj : j < s.size - a) : byteN (put s b a) (a + b.size + j) = byteN s (a + j) := by
  unfold put
  have h : (s.extract 0 a ++ b).size = a + b.size := by simp; omega
  rw [byteN_app, if_neg (by rw [h]; omega), h, Nat.add_sub_cancel_left, byteN_ext s a s.size j (by omega)]
theorem fr_put (W P : Nat) (t : Bool) (s b : ByteArray) (a I : Nat) (ha : a ≤ s.size) : fr W P t (put s b a) I (put s b a).size = G W P t s a (fr W P t b (fr W P t s I a) b.size) (s.size - a) := by
  rw [put_size s b a ha, ← G_fr, show s.size + b.size = a + b.size + (s.size - a) from by omega, G_add, G_add]
  simp only [Nat.zero_add]
  rw [G_congr W P t (put s b a) s 0 0 I a (fun j hj => by rw [Nat.zero_add]; exact put_ahead s b a j ha hj), G_fr]
  rw [G_congr W P t (put s b a) b a 0 _ b.size (fun j hj => by rw [Nat.zero_add]; exact put_in s b a j ha hj), G_fr]
  exact G_congr W P t (put s b a) s (a + b.size) a _ _ (fun j hj => put_behind s b a j ha hj)
/-- The bytes that fill a register. -/
def fc (W : Nat) (t : Bool) (f : Nat) : ByteArray := strOfNums (fillL (fun i => ((trn t 8 (f / 2 ^ (W - 8 * (i + 1)) % 256) : Nat) : Int)) (W / 8) (W / 8))
theorem fc_size (W : Nat) (t : Bool) (f : Nat) : (fc W t f).size = W / 8 := by rw [fc, strOfNums_size, fillL_len]
theorem fc_byte (W : Nat) (t : Bool) (f i : Nat) (hi : i < W / 8) : byteN (fc W t f) i = trn t 8 (f / 2 ^ (W - 8 * (i + 1)) % 256) := by
  have h := byteN_nums (fillL (fun i => ((trn t 8 (f / 2 ^ (W - 8 * (i + 1)) % 256) : Nat) : Int)) (W / 8) (W / 8)) (fun z hz => by
    simp only [fillL, List.mem_map] at hz
    obtain ⟨j, _, rfl⟩ := hz
    have := trn8_lt t (f / 2 ^ (W - 8 * (j + 1)) % 256) (Nat.mod_lt _ (by decide))
    split <;> omega) i
  have e : (fillL (fun i => ((trn t 8 (f / 2 ^ (W - 8 * (i + 1)) % 256) : Nat) : Int)) (W / 8) (W / 8)).getD i 0 = ((trn t 8 (f / 2 ^ (W - 8 * (i + 1)) % 256) : Nat) : Int) := by
    simp [fillL, List.getD_eq_getElem?_getD, hi]
  rw [e] at h
  unfold fc
  omega
theorem fc_bit (W : Nat) (t : Bool) (f k : Nat) (h8 : 8 ∣ W) (hk : k < W) : tbit (fc W t f) (!t) k = f.testBit (W - 1 - k) := by
  obtain ⟨q, rfl⟩ := h8
  unfold tbit
  rw [fc_byte _ t f _ (by omega)]
  have e : ib (!t) k = ib (!t) (k % 8) := by unfold ib; rw [Nat.mod_mod]
  rw [e, ← trn8_test t _ (k % 8) (Nat.mod_lt _ (by decide)), trn_trn t 8 _ (Nat.mod_lt _ (by decide)), Nat.testBit_mod_two_pow, decide_eq_true (by omega), ← Nat.shiftRight_eq_div_pow, Nat.testBit_shiftRight]
  rw [show 8 * q - 8 * (k / 8 + 1) + (7 - k % 8) = 8 * q - 1 - k from by omega]
  simp
theorem T_fc (W : Nat) (t : Bool) (f : Nat) (h8 : 8 ∣ W) (hf : f < 2 ^ W) : T W (fun i => tbit (fc W t f) (!t) i) W = f := by
  apply Nat.eq_of_testBit_eq
  intro i
  rw [T_test _ _ _ _ (Nat.le_refl _)]
  by_cases hi : i < W
  · rw [decide_eq_true (show i < W ∧ W ≤ i + W by omega), fc_bit W t f _ h8 (by omega), show W - 1 - (W - 1 - i) = i from by omega]
    simp
  · rw [decide_eq_false (by omega), test_ge f W i hf (by omega)]
    rfl
theorem T_lt (W : Nat) (b : Nat → Bool) : T W b W < 2 ^ W := lt_of_test _ _ (fun i hi => by rw [T_test _ _ _ _ (Nat.le_refl _), decide_eq_false (by omega)]; rfl)
/-- What must fill the register for a sum. -/
def fl (W P : Nat) (t : Bool) (I O : Nat) (s : ByteArray) (a want : Nat) : Nat := fr W P t s I a ^^^ U W P (bb W P t s (trn t W (want ^^^ O)) (s.size - a)) W
theorem fl_lt (W P : Nat) (t : Bool) (I O : Nat) (s : ByteArray) (a want : Nat) (h8 : 8 ≤ W) (hP : P < 2 ^ W) (hI : I < 2 ^ W) (hO : O < 2 ^ W) (hw : want < 2 ^ W) : fl W P t I O s a want < 2 ^ W :=
  Nat.xor_lt_two_pow (fr_lt W P t s I a hI) (U_lt W P _ W (by omega) hP (bb_lt W P t s _ _ h8 hP (trn_lt t W _ (Nat.xor_lt_two_pow hw hO))))
/-- A text has a sum just if what is put in is what fills the register. -/
theorem forced (W P : Nat) (t : Bool) (I O : Nat) (s b : ByteArray) (a want : Nat) (h8 : 8 ≤ W) (hd : 8 ∣ W) (hP : P < 2 ^ W) (h1 : P % 2 = 1) (hI : I < 2 ^ W) (hO : O < 2 ^ W) (hw : want < 2 ^ W) (ha : a ≤ s.size) (hb : b.size = W / 8) :
    sumV W P t I O (put s b a) = want ↔ b = fc W t (fl W P t I O s a want) := by
  obtain ⟨x, hx⟩ : ∃ x, x = fr W P t s I a := ⟨_, rfl⟩
  obtain ⟨r, hr⟩ : ∃ r, r = trn t W (want ^^^ O) := ⟨_, rfl⟩
  obtain ⟨y, hy⟩ : ∃ y, y = bb W P t s r (s.size - a) := ⟨_, rfl⟩
  have hxl : x < 2 ^ W := by rw [hx]; exact fr_lt W P t s I a hI
  have hrl : r < 2 ^ W := by rw [hr]; exact trn_lt t W _ (Nat.xor_lt_two_pow hw hO)
  have hyl : y < 2 ^ W := by rw [hy]; exact bb_lt W P t s r _ h8 hP hrl
  have hGy : G W P t s a y (s.size - a) = r := by
    have := G_bb W P t s r (s.size - a) h8 hP h1 hrl (by omega)
    rw [show s.size - (s.size - a) = a from by omega, ← hy] at this
    exact this
  have hbW : 8 * b.size = W := by rw [hb]; omega
  have hfb : fr W P t b x b.size = Z W P (x ^^^ T W (fun i => tbit b (!t) i) W) W := by
    rw [fr_R W P t b x b.size h8, hbW, R_T W P _ _ W (Nat.le_refl _)]
  have hfl : fl W P t I O s a want = x ^^^ U W P y W := by rw [fl, ← hx, ← hr, ← hy]
  have hfll := fl_lt W P t I O s a want h8 hP hI hO hw
  -- the sum is the wanted one just if the register behind b is y
  have s1 : sumV W P t I O (put s b a) = want ↔ fr W P t b x b.size = y := by
    have hl : fr W P t b x b.size < 2 ^ W := fr_lt W P t b x _ hxl
    unfold sumV
    rw [fr_put W P t s b a I ha, ← hx]
    constructor
    · intro h
      have h2 : trn t W (G W P t s a (fr W P t b x b.size) (s.size - a)) = want ^^^ O := by
        rw [← h, Nat.xor_assoc, Nat.xor_self, Nat.xor_zero]
      have h3 : G W P t s a (fr W P t b x b.size) (s.size - a) = r := by
        rw [hr, ← h2, trn_trn t W _ (G_lt _ _ _ _ _ _ _ hl)]
      exact G_inj W P t s a _ _ _ h8 hP h1 hl hyl (by rw [h3, hGy])
    · intro h
      rw [h, hGy, hr, trn_trn t W _ (Nat.xor_lt_two_pow hw hO), Nat.xor_assoc, Nat.xor_self, Nat.xor_zero]
  rw [s1, hfb]
  constructor
  · intro h
    have h2 : x ^^^ T W (fun i => tbit b (!t) i) W = U W P y W := by
      rw [← h, U_Z W P _ W (by omega) hP h1 (Nat.xor_lt_two_pow hxl (T_lt W _))]
    have h3 : T W (fun i => tbit b (!t) i) W = fl W P t I O s a want := by
      rw [hfl, ← h2, ← Nat.xor_assoc, Nat.xor_self, Nat.zero_xor]
    apply bits_ext b _ (!t) (by rw [hb, fc_size])
    intro k hk
    rw [fc_bit W t _ k hd (by omega), ← h3, T_test _ _ _ _ (Nat.le_refl _), decide_eq_true (by omega), show W - 1 - (W - 1 - k) = k from by omega]
    rfl
  · intro h
    rw [h, T_fc W t _ hd hfll, hfl, ← Nat.xor_assoc, Nat.xor_self, Nat.zero_xor, Z_U W P y W (by omega) hP h1 hyl]
end Go.Proofs.YthimjckimggpoaaDoor.crc
