/- Texts laid together: Hi5, Hi6. -/
import Derived.Test.YtkldnapbeebdkaaDoorZ21
import Derived.Test.YtkldnapbeebdkaaDoorZ20
/- What Pack writes is read as it was written. -/
namespace Go.Proofs.YtkldnapbeebdkaaDoor.hi
set_option linter.unusedVariables false
open mem rows bit hf hg hh hfp
theorem mf_cases (D S : List Int) (n v : Int) : ∀ k, (mf D S k n v = none ∧ ∀ i, i < k → ¬ (0 < D.getD i 0 ∧ n = D.getD i 0 ∧ v = S.getD i 0)) ∨ ∃ i : Nat, mf D S k n v = some (i : Int) ∧ i < k ∧ 0 < D.getD i 0 ∧ n = D.getD i 0 ∧ v = S.getD i 0
  | 0 => Or.inl ⟨rfl, fun i h => by omega⟩
  | k + 1 => by
    by_cases h : 0 < D.getD k 0 ∧ n = D.getD k 0 ∧ v = S.getD k 0
    · right
      exact ⟨k, by rw [mf, if_pos h], by omega, h⟩
    · rw [mf, if_neg h]
      rcases mf_cases D S n v k with ⟨h1, h2⟩ | ⟨i, h1, h2, h3⟩
      · left
        refine ⟨h1, fun i hi => ?_⟩
        by_cases e : i = k
        · rw [e]; exact h
        · exact h2 i (by omega)
      · right
        exact ⟨i, h1, by omega, h3⟩
theorem sb_extract (p : ByteArray) (a b j : Nat) (hb : b ≤ p.size) (h : a + j < b) : sb (p.extract a b) j = sb p (a + j) := by
  have h1 : j < (p.extract a b).size := by rw [ByteArray.size_extract]; omega
  rw [sb_get _ j h1, sb_get p (a + j) (by omega), ByteArray.getElem_extract]
theorem sb_nums (zs : List Int) (h : ∀ z ∈ zs, 0 ≤ z ∧ z < 256) (j : Nat) : sb (strOfNums zs) j = zs.getD j 0 := byteN_nums zs h j
theorem ct_pos (s : ByteArray) (c : Int) : ∀ k j, j < k → sb s j = c → 0 < ct s c k
  | 0, j, h, _ => by omega
  | k + 1, j, h, e => by
    rw [ct]
    by_cases hj : j = k
    · subst hj; rw [if_pos e]; omega
    · have := ct_pos s c k j (by omega) e; omega
/-- The bytes that Pack writes are bytes. -/
theorem packL_bd {s : ByteArray} (hs : s.size ≤ 4000) : ∀ z ∈ packL s, 0 ≤ z ∧ z < 256 := by
  intro z hz
  unfold packL at hz
  simp only [List.mem_append] at hz
  rcases hz with (hz | hz) | hz
  · obtain ⟨i, hi, rfl⟩ := List.mem_iff_getElem.1 hz
    have hl := lensT_len hs
    have := (lensT_facts hs).1 i (by omega)
    rw [List.getD_eq_getElem?_getD, List.getElem?_eq_getElem hi] at this
    simp at this
    omega
  · simp at hz
    omega
  · exact bytesOf_bd _ _ _ z hz
def bits (s : ByteArray) : List Bool := bk (lensT s) (signsT s) s s.size
theorem packL_len {s : ByteArray} (hs : s.size ≤ 4000) : (packL s).length = 259 + ((bits s).length + 7) / 8 := by
  unfold packL bits
  rw [List.length_append, List.length_append, lensT_len hs, bytesOf_len]
  rfl
theorem packT_size {s : ByteArray} (hs : s.size ≤ 4000) : (packT s).size = 259 + ((bits s).length + 7) / 8 := by
  unfold packT
  rw [strOfNums_size, packL_len hs]
theorem packT_lens {s : ByteArray} (hs : s.size ≤ 4000) (i : Nat) (hi : i < 256) : sb (packT s) i = (lensT s).getD i 0 := by
  have hl := lensT_len hs
  unfold packT
  rw [sb_nums _ (packL_bd hs)]
  unfold packL
  simp only [List.getD_eq_getElem?_getD]
  rw [List.append_assoc, List.getElem?_append_left (by omega)]
theorem packT_num {s : ByteArray} (hs : s.size ≤ 4000) (i : Nat) (hi : i < 3) : sb (packT s) (256 + i) = [((s.size / 65536 % 256 : Nat) : Int), ((s.size / 256 % 256 : Nat) : Int), ((s.size % 256 : Nat) : Int)].getD i 0 := by
  have hl := lensT_len hs
  unfold packT
  rw [sb_nums _ (packL_bd hs)]
  unfold packL
  simp only [List.getD_eq_getElem?_getD]
  rw [List.append_assoc, List.getElem?_append_right (by omega), hl, show 256 + i - 256 = i by omega, List.getElem?_append_left (by simp; omega)]
theorem packT_bits {s : ByteArray} (hs : s.size ≤ 4000) (i : Nat) : sb (packT s) (259 + i) = (bytesOf (gb (bits s)) true (((bits s).length + 7) / 8)).getD i 0 := by
  have hl := lensT_len hs
  unfold packT
  rw [sb_nums _ (packL_bd hs)]
  unfold packL bits
  simp only [List.getD_eq_getElem?_getD]
  rw [List.append_assoc, List.getElem?_append_right (by omega), hl, show 259 + i - 256 = i + 3 by omega, List.getElem?_append_right (by simp)]
  simp
/-- The lengths, as they are read. -/
theorem lens_read {s : ByteArray} (hs : s.size ≤ 4000) : bl ((packT s).extract 0 256) 256 256 = lensT s := by
  have hz := packT_size hs
  apply List.ext_getElem
  · rw [bl_len, lensT_len hs]
  · intro i h1 h2
    rw [bl_len] at h1
    have e1 := bl_get ((packT s).extract 0 256) 256 i h1
    rw [sb_extract _ 0 256 i (by omega) (by omega), Nat.zero_add, packT_lens hs i h1] at e1
    rw [List.getD_eq_getElem?_getD, List.getD_eq_getElem?_getD, List.getElem?_eq_getElem h2, List.getElem?_eq_getElem (by rw [bl_len]; exact h1)] at e1
    exact e1
theorem text_read {s : ByteArray} (hs : s.size ≤ 4000) : (packT s).extract 259 (packT s).size = strOfNums (bytesOf (gb (bits s)) true (((bits s).length + 7) / 8)) := by
  have hz := packT_size hs
  refine text_ext _ _ ?_ fun j hj => ?_
  · rw [ByteArray.size_extract, bytesOf_size]; omega
  · rw [ByteArray.size_extract] at hj
    have e1 := sb_extract (packT s) 259 (packT s).size j (Nat.le_refl _) (by omega)
    rw [packT_bits hs, ← sb_nums _ (bytesOf_bd _ _ _)] at e1
    exact Int.ofNat_inj.1 e1
/-- The number of the first j of n bits. -/
theorem nb_part (v n j : Nat) (hj : j ≤ n) (hv : v < 2 ^ n) : nb (fun i => v.testBit (n - j + i)) j = v / 2 ^ (n - j) := by
  have h1 := nb_self (v / 2 ^ (n - j)) j
  have h2 : v / 2 ^ (n - j) < 2 ^ j := by
    rw [Nat.div_lt_iff_lt_mul (Nat.pow_pos (by decide)), ← Nat.pow_add, show j + (n - j) = n by omega]
    exact hv
  rw [Nat.mod_eq_of_lt h2] at h1
  rw [← h1]
  refine nb_congr _ _ _ fun i hi => ?_
  rw [Nat.testBit_div_two_pow, Nat.add_comm]
theorem bk_more (L S : List Int) (s : ByteArray) (k : Nat) : ∀ d, ∃ r, bk L S s (k + d) = bk L S s k ++ r
  | 0 => ⟨[], by simp⟩
  | d + 1 => by
    obtain ⟨r, hr⟩ := bk_more L S s k d
    rw [← Nat.add_assoc, bk_succ, hr]
    exact ⟨_, List.append_assoc _ _ _⟩
/-- The bits of the sign of byte k. -/
theorem bit_is {s : ByteArray} {k i : Nat} (hk : k < s.size) (hi : i < Lc (lensT s) (sb s k).toNat) :
    gb (bits s) ((bk (lensT s) (signsT s) s k).length + i) = (Lc (signsT s) (sb s k).toNat).testBit (Lc (lensT s) (sb s k).toNat - 1 - i) ∧ (bk (lensT s) (signsT s) s k).length + i < (bits s).length := by
  obtain ⟨r, hr⟩ := bk_more (lensT s) (signsT s) s (k + 1) (s.size - (k + 1))
  rw [show k + 1 + (s.size - (k + 1)) = s.size by omega, bk_succ, List.append_assoc] at hr
  unfold bits gb
  rw [hr]
  constructor
  · rw [List.getD_eq_getElem?_getD, List.getElem?_append_right (by omega), Nat.add_sub_cancel_left, List.getElem?_append_left (by rw [sgb_len]; exact hi)]
    unfold sgb
    rw [List.getElem?_map, List.getElem?_range hi]
    rfl
  · simp only [List.length_append, sgb_len]
    omega
theorem sgn_low {l : List Int} {n x : Nat} (hok : okS l n) (ht : tk l n ≤ 16777216) (hx : x < n) (ha : 0 < l.getD x 0) : sgn l n x < 2 ^ (l.getD x 0).toNat := by
  obtain ⟨a, hA⟩ : ∃ a : Nat, l.getD x 0 = ((a + 1 : Nat) : Int) := ⟨(l.getD x 0).toNat - 1, by omega⟩
  have hxo := hok x hx
  have ex : sgn l n x = ((2 * E l n a + cnt l (a + 1) x : Nat) : Int) := by unfold sgn; rw [if_pos ha, hA]; rfl
  have hE := E_le (l := l) (n := n) (m := a + 1) (by omega) ht
  have h1 : 2 * E l n a + cnt l (a + 1) x + 1 ≤ E l n (a + 1) := by
    rw [E]
    have := cnt_lt (l := l) (m := a + 1) hx hA
    omega
  rw [ex, hA, Int.toNat_natCast]
  exact_mod_cast (by omega : 2 * E l n a + cnt l (a + 1) x < 2 ^ (a + 1))
theorem signs_get {l : List Int} {n x : Nat} (hl : l.length = n) (hx : x < n) : (signsOf l).getD x 0 = sgn l n x := by
  subst hl
  unfold signsOf
  rw [List.getD_eq_getElem?_getD, List.getElem?_map, List.getElem?_range hx]
  rfl
theorem nm_is {q : ByteArray} {A n v j : Nat} (hj : j ≤ n) (hv : v < 2 ^ n) (hB : ∀ i, i < n → tbit q true (A + i) = v.testBit (n - 1 - i)) : nm q A j = ((v / 2 ^ (n - j) : Nat) : Int) := by
  have e : gN (fun i => tbit q true (A + i)) j true = v / 2 ^ (n - j) := by
    rw [← nb_part v n j hj hv]
    unfold gN
    refine nb_congr _ _ _ fun i hi => ?_
    have hp : pl j true i = j - 1 - i := by simp [pl]
    simp only [hp]
    rw [hB _ (by omega)]
    congr 1
    omega
  unfold nm
  rw [e]
/-- The sign of byte k begins at its bit, and no other one. -/
theorem sign_at {s q : ByteArray} (hs : s.size ≤ 4000) (hq : q = strOfNums (bytesOf (gb (bits s)) true (((bits s).length + 7) / 8))) {k : Nat} (hk : k < s.size) :
    FS (mf (lensT s) (signsT s) 256) q (bk (lensT s) (signsT s) s k).length (Lc (lensT s) (sb s k).toNat) (sb s k) := by
  obtain ⟨c, hc⟩ : ∃ c, c = (sb s k).toNat := ⟨_, rfl⟩
  have hsb := sb_bd s k
  have hcb : c < 256 := by omega
  have hcs : sb s k = (c : Int) := by omega
  obtain ⟨A, hA⟩ : ∃ A, A = (bk (lensT s) (signsT s) s k).length := ⟨_, rfl⟩
  have hB := fun i hi => bit_is (s := s) (k := k) (i := i) hk hi
  rw [← hc, ← hA] at hB
  rw [← hc, ← hA, hcs]
  obtain ⟨hf1, _⟩ := lensT_facts hs
  obtain ⟨hok, htk⟩ := lensT_signs hs
  have hpos : 0 < (lensT s).getD c 0 := by
    rw [(hf1 c hcb).2.2]
    have e : (cntL s s.size).getD c 0 = (ct s (c : Int) s.size : Int) := cntN_get s 256 s.size c hcb
    have := ct_pos s (c : Int) s.size k hk hcs
    omega
  have h17 := (hf1 c hcb).2.1
  obtain ⟨n, hn⟩ : ∃ n, n = Lc (lensT s) c := ⟨_, rfl⟩
  have hnz : (lensT s).getD c 0 = (n : Int) := by rw [hn]; unfold Lc; omega
  have sg : ∀ x, x < 256 → (signsT s).getD x 0 = sgn (lensT s) 256 x := fun x hx => signs_get (lensT_len hs) hx
  obtain ⟨v, hv⟩ : ∃ v, v = Lc (signsT s) c := ⟨_, rfl⟩
  have hv0 := sgn_lt hok htk hcb
  have hvz : sgn (lensT s) 256 c = (v : Int) := by rw [hv]; unfold Lc; rw [sg c hcb]; omega
  have hvlt : v < 2 ^ n := by
    have h := sgn_low hok htk hcb hpos
    rw [hvz, hnz, Int.toNat_natCast] at h
    exact_mod_cast h
  rw [← hn, ← hv] at hB
  rw [← hn]
  have hn1 : 1 ≤ n := by omega
  have hn2 : n ≤ 17 := by omega
  have hlen := (hB (n - 1) (by omega)).2
  have hqs : q.size = ((bits s).length + 7) / 8 := by rw [hq, bytesOf_size]
  have hnm : ∀ j, j ≤ n → nm q A j = ((v / 2 ^ (n - j) : Nat) : Int) := fun j hj => nm_is hj hvlt fun i hi => by
    rw [hq, tbit_bytesOf _ _ _ _ (by have := (hB i hi).2; omega), (hB i hi).1]
  refine ⟨hn1, by omega, by omega, fun m h1 h2 h3 => ?_, ?_⟩
  · rw [hnm m (by omega)]
    rcases mf_cases (lensT s) (signsT s) (m : Int) ((v / 2 ^ (n - m) : Nat) : Int) 256 with h | ⟨i, _, hi, hi0, hi1, hi2⟩
    · exact h.1
    · exfalso
      have hne : i ≠ c := fun e => by rw [e, hnz] at hi1; omega
      have := (sgn_apart hok htk hi hcb hne hi0 (by rw [← hi1, hnz]; omega)).2.2.1
      rw [hvz, hnz, ← hi1, ← sg i hi, ← hi2, Int.toNat_natCast, Int.toNat_natCast] at this
      exact this (by simp)
  · rw [hnm n (Nat.le_refl _), Nat.sub_self, Nat.pow_zero, Nat.div_one]
    rcases mf_cases (lensT s) (signsT s) (n : Int) (v : Int) 256 with h | ⟨i, h0, hi, hi0, hi1, hi2⟩
    · exact absurd ⟨hpos, hnz.symm, by rw [sg c hcb, hvz]⟩ (h.2 c hcb)
    · rw [h0]
      by_cases hne : i = c
      · rw [hne]
      · exfalso
        have := (sgn_apart hok htk hi hcb hne hi0 (by rw [← hi1, hnz]; omega)).2.2.1
        rw [hvz, hnz, ← hi1, ← sg i hi, ← hi2, Nat.sub_self, Int.pow_zero, Int.ediv_one] at this
        exact this rfl
/-- The bytes that are read are the text's. -/
theorem way_is {s q : ByteArray} (hs : s.size ≤ 4000) (hq : q = strOfNums (bytesOf (gb (bits s)) true (((bits s).length + 7) / 8))) : ∀ k zs A, k ≤ s.size → Way (mf (lensT s) (signsT s) 256) q k zs A → zs = (List.range k).map (sb s) ∧ A = (bk (lensT s) (signsT s) s k).length
  | 0, zs, A, _, h => h
  | k + 1, zs, A, hk, h => by
    obtain ⟨zs', A', n, x, h1, h2, rfl, rfl⟩ := h
    obtain ⟨rfl, rfl⟩ := way_is hs hq k zs' A' (by omega) h1
    obtain ⟨rfl, rfl⟩ := h2.same (sign_at hs hq (by omega))
    rw [List.range_succ, List.map_append, bk_succ, List.length_append, sgb_len]
    exact ⟨rfl, rfl⟩
theorem way_text (s : ByteArray) : strOfNums ((List.range s.size).map (sb s)) = s := by
  refine text_ext _ _ (by rw [strOfNums_size, List.length_map, List.length_range]) fun j hj => ?_
  rw [strOfNums_size, List.length_map, List.length_range] at hj
  have hbd : ∀ z ∈ (List.range s.size).map (sb s), 0 ≤ z ∧ z < 256 := fun z hz => by
    obtain ⟨i, _, rfl⟩ := List.mem_map.1 hz
    exact sb_bd s i
  have e := sb_nums _ hbd j
  rw [List.getD_eq_getElem?_getD, List.getElem?_map, List.getElem?_range hj] at e
  exact Int.ofNat_inj.1 e
/-- Why there is nothing to be read. -/
def Why (p : ByteArray) : Prop :=
  p.size < 259 ∨ ¬ (okS (bl (p.extract 0 256) 256 256) 256 ∧ tk (bl (p.extract 0 256) 256 256) 256 ≤ 16777216) ∨
  ∃ n : Nat, (n : Int) = sb p 256 * 65536 + sb p 257 * 256 + sb p 258 ∧
    (4000 < n ∨ (∃ k zs A, k < n ∧ Way (mf (bl (p.extract 0 256) 256 256) (signsOf (bl (p.extract 0 256) 256 256)) 256) (p.extract 259 p.size) k zs A ∧ NoS (mf (bl (p.extract 0 256) 256 256) (signsOf (bl (p.extract 0 256) 256 256)) 256) (p.extract 259 p.size) A 24) ∨
     (∃ zs A, Way (mf (bl (p.extract 0 256) 256 256) (signsOf (bl (p.extract 0 256) 256 256)) 256) (p.extract 259 p.size) n zs A ∧ packT (strOfNums zs) ≠ p))
theorem why_not {s : ByteArray} (hs : s.size ≤ 4000) : ¬ Why (packT s) := by
  have hz := packT_size hs
  unfold Why
  rw [lens_read hs, text_read hs]
  rintro (h | h | ⟨n, hn, h⟩)
  · omega
  · exact h (lensT_signs hs)
  · have e0 := packT_num hs 0 (by omega)
    have e1 := packT_num hs 1 (by omega)
    have e2 := packT_num hs 2 (by omega)
    simp at e0 e1 e2
    obtain rfl : n = s.size := by omega
    rcases h with h | ⟨k, zs, A, hk, h1, h2⟩ | ⟨zs, A, h1, h2⟩
    · omega
    · obtain ⟨_, rfl⟩ := way_is hs rfl k zs A (by omega) h1
      exact (sign_at hs rfl hk).no h2
    · obtain ⟨rfl, _⟩ := way_is hs rfl s.size zs A (Nat.le_refl _) h1
      exact h2 (by rw [way_text])
end Go.Proofs.YtkldnapbeebdkaaDoor.hi
/- The text that Pack writes just so. -/
namespace Go.Proofs.YtkldnapbeebdkaaDoor.hi
set_option linter.unusedVariables false
open Go.ChangeShapes Go.WideShapes Go.ChangeAt Go.RowKit Go.Maps
open mem rows hg hh bit bitw
theorem bits_len {s : ByteArray} (hs : s.size ≤ 4000) : (bits s).length ≤ 68000 := by
  have h := bits_bd (s := s) (D := lensT s) (S := signsT s) (M := 17) (fun c hc => by have := ((lensT_facts hs).1 c hc).2.1; omega) s.size
  unfold bits
  omega
/-- All of a text is read. -/
theorem way_has {s q : ByteArray} (hs : s.size ≤ 4000) (hq : q = strOfNums (bytesOf (gb (bits s)) true (((bits s).length + 7) / 8))) : ∀ k, k ≤ s.size → Way (mf (lensT s) (signsT s) 256) q k ((List.range k).map (sb s)) (bk (lensT s) (signsT s) s k).length
  | 0, _ => ⟨rfl, rfl⟩
  | k + 1, hk => by
    refine ⟨_, _, _, _, way_has hs hq k (by omega), sign_at hs hq (by omega), ?_, ?_⟩
    · rw [List.range_succ, List.map_append]; rfl
    · rw [bk_succ, List.length_append, sgb_len]
theorem packT_inj {s t : ByteArray} (hs : s.size ≤ 4000) (ht : t.size ≤ 4000) (h : packT s = packT t) : s = t := by
  have e0 := packT_num hs 0 (by omega)
  have e1 := packT_num hs 1 (by omega)
  have e2 := packT_num hs 2 (by omega)
  have f0 := packT_num ht 0 (by omega)
  have f1 := packT_num ht 1 (by omega)
  have f2 := packT_num ht 2 (by omega)
  rw [h] at e0 e1 e2
  rw [e0] at f0
  rw [e1] at f1
  rw [e2] at f2
  simp at f0 f1 f2
  have hz : s.size = t.size := by omega
  have hl := lens_read hs
  rw [h, lens_read ht] at hl
  have hq := text_read hs
  rw [h, text_read ht] at hq
  have hS : signsT s = signsT t := by unfold signsT; rw [hl]
  have hw := way_has hs rfl s.size (Nat.le_refl _)
  rw [← hl, hS, ← hq] at hw
  have := (way_is ht rfl s.size _ _ (by omega) hw).1
  rw [← way_text s, this, hz, way_text t]
theorem i64_or_nat (X Y : Nat) (hX : X < 16777216) (hY : Y < 16777216) : Go.bits .or .i64 (X : Int) (Y : Int) = ((X ||| Y : Nat) : Int) := by
  have h1 : (BitVec.ofInt 64 (X : Int)).toNat = X := by rw [BitVec.toNat_ofInt]; omega
  have h2 : (BitVec.ofInt 64 (Y : Int)).toNat = Y := by rw [BitVec.toNat_ofInt]; omega
  have h3 : X ||| Y < 2 ^ 24 := Nat.or_lt_two_pow (by omega) (by omega)
  have h4 : (2 : Nat) ^ 24 = 16777216 := by decide
  show IntKind.i64.wrap ((BitVec.ofInt 64 (X : Int) ||| BitVec.ofInt 64 (Y : Int)).toNat : Nat) = _
  rw [BitVec.toNat_or, h1, h2, IntKind.wrap_i64]
  omega
theorem or3 (a b c : Nat) (ha : a < 256) (hb : b < 256) (hc : c < 256) :
    Go.bits .or .i64 (Go.bits .or .i64 ((a : Int) * 65536) ((b : Int) * 256)) (c : Int) = ((a * 65536 + b * 256 + c : Nat) : Int) := by
  have e1 : (a : Int) * 65536 = ((a * 65536 : Nat) : Int) := by omega
  have e2 : (b : Int) * 256 = ((b * 256 : Nat) : Int) := by omega
  have f1 : a * 65536 ||| b * 256 = (a * 256 + b) * 256 := by
    have := Nat.shiftLeft_add_eq_or_of_lt (i := 16) (b := b * 256) (by omega) a
    rw [Nat.shiftLeft_eq, show (2 : Nat) ^ 16 = 65536 from rfl] at this
    rw [← this]
    omega
  have f2 : (a * 256 + b) * 256 ||| c = a * 65536 + b * 256 + c := by
    have := Nat.shiftLeft_add_eq_or_of_lt (i := 8) (b := c) (by omega) (a * 256 + b)
    rw [Nat.shiftLeft_eq, show (2 : Nat) ^ 8 = 256 from rfl] at this
    rw [← this]
    omega
  rw [e1, e2, i64_or_nat _ _ (by omega) (by omega), f1, i64_or_nat _ _ (by omega) (by omega), f2]
theorem toList_beq (a b : ByteArray) : (a.toList == b.toList) = decide (a = b) := by
  rw [Bool.eq_iff_iff, beq_iff_eq, decide_eq_true_iff, ByteArray.toList_eq, ByteArray.toList_eq]
  constructor
  · intro h
    obtain ⟨⟨x⟩⟩ := a
    obtain ⟨⟨y⟩⟩ := b
    simp at h
    rw [h]
  · intro h; rw [h]
set_option maxHeartbeats 4000000 in
theorem Unpack_at (p : ByteArray) (w : World) (hp : p.size ≤ 100000) : Calls Tryd.prog 15 #[.string p] w fun e w' => Bl w w' ∧
    ((∃ t, t.size ≤ 4000 ∧ packT t = p ∧ e = .returned (.tuple #[.string t, .nilIface])) ∨
     (Why p ∧ e = .returned (.tuple #[.string "".toUTF8, .iface 23 (.int .i64 3)]))) := by
  by_cases h259 : p.size < 259
  · have hz : (p.size : Int) < 259 := by omega
    go_enter Tryd.func15, Tryd.ntmps15
    go_wp2
    go_ret2
    exact ⟨Bl.refl _, Or.inr ⟨Or.inl h259, rfl⟩⟩
  · have hz : ¬ (p.size : Int) < 259 := by omega
    have cS := bySigns_at (p.extract 0 256) w (by rw [ByteArray.size_extract]; omega)
    go_enter Tryd.func15, Tryd.ntmps15
    go_wp2_with fail
    refine cS.mono ?_
    clear cS
    rintro e w1 ⟨hb1, ⟨i, hno, rfl⟩ | ⟨hok, htk, b, rfl, hbz, hM⟩⟩
    · have HN : Hid (Bl w w1 ∧ Why p) := ⟨hb1, Or.inr (Or.inl hno)⟩
      clear hb1 hno
      go_wp2
      go_ret2
      exact ⟨HN.out.1, Or.inr ⟨HN.out.2, rfl⟩⟩
    · have HM : Hid (Bl w w1 ∧ Mp w1 b (mf (bl (p.extract 0 256) 256 256) (signsOf (bl (p.extract 0 256) 256 256)) 256) 256) := ⟨hb1, hM⟩
      clear hb1 hok htk hbz hM
      have h6 : (256 : Int) < p.size := by omega
      have h7 : (257 : Int) < p.size := by omega
      have h8 : (258 : Int) < p.size := by omega
      go_wp2_with fail
      have n6 : 256 < p.size := by omega
      have n7 : 257 < p.size := by omega
      have n8 : 258 < p.size := by omega
      obtain ⟨n, hn⟩ : ∃ n, n = (p[256]'n6).toNat * 65536 + (p[257]'n7).toNat * 256 + (p[258]'n8).toNat := ⟨_, rfl⟩
      have hb6 := (p[256]'n6).toNat_lt
      have hb7 := (p[257]'n7).toNat_lt
      have hb8 := (p[258]'n8).toNat_lt
      have hor := or3 (p[256]'n6).toNat (p[257]'n7).toNat (p[258]'n8).toNat (by omega) (by omega) (by omega)
      rw [← hn] at hor
      have hns : (n : Int) = sb p 256 * 65536 + sb p 257 * 256 + sb p 258 := by rw [sb_get p 256 n6, sb_get p 257 n7, sb_get p 258 n8]; omega
      have hnb : n ≤ 16777215 := by omega
      have HNS : Hid _ := hns
      clear hns hn
      go_quiet (fail)
      have HD : Hid (Bl w (w1.drewN nq) ∧ Mp (w1.drewN nq) b (mf (bl (p.extract 0 256) 256 256) (signsOf (bl (p.extract 0 256) 256 256)) 256) 256) := ⟨HM.out.1.drewN nq, HM.out.2⟩
      clear HM hor hb6 hb7 hb8
      generalize w1.drewN nq = w2 at HD ⊢
      have cR := read_at (p.extract 259 p.size) n b 256 _ w2 HD.out.2 (by rw [ByteArray.size_extract]; omega) hnb
      go_wp2_with fail
      refine cR.mono ?_
      clear cR
      rintro e w3 ⟨hb3, ⟨zs, hn4, ⟨A, hway⟩, rfl⟩ | ⟨i, hno, rfl⟩⟩
      · have hzl := hway.bd.1
        have hts : (strOfNums zs).size ≤ 4000 := by rw [strOfNums_size]; omega
        obtain ⟨t, ht⟩ : ∃ t, t = strOfNums zs := ⟨_, rfl⟩
        rw [← ht] at hts ⊢
        have cP := Pack_at t w3 hts
        have HW : Hid (Bl w w3 ∧ (packT t ≠ p → Why p)) := by
          refine ⟨HD.out.1.trans hb3, fun hne => Or.inr (Or.inr ⟨n, HNS.out, Or.inr (Or.inr ⟨zs, A, hway, ?_⟩)⟩)⟩
          rw [← ht]
          exact hne
        clear hb3 hway HD HNS ht hzl
        go_wp2_with fail
        refine cP.mono ?_
        clear cP
        rintro e w4 ⟨rfl, hb4⟩
        have HW4 : Hid (Bl w w4) := HW.out.1.trans hb4
        clear hb4
        by_cases heq : packT t = p
        · rw [heq]
          go_wp2
          go_ret2
          exact ⟨HW4.out, Or.inl ⟨t, hts, heq, rfl⟩⟩
        · have HY : Hid (Why p) := HW.out.2 heq
          have hbq : ((packT t).toList == p.toList) = false := by rw [toList_beq, decide_eq_false heq]
          clear HW
          go_wp2
          go_ret2
          exact ⟨HW4.out, Or.inr ⟨HY.out, rfl⟩⟩
      · have HW : Hid (Bl w w3 ∧ Why p) := by
          refine ⟨HD.out.1.trans hb3, Or.inr (Or.inr ⟨n, HNS.out, ?_⟩)⟩
          rcases hno with h | h
          · exact Or.inl h
          · exact Or.inr (Or.inl h)
        clear hb3 hno HD HNS
        go_wp2
        go_ret2
        exact ⟨HW.out.1, Or.inr ⟨HW.out.2, rfl⟩⟩
end Go.Proofs.YtkldnapbeebdkaaDoor.hi
