/- What Pack writes is read as it was written. -/
import Derived.Test.YtkldnapbeebdkaaHi4
import Derived.Test.YtkldnapbeebdkaaHh3
namespace Go.Proofs.Ytkldnapbeebdkaa.hi
set_option linter.unusedVariables false
open mem rows bit hf hg hh hfp
theorem mf_cases (D S : List Int) (n v : Int) : ∀ k, (mf D S k n v = none ∧ ∀ i, i < k → ¬ (0 < D.getD i 0 ∧ n = D.getD i 0 ∧ v = S.getD i 0)) ∨ ∃ i : Nat, mf D S k n v = some (i : Int) ∧ i < k ∧ 0 < D.getD i 0 ∧ n = D.getD i 0 ∧ v = S.getD i 0
  | 0 => Or.inl ⟨rfl, fun i h => by omega⟩
  | k + 1 => by
    by_cases h : 0 < D.getD k 0 ∧ n = D.getD k 0 ∧ v = S.getD k 0
    · right
      exact ⟨k, by rw [mf, if_pos h], by omega, h⟩
    · rw [mf, if_neg h]
      rcases mf_cases D S n v k with ⟨h1, h2⟩ | ⟨i, h1, h2, h3⟩
      · left
        refine ⟨h1, fun i hi => ?_⟩
        by_cases e : i = k
        · rw [e]; exact h
        · exact h2 i (by omega)
      · right
        exact ⟨i, h1, by omega, h3⟩
theorem sb_extract (p : ByteArray) (a b j : Nat) (hb : b ≤ p.size) (h : a + j < b) : sb (p.extract a b) j = sb p (a + j) := by
  have h1 : j < (p.extract a b).size := by rw [ByteArray.size_extract]; omega
  rw [sb_get _ j h1, sb_get p (a + j) (by omega), ByteArray.getElem_extract]
theorem sb_nums (zs : List Int) (h : ∀ z ∈ zs, 0 ≤ z ∧ z < 256) (j : Nat) : sb (strOfNums zs) j = zs.getD j 0 := byteN_nums zs h j
theorem ct_pos (s : ByteArray) (c : Int) : ∀ k j, j < k → sb s j = c → 0 < ct s c k
  | 0, j, h, _ => by omega
  | k + 1, j, h, e => by
    rw [ct]
    by_cases hj : j = k
    · subst hj; rw [if_pos e]; omega
    · have := ct_pos s c k j (by omega) e; omega
/-- The bytes that Pack writes are bytes. -/
theorem packL_bd {s : ByteArray} (hs : s.size ≤ 4000) : ∀ z ∈ packL s, 0 ≤ z ∧ z < 256 := by
  intro z hz
  unfold packL at hz
  simp only [List.mem_append] at hz
  rcases hz with (hz | hz) | hz
  · obtain ⟨i, hi, rfl⟩ := List.mem_iff_getElem.1 hz
    have hl := lensT_len hs
    have := (lensT_facts hs).1 i (by omega)
    rw [List.getD_eq_getElem?_getD, List.getElem?_eq_getElem hi] at this
    simp at this
    omega
  · simp at hz
    omega
  · exact bytesOf_bd _ _ _ z hz
def bits (s : ByteArray) : List Bool := bk (lensT s) (signsT s) s s.size
theorem packL_len {s : ByteArray} (hs : s.size ≤ 4000) : (packL s).length = 259 + ((bits s).length + 7) / 8 := by
  unfold packL bits
  rw [List.length_append, List.length_append, lensT_len hs, bytesOf_len]
  rfl
theorem packT_size {s : ByteArray} (hs : s.size ≤ 4000) : (packT s).size = 259 + ((bits s).length + 7) / 8 := by
  unfold packT
  rw [strOfNums_size, packL_len hs]
theorem packT_lens {s : ByteArray} (hs : s.size ≤ 4000) (i : Nat) (hi : i < 256) : sb (packT s) i = (lensT s).getD i 0 := by
  have hl := lensT_len hs
  unfold packT
  rw [sb_nums _ (packL_bd hs)]
  unfold packL
  simp only [List.getD_eq_getElem?_getD]
  rw [List.append_assoc, List.getElem?_append_left (by omega)]
theorem packT_num {s : ByteArray} (hs : s.size ≤ 4000) (i : Nat) (hi : i < 3) : sb (packT s) (256 + i) = [((s.size / 65536 % 256 : Nat) : Int), ((s.size / 256 % 256 : Nat) : Int), ((s.size % 256 : Nat) : Int)].getD i 0 := by
  have hl := lensT_len hs
  unfold packT
  rw [sb_nums _ (packL_bd hs)]
  unfold packL
  simp only [List.getD_eq_getElem?_getD]
  rw [List.append_assoc, List.getElem?_append_right (by omega), hl, show 256 + i - 256 = i by omega, List.getElem?_append_left (by simp; omega)]
theorem packT_bits {s : ByteArray} (hs : s.size ≤ 4000) (i : Nat) : sb (packT s) (259 + i) = (bytesOf (gb (bits s)) true (((bits s).length + 7) / 8)).getD i 0 := by
  have hl := lensT_len hs
  unfold packT
  rw [sb_nums _ (packL_bd hs)]
  unfold packL bits
  simp only [List.getD_eq_getElem?_getD]
  rw [List.append_assoc, List.getElem?_append_right (by omega), hl, show 259 + i - 256 = i + 3 by omega, List.getElem?_append_right (by simp)]
  simp
/-- The lengths, as they are read. -/
theorem lens_read {s : ByteArray} (hs : s.size ≤ 4000) : bl ((packT s).extract 0 256) 256 256 = lensT s := by
  have hz := packT_size hs
  apply List.ext_getElem
  · rw [bl_len, lensT_len hs]
  · intro i h1 h2
    rw [bl_len] at h1
    have e1 := bl_get ((packT s).extract 0 256) 256 i h1
    rw [sb_extract _ 0 256 i (by omega) (by omega), Nat.zero_add, packT_lens hs i h1] at e1
    rw [List.getD_eq_getElem?_getD, List.getD_eq_getElem?_getD, List.getElem?_eq_getElem h2, List.getElem?_eq_getElem (by rw [bl_len]; exact h1)] at e1
    exact e1
theorem text_read {s : ByteArray} (hs : s.size ≤ 4000) : (packT s).extract 259 (packT s).size = strOfNums (bytesOf (gb (bits s)) true (((bits s).length + 7) / 8)) := by
  have hz := packT_size hs
  refine text_ext _ _ ?_ fun j hj => ?_
  · rw [ByteArray.size_extract, bytesOf_size]; omega
  · rw [ByteArray.size_extract] at hj
    have e1 := sb_extract (packT s) 259 (packT s).size j (Nat.le_refl _) (by omega)
    rw [packT_bits hs, ← sb_nums _ (bytesOf_bd _ _ _)] at e1
    exact Int.ofNat_inj.1 e1
/-- The number of the first j of n bits. -/
theorem nb_part (v n j : Nat) (hj : j ≤ n) (hv : v < 2 ^ n) : nb (fun i => v.testBit (n - j + i)) j = v / 2 ^ (n - j) := by
  have h1 := nb_self (v / 2 ^ (n - j)) j
  have h2 : v / 2 ^ (n - j) < 2 ^ j := by
    rw [Nat.div_lt_iff_lt_mul (Nat.pow_pos (by decide)), ← Nat.pow_add, show j + (n - j) = n by omega]
    exact hv
  rw [Nat.mod_eq_of_lt h2] at h1
  rw [← h1]
  refine nb_congr _ _ _ fun i hi => ?_
  rw [Nat.testBit_div_two_pow, Nat.add_comm]
theorem bk_more (L S : List Int) (s : ByteArray) (k : Nat) : ∀ d, ∃ r, bk L S s (k + d) = bk L S s k ++ r
  | 0 => ⟨[], by simp⟩
  | d + 1 => by
    obtain ⟨r, hr⟩ := bk_more L S s k d
    rw [← Nat.add_assoc, bk_succ, hr]
    exact ⟨_, List.append_assoc _ _ _⟩
/-- The bits of the sign of byte k. -/
theorem bit_is {s : ByteArray} {k i : Nat} (hk : k < s.size) (hi : i < Lc (lensT s) (sb s k).toNat) :
    gb (bits s) ((bk (lensT s) (signsT s) s k).length + i) = (Lc (signsT s) (sb s k).toNat).testBit (Lc (lensT s) (sb s k).toNat - 1 - i) ∧ (bk (lensT s) (signsT s) s k).length + i < (bits s).length := by
  obtain ⟨r, hr⟩ := bk_more (lensT s) (signsT s) s (k + 1) (s.size - (k + 1))
  rw [show k + 1 + (s.size - (k + 1)) = s.size by omega, bk_succ, List.append_assoc] at hr
  unfold bits gb
  rw [hr]
  constructor
  · rw [List.getD_eq_getElem?_getD, List.getElem?_append_right (by omega), Nat.add_sub_cancel_left, List.getElem?_append_left (by rw [sgb_len]; exact hi)]
    unfold sgb
    rw [List.getElem?_map, List.getElem?_range hi]
    rfl
  · simp only [List.length_append, sgb_len]
    omega
theorem sgn_low {l : List Int} {n x : Nat} (hok : okS l n) (ht : tk l n ≤ 16777216) (hx : x < n) (ha : 0 < l.getD x 0) : sgn l n x < 2 ^ (l.getD x 0).toNat := by
  obtain ⟨a, hA⟩ : ∃ a : Nat, l.getD x 0 = ((a + 1 : Nat) : Int) := ⟨(l.getD x 0).toNat - 1, by omega⟩
  have hxo := hok x hx
  have ex : sgn l n x = ((2 * E l n a + cnt l (a + 1) x : Nat) : Int) := by unfold sgn; rw [if_pos ha, hA]; rfl
  have hE := E_le (l := l) (n := n) (m := a + 1) (by omega) ht
  have h1 : 2 * E l n a + cnt l (a + 1) x + 1 ≤ E l n (a + 1) := by
    rw [E]
    have := cnt_lt (l := l) (m := a + 1) hx hA
    omega
  rw [ex, hA, Int.toNat_natCast]
  exact_mod_cast (by omega : 2 * E l n a + cnt l (a + 1) x < 2 ^ (a + 1))
theorem signs_get {l : List Int} {n x : Nat} (hl : l.length = n) (hx : x < n) : (signsOf l).getD x 0 = sgn l n x := by
  subst hl
  unfold signsOf
  rw [List.getD_eq_getElem?_getD, List.getElem?_map, List.getElem?_range hx]
  rfl
theorem nm_is {q : ByteArray} {A n v j : Nat} (hj : j ≤ n) (hv : v < 2 ^ n) (hB : ∀ i, i < n → tbit q true (A + i) = v.testBit (n - 1 - i)) : nm q A j = ((v / 2 ^ (n - j) : Nat) : Int) := by
  have e : gN (fun i => tbit q true (A + i)) j true = v / 2 ^ (n - j) := by
    rw [← nb_part v n j hj hv]
    unfold gN
    refine nb_congr _ _ _ fun i hi => ?_
    have hp : pl j true i = j - 1 - i := by simp [pl]
    simp only [hp]
    rw [hB _ (by omega)]
    congr 1
    omega
  unfold nm
  rw [e]
/-- The sign of byte k begins at its bit, and no other one. -/
theorem sign_at {s q : ByteArray} (hs : s.size ≤ 4000) (hq : q = strOfNums (bytesOf (gb (bits s)) true (((bits s).length + 7) / 8))) {k : Nat} (hk : k < s.size) :
    FS (mf (lensT s) (signsT s) 256) q (bk (lensT s) (signsT s) s k).length (Lc (lensT s) (sb s k).toNat) (sb s k) := by
  obtain ⟨c, hc⟩ : ∃ c, c = (sb s k).toNat := ⟨_, rfl⟩
  have hsb := sb_bd s k
  have hcb : c < 256 := by omega
  have hcs : sb s k = (c : Int) := by omega
  obtain ⟨A, hA⟩ : ∃ A, A = (bk (lensT s) (signsT s) s k).length := ⟨_, rfl⟩
  have hB := fun i hi => bit_is (s := s) (k := k) (i := i) hk hi
  rw [← hc, ← hA] at hB
  rw [← hc, ← hA, hcs]
  obtain ⟨hf1, _⟩ := lensT_facts hs
  obtain ⟨hok, htk⟩ := lensT_signs hs
  have hpos : 0 < (lensT s).getD c 0 := by
    rw [(hf1 c hcb).2.2]
    have e : (cntL s s.size).getD c 0 = (ct s (c : Int) s.size : Int) := cntN_get s 256 s.size c hcb
    have := ct_pos s (c : Int) s.size k hk hcs
    omega
  have h17 := (hf1 c hcb).2.1
  obtain ⟨n, hn⟩ : ∃ n, n = Lc (lensT s) c := ⟨_, rfl⟩
  have hnz : (lensT s).getD c 0 = (n : Int) := by rw [hn]; unfold Lc; omega
  have sg : ∀ x, x < 256 → (signsT s).getD x 0 = sgn (lensT s) 256 x := fun x hx => signs_get (lensT_len hs) hx
  obtain ⟨v, hv⟩ : ∃ v, v = Lc (signsT s) c := ⟨_, rfl⟩
  have hv0 := sgn_lt hok htk hcb
  have hvz : sgn (lensT s) 256 c = (v : Int) := by rw [hv]; unfold Lc; rw [sg c hcb]; omega
  have hvlt : v < 2 ^ n := by
    have h := sgn_low hok htk hcb hpos
    rw [hvz, hnz, Int.toNat_natCast] at h
    exact_mod_cast h
  rw [← hn, ← hv] at hB
  rw [← hn]
  have hn1 : 1 ≤ n := by omega
  have hn2 : n ≤ 17 := by omega
  have hlen := (hB (n - 1) (by omega)).2
  have hqs : q.size = ((bits s).length + 7) / 8 := by rw [hq, bytesOf_size]
  have hnm : ∀ j, j ≤ n → nm q A j = ((v / 2 ^ (n - j) : Nat) : Int) := fun j hj => nm_is hj hvlt fun i hi => by
    rw [hq, tbit_bytesOf _ _ _ _ (by have := (hB i hi).2; omega), (hB i hi).1]
  refine ⟨hn1, by omega, by omega, fun m h1 h2 h3 => ?_, ?_⟩
  · rw [hnm m (by omega)]
    rcases mf_cases (lensT s) (signsT s) (m : Int) ((v / 2 ^ (n - m) : Nat) : Int) 256 with h | ⟨i, _, hi, hi0, hi1, hi2⟩
    · exact h.1
    · exfalso
      have hne : i ≠ c := fun e => by rw [e, hnz] at hi1; omega
      have := (sgn_apart hok htk hi hcb hne hi0 (by rw [← hi1, hnz]; omega)).2.2.1
      rw [hvz, hnz, ← hi1, ← sg i hi, ← hi2, Int.toNat_natCast, Int.toNat_natCast] at this
      exact this (by simp)
  · rw [hnm n (Nat.le_refl _), Nat.sub_self, Nat.pow_zero, Nat.div_one]
    rcases mf_cases (lensT s) (signsT s) (n : Int) (v : Int) 256 with h | ⟨i, h0, hi, hi0, hi1, hi2⟩
    · exact absurd ⟨hpos, hnz.symm, by rw [sg c hcb, hvz]⟩ (h.2 c hcb)
    · rw [h0]
      by_cases hne : i = c
      · rw [hne]
      · exfalso
        have := (sgn_apart hok htk hi hcb hne hi0 (by rw [← hi1, hnz]; omega)).2.2.1
        rw [hvz, hnz, ← hi1, ← sg i hi, ← hi2, Nat.sub_self, Int.pow_zero, Int.ediv_one] at this
        exact this rfl
/-- The bytes that are read are the text's. -/
theorem way_is {s q : ByteArray} (hs : s.size ≤ 4000) (hq : q = strOfNums (bytesOf (gb (bits s)) true (((bits s).length + 7) / 8))) : ∀ k zs A, k ≤ s.size → Way (mf (lensT s) (signsT s) 256) q k zs A → zs = (List.range k).map (sb s) ∧ A = (bk (lensT s) (signsT s) s k).length
  | 0, zs, A, _, h => h
  | k + 1, zs, A, hk, h => by
    obtain ⟨zs', A', n, x, h1, h2, rfl, rfl⟩ := h
    obtain ⟨rfl, rfl⟩ := way_is hs hq k zs' A' (by omega) h1
    obtain ⟨rfl, rfl⟩ := h2.same (sign_at hs hq (by omega))
    rw [List.range_succ, List.map_append, bk_succ, List.length_append, sgb_len]
    exact ⟨rfl, rfl⟩
theorem way_text (s : ByteArray) : strOfNums ((List.range s.size).map (sb s)) = s := by
  refine text_ext _ _ (by rw [strOfNums_size, List.length_map, List.length_range]) fun j hj => ?_
  rw [strOfNums_size, List.length_map, List.length_range] at hj
  have hbd : ∀ z ∈ (List.range s.size).map (sb s), 0 ≤ z ∧ z < 256 := fun z hz => by
    obtain ⟨i, _, rfl⟩ := List.mem_map.1 hz
    exact sb_bd s i
  have e := sb_nums _ hbd j
  rw [List.getD_eq_getElem?_getD, List.getElem?_map, List.getElem?_range hj] at e
  exact Int.ofNat_inj.1 e
/-- Why there is nothing to be read. -/
def Why (p : ByteArray) : Prop :=
  p.size < 259 ∨ ¬ (okS (bl (p.extract 0 256) 256 256) 256 ∧ tk (bl (p.extract 0 256) 256 256) 256 ≤ 16777216) ∨
  ∃ n : Nat, (n : Int) = sb p 256 * 65536 + sb p 257 * 256 + sb p 258 ∧
    (4000 < n ∨ (∃ k zs A, k < n ∧ Way (mf (bl (p.extract 0 256) 256 256) (signsOf (bl (p.extract 0 256) 256 256)) 256) (p.extract 259 p.size) k zs A ∧ NoS (mf (bl (p.extract 0 256) 256 256) (signsOf (bl (p.extract 0 256) 256 256)) 256) (p.extract 259 p.size) A 24) ∨
     (∃ zs A, Way (mf (bl (p.extract 0 256) 256 256) (signsOf (bl (p.extract 0 256) 256 256)) 256) (p.extract 259 p.size) n zs A ∧ packT (strOfNums zs) ≠ p))
theorem why_not {s : ByteArray} (hs : s.size ≤ 4000) : ¬ Why (packT s) := by
  have hz := packT_size hs
  unfold Why
  rw [lens_read hs, text_read hs]
  rintro (h | h | ⟨n, hn, h⟩)
  · omega
  · exact h (lensT_signs hs)
  · have e0 := packT_num hs 0 (by omega)
    have e1 := packT_num hs 1 (by omega)
    have e2 := packT_num hs 2 (by omega)
    simp at e0 e1 e2
    obtain rfl : n = s.size := by omega
    rcases h with h | ⟨k, zs, A, hk, h1, h2⟩ | ⟨zs, A, h1, h2⟩
    · omega
    · obtain ⟨_, rfl⟩ := way_is hs rfl k zs A (by omega) h1
      exact (sign_at hs rfl hk).no h2
    · obtain ⟨rfl, _⟩ := way_is hs rfl s.size zs A (Nat.le_refl _) h1
      exact h2 (by rw [way_text])
end Go.Proofs.Ytkldnapbeebdkaa.hi
