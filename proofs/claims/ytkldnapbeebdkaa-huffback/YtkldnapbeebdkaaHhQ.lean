/- Of a text of no more than 4000 bytes: its bytes have signs, which have so many bits in all. -/
import Derived.Test.YtkldnapbeebdkaaHh2
import Derived.Test.YtkldnapbeebdkaaHfF
import Derived.Test.YtkldnapbeebdkaaHfC
import Derived.Test.YtkldnapbeebdkaaHg5
import Derived.Test.YtkldnapbeebdkaaHg2
namespace Go.Proofs.Ytkldnapbeebdkaa.hh
set_option linter.unusedVariables false
open mem rows bit hf hg hfp
/-- The sum of the first k. -/
def su (l : List Int) : Nat → Int
  | 0 => 0
  | k + 1 => su l k + l.getD k 0
theorem sm_su {l : List Int} : ∀ k, (∀ i, i < k → 0 ≤ l.getD i 0) → sm (grp l k) = su l k
  | 0, _ => by simp [grp, hfp.sm, su]
  | k + 1, h => by
    have ih := sm_su k (fun i hi => h i (by omega))
    have hk := h k (by omega)
    rw [grp_succ, su, ← ih]
    unfold hfp.sm
    rw [List.map_append, List.sum_append]
    by_cases hp : 0 < l.getD k 0
    · rw [if_pos hp]; simp
    · rw [if_neg hp, show l.getD k 0 = 0 by omega]; simp
theorem su_cnt (s : ByteArray) (n k : Nat) : ∀ m, m ≤ n → su (cntN s n (k + 1)) m = su (cntN s n k) m + (if sb s k < (m : Int) then 1 else 0)
  | 0, _ => by have := (sb_bd s k).1; rw [su, su, if_neg (by omega)]; omega
  | m + 1, h => by
    have hb := sb_bd s k
    rw [su, su, su_cnt s n k m (by omega), cntN_get s n (k + 1) m (by omega), cntN_get s n k m (by omega), ct]
    by_cases h1 : sb s k = (m : Int)
    · rw [if_pos h1, if_neg (show ¬ sb s k < (m : Int) by omega), if_pos (show sb s k < ((m + 1 : Nat) : Int) by omega)]; omega
    · rw [if_neg h1]
      by_cases h2 : sb s k < (m : Int)
      · rw [if_pos h2, if_pos (show sb s k < ((m + 1 : Nat) : Int) by omega)]; omega
      · rw [if_neg h2, if_neg (show ¬ sb s k < ((m + 1 : Nat) : Int) by omega)]; omega
theorem su_all (s : ByteArray) : ∀ k, su (cntL s k) 256 = (k : Int)
  | 0 => by
    have : ∀ n m, su (List.replicate n (0 : Int)) m = 0 := fun n m => by
      induction m with
      | zero => rfl
      | succ m ih =>
        rw [su, ih, List.getD_eq_getElem?_getD, List.getElem?_replicate]
        split <;> rfl
    show su (cntN s 256 0) 256 = 0
    rw [cntN_zero, this]
  | k + 1 => by
    have hb := sb_bd s k
    have := su_all s k
    show su (cntN s 256 (k + 1)) 256 = _
    rw [su_cnt s 256 k 256 (Nat.le_refl _), if_pos (by omega)]
    have e : su (cntN s 256 k) 256 = (k : Int) := this
    omega
theorem cnt_ok {s : ByteArray} {k : Nat} (hk : k ≤ 4000) : okL (cntL s k) 256 := fun i hi => by
  have := ct_le s (i : Int) k
  have e : (cntL s k).getD i 0 = (ct s (i : Int) k : Int) := cntN_get s 256 k i hi
  omega
theorem cnt_sm {s : ByteArray} {k : Nat} (hk : k ≤ 4000) : sm (grp (cntL s k) 256) ≤ 4000 := by
  rw [sm_su 256 (fun i hi => (cnt_ok hk i hi).1), su_all]
  omega
/-- The lengths of a text's bytes' signs, and these. -/
def lensT (s : ByteArray) : List Int := lensOf (cntL s s.size)
def signsT (s : ByteArray) : List Int := signsOf (lensT s)
theorem lensT_len {s : ByteArray} (hs : s.size ≤ 4000) : (lensT s).length = 256 := by
  have h := lens_facts (l := cntL s s.size) (by rw [cntL_len]; exact cnt_ok hs) (by rw [cntL_len]; omega)
  rw [cntL_len] at h
  exact h.1
theorem lensT_facts {s : ByteArray} (hs : s.size ≤ 4000) : (∀ i, i < 256 → 0 ≤ (lensT s).getD i 0 ∧ (lensT s).getD i 0 ≤ 17 ∧ (0 < (lensT s).getD i 0 ↔ 0 < (cntL s s.size).getD i 0)) ∧ (2 ≤ cp (cntL s s.size) 256 → ksum 255 (lensT s) 256 = 2 ^ 255) := by
  have hl := cntL_len s s.size
  have h := lens_facts (l := cntL s s.size) (by rw [hl]; exact cnt_ok hs) (by rw [hl]; omega)
  have h2 := lens_short (l := cntL s s.size) (by rw [hl]; exact cnt_ok hs) (by rw [hl]; omega) (by rw [hl]; exact cnt_sm hs)
  rw [hl] at h h2
  exact ⟨fun i hi => ⟨(h.2.1 i hi).1, h2 i hi, (h.2.1 i hi).2.2⟩, h.2.2⟩
theorem tk_ksum (L : List Int) : ∀ k, tk L k = (ksum 24 L k : Int)
  | 0 => rfl
  | k + 1 => by
    rw [tk, ksum, tk_ksum L k, Int.natCast_add]
    congr 1
    split
    · unfold rm; simp
    · rfl
theorem ksum_cp {L : List Int} : ∀ k, ksum 24 L k ≤ cp L k * 8388608
  | 0 => by simp [ksum, cp]
  | k + 1 => by
    have ih := ksum_cp (L := L) k
    rw [ksum, cp, Nat.add_mul]
    by_cases h : 0 < L.getD k 0
    · rw [if_pos h, if_pos h]
      have h2 : (2 : Nat) ^ (24 - (L.getD k 0).toNat) ≤ 2 ^ 23 := Nat.pow_le_pow_right (by decide) (by omega)
      have h3 : (2 : Nat) ^ 23 = 8388608 := by decide
      omega
    · rw [if_neg h, if_neg h, Nat.zero_mul, Nat.add_zero, Nat.add_zero]; exact ih
theorem lensT_signs {s : ByteArray} (hs : s.size ≤ 4000) : okS (lensT s) 256 ∧ tk (lensT s) 256 ≤ 16777216 := by
  obtain ⟨h1, h2⟩ := lensT_facts hs
  refine ⟨fun i hi => by have := h1 i hi; omega, ?_⟩
  rw [tk_ksum]
  by_cases hc : 2 ≤ cp (cntL s s.size) 256
  · have h3 := h2 hc
    have h4 := ksum_scale (L := lensT s) (M := 24) (d := 231) 256 (fun i hi => by have := h1 i hi; omega)
    rw [show 24 + 231 = 255 by omega, h3] at h4
    have h5 : ksum 24 (lensT s) 256 * 2 ^ 231 = 2 ^ 24 * 2 ^ 231 := by rw [← h4, ← Nat.pow_add]
    have h6 := Nat.eq_of_mul_eq_mul_right (Nat.pow_pos (by decide)) h5
    rw [h6]
    omega
  · have h3 := ksum_cp (L := lensT s) 256
    rw [cp_same 256 (fun i hi => (h1 i hi).2.2)] at h3
    omega
/-- As many bits as the numbers tell. -/
theorem csum_cnt (s : ByteArray) (D : List Int) (n k : Nat) : ∀ m, m ≤ n → csum (cntN s n (k + 1)) D m = csum (cntN s n k) D m + (if sb s k < (m : Int) then D.getD (sb s k).toNat 0 else 0)
  | 0, _ => by have := (sb_bd s k).1; rw [csum, csum, if_neg (by omega)]; omega
  | m + 1, h => by
    have hb := sb_bd s k
    rw [csum, csum, csum_cnt s D n k m (by omega), cntN_get s n (k + 1) m (by omega), cntN_get s n k m (by omega), ct]
    by_cases h1 : sb s k = (m : Int)
    · rw [if_pos h1, if_neg (show ¬ sb s k < (m : Int) by omega), if_pos (show sb s k < ((m + 1 : Nat) : Int) by omega), show (sb s k).toNat = m by omega]
      rw [Int.natCast_add, Int.add_mul]
      simp
      omega
    · rw [if_neg h1]
      by_cases h2 : sb s k < (m : Int)
      · rw [if_pos h2, if_pos (show sb s k < ((m + 1 : Nat) : Int) by omega)]; simp; omega
      · rw [if_neg h2, if_neg (show ¬ sb s k < ((m + 1 : Nat) : Int) by omega)]; simp
theorem bits_all {s : ByteArray} {D S : List Int} (hD : ∀ c, c < 256 → 0 ≤ D.getD c 0) : ∀ k, csum (cntL s k) D 256 = ((bk D S s k).length : Int)
  | 0 => by
    show csum (cntN s 256 0) D 256 = 0
    rw [cntN_zero]
    have : ∀ m, csum (List.replicate 256 0) D m = 0 := fun m => by
      induction m with
      | zero => rfl
      | succ m ih =>
        have hz : (List.replicate 256 (0 : Int)).getD m 0 = 0 := by
          rw [List.getD_eq_getElem?_getD, List.getElem?_replicate]
          split <;> rfl
        rw [csum, ih, hz]
        simp
    exact this 256
  | k + 1 => by
    have hb := sb_bd s k
    have ih := bits_all (s := s) (S := S) hD k
    have hd := hD (sb s k).toNat (by omega)
    show csum (cntN s 256 (k + 1)) D 256 = _
    rw [csum_cnt s D 256 k 256 (Nat.le_refl _), if_pos (by omega), bk_succ, List.length_append, sgb_len]
    have e : csum (cntN s 256 k) D 256 = ((bk D S s k).length : Int) := ih
    rw [e]
    unfold Lc
    omega
theorem bits_bd {s : ByteArray} {D S : List Int} {M : Nat} (hD : ∀ c, c < 256 → (D.getD c 0).toNat ≤ M) : ∀ k, (bk D S s k).length ≤ M * k
  | 0 => Nat.zero_le _
  | k + 1 => by
    have hb := sb_bd s k
    have ih := bits_bd (s := s) (S := S) hD k
    have hd := hD (sb s k).toNat (by omega)
    rw [bk_succ, List.length_append, sgb_len, Nat.mul_add]
    unfold Lc
    omega
end Go.Proofs.Ytkldnapbeebdkaa.hh
