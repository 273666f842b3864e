/- A dump's lines are read as the bytes that they show. -/
import Derived.Test.YtmchpmfogjhpoabDoorXb1
namespace Go.Proofs.YtmchpmfogjhpoabDoor.xb
set_option linter.unusedVariables false
open Go.ChangeShapes Go.WideShapes Go.ChangeAt Go.RowKit
open mem rows xd xl
open dig (dv ch pr pr_len pv okD dv_ch pv_pr ok_pr)
open digs (hexL hexL_len)
open shown (shL shL_len)

/-- A digit's number. -/
def Dg (z : Int) : Prop := (48 ≤ z ∧ z ≤ 57) ∨ (97 ≤ z ∧ z ≤ 102)
theorem hx_dg (p : ByteArray) (j : Nat) : ∀ z ∈ hx p j, Dg z := by
  obtain ⟨h1, h2, _⟩ := hi_lo p j
  intro z hz
  simp only [hx, List.mem_cons, List.not_mem_nil, or_false] at hz
  rcases hz with rfl | rfl
  · exact ch_bd _ h1
  · exact ch_bd _ h2
theorem hexL_next (p : ByteArray) (k : Nat) : hexL p (k + 1) = hexL p k ++ hx p k := rfl
theorem hexL_dg (p : ByteArray) : ∀ k, ∀ z ∈ hexL p k, Dg z
  | 0, z, hz => by cases hz
  | k + 1, z, hz => by
    rw [hexL_next, List.mem_append] at hz
    rcases hz with hz | hz
    · exact hexL_dg p k z hz
    · exact hx_dg p k z hz
theorem pr_dg (n : Nat) : ∀ k, ∀ z ∈ pr 16 n k, Dg z
  | 0, z, hz => by cases hz
  | k + 1, z, hz => by
    rw [pr, List.mem_cons] at hz
    rcases hz with rfl | hz
    · exact ch_bd _ (Nat.mod_lt _ (by decide))
    · exact pr_dg n k z hz
theorem rwl_dg (p : ByteArray) (g : Nat) : ∀ k, ∀ z ∈ rwl p g k, z = 32 ∨ Dg z
  | 0, z, hz => by cases hz
  | k + 1, z, hz => by
    rw [rwl, List.mem_append, List.mem_append] at hz
    rcases hz with (hz | hz) | hz
    · exact rwl_dg p g k z hz
    · split at hz
      · left; simpa using hz
      · cases hz
    · split at hz
      · exact Or.inr (hx_dg p k z hz)
      · left; simpa using hz
theorem shL_rng (p : ByteArray) : ∀ z ∈ shL p p.size, 32 ≤ z ∧ z ≤ 126 := by
  intro z hz
  obtain ⟨j, hj, rfl⟩ := List.mem_map.1 hz
  rw [if_pos (List.mem_range.1 hj)]
  unfold shown.sh
  split <;> omega
theorem rwl_pre (p : ByteArray) (g j : Nat) : ∀ d, ∃ Z, rwl p g (j + d) = rwl p g j ++ Z
  | 0 => ⟨[], by simp⟩
  | d + 1 => by
    obtain ⟨Z, h⟩ := rwl_pre p g j d
    refine ⟨Z ++ (if (j + d) % g = 0 then [32] else []) ++ (if j + d < p.size then hx p (j + d) else [32, 32]), ?_⟩
    rw [← Nat.add_assoc, rwl, h]
    simp only [List.append_assoc]
theorem rwl_bl (p : ByteArray) (g j : Nat) (hj : p.size ≤ j) : ∀ d, ∃ m, rwl p g (j + d) = rwl p g j ++ List.replicate m 32
  | 0 => ⟨0, by simp⟩
  | d + 1 => by
    obtain ⟨m, h⟩ := rwl_bl p g j hj d
    rw [← Nat.add_assoc, rwl, h, if_neg (show ¬ j + d < p.size by omega)]
    have e2 : ([32, 32] : List Int) = List.replicate 2 32 := rfl
    have e1 : ([32] : List Int) = List.replicate 1 32 := rfl
    split
    · exact ⟨m + 1 + 2, by rw [e2, e1, List.append_assoc, List.append_assoc, List.replicate_append_replicate, List.replicate_append_replicate]⟩
    · exact ⟨m + 2, by rw [e2, List.append_nil, List.append_assoc, List.replicate_append_replicate]⟩
/-- A line's right side. -/
def rt (p : ByteArray) (c g : Nat) : List Int := rwl p g c ++ [32, 32] ++ shL p p.size
theorem rt_rng (p : ByteArray) (c g : Nat) : ∀ z ∈ rt p c g, 32 ≤ z ∧ z ≤ 126 := by
  intro z hz
  unfold rt at hz
  rw [List.mem_append, List.mem_append] at hz
  rcases hz with (hz | hz) | hz
  · rcases rwl_dg p g c z hz with h | h | h <;> omega
  · have : z = 32 := by simpa using hz
    omega
  · exact shL_rng p z hz
theorem by_end (p : ByteArray) (j : Nat) (h : p.size ≤ j) : (by_ p).drop j = [] := List.drop_eq_nil_of_le (by rw [by_len]; exact h)
theorem at_mid {Y : List Int} (hY : ∀ z ∈ Y, 0 ≤ z ∧ z < 256) (P : List Int) (a : Int) (Q : List Int) (h : Y = P ++ a :: Q) : sb (strOfNums Y) P.length = a ∧ P.length < (strOfNums Y).size := by
  constructor
  · rw [sb_str hY, h]
    have := getD_mid P [a] Q 0 (by show 0 < 1; omega)
    rw [Nat.add_zero, List.append_assoc] at this
    exact this
  · rw [strOfNums_size, h, List.length_append, List.length_cons]; omega
theorem Rd_rt (p : ByteArray) (c g : Nat) (hp : 1 ≤ p.size) (hc : p.size ≤ c) : ∀ d j, j + d = p.size → Rd (strOfNums (rt p c g)) (rwl p g j).length ((by_ p).drop j)
  | 0, j, h => by
    obtain rfl : j = p.size := by omega
    have hY : ∀ z ∈ rt p c g, 0 ≤ z ∧ z < 256 := fun z hz => by have := rt_rng p c g z hz; omega
    rw [by_end p p.size (Nat.le_refl _)]
    obtain ⟨m, hm⟩ := rwl_bl p g p.size (Nat.le_refl _) (c - p.size)
    rw [show p.size + (c - p.size) = c by omega] at hm
    have hy : rt p c g = rwl p g p.size ++ 32 :: 32 :: (List.replicate m 32 ++ shL p p.size) := by
      unfold rt
      rw [hm, show ([32, 32] : List Int) = List.replicate 2 32 from rfl, List.append_assoc (rwl p g p.size), List.replicate_append_replicate, show m + 2 = m + 1 + 1 by rfl, List.replicate_succ, List.replicate_succ]
      simp only [List.append_assoc, List.cons_append]
    have h0 : 0 < (rwl p g p.size).length := by
      obtain ⟨Z, hz⟩ := rwl_pre p g (p.size - 1 + 1) 0
      have e : rwl p g (p.size - 1 + 1) = rwl p g (p.size - 1) ++ (if (p.size - 1) % g = 0 then [32] else []) ++ (if p.size - 1 < p.size then hx p (p.size - 1) else [32, 32]) := rfl
      rw [if_pos (show p.size - 1 < p.size by omega), show p.size - 1 + 1 = p.size by omega] at e
      rw [e, List.length_append]
      show 0 < _ + 2
      omega
    obtain ⟨a1, a2⟩ := at_mid hY _ _ _ hy
    obtain ⟨a3, a4⟩ := at_mid hY (rwl p g p.size ++ [32]) 32 (List.replicate m 32 ++ shL p p.size) (by rw [hy]; simp)
    rw [List.length_append, List.length_cons, List.length_nil] at a3 a4
    exact Rd.two _ h0 a4 a1 a3
  | d + 1, j, h => by
    have hY : ∀ z ∈ rt p c g, 0 ≤ z ∧ z < 256 := fun z hz => by have := rt_rng p c g z hz; omega
    have hj : j < p.size := by omega
    have ih := Rd_rt p c g hp hc d (j + 1) (by omega)
    rw [by_drop p j hj]
    obtain ⟨Z, hz⟩ := rwl_pre p g (j + 1) (c - (j + 1))
    rw [show j + 1 + (c - (j + 1)) = c by omega] at hz
    have e : rwl p g (j + 1) = rwl p g j ++ (if j % g = 0 then [32] else []) ++ hx p j := by rw [rwl, if_pos hj]
    have hy : rt p c g = rwl p g j ++ (if j % g = 0 then [32] else []) ++ hx p j ++ (Z ++ [32, 32] ++ shL p p.size) := by
      unfold rt
      rw [hz, e]
      simp only [List.append_assoc]
    have hl : (hx p j).length = 2 := rfl
    by_cases h0 : j % g = 0
    · rw [if_pos h0] at hy e
      rw [e, List.length_append, List.length_append, hl, List.length_cons, List.length_nil] at ih
      have hb := Rd_byte hY p j _ (rwl p g j ++ [32]) _ rfl hy _ (by rw [List.length_append]; exact ih)
      rw [List.length_append, List.length_cons, List.length_nil] at hb
      obtain ⟨a1, a2⟩ := at_mid hY (rwl p g j) 32 (hx p j ++ (Z ++ [32, 32] ++ shL p p.size)) (by rw [hy]; simp)
      obtain ⟨a3, a4⟩ := at_mid hY (rwl p g j ++ [32]) (ch ((sb p j).toNat / 16)) (ch ((sb p j).toNat % 16) :: (Z ++ [32, 32] ++ shL p p.size)) (by rw [hy]; simp [hx])
      rw [List.length_append, List.length_cons, List.length_nil] at a3 a4
      have hd := ch_bd _ (hi_lo p j).1
      refine Rd.one _ _ a2 a1 (Or.inr ?_) hb
      rintro ⟨_, h⟩
      rw [a3] at h
      omega
    · rw [if_neg h0, List.append_nil] at hy e
      rw [e, List.length_append, hl] at ih
      exact Rd_byte hY p j _ (rwl p g j) _ rfl hy _ ih
theorem hexL_pre (p : ByteArray) (j : Nat) : ∀ d, ∃ Z, hexL p (j + d) = hexL p j ++ Z
  | 0 => ⟨[], by simp⟩
  | d + 1 => by
    obtain ⟨Z, h⟩ := hexL_pre p j d
    exact ⟨Z ++ hx p (j + d), by rw [← Nat.add_assoc, hexL_next, h, List.append_assoc]⟩
theorem hexL_rng (p : ByteArray) (k : Nat) : ∀ z ∈ hexL p k, 32 ≤ z ∧ z ≤ 126 ∧ z ≠ 58 := by
  intro z hz
  rcases hexL_dg p k z hz with h | h <;> omega
theorem Rd_hex (p : ByteArray) : ∀ d j, j + d = p.size → Rd (strOfNums (hexL p p.size)) (2 * j) ((by_ p).drop j)
  | 0, j, h => by
    obtain rfl : j = p.size := by omega
    rw [by_end p p.size (Nat.le_refl _)]
    exact Rd.fin _ (by rw [strOfNums_size, hexL_len]; exact Nat.le_refl _)
  | d + 1, j, h => by
    have hY : ∀ z ∈ hexL p p.size, 0 ≤ z ∧ z < 256 := fun z hz => by have := hexL_rng p p.size z hz; omega
    have ih := Rd_hex p d (j + 1) (by omega)
    rw [by_drop p j (by omega)]
    obtain ⟨Z, hz⟩ := hexL_pre p (j + 1) d
    rw [show j + 1 + d = p.size by omega, hexL_next] at hz
    exact Rd_byte hY p j _ (hexL p j) Z (hexL_len p j) hz _ ih
/-- A line without its feed. -/
def rowd (c g a : Nat) (p : ByteArray) : List Int := pr 16 a 8 ++ [58] ++ rt p c g
theorem ln_row (c g a : Nat) (p : ByteArray) : ln c g a p = rowd c g a p ++ [10] := by
  unfold ln rowd rt
  simp only [List.append_assoc]
theorem rowd_rng (c g a : Nat) (p : ByteArray) : ∀ z ∈ rowd c g a p, 32 ≤ z ∧ z ≤ 126 := by
  intro z hz
  unfold rowd at hz
  rw [List.mem_append, List.mem_append] at hz
  rcases hz with (hz | hz) | hz
  · rcases pr_dg a 8 z hz with h | h <;> omega
  · have : z = 58 := by simpa using hz
    omega
  · exact rt_rng p c g z hz
theorem good_d (c g a o : Nat) (p : ByteArray) (ho : o ≤ 2000000) (hp : 1 ≤ p.size) (hc : p.size ≤ c) (hc2 : c ≤ 256) (ha : a + p.size ≤ 4000) : xl.Good true 256 ((o, strOfNums (rowd c g a p)), (a, by_ p)) := by
  have hY : ∀ z ∈ rowd c g a p, 0 ≤ z ∧ z < 256 := fun z hz => by have := rowd_rng c g a p z hz; omega
  have hr := rwl_len p g c
  have hl : (rowd c g a p).length = 8 + 1 + (rt p c g).length := by unfold rowd; simp only [List.length_append, List.length_cons, List.length_nil, pr_len]
  have hl2 : (rt p c g).length = (rwl p g c).length + 2 + p.size := by unfold rt; simp only [List.length_append, List.length_cons, List.length_nil, shL_len]
  have h8 : (pr 16 a 8).length = 8 := pr_len 16 a 8
  have hcut1 : (strOfNums (rowd c g a p)).extract 0 8 = strOfNums (pr 16 a 8) := by
    rw [str_cut]
    congr 1
  have hcut2 : (strOfNums (rowd c g a p)).extract 9 (strOfNums (rowd c g a p)).size = strOfNums (rt p c g) := by
    rw [str_cut]
    congr 1
    have e9 : 9 = (pr 16 a 8 ++ [58]).length := by rw [List.length_append, h8]; rfl
    unfold rowd
    rw [e9, List.drop_left, List.take_of_length_le]
    rw [strOfNums_size, List.length_append]
    omega
  obtain ⟨a1, a2⟩ := at_mid hY (pr 16 a 8) 58 (rt p c g) (by unfold rowd; simp)
  rw [h8] at a1 a2
  refine ⟨ho, ?_, ?_, ?_⟩
  · show (strOfNums (rowd c g a p)).size ≤ 5000
    rw [strOfNums_size, hl, hl2]
    omega
  · show (by_ p).length ≤ 256
    rw [by_len]
    omega
  · rw [if_pos rfl]
    refine ⟨8, a2, a1, fun j hj => ?_, ?_, ?_, ?_, ?_⟩
    · show sb (strOfNums (rowd c g a p)) j ≠ 58
      rw [sb_str hY]
      have e : (rowd c g a p).getD j 0 = (pr 16 a 8).getD j 0 := by
        unfold rowd
        rw [List.append_assoc, List.getD_eq_getElem?_getD, List.getElem?_append_left (by rw [h8]; exact hj), ← List.getD_eq_getElem?_getD]
      rw [e]
      rcases pr_dg a 8 _ (getD_mem (R := pr 16 a 8) (j := j) (by rw [h8]; exact hj)) with h | h <;> omega
    · show okD 16 ((strOfNums (rowd c g a p)).extract 0 8)
      rw [hcut1]
      exact ok_pr 16 a 8 (by decide) (by decide) (by decide)
    · show pv 16 ((strOfNums (rowd c g a p)).extract 0 8) 8 = a
      have h16 : a < 16 ^ 8 := by
        have : (16 : Nat) ^ 8 = 4294967296 := by decide
        omega
      rw [hcut1, pv_pr 16 a 8 8 (by decide) (by decide) h16 (Nat.le_refl _)]
      simp
    · show a + (by_ p).length ≤ 4000
      rw [by_len]
      exact ha
    · show Rd ((strOfNums (rowd c g a p)).extract 9 (strOfNums (rowd c g a p)).size) 0 (by_ p)
      rw [hcut2]
      exact Rd_rt p c g hp hc p.size 0 (Nat.zero_add _)
theorem good_p (o mx : Nat) (p : ByteArray) (ho : o ≤ 2000000) (hc : p.size ≤ mx) (hc2 : mx ≤ 256) : xl.Good false mx ((o, strOfNums (hexL p p.size)), (0, by_ p)) := by
  have hY : ∀ z ∈ hexL p p.size, 0 ≤ z ∧ z < 256 := fun z hz => by have := hexL_rng p p.size z hz; omega
  refine ⟨ho, ?_, ?_, ?_⟩
  · show (strOfNums (hexL p p.size)).size ≤ 5000
    rw [strOfNums_size, hexL_len]
    omega
  · show (by_ p).length ≤ mx
    rw [by_len]
    exact hc
  · rw [if_neg (by decide)]
    refine ⟨fun j hj => ?_, Rd_hex p p.size 0 (Nat.zero_add _)⟩
    show sb (strOfNums (hexL p p.size)) j ≠ 58
    rw [sb_str hY]
    rw [strOfNums_size] at hj
    have := hexL_rng p p.size _ (getD_mem hj)
    omega
end Go.Proofs.YtmchpmfogjhpoabDoor.xb
