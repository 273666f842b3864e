/- Texts laid together: HqP, HpP. -/
import Derived.Test.YtkldnapbeebdkaaDoorZ22
import Derived.Test.YtkldnapbeebdkaaDoorZ20
/- Which byte's sign begins at a bit, however it is looked for. -/
namespace Go.Proofs.YtkldnapbeebdkaaDoor.hi
set_option linter.unusedVariables false
open mem rows bit hf hg hh hfp bitw
/-- The sign of byte i stands at bit A. -/
def Hit (D S : List Int) (q : ByteArray) (A i : Nat) : Prop := 0 < D.getD i 0 ∧ (A : Int) + D.getD i 0 ≤ 8 * (q.size : Int) ∧ nm q A (D.getD i 0).toNat = S.getD i 0
/-- The number of the first bits of some bits. -/
theorem nm_div (q : ByteArray) (A n j : Nat) (hj : j ≤ n) : nm q A j = nm q A n / 2 ^ (n - j) := by
  obtain ⟨v, hv⟩ : ∃ v, v = gN (fun i => tbit q true (A + i)) n true := ⟨_, rfl⟩
  have hlt : v < 2 ^ n := by rw [hv]; exact nb_lt _ n
  have hB : ∀ i, i < n → tbit q true (A + i) = v.testBit (n - 1 - i) := fun i hi => by
    rw [hv]
    unfold gN
    rw [nb_test]
    have hp : pl n true (n - 1 - i) = i := by simp [pl]; omega
    simp [hp]
    omega
  have h1 := nm_is (q := q) (A := A) hj hlt hB
  have h2 : nm q A n = (v : Int) := by unfold nm; rw [← hv]
  rw [h1, h2]
  simp
theorem hit_one {D : List Int} {q : ByteArray} {A i j : Nat} (hok : okS D 256) (htk : tk D 256 ≤ 16777216) (hl : D.length = 256) (hi : i < 256) (hj : j < 256) (h1 : Hit D (signsOf D) q A i) (h2 : Hit D (signsOf D) q A j) (hle : D.getD i 0 ≤ D.getD j 0) : i = j := by
  obtain ⟨a1, a2, a3⟩ := h1
  obtain ⟨b1, b2, b3⟩ := h2
  rw [signs_get hl hi] at a3
  rw [signs_get hl hj] at b3
  by_cases hne : i = j
  · exact hne
  · exfalso
    have hap := (sgn_apart hok htk hi hj hne a1 hle).2.2.1
    have hd := nm_div q A (D.getD j 0).toNat (D.getD i 0).toNat (by omega)
    rw [a3, b3] at hd
    exact hap hd.symm
theorem hit_fs {D : List Int} {q : ByteArray} {A i : Nat} (hok : okS D 256) (htk : tk D 256 ≤ 16777216) (hl : D.length = 256) (hi : i < 256) (h : Hit D (signsOf D) q A i) : FS (mf D (signsOf D) 256) q A (D.getD i 0).toNat (i : Int) := by
  have h24 := hok i hi
  obtain ⟨a1, a2, a3⟩ := h
  refine ⟨by omega, by omega, by omega, fun m h1 h2 h3 => ?_, ?_⟩
  · rcases mf_cases D (signsOf D) (m : Int) (nm q A m) 256 with h | ⟨j, _, hj, hj0, hj1, hj2⟩
    · exact h.1
    · exfalso
      have := hit_one hok htk hl hj hi ⟨hj0, by omega, by rw [← hj1, Int.toNat_natCast]; exact hj2⟩ ⟨a1, a2, a3⟩ (by omega)
      subst this
      omega
  · rcases mf_cases D (signsOf D) (((D.getD i 0).toNat : Nat) : Int) (nm q A (D.getD i 0).toNat) 256 with h | ⟨j, h0, hj, hj0, hj1, hj2⟩
    · exact absurd ⟨a1, by omega, a3⟩ (h.2 i hi)
    · rw [h0]
      have := hit_one hok htk hl hj hi ⟨hj0, by omega, by rw [← hj1, Int.toNat_natCast]; exact hj2⟩ ⟨a1, a2, a3⟩ (by omega)
      rw [this]
theorem no_hit {D : List Int} {q : ByteArray} {A : Nat} (h : ∀ i, i < 256 → ¬ Hit D (signsOf D) q A i) : NoS (mf D (signsOf D) 256) q A 24 := by
  intro m h1 h2 h3
  rcases mf_cases D (signsOf D) (m : Int) (nm q A m) 256 with hh | ⟨j, _, hj, hj0, hj1, hj2⟩
  · exact hh.1
  · exact absurd ⟨hj0, by omega, by rw [← hj1, Int.toNat_natCast]; exact hj2⟩ (h j hj)
/-- A bit of what stands behind the first 259 bytes. -/
theorem tbit_behind (p : ByteArray) (K : Nat) (hp : 259 ≤ p.size) (h : K < 8 * (p.size - 259)) : tbit (p.extract 259 p.size) true K = tbit p true (2072 + K) := by
  unfold tbit
  have e1 : byteN (p.extract 259 p.size) (K / 8) = byteN p ((2072 + K) / 8) := by
    have h1 := sb_extract p 259 p.size (K / 8) (Nat.le_refl _) (by omega)
    rw [show (2072 + K) / 8 = 259 + K / 8 by omega]
    exact Int.ofNat_inj.1 h1
  have e2 : ib true K = ib true (2072 + K) := by unfold ib; simp; omega
  rw [e1, e2]
theorem nm_behind (p : ByteArray) (A n : Nat) (hp : 259 ≤ p.size) (h : A + n ≤ 8 * (p.size - 259)) : nm (p.extract 259 p.size) A n = ((gN (fun i => tbit p true (2072 + A + i)) n true : Nat) : Int) := by
  have e : gN (fun i => tbit (p.extract 259 p.size) true (A + i)) n true = gN (fun i => tbit p true (2072 + A + i)) n true := by
    unfold gN
    refine nb_congr _ _ _ fun i hi => ?_
    have hpl : pl n true i = n - 1 - i := by simp [pl]
    rw [hpl]
    show tbit (p.extract 259 p.size) true (A + (n - 1 - i)) = tbit p true (2072 + A + (n - 1 - i))
    rw [tbit_behind p (A + (n - 1 - i)) hp (by omega), Nat.add_assoc]
  unfold nm
  rw [e]
end Go.Proofs.YtkldnapbeebdkaaDoor.hi
/- Bits as binary digits, and the bytes that they are: in plain lists. -/
namespace Go.Proofs.YtkldnapbeebdkaaDoor.hp
set_option linter.unusedVariables false
open mem rows bit hh
theorem nums_app (a b : List Int) : strOfNums a ++ strOfNums b = strOfNums (a ++ b) := by
  apply ByteArray.ext
  apply Array.ext'
  simp [strOfNums]
/-- Bits as binary digits. -/
def dg (l : List Bool) : List Int := l.map fun b => 48 + (b.toNat : Int)
def bs (l : List Bool) : ByteArray := strOfNums (dg l)
theorem bs_size (l : List Bool) : (bs l).size = l.length := by unfold bs dg; rw [strOfNums_size, List.length_map]
theorem bs_app (a b : List Bool) : bs a ++ bs b = bs (a ++ b) := by unfold bs dg; rw [nums_app, List.map_append]
theorem dg_bd (l : List Bool) : ∀ z ∈ dg l, 0 ≤ z ∧ z < 256 := by
  intro z hz
  unfold dg at hz
  obtain ⟨b, _, rfl⟩ := List.mem_map.1 hz
  cases b <;> simp
theorem bs_get (l : List Bool) (j : Nat) (h : j < l.length) : sb (bs l) j = 48 + ((gb l j).toNat : Int) := by
  have e := byteN_nums (dg l) (dg_bd l) j
  unfold bs
  refine Eq.trans (b := (dg l).getD j 0) e ?_
  unfold dg gb
  rw [List.getD_eq_getElem?_getD, List.getD_eq_getElem?_getD, List.getElem?_map, List.getElem?_eq_getElem h]
  rfl
theorem sb_ext (p : ByteArray) (a b j : Nat) (hb : b ≤ p.size) (h : a + j < b) : sb (p.extract a b) j = sb p (a + j) := by
  have h1 : j < (p.extract a b).size := by rw [ByteArray.size_extract]; omega
  rw [sb_get _ j h1, sb_get p (a + j) (by omega), ByteArray.getElem_extract]
/-- One bit more of a sign. -/
theorem sgb_up (k v : Nat) : sgb (k + 1) v = v.testBit k :: sgb k v := by
  unfold sgb
  rw [List.range_succ_eq_map, List.map_cons, List.map_map]
  congr 1
  apply List.map_congr_left
  intro i hi
  have := List.mem_range.1 hi
  simp only [Function.comp]
  congr 1
  omega
/-- Noughts behind bits change nothing. -/
theorem gb_pad (l : List Bool) (r K : Nat) : gb (l ++ List.replicate r false) K = gb l K := by
  unfold gb
  simp only [List.getD_eq_getElem?_getD]
  rcases Nat.lt_or_ge K l.length with h | h
  · rw [List.getElem?_append_left h]
  · rw [List.getElem?_append_right h, List.getElem?_eq_none h, List.getElem?_replicate]
    split <;> rfl
theorem pad_up (l : List Bool) (r : Nat) : l ++ List.replicate r false ++ [false] = l ++ List.replicate (r + 1) false := by
  rw [List.append_assoc, List.replicate_succ']
theorem bytes_up (g : Nat → Bool) (i : Nat) : strOfNums (bytesOf g true i) ++ strOfNums [((hb (fun k => g (8 * i + k)) 8 : Nat) : Int)] = strOfNums (bytesOf g true (i + 1)) := by
  have e : hb (fun k => g (8 * i + k)) 8 = nb (fun j => g (at8 true i j)) 8 := by
    rw [hb_nb]
    refine nb_congr _ _ 8 fun j hj => ?_
    unfold at8
    simp only [if_true]
  rw [e, nums_app]
  unfold bytesOf
  rw [List.range_succ, List.map_append]
  rfl
theorem hb_lt (f : Nat → Bool) : ∀ k, hb f k < 2 ^ k
  | 0 => by simp [hb]
  | k + 1 => by
    have := hb_lt f k
    rw [hb, Nat.pow_succ]
    have h : (f k).toNat ≤ 1 := by cases f k <;> decide
    omega
theorem take_up (l : List Int) (k : Nat) (h : k < l.length) : strOfNums (l.take k) ++ strOfNums [l.getD k 0] = strOfNums (l.take (k + 1)) := by
  rw [nums_app, List.take_succ_eq_append_getElem h, List.getD_eq_getElem?_getD, List.getElem?_eq_getElem h]
  rfl
/-- Three bytes of a number. -/
theorem low_three (l : List Int) (a b c d : Int) (h : l = [a, b, c, d]) (hb : 0 ≤ a ∧ a < 256 ∧ 0 ≤ b ∧ b < 256 ∧ 0 ≤ c ∧ c < 256 ∧ 0 ≤ d ∧ d < 256) : (strOfNums l).extract 1 (strOfNums l).size = strOfNums [b, c, d] := by
  subst h
  have hz : (strOfNums [a, b, c, d]).size = 4 := by rw [strOfNums_size]; rfl
  apply ByteArray.ext
  apply Array.ext'
  rw [hz]
  simp [strOfNums]
end Go.Proofs.YtkldnapbeebdkaaDoor.hp
