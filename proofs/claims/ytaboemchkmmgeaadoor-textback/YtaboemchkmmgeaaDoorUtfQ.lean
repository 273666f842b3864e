/- Plain facts on signs and their bytes: what is written is read; what is read takes all bytes; a beginning that ends with a sign is read as these signs. -/
import Derived.Test.YtaboemchkmmgeaaDoorUtf3
import Derived.Test.YtaboemchkmmgeaaDoorEnc2
import Derived.Test.YtaboemchkmmgeaaDoorRefWord
namespace Go.Proofs.YtaboemchkmmgeaaDoor.utf
set_option linter.unusedVariables false
open Go.RowKit
open Go.Lib (encodeRuneZ encodeRuneZ_one encodeRuneZ_two encodeRuneZ_three encodeRuneZ_four encodeRuneZ_byte encodeRuneZ_length)
open enc (eb)

theorem nb_sb (s : ByteArray) (j : Nat) : ((nb s j : Nat) : Int) = num.sb s j := rfl
theorem nb_nums (L : List Int) (h : ∀ z ∈ L, 0 ≤ z ∧ z < 256) (j : Nat) : ((nb (strOfNums L) j : Nat) : Int) = L.getD j 0 := by
  rw [nb_sb, num.sb_nums L h j]
theorem nums_size (L : List Int) : (strOfNums L).size = L.length := strOfNums_size L
theorem nums_cut (A B : List Int) : (strOfNums (A ++ B)).extract A.length (strOfNums (A ++ B)).size = strOfNums B := by
  apply ByteArray.ext
  apply Array.ext'
  rw [ByteArray.data_extract, Array.toList_extract, strOfNums_data, strOfNums_data, nums_size, List.extract_eq_take_drop, List.map_append]
  rw [show A.length = (A.map fun n => UInt8.ofNat n.toNat).length by simp, List.drop_left]
  rw [List.take_of_length_le (by simp)]
theorem flat_byte (l : List Int) : ∀ z ∈ l.flatMap encodeRuneZ, 0 ≤ z ∧ z < 256 := by
  intro z hz
  obtain ⟨r, _, h⟩ := List.mem_flatMap.1 hz
  exact encodeRuneZ_byte r z h
theorem eb_flat (l : List Int) (k : Nat) (hk : k ≤ l.length) : eb l k = (l.take k).flatMap encodeRuneZ := by
  induction k with
  | zero => rfl
  | succ k ih =>
    rw [eb, ih (by omega), List.take_succ_eq_append_getElem (by omega), List.flatMap_append]
    simp [List.getD_eq_getElem?_getD, List.getElem?_eq_getElem (show k < l.length by omega)]
theorem eb_all (l : List Int) : eb l l.length = l.flatMap encodeRuneZ := by rw [eb_flat l l.length (Nat.le_refl _), List.take_length]
/-- The bytes of a sign are that sign. -/
theorem enc_dec (r : Int) (B : List Int) (hs : sign r) (hB : ∀ z ∈ B, 0 ≤ z ∧ z < 256) : st (strOfNums (encodeRuneZ r ++ B)) = (r.toNat, (encodeRuneZ r).length) := by
  have hL : ∀ z ∈ encodeRuneZ r ++ B, 0 ≤ z ∧ z < 256 := fun z hz => by
    rcases List.mem_append.1 hz with h | h
    · exact encodeRuneZ_byte r z h
    · exact hB z h
  have g := nb_nums (encodeRuneZ r ++ B) hL
  have g0 := g 0; have g1 := g 1; have g2 := g 2; have g3 := g 3
  have hsz := nums_size (encodeRuneZ r ++ B)
  unfold st
  rw [hsz]
  generalize nb (strOfNums (encodeRuneZ r ++ B)) 0 = b0 at *
  generalize nb (strOfNums (encodeRuneZ r ++ B)) 1 = b1 at *
  generalize nb (strOfNums (encodeRuneZ r ++ B)) 2 = b2 at *
  generalize nb (strOfNums (encodeRuneZ r ++ B)) 3 = b3 at *
  clear g hL hsz
  rcases (show (0 ≤ r ∧ r ≤ 127) ∨ (128 ≤ r ∧ r ≤ 2047) ∨ ((2048 ≤ r ∧ r < 55296) ∨ (57343 < r ∧ r ≤ 65535)) ∨ (65536 ≤ r ∧ r ≤ 1114111) by unfold sign at hs; omega) with c | c | c | c
  · rw [encodeRuneZ_one c.1 c.2] at *
    simp only [List.cons_append, List.nil_append, List.getD_cons_zero, List.length_cons, List.length_nil] at *
    unfold stN
    rw [if_pos (by omega)]
    exact Prod.ext (by show b0 = _; omega) rfl
  · rw [encodeRuneZ_two c.1 c.2] at *
    simp only [List.cons_append, List.nil_append, List.getD_cons_zero, List.getD_cons_succ, List.length_cons, List.length_nil] at *
    have hl : lo b0 = 128 ∧ hi b0 = 191 := by unfold lo hi; constructor <;> (rw [if_neg (by omega), if_neg (by omega)])
    unfold stN
    rw [hl.1, hl.2, if_neg (by omega), if_neg (by omega), if_neg (by omega), if_pos (by omega)]
    exact Prod.ext (by show b0 % 32 * 64 + b1 % 64 = _; omega) rfl
  · rw [encodeRuneZ_three c] at *
    simp only [List.cons_append, List.nil_append, List.getD_cons_zero, List.getD_cons_succ, List.length_cons, List.length_nil] at *
    have hl : lo b0 ≤ b1 ∧ b1 ≤ hi b0 := by
      unfold lo hi
      constructor
      · split
        · omega
        · split <;> omega
      · split
        · omega
        · split <;> omega
    unfold stN
    rw [if_neg (by omega), if_neg (by omega), if_neg (by omega), if_neg (by omega), if_neg (by omega), if_pos (by omega)]
    exact Prod.ext (by show b0 % 16 * 4096 + b1 % 64 * 64 + b2 % 64 = _; omega) rfl
  · rw [encodeRuneZ_four c.1 c.2] at *
    simp only [List.cons_append, List.nil_append, List.getD_cons_zero, List.getD_cons_succ, List.length_cons, List.length_nil] at *
    have hl : lo b0 ≤ b1 ∧ b1 ≤ hi b0 := by
      unfold lo hi
      constructor
      · split
        · omega
        · split <;> omega
      · split
        · omega
        · split <;> omega
    unfold stN
    rw [if_neg (by omega), if_neg (by omega), if_neg (by omega), if_neg (by omega), if_neg (by omega), if_neg (by omega), if_neg (by omega)]
    exact Prod.ext (by show b0 % 8 * 262144 + b1 % 64 * 4096 + b2 % 64 * 64 + b3 % 64 = _; omega) rfl
theorem D_enc (l : List Int) (hs : ∀ r ∈ l, sign r) (f : Nat) (hf : (l.flatMap encodeRuneZ).length ≤ f) : D f (strOfNums (l.flatMap encodeRuneZ)) = l.map fun r => (r.toNat, (encodeRuneZ r).length) := by
  induction l generalizing f with
  | nil => exact D_none f _ (by rw [nums_size]; rfl)
  | cons r l ih =>
    have h1 := (encodeRuneZ_length r).1
    rw [List.flatMap_cons] at hf ⊢
    rw [List.length_append] at hf
    obtain ⟨f', rfl⟩ : ∃ f', f = f' + 1 := ⟨f - 1, by omega⟩
    have he := enc_dec r (l.flatMap encodeRuneZ) (hs r (List.mem_cons_self ..)) (flat_byte l)
    rw [D_some f' _ (by rw [nums_size, List.length_append]; omega), he, List.map_cons]
    rw [nums_cut, ih (fun r hr => hs r (List.mem_cons_of_mem _ hr)) f' (by omega)]
theorem D_fuel (f g : Nat) (t : ByteArray) (hf : t.size ≤ f) (hg : t.size ≤ g) : D f t = D g t := by
  induction f generalizing g t with
  | zero => rw [D_none 0 t (by omega), D_none g t (by omega)]
  | succ f ih =>
    by_cases h : 1 ≤ t.size
    · obtain ⟨g', rfl⟩ : ∃ g', g = g' + 1 := ⟨g - 1, by omega⟩
      have hb := st_bd t h
      have hz : (t.extract (st t).2 t.size).size ≤ t.size - 1 := by rw [ByteArray.size_extract]; omega
      rw [D_some f t h, D_some g' t h, ih g' _ (by omega) (by omega)]
    · rw [D_none _ t (by omega), D_none _ t (by omega)]
/-- How many bytes signs have in all. -/
def sum (l : List (Nat × Nat)) : Nat := (l.map (·.2)).sum
theorem D_sum (f : Nat) (t : ByteArray) (hf : t.size ≤ f) : sum (D f t) = t.size := by
  induction f generalizing t with
  | zero => rw [D_none 0 t (by omega)]; show 0 = _; omega
  | succ f ih =>
    by_cases h : 1 ≤ t.size
    · have hb := st_bd t h
      have hz : (t.extract (st t).2 t.size).size = t.size - (st t).2 := by rw [ByteArray.size_extract]; omega
      have := ih (t.extract (st t).2 t.size) (by omega)
      rw [D_some f t h]
      unfold sum at this ⊢
      rw [List.map_cons, List.sum_cons, this, hz]
      omega
    · rw [D_none _ t (by omega)]; show 0 = _; omega
theorem stN_sign (n b0 b1 b2 b3 : Nat) : sign ((stN n b0 b1 b2 b3).1 : Int) := by
  have hl : (b0 = 224 ∧ lo b0 = 160) ∨ (b0 = 240 ∧ lo b0 = 144) ∨ (b0 ≠ 224 ∧ b0 ≠ 240 ∧ lo b0 = 128) := by unfold lo; split <;> (try split) <;> omega
  have hh : (b0 = 237 ∧ hi b0 = 159) ∨ (b0 = 244 ∧ hi b0 = 143) ∨ (b0 ≠ 237 ∧ b0 ≠ 244 ∧ hi b0 = 191) := by unfold hi; split <;> (try split) <;> omega
  unfold stN sign
  generalize lo b0 = l at *
  generalize hi b0 = h at *
  repeat' split
  all_goals (simp only; omega)
theorem D_each (f : Nat) (t : ByteArray) : ∀ p ∈ D f t, sign (p.1 : Int) ∧ 1 ≤ p.2 := by
  induction f generalizing t with
  | zero => intro p hp; rw [D] at hp; cases hp
  | succ f ih =>
    intro p hp
    by_cases h : 1 ≤ t.size
    · rw [D_some f t h] at hp
      rcases List.mem_cons.1 hp with rfl | hp
      · exact ⟨stN_sign _ _ _ _ _, (st_bd t h).1⟩
      · exact ih _ p hp
    · rw [D_none _ t (by omega)] at hp; cases hp
/-- A text's bytes. -/
def bs (t : ByteArray) : List Int := t.data.toList.map fun b => (b.toNat : Int)
theorem bs_nums (t : ByteArray) : strOfNums (bs t) = t := by
  apply ByteArray.ext
  apply Array.ext'
  rw [strOfNums_data]
  unfold bs
  rw [List.map_map]
  conv => rhs; rw [← List.map_id t.data.toList]
  apply List.map_congr_left
  intro b _
  simp
theorem bs_len (t : ByteArray) : (bs t).length = t.size := by unfold bs; rw [List.length_map]; rfl
theorem bs_get (t : ByteArray) (j : Nat) : (bs t).getD j 0 = (nb t j : Int) := by
  unfold bs nb
  by_cases h : j < t.data.toList.length
  · rw [List.getD_eq_getElem?_getD, List.getD_eq_getElem?_getD, List.getElem?_map, List.getElem?_eq_getElem h]
    rfl
  · rw [List.getD_eq_getElem?_getD, List.getD_eq_getElem?_getD, List.getElem?_eq_none (by simpa using h), List.getElem?_eq_none (by omega)]
    rfl
theorem bs_cut (t : ByteArray) (k : Nat) : bs (t.extract k t.size) = (bs t).drop k := by
  unfold bs
  rw [ByteArray.data_extract, Array.toList_extract, List.extract_eq_take_drop, ← List.map_drop, List.take_of_length_le (by rw [List.length_drop]; exact Nat.le_refl _)]
/-- What is read, and is not bad, is written as it was. -/
theorem enc_st (n b0 b1 b2 b3 : Nat) (hn : 1 ≤ n) (h : (stN n b0 b1 b2 b3).1 ≠ 65533) :
    encodeRuneZ ((stN n b0 b1 b2 b3).1 : Int) = ([(b0 : Int), (b1 : Int), (b2 : Int), (b3 : Int)].take (stN n b0 b1 b2 b3).2) := by
  have hl : (b0 = 224 ∧ lo b0 = 160) ∨ (b0 = 240 ∧ lo b0 = 144) ∨ (b0 ≠ 224 ∧ b0 ≠ 240 ∧ lo b0 = 128) := by unfold lo; split <;> (try split) <;> omega
  have hh : (b0 = 237 ∧ hi b0 = 159) ∨ (b0 = 244 ∧ hi b0 = 143) ∨ (b0 ≠ 237 ∧ b0 ≠ 244 ∧ hi b0 = 191) := by unfold hi; split <;> (try split) <;> omega
  unfold stN at h ⊢
  generalize lo b0 = l at *
  generalize hi b0 = h' at *
  by_cases c1 : b0 < 128
  · rw [if_pos c1] at h ⊢
    show encodeRuneZ (b0 : Int) = [(b0 : Int)]
    exact encodeRuneZ_one (by omega) (by omega)
  · rw [if_neg c1] at h ⊢
    by_cases c2 : b0 < 194 ∨ 244 < b0
    · rw [if_pos c2] at h; exact absurd rfl h
    · rw [if_neg c2] at h ⊢
      by_cases c3 : n < 2 ∨ b1 < l ∨ h' < b1
      · rw [if_pos c3] at h; exact absurd rfl h
      · rw [if_neg c3] at h ⊢
        by_cases c4 : b0 < 224
        · rw [if_pos c4] at h ⊢
          show encodeRuneZ ((b0 % 32 * 64 + b1 % 64 : Nat) : Int) = [(b0 : Int), (b1 : Int)]
          rw [encodeRuneZ_two (by omega) (by omega)]
          congr 1
          · omega
          · congr 1
            omega
        · rw [if_neg c4] at h ⊢
          by_cases c5 : n < 3 ∨ b2 < 128 ∨ 191 < b2
          · rw [if_pos c5] at h; exact absurd rfl h
          · rw [if_neg c5] at h ⊢
            by_cases c6 : b0 < 240
            · rw [if_pos c6] at h ⊢
              show encodeRuneZ ((b0 % 16 * 4096 + b1 % 64 * 64 + b2 % 64 : Nat) : Int) = [(b0 : Int), (b1 : Int), (b2 : Int)]
              rw [encodeRuneZ_three (by omega)]
              congr 1
              · omega
              · congr 1
                · omega
                · congr 1
                  omega
            · rw [if_neg c6] at h ⊢
              by_cases c7 : n < 4 ∨ b3 < 128 ∨ 191 < b3
              · rw [if_pos c7] at h; exact absurd rfl h
              · rw [if_neg c7] at h ⊢
                show encodeRuneZ ((b0 % 8 * 262144 + b1 % 64 * 4096 + b2 % 64 * 64 + b3 % 64 : Nat) : Int) = [(b0 : Int), (b1 : Int), (b2 : Int), (b3 : Int)]
                rw [encodeRuneZ_four (by omega) (by omega)]
                congr 1
                · omega
                · congr 1
                  · omega
                  · congr 1
                    · omega
                    · congr 1
                      omega
theorem take_four (t : ByteArray) (k : Nat) (hk : k ≤ t.size) (h4 : k ≤ 4) : [(nb t 0 : Int), (nb t 1 : Int), (nb t 2 : Int), (nb t 3 : Int)].take k = (bs t).take k := by
  have hl := bs_len t
  apply List.ext_getElem
  · simp only [List.length_take, List.length_cons, List.length_nil]; omega
  · intro i h1 h2
    have hi : i < k := by simp only [List.length_take] at h2; omega
    rw [List.getElem_take, List.getElem_take]
    have e : ∀ (hb : i < (bs t).length), (bs t)[i] = (nb t i : Int) := fun hb => by
      rw [← bs_get, List.getD_eq_getElem?_getD, List.getElem?_eq_getElem hb]; rfl
    rw [e]
    rcases (show i = 0 ∨ i = 1 ∨ i = 2 ∨ i = 3 by omega) with rfl | rfl | rfl | rfl <;> rfl
theorem D_back (f : Nat) (t : ByteArray) (hf : t.size ≤ f) (hb : ∀ p ∈ D f t, p.1 ≠ 65533) : (sg (D f t)).flatMap encodeRuneZ = bs t := by
  induction f generalizing t with
  | zero =>
    rw [D_none 0 t (by omega)]
    exact (List.eq_nil_of_length_eq_zero (by rw [bs_len]; omega)).symm
  | succ f ih =>
    by_cases h : 1 ≤ t.size
    · have hs := st_bd t h
      rw [D_some f t h] at hb ⊢
      have hz : (t.extract (st t).2 t.size).size ≤ t.size - 1 := by rw [ByteArray.size_extract]; omega
      have ih' := ih (t.extract (st t).2 t.size) (by omega) (fun p hp => hb p (List.mem_cons_of_mem _ hp))
      have he := enc_st t.size (nb t 0) (nb t 1) (nb t 2) (nb t 3) h (hb (st t) (List.mem_cons_self ..))
      unfold sg at ih' ⊢
      rw [List.map_cons, List.flatMap_cons, ih', bs_cut]
      have he' : encodeRuneZ ((st t).1 : Int) = (bs t).take (st t).2 := by
        rw [← take_four t (st t).2 hs.2.1 hs.2.2.1]
        exact he
      rw [he', List.take_append_drop]
    · rw [D_none _ t (by omega)]
      exact (List.eq_nil_of_length_eq_zero (by rw [bs_len]; omega)).symm
/-- What stands behind the end of a sign changes nothing. -/
theorem st_cut (n m b0 b1 b2 b3 c1 c2 c3 : Nat) (hm : (stN n b0 b1 b2 b3).2 ≤ m) (hmn : m ≤ n) (hm1 : 1 ≤ m) (e1 : 1 < m → c1 = b1) (e2 : 2 < m → c2 = b2) (e3 : 3 < m → c3 = b3) : stN m b0 c1 c2 c3 = stN n b0 b1 b2 b3 := by
  unfold stN at hm ⊢
  by_cases a1 : b0 < 128
  · rw [if_pos a1, if_pos a1]
  · rw [if_neg a1] at hm ⊢
    rw [if_neg a1]
    by_cases a2 : b0 < 194 ∨ 244 < b0
    · rw [if_pos a2, if_pos a2]
    · rw [if_neg a2] at hm ⊢
      rw [if_neg a2]
      generalize lo b0 = l at *
      generalize hi b0 = h at *
      by_cases a3 : n < 2 ∨ b1 < l ∨ h < b1
      · rw [if_pos a3]
        by_cases k1 : 1 < m
        · rw [e1 k1, if_pos (by omega)]
        · rw [if_pos (by omega)]
      · rw [if_neg a3] at hm ⊢
        by_cases a4 : b0 < 224
        · rw [if_pos a4] at hm ⊢
          rw [e1 (by simp only at hm; omega), if_neg (by simp only at hm; omega), if_pos a4]
        · rw [if_neg a4] at hm ⊢
          by_cases a5 : n < 3 ∨ b2 < 128 ∨ 191 < b2
          · rw [if_pos a5] at hm ⊢
            rw [e1 (by simp only at hm; omega), if_neg (by simp only at hm; omega), if_neg a4]
            by_cases k2 : 2 < m
            · rw [e2 k2, if_pos (by omega)]
            · rw [if_pos (by omega)]
          · rw [if_neg a5] at hm ⊢
            by_cases a6 : b0 < 240
            · rw [if_pos a6] at hm ⊢
              rw [e1 (by simp only at hm; omega), e2 (by simp only at hm; omega), if_neg (by simp only at hm; omega), if_neg a4, if_neg (by simp only at hm; omega), if_pos a6]
            · rw [if_neg a6] at hm ⊢
              by_cases a7 : n < 4 ∨ b3 < 128 ∨ 191 < b3
              · rw [if_pos a7] at hm ⊢
                rw [e1 (by simp only at hm; omega), e2 (by simp only at hm; omega), if_neg (by simp only at hm; omega), if_neg a4, if_neg (by simp only at hm; omega), if_neg a6]
                by_cases k3 : 3 < m
                · rw [e3 k3, if_pos (by omega)]
                · rw [if_pos (by omega)]
              · rw [if_neg a7] at hm ⊢
                rw [e1 (by simp only at hm; omega), e2 (by simp only at hm; omega), e3 (by simp only at hm; omega), if_neg (by simp only at hm; omega), if_neg a4, if_neg (by simp only at hm; omega), if_neg a6, if_neg (by simp only at hm; omega)]
theorem extract_extract0 (t : ByteArray) (p e : Nat) : (t.extract 0 (p + e)).extract p (t.extract 0 (p + e)).size = (t.extract p t.size).extract 0 e := by
  apply ByteArray.ext
  apply Array.ext'
  simp only [ByteArray.data_extract, Array.toList_extract, List.extract_eq_take_drop, Nat.sub_zero, List.drop_zero]
  rw [List.take_of_length_le (by simp only [List.length_drop, List.length_take, ByteArray.size_extract]; show _ ≤ _; have : t.data.toList.length = t.size := rfl; omega)]
  rw [List.take_of_length_le (l := t.data.toList.drop p) (by rw [List.length_drop]; exact Nat.le_refl _)]
  rw [List.drop_take, Nat.add_sub_cancel_left]
theorem D_take (f : Nat) (t : ByteArray) (hf : t.size ≤ f) (k : Nat) (hk : k ≤ (D f t).length) : D f (t.extract 0 (sum ((D f t).take k))) = (D f t).take k := by
  induction f generalizing t k with
  | zero =>
    have e : D 0 t = [] := rfl
    rw [e] at hk ⊢
    rw [List.take_nil]
    rfl
  | succ f ih =>
    cases k with
    | zero =>
      rw [List.take_zero]
      exact D_none _ _ (by rw [ByteArray.size_extract]; show min 0 _ - 0 = 0; omega)
    | succ k =>
      by_cases h : 1 ≤ t.size
      · have hs := st_bd t h
        have hz : (t.extract (st t).2 t.size).size = t.size - (st t).2 := by rw [ByteArray.size_extract]; omega
        rw [D_some f t h] at hk ⊢
        rw [List.take_succ_cons]
        have hk' : k ≤ (D f (t.extract (st t).2 t.size)).length := by simpa using hk
        have ih' := ih (t.extract (st t).2 t.size) (by omega) k hk'
        obtain ⟨e, he⟩ : ∃ e, e = sum ((D f (t.extract (st t).2 t.size)).take k) := ⟨_, rfl⟩
        rw [← he] at ih'
        have hse : sum (st t :: (D f (t.extract (st t).2 t.size)).take k) = (st t).2 + e := by
          rw [he]; unfold sum; rw [List.map_cons, List.sum_cons]
        have hle : e ≤ t.size - (st t).2 := by
          have h1 := D_sum f (t.extract (st t).2 t.size) (by omega)
          rw [hz] at h1
          rw [← h1, he]
          unfold sum
          conv => rhs; rw [← List.take_append_drop k (D f (t.extract (st t).2 t.size)), List.map_append, List.sum_append]
          exact Nat.le_add_right _ _
        rw [hse]
        have hcz : (t.extract 0 ((st t).2 + e)).size = (st t).2 + e := by rw [ByteArray.size_extract]; omega
        have hst : st (t.extract 0 ((st t).2 + e)) = st t := by
          obtain ⟨E, hE⟩ : ∃ E, E = (st t).2 + e := ⟨_, rfl⟩
          rw [← hE] at hcz ⊢
          have g : ∀ j, j < E → nb (t.extract 0 E) j = nb t j := fun j hj => by
            have := extract_get t 0 E j (by omega) (by omega)
            rwa [Nat.zero_add] at this
          have h2 : (stN t.size (nb t 0) (nb t 1) (nb t 2) (nb t 3)).2 ≤ E := by
            have : (st t).2 ≤ E := by omega
            exact this
          show stN (t.extract 0 E).size (nb (t.extract 0 E) 0) (nb (t.extract 0 E) 1) (nb (t.extract 0 E) 2) (nb (t.extract 0 E) 3) = stN t.size (nb t 0) (nb t 1) (nb t 2) (nb t 3)
          rw [hcz, g 0 (by omega)]
          exact st_cut t.size E _ _ _ _ _ _ _ h2 (by omega) (by omega) (fun h => g 1 h) (fun h => g 2 h) (fun h => g 3 h)
        rw [D_some f _ (by rw [hcz]; omega), hst]
        congr 1
        rw [extract_extract0, ih']
      · rw [D_none _ t (by omega)] at hk
        simp at hk
end Go.Proofs.YtaboemchkmmgeaaDoor.utf
