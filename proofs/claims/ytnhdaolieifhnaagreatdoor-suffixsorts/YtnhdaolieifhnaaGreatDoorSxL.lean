/- Plain facts on the longest text that stands at two places. -/
import Derived.Test.YtnhdaolieifhnaaGreatDoorSxF
import Derived.Lib.LastIndexLaws
namespace Go.Proofs.YtnhdaolieifhnaaGreatDoor.sx
set_option linter.unusedVariables false
open Go.ChangeShapes Go.WideShapes Go.ChangeAt Go.RowKit
open mem rows fd

theorem ext_bytes {x y : ByteArray} (hl : x.size = y.size) (h : ∀ t, t < x.size → sb x t = sb y t) : x = y := by
  have h1 := toList_inj hl h
  rw [ByteArray.toList_eq, ByteArray.toList_eq] at h1
  obtain ⟨⟨x⟩⟩ := x
  obtain ⟨⟨y⟩⟩ := y
  exact congrArg _ (congrArg _ h1)
/-- The n bytes of a text from i on. -/
def tx (s : ByteArray) (i n : Nat) : ByteArray := s.extract i (i + n)
theorem tx_size (s : ByteArray) (i n : Nat) (h : i + n ≤ s.size) : (tx s i n).size = n := by unfold tx; rw [ByteArray.size_extract]; omega
theorem sb_tx (s : ByteArray) (i n t : Nat) (h : i + n ≤ s.size) (ht : t < n) : sb (tx s i n) t = sb s (i + t) := sb_extract s i n t h ht
theorem tx_eq {s : ByteArray} {i j n : Nat} (hi : i + n ≤ s.size) (hj : j + n ≤ s.size) : tx s i n = tx s j n ↔ Eqm (gs s) n i j := by
  constructor
  · intro h t ht
    rw [gs_at _ _ (by omega), gs_at _ _ (by omega), ← sb_tx s i n t hi ht, ← sb_tx s j n t hj ht, h]
  · intro h
    refine ext_bytes (by rw [tx_size _ _ _ hi, tx_size _ _ _ hj]) fun t ht => ?_
    rw [tx_size _ _ _ hi] at ht
    rw [sb_tx _ _ _ _ hi ht, sb_tx _ _ _ _ hj ht]
    have := h t ht
    rw [gs_at _ _ (by omega), gs_at _ _ (by omega)] at this
    omega
/-- The n bytes from i on stand farther on, too. -/
def dup (s : ByteArray) (n i : Nat) : Prop := ∃ j, i < j ∧ j + n ≤ s.size ∧ Eqm (gs s) n i j
instance (s : ByteArray) (n i : Nat) : Decidable (dup s n i) :=
  decidable_of_iff (∃ j, j < s.size + 1 ∧ (i < j ∧ j + n ≤ s.size ∧ Eqm (gs s) n i j)) ⟨fun ⟨j, _, h⟩ => ⟨j, h⟩, fun ⟨j, h⟩ => ⟨j, by omega, h⟩⟩
theorem dup.le {s : ByteArray} {n i : Nat} (h : dup s n i) : i + n ≤ s.size := by
  obtain ⟨j, h1, h2, _⟩ := h
  omega
/-- What stands twice is what two ends, one right behind the other, begin with. -/
theorem dup_cm {s : ByteArray} {L : List Nat} (hL : IsSort (gs s) s.size L) {n i : Nat} (hn : 1 ≤ n) (h : dup s n i) : ∃ k, k < s.size ∧ n ≤ cm (gs s) s.size L k ∧ tx s (L.getD k 0) n = tx s i n ∧ L.getD k 0 + n ≤ s.size := by
  have hi := h.le
  obtain ⟨j, h1, h2, h3⟩ := h
  have key : ∀ a b, a < b → b < s.size → Eqm (gs s) n (L.getD a 0) (L.getD b 0) → n ≤ cm (gs s) s.size L b := fun a b hab hb he => by
    obtain ⟨c, rfl⟩ : ∃ c, b = c + 1 := ⟨b - 1, by omega⟩
    refine (cm_is (gs_tx s) hL hb).ge (between he ?_ (Or.inr (hL.lt (Nat.lt_succ_self c) hb)))
    rcases Nat.lt_or_ge a c with h5 | h5
    · exact Or.inr (hL.lt h5 (by omega))
    · obtain rfl : a = c := by omega
      exact Or.inl rfl
  obtain ⟨a, ha, ea⟩ := hL.at i (by omega)
  obtain ⟨b, hb, eb⟩ := hL.at j (by omega)
  rcases Nat.lt_trichotomy a b with hab | hab | hab
  · exact ⟨b, hb, key a b hab hb (by rw [ea, eb]; exact h3), by rw [eb]; exact (tx_eq h2 hi).2 h3.symm, by rw [eb]; exact h2⟩
  · subst hab; omega
  · exact ⟨a, ha, key b a hab ha (by rw [ea, eb]; exact h3.symm), by rw [ea], by rw [ea]; exact hi⟩
theorem cm_dup {s : ByteArray} {L : List Nat} (hL : IsSort (gs s) s.size L) {n k : Nat} (hk : k < s.size) (hn : 1 ≤ n) (h : n ≤ cm (gs s) s.size L k) : ∃ i, dup s n i ∧ tx s i n = tx s (L.getD k 0) n ∧ L.getD k 0 + n ≤ s.size := by
  obtain ⟨c, rfl⟩ : ∃ c, k = c + 1 := by
    cases k with
    | zero => simp [cm] at h; omega
    | succ c => exact ⟨c, rfl⟩
  have hc := cm_is (gs_tx s) hL hk
  have he : Eqm (gs s) n (L.getD c 0) (L.getD (c + 1) 0) := hc.1.mono h
  have hne : L.getD c 0 ≠ L.getD (c + 1) 0 := fun e => by have := hL.inj (by omega) hk e; omega
  obtain ⟨b1, b2⟩ := (gs_tx s).short (hL.lt_N _ (by omega)) (hL.lt_N _ hk) hne he
  rcases Nat.lt_or_ge (L.getD c 0) (L.getD (c + 1) 0) with hlt | hge
  · exact ⟨_, ⟨_, hlt, b2, he⟩, (tx_eq b1 b2).2 he, b2⟩
  · exact ⟨_, ⟨_, by omega, b1, he.symm⟩, rfl, b2⟩
/-- Of the first i the first that has most. -/
structure Bst (s : ByteArray) (L : List Nat) (i : Nat) (t : ByteArray) : Prop where
  le : ∀ k, k < i → cm (gs s) s.size L k ≤ t.size
  here : 0 < t.size → ∃ k, k < i ∧ cm (gs s) s.size L k = t.size ∧ t = tx s (L.getD k 0) t.size ∧ ∀ j, j < k → cm (gs s) s.size L j < t.size
theorem Bst.zero (s : ByteArray) (L : List Nat) : Bst s L 0 ⟨#[]⟩ := ⟨fun k hk => absurd hk (Nat.not_lt_zero _), fun h => absurd h (by decide)⟩
theorem Bst.same {s : ByteArray} {L : List Nat} {i : Nat} {t : ByteArray} (h : Bst s L i t) (hc : cm (gs s) s.size L i ≤ t.size) : Bst s L (i + 1) t := by
  refine ⟨fun k hk => ?_, fun h0 => ?_⟩
  · rcases Nat.lt_or_ge k i with h1 | h1
    · exact h.le k h1
    · obtain rfl : k = i := by omega
      exact hc
  · obtain ⟨k, h1, h2⟩ := h.here h0
    exact ⟨k, by omega, h2⟩
theorem Bst.more {s : ByteArray} {L : List Nat} (hL : IsSort (gs s) s.size L) {i : Nat} {t : ByteArray} (hi : i < s.size) (h : Bst s L i t) (hc : t.size < cm (gs s) s.size L i) : Bst s L (i + 1) (tx s (L.getD i 0) (cm (gs s) s.size L i)) := by
  have hle := cm_le (gs_tx s) hL hi
  have hN := hL.lt_N i hi
  have hsz := tx_size s (L.getD i 0) (cm (gs s) s.size L i) (by omega)
  refine ⟨fun k hk => ?_, fun h0 => ⟨i, Nat.lt_succ_self i, hsz.symm, by rw [hsz], fun j hj => ?_⟩⟩
  · rw [hsz]
    rcases Nat.lt_or_ge k i with h1 | h1
    · have := h.le k h1; omega
    · obtain rfl : k = i := by omega
      exact Nat.le_refl _
  · rw [hsz]
    have := h.le j hj
    omega
/-- On the document's side: of the first i places the least text of n bytes that stands farther on, too. -/
structure Lst (s : ByteArray) (n i : Nat) (t : ByteArray) : Prop where
  none : t.size = 0 → ∀ j, j < i → ¬ dup s n j
  some : 0 < t.size → ∃ j, j < i ∧ dup s n j ∧ t = tx s j n
  least : ∀ j, j < i → dup s n j → Op.bytesLess (tx s j n).toList t.toList = false
theorem Lst.zero (s : ByteArray) (n : Nat) : Lst s n 0 ⟨#[]⟩ := ⟨fun _ j hj => absurd hj (Nat.not_lt_zero _), fun h => absurd h (by decide), fun j hj => absurd hj (Nat.not_lt_zero _)⟩
theorem Lst.same {s : ByteArray} {n i : Nat} {t : ByteArray} (h : Lst s n i t) (hd : ¬ dup s n i) : Lst s n (i + 1) t := by
  have key : ∀ j, j < i + 1 → j < i ∨ j = i := fun j hj => by omega
  refine ⟨fun h0 j hj => ?_, fun h0 => ?_, fun j hj hdj => ?_⟩
  · rcases key j hj with h1 | rfl
    · exact h.none h0 j h1
    · exact hd
  · obtain ⟨j, h1, h2⟩ := h.some h0
    exact ⟨j, by omega, h2⟩
  · rcases key j hj with h1 | rfl
    · exact h.least j h1 hdj
    · exact absurd hdj hd
theorem Lst.kept {s : ByteArray} {n i : Nat} {t : ByteArray} (h : Lst s n i t) (h0 : 0 < t.size) (hl : Op.bytesLess (tx s i n).toList t.toList = false) : Lst s n (i + 1) t := by
  have key : ∀ j, j < i + 1 → j < i ∨ j = i := fun j hj => by omega
  refine ⟨fun h1 => by omega, fun _ => ?_, fun j hj hdj => ?_⟩
  · obtain ⟨j, h1, h2⟩ := h.some h0
    exact ⟨j, by omega, h2⟩
  · rcases key j hj with h1 | rfl
    · exact h.least j h1 hdj
    · exact hl
theorem less_trans {x y z : List UInt8} (h : Op.bytesLess x y = true) (h' : Op.bytesLess y z = true) : Op.bytesLess x z = true := by
  rw [less_iff] at *
  obtain ⟨a, h1, h2⟩ := h
  obtain ⟨b, h3, h4⟩ := h'
  rcases Nat.lt_trichotomy a b with hab | hab | hab
  · exact ⟨a, fun t ht => (h1 t ht).trans (h3 t (by omega)), by rw [← h3 a hab]; exact h2⟩
  · subst hab; exact ⟨a, fun t ht => (h1 t ht).trans (h3 t ht), Int.lt_trans h2 h4⟩
  · exact ⟨b, fun t ht => (h1 t (by omega)).trans (h3 t ht), by rw [h1 b hab]; exact h4⟩
theorem less_irrefl (x : List UInt8) : Op.bytesLess x x = false := by
  rw [← Bool.not_eq_true, less_iff]
  rintro ⟨k, _, h⟩
  omega
theorem Lst.better {s : ByteArray} {n i : Nat} {t : ByteArray} (hn : 1 ≤ n) (h : Lst s n i t) (hd : dup s n i) (hl : t.size = 0 ∨ Op.bytesLess (tx s i n).toList t.toList = true) : Lst s n (i + 1) (tx s i n) := by
  have key : ∀ j, j < i + 1 → j < i ∨ j = i := fun j hj => by omega
  have hsz := tx_size s i n hd.le
  refine ⟨fun h1 => by omega, fun _ => ⟨i, Nat.lt_succ_self i, hd, rfl⟩, fun j hj hdj => ?_⟩
  rcases key j hj with h1 | rfl
  · rcases hl with hl | hl
    · exact absurd hdj (h.none hl j h1)
    · have h2 := h.least j h1 hdj
      rw [← Bool.not_eq_true] at h2 ⊢
      exact fun h3 => h2 (less_trans h3 hl)
  · exact less_irrefl _
theorem less_tri {x y : ByteArray} (hl : x.size = y.size) (h1 : Op.bytesLess x.toList y.toList = false) (h2 : Op.bytesLess y.toList x.toList = false) : x = y := by
  rw [← Bool.not_eq_true, less_iff] at h1 h2
  have key : ∀ k, ∀ t, t < k → gl x.toList t = gl y.toList t := fun k => by
    induction k with
    | zero => exact fun t ht => absurd ht (Nat.not_lt_zero _)
    | succ k ih =>
      intro t ht
      rcases Nat.lt_or_ge t k with h | h
      · exact ih t h
      · obtain rfl : t = k := by omega
        rcases Int.lt_trichotomy (gl x.toList t) (gl y.toList t) with h3 | h3 | h3
        · exact absurd ⟨t, ih, h3⟩ h1
        · exact h3
        · exact absurd ⟨t, fun u hu => (ih u hu).symm, h3⟩ h2
  refine ext_bytes hl fun t ht => ?_
  have := key (t + 1) t (by omega)
  rw [gl_text, gl_text, if_pos ht, if_pos (by omega)] at this
  omega
theorem tx_order {s : ByteArray} {x y z : Nat} (hx : x + z ≤ s.size) (hy : y + z ≤ s.size) (h : lt (gs s) x y) : Op.bytesLess (tx s y z).toList (tx s x z).toList = false := by
  rw [← Bool.not_eq_true, less_iff]
  rintro ⟨m, h5, h6⟩
  have hg : ∀ x, x + z ≤ s.size → ∀ r, r < z → gl (tx s x z).toList r = gs s (x + r) := fun x hx r hr => by
    rw [gl_text, tx_size _ _ _ hx, if_pos hr, sb_tx _ _ _ _ hx hr, gs_at _ _ (by omega)]
  have hm : m < z := by
    rcases Nat.lt_or_ge m z with h7 | h7
    · exact h7
    · rw [gl_text, gl_text, tx_size _ _ _ hx, tx_size _ _ _ hy, if_neg (by omega), if_neg (by omega)] at h6
      omega
  refine lt.asymm h ⟨m, fun r hr => ?_, ?_⟩
  · have := h5 r hr
    rw [hg _ hx r (by omega), hg _ hy r (by omega)] at this
    exact this
  · rw [hg _ hx m hm, hg _ hy m hm] at h6
    exact h6
/-- The first in order that has most is the least longest one. -/
theorem longest_is {s : ByteArray} {L : List Nat} (hL : IsSort (gs s) s.size L) {t u : ByteArray} (h : Bst s L s.size t) (h0 : 0 < t.size) (hu : Lst s t.size (s.size + 1 - t.size) u) : u = t := by
  obtain ⟨k, hk, hc, ht, hf⟩ := h.here h0
  have hle := h.le
  obtain ⟨z, hz⟩ : ∃ z, t.size = z := ⟨_, rfl⟩
  rw [hz] at hc ht hf hu h0 hle
  clear h
  obtain ⟨i, hd, e1, e2⟩ := cm_dup hL hk h0 (by omega)
  have hiN : i < s.size + 1 - z := by have := hd.le; omega
  have hu0 : 0 < u.size := by
    rcases Nat.eq_zero_or_pos u.size with h1 | h1
    · exact absurd hd (hu.none h1 i hiN)
    · exact h1
  obtain ⟨j, hj, hdj, ej⟩ := hu.some hu0
  have hus : u.size = z := by
    have := tx_size s j z hdj.le
    rw [← ej] at this
    exact this
  refine less_tri (by rw [hus, hz]) ?_ ?_
  · obtain ⟨k', hk', hc', e3, e4⟩ := dup_cm hL h0 hdj
    have hc2 := hle k' hk'
    rw [ej, ← e3, ht]
    rcases Nat.lt_trichotomy k k' with h1 | h1 | h1
    · have hlt := hL.lt h1 hk'
      generalize L.getD k 0 = x at *
      generalize L.getD k' 0 = y at *
      exact tx_order e2 e4 hlt
    · subst h1
      exact less_irrefl _
    · have := hf k' h1
      omega
  · have := hu.least i hiN hd
    rw [e1, ← ht] at this
    exact this
/-- Of more bytes none stands twice. -/
theorem none_more {s : ByteArray} {L : List Nat} (hL : IsSort (gs s) s.size L) {t : ByteArray} (h : Bst s L s.size t) {n : Nat} (hn : t.size < n) (i : Nat) : ¬ dup s n i := fun hd => by
  obtain ⟨k, hk, hc, _⟩ := dup_cm hL (by omega) hd
  have := h.le k hk
  omega
/-- A text stands farther on just if it stands last there. -/
theorem occ_iff {s : ByteArray} {i n j : Nat} (hi : i + n ≤ s.size) (hj : j + n ≤ s.size) : Lib.occAt s.data.toList (tx s i n).data.toList j = true ↔ Eqm (gs s) n i j := by
  unfold Lib.occAt
  rw [List.isPrefixOf_iff_prefix]
  have hl : (tx s i n).data.toList.length = n := tx_size s i n hi
  have hsl : s.data.toList.length = s.size := rfl
  have hget : ∀ t, t < n → (((tx s i n).data.toList.getD t 0).toNat : Int) = sb s (i + t) := fun t ht => sb_tx s i n t hi ht
  rw [List.prefix_iff_eq_take, hl]
  constructor
  · intro h t ht
    have h1 : (tx s i n).data.toList.getD t 0 = ((s.data.toList.drop j).take n).getD t 0 := by rw [← h]
    rw [List.getD_eq_getElem?_getD (l := (s.data.toList.drop j).take n), List.getElem?_take_of_lt ht, List.getElem?_drop, ← List.getD_eq_getElem?_getD] at h1
    rw [gs_at _ _ (by omega), gs_at _ _ (by omega), ← hget t ht, h1]
    rfl
  · intro h
    apply List.ext_getElem?
    intro t
    by_cases ht : t < n
    · have h2 : t < (tx s i n).data.toList.length := by omega
      have h3 : j + t < s.data.toList.length := by omega
      rw [List.getElem?_take_of_lt ht, List.getElem?_drop, List.getElem?_eq_getElem h2, List.getElem?_eq_getElem h3]
      refine congrArg some (UInt8.toNat_inj.1 ?_)
      have h4 := h t ht
      rw [gs_at _ _ (by omega), gs_at _ _ (by omega), ← hget t ht] at h4
      rw [List.getD_eq_getElem?_getD, List.getElem?_eq_getElem h2] at h4
      have h5 : sb s (j + t) = ((s.data.toList[j + t]'h3).toNat : Int) := by
        unfold sb
        rw [List.getD_eq_getElem?_getD, List.getElem?_eq_getElem h3]
        rfl
      rw [h5] at h4
      simp only [Option.getD_some] at h4
      omega
    · rw [List.getElem?_eq_none (by omega), List.getElem?_eq_none (by rw [List.length_take]; omega)]
theorem last_iff {s : ByteArray} {i n : Nat} (hi : i + n ≤ s.size) : (i : Int) < Lib.lastIndex s.data.toList (tx s i n).data.toList ↔ dup s n i := by
  have hl : (tx s i n).data.toList.length = n := tx_size s i n hi
  have hsl : s.data.toList.length = s.size := rfl
  unfold Lib.lastIndex
  rw [hl, hsl, if_pos (by omega)]
  have hself : Lib.occAt s.data.toList (tx s i n).data.toList i = true := (occ_iff hi hi).2 (Eqm.refl _ _ _)
  rcases Lib.lastOcc_spec s.data.toList (tx s i n).data.toList (s.size - n + 1) with ⟨e, h⟩ | ⟨j, hj, e, ho, hm⟩
  · have := h i (by omega)
    rw [hself] at this
    exact absurd this (by decide)
  · rw [e]
    constructor
    · intro hij
      exact ⟨j, by omega, by omega, (occ_iff hi (by omega)).1 ho⟩
    · rintro ⟨m, h1, h2, h3⟩
      have hom : Lib.occAt s.data.toList (tx s i n).data.toList m = true := (occ_iff hi h2).2 h3
      rcases Nat.lt_or_ge j m with h4 | h4
      · have := hm m h4 (by omega)
        rw [hom] at this
        exact absurd this (by decide)
      · omega
end Go.Proofs.YtnhdaolieifhnaaGreatDoor.sx
