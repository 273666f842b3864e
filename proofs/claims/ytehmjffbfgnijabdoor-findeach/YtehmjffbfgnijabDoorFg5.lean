/- Several patterns that came in; how far their tree has come. -/
import Derived.Test.YtehmjffbfgnijabDoorFg4
namespace Go.Proofs.YtehmjffbfgnijabDoor.tree
set_option linter.unusedVariables false
open Go.ChangeShapes Go.WideShapes Go.ChangeAt Go.RowKit Go.Maps
open mem rows fd

/-- These texts lie at p. -/
def InT (w : World) (p : Option Addr) (ps : List ByteArray) : Prop :=
  ps = [] ∨ ∃ x : Addr, p = some x ∧ ∀ k, k < ps.length → w.cell? (x.add k) = some (.string (ps.getD k .empty))
theorem InT.step {w w' : World} {p : Option Addr} {ps : List ByteArray} (h : InT w p ps) (hb : Bl w w') : InT w' p ps := by
  rcases h with h | ⟨x, h1, h2⟩
  · exact Or.inl h
  · exact Or.inr ⟨x, h1, fun k hk => at_bl hb (h2 k hk)⟩
theorem InT.at {w : World} {p : Option Addr} {ps : List ByteArray} (h : InT w p ps) (k : Nat) (hk : k < ps.length) : ∃ x : Addr, p = some x ∧ w.cell? (x.add k) = some (.string (ps.getD k .empty)) := by
  rcases h with h | ⟨x, h1, h2⟩
  · rw [h] at hk; exact absurd hk (Nat.not_lt_zero _)
  · exact ⟨x, h1, h2 k hk⟩
/-- A pattern's bytes. -/
def pt (p : ByteArray) : List Int := (List.range p.size).map (sb p)
theorem pt_len (p : ByteArray) : (pt p).length = p.size := by simp [pt]
theorem pt_next (p : ByteArray) (i : Nat) (h : i < p.size) : (pt p).take (i + 1) = (pt p).take i ++ [sb p i] := by
  rw [List.take_add_one]
  congr 1
  simp [pt, h]
theorem pt_all (p : ByteArray) (i : Nat) (h : p.size ≤ i) : (pt p).take i = pt p := List.take_of_length_le (by rw [pt_len]; exact h)
/-- The patterns that are there wholly. -/
def Dn (L : Nat → Nat) (i k k' : Nat) : Prop := L k' ≤ i ∨ (L k' = i + 1 ∧ k' < k)
/-- How far the tree has come: i bytes of all, one more of the first k. -/
structure Up (P : Nat → List Int) (K i k m : Nat) (tx : Nat → List Int) (W C : Nat → Nat) : Prop where
  lens : ∀ j, j < m → (tx j).length ≤ i + 1
  come : ∀ k', k' < K → C k' < m ∧ tx (C k') = (P k').take (if k' < k then i + 1 else i)
  lt : ∀ j, j < m → W j < 18446744073709551616
  bit : ∀ j, j < m → ∀ q, (W j).testBit q = true ↔ q < K ∧ Dn (fun x => (P x).length) i k q ∧ P q <:+ tx j
theorem Up.there {P : Nat → List Int} {K i k m : Nat} {tx : Nat → List Int} {W C : Nat → Nat} (h : Up P K i k m tx W C) (q : Nat) (hq : q < K) (hd : Dn (fun x => (P x).length) i k q) : C q < m ∧ tx (C q) = P q := by
  obtain ⟨h1, h2⟩ := h.come q hq
  refine ⟨h1, ?_⟩
  rw [h2]
  apply List.take_of_length_le
  rcases hd with hd | ⟨hd, hk⟩
  · dsimp only at hd
    split <;> omega
  · dsimp only at hd
    rw [if_pos hk]; omega
/-- A pattern that is there already. -/
theorem Up.skip {P : Nat → List Int} {K i k m : Nat} {tx : Nat → List Int} {W C : Nat → Nat} (h : Up P K i k m tx W C) (hk : (P k).length ≤ i) : Up P K i (k + 1) m tx W C := by
  refine ⟨h.lens, fun q hq => ?_, h.lt, fun j hj q => ?_⟩
  · obtain ⟨h1, h2⟩ := h.come q hq
    refine ⟨h1, ?_⟩
    rw [h2]
    by_cases e : q = k
    · subst e
      rw [if_neg (by omega), if_pos (by omega), List.take_of_length_le hk, List.take_of_length_le (by omega)]
    · by_cases hlt : q < k
      · rw [if_pos hlt, if_pos (by omega)]
      · rw [if_neg hlt, if_neg (by omega)]
  · rw [h.bit j hj q]
    have : Dn (fun x => (P x).length) i k q ↔ Dn (fun x => (P x).length) i (k + 1) q := by
      unfold Dn
      dsimp only
      constructor
      · rintro (h | ⟨h1, h2⟩)
        · exact Or.inl h
        · exact Or.inr ⟨h1, by omega⟩
      · rintro (h | ⟨h1, h2⟩)
        · exact Or.inl h
        · rcases Nat.lt_or_ge q k with h3 | h3
          · exact Or.inr ⟨h1, h3⟩
          · obtain rfl : q = k := by omega
            omega
    rw [this]
/-- Behind one byte more, ahead of what is noted of the pattern itself. -/
structure Mid (P : Nat → List Int) (K i k m : Nat) (tx : Nat → List Int) (W C : Nat → Nat) : Prop where
  lens : ∀ j, j < m → (tx j).length ≤ i + 1
  come : ∀ k', k' < K → C k' < m ∧ tx (C k') = (P k').take (if k' < k + 1 then i + 1 else i)
  lt : ∀ j, j < m → W j < 18446744073709551616
  bit : ∀ j, j < m → ∀ q, (W j).testBit q = true ↔ q < K ∧ Dn (fun x => (P x).length) i k q ∧ P q <:+ tx j
theorem Up.mid_old {P : Nat → List Int} {K i k m j : Nat} {tx : Nat → List Int} {W C : Nat → Nat} (h : Up P K i k m tx W C) (hj : j < m) (hk : tx j = (P k).take (i + 1)) : Mid P K i k m tx W (fun q => if q = k then j else C q) := by
  refine ⟨h.lens, fun q hq => ?_, h.lt, h.bit⟩
  by_cases e : q = k
  · subst e
    rw [if_pos rfl, if_pos (by omega)]
    exact ⟨hj, hk⟩
  · rw [if_neg e]
    obtain ⟨h1, h2⟩ := h.come q hq
    refine ⟨h1, ?_⟩
    rw [h2]
    by_cases hlt : q < k
    · rw [if_pos hlt, if_pos (by omega)]
    · rw [if_neg hlt, if_neg (by omega)]
theorem Up.mid_new {P : Nat → List Int} {K i k m e : Nat} {tx : Nat → List Int} {W C : Nat → Nat} {t : List Int} (h : Up P K i k m tx W C) (ht : t = (P k).take (i + 1)) (htl : t.length = i + 1) (hn : ∀ j, j < m → tx j ≠ t) (he : LS tx m (t.drop 1) e) :
    Mid P K i k (m + 1) (fun j => if j = m then t else tx j) (fun j => if j = m then W e else W j) (fun q => if q = k then m else C q) := by
  refine ⟨fun j hj => ?_, fun q hq => ?_, fun j hj => ?_, fun j hj q => ?_⟩
  · skip
    split
    · omega
    · exact h.lens j (by omega)
  · skip
    by_cases e : q = k
    · subst e
      rw [if_pos rfl, if_pos rfl, if_pos (by omega)]
      exact ⟨by omega, ht⟩
    · rw [if_neg e]
      obtain ⟨h1, h2⟩ := h.come q hq
      refine ⟨by omega, ?_⟩
      rw [if_neg (by omega), h2]
      by_cases hlt : q < k
      · rw [if_pos hlt, if_pos (by omega)]
      · rw [if_neg hlt, if_neg (by omega)]
  · skip
    split
    · exact h.lt e he.lt
    · exact h.lt j (by omega)
  · skip
    by_cases hjm : j = m
    · subst hjm
      rw [if_pos rfl, if_pos rfl, h.bit e he.lt q]
      constructor
      · rintro ⟨h1, h2, h3⟩
        exact ⟨h1, h2, h3.trans (he.suf.trans (List.drop_suffix 1 t))⟩
      · rintro ⟨h1, h2, h3⟩
        obtain ⟨h4, h5⟩ := h.there q h1 h2
        refine ⟨h1, h2, ?_⟩
        have hne : P q ≠ t := by rw [← h5]; exact hn _ h4
        have hlt : (P q).length < t.length := by
          rcases Nat.lt_or_ge (P q).length t.length with g | g
          · exact g
          · exact absurd (h3.eq_of_length (Nat.le_antisymm h3.length_le g)) hne
        have hs : P q <:+ t.drop 1 := suf_of_len h3 (List.drop_suffix 1 t) (by rw [List.length_drop]; omega)
        have := he.longest (C q) h4 (by rw [h5]; exact hs)
        rw [h5] at this
        exact suf_of_len hs he.suf this
    · rw [if_neg hjm, if_neg hjm]
      exact h.bit j (by omega) q
/-- The pattern goes on. -/
theorem Mid.on {P : Nat → List Int} {K i k m : Nat} {tx : Nat → List Int} {W C : Nat → Nat} (h : Mid P K i k m tx W C) (hl : i + 1 < (P k).length) : Up P K i (k + 1) m tx W C := by
  refine ⟨h.lens, h.come, h.lt, fun j hj q => ?_⟩
  rw [h.bit j hj q]
  have : Dn (fun x => (P x).length) i k q ↔ Dn (fun x => (P x).length) i (k + 1) q := by
    unfold Dn
    dsimp only
    constructor
    · rintro (h | ⟨h1, h2⟩)
      · exact Or.inl h
      · exact Or.inr ⟨h1, by omega⟩
    · rintro (h | ⟨h1, h2⟩)
      · exact Or.inl h
      · rcases Nat.lt_or_ge q k with h3 | h3
        · exact Or.inr ⟨h1, h3⟩
        · obtain rfl : q = k := by omega
          omega
  rw [this]
/-- The pattern is there wholly, and that is noted. -/
theorem Mid.whole {P : Nat → List Int} {E : Nat → Nat} {K i k m : Nat} {tx : Nat → List Int} {W C : Nat → Nat} (h : Mid P K i k m tx W C) (T : Tr tx E m) (hk : k < K) (hK : K ≤ 64) (hl : i + 1 = (P k).length) : Up P K i (k + 1) m tx (fun j => if j = C k then W j ||| 2 ^ k else W j) C := by
  obtain ⟨c1, c2⟩ := h.come k hk
  rw [if_pos (by omega), List.take_of_length_le (by omega)] at c2
  refine ⟨h.lens, h.come, fun j hj => ?_, fun j hj q => ?_⟩
  · skip
    split
    · exact Nat.or_lt_two_pow (n := 64) (h.lt j hj) (Nat.pow_lt_pow_right (by decide) (by omega))
    · exact h.lt j hj
  · have hd : Dn (fun x => (P x).length) i (k + 1) q ↔ Dn (fun x => (P x).length) i k q ∨ q = k := by
      unfold Dn
      dsimp only
      constructor
      · rintro (h | ⟨h1, h2⟩)
        · exact Or.inl (Or.inl h)
        · rcases Nat.lt_or_ge q k with h3 | h3
          · exact Or.inl (Or.inr ⟨h1, h3⟩)
          · exact Or.inr (by omega)
      · rintro ((h | ⟨h1, h2⟩) | rfl)
        · exact Or.inl h
        · exact Or.inr ⟨h1, by omega⟩
        · exact Or.inr ⟨hl.symm, by omega⟩
    have hkn : ¬ Dn (fun x => (P x).length) i k k := by
      unfold Dn
      dsimp only
      omega
    have hone : P k <:+ tx j ↔ j = C k := by
      constructor
      · intro hs
        have h1 := hs.length_le
        have h2 := h.lens j hj
        have h3 : P k = tx j := hs.eq_of_length (by omega)
        exact T.inj j (C k) hj c1 (by rw [← h3, c2])
      · rintro rfl
        rw [c2]
        exact List.suffix_refl _
    rw [hd]
    by_cases hjc : j = C k
    · rw [if_pos hjc, Nat.testBit_or, Nat.testBit_two_pow, Bool.or_eq_true, h.bit j hj q, decide_eq_true_eq]
      constructor
      · rintro (⟨h1, h2, h3⟩ | rfl)
        · exact ⟨h1, Or.inl h2, h3⟩
        · exact ⟨hk, Or.inr rfl, hone.2 hjc⟩
      · rintro ⟨h1, h2 | h2, h3⟩
        · exact Or.inl ⟨h1, h2, h3⟩
        · exact Or.inr h2.symm
    · rw [if_neg hjc, h.bit j hj q]
      constructor
      · rintro ⟨h1, h2, h3⟩
        exact ⟨h1, Or.inl h2, h3⟩
      · rintro ⟨h1, h2 | rfl, h3⟩
        · exact ⟨h1, h2, h3⟩
        · exact absurd (hone.1 h3) hjc
/-- All have come so far. -/
theorem Up.round {P : Nat → List Int} {K i m : Nat} {tx : Nat → List Int} {W C : Nat → Nat} (h : Up P K i K m tx W C) : Up P K (i + 1) 0 m tx W C := by
  refine ⟨fun j hj => by have := h.lens j hj; omega, fun q hq => ?_, h.lt, fun j hj q => ?_⟩
  · obtain ⟨h1, h2⟩ := h.come q hq
    rw [if_pos hq] at h2
    exact ⟨h1, by rw [h2, if_neg (by omega)]⟩
  · rw [h.bit j hj q]
    unfold Dn
    dsimp only
    constructor
    · rintro ⟨h1, h2 | ⟨h2, _⟩, h3⟩
      · exact ⟨h1, Or.inl (by omega), h3⟩
      · exact ⟨h1, Or.inl (by omega), h3⟩
    · rintro ⟨h1, h2 | ⟨_, h2⟩, h3⟩
      · rcases Nat.lt_or_ge i (P q).length with h4 | h4
        · exact ⟨h1, Or.inr ⟨by omega, h1⟩, h3⟩
        · exact ⟨h1, Or.inl h4, h3⟩
      · omega
theorem Up.start (P : Nat → List Int) (K : Nat) (hP : ∀ q, q < K → 0 < (P q).length) : Up P K 0 0 1 (fun _ => []) (fun _ => 0) (fun _ => 0) := by
  refine ⟨fun j _ => Nat.zero_le _, fun q hq => ⟨by decide, by simp⟩, fun j _ => by decide, fun j hj q => ?_⟩
  rw [Nat.zero_testBit]
  unfold Dn
  dsimp only
  constructor
  · intro h; cases h
  · rintro ⟨h1, h2 | ⟨_, h2⟩, _⟩
    · have := hP q h1; omega
    · omega
end Go.Proofs.YtehmjffbfgnijabDoor.tree
