/- Plain facts on signs and their bytes: which sign bytes are, and how many of them; no program. -/
import Derived.Lib.DecodeNEq
namespace Go.Proofs.YtaboemchkmmgeaaDoor.utf
open Go.Lib

def lo (b : Nat) : Nat := if b = 224 then 160 else if b = 240 then 144 else 128
def hi (b : Nat) : Nat := if b = 237 then 159 else if b = 244 then 143 else 191
/-- The sign that n bytes (that begin so) begin with, and how many they are. -/
def stN (n b0 b1 b2 b3 : Nat) : Nat × Nat :=
  if b0 < 128 then (b0, 1)
  else if b0 < 194 ∨ 244 < b0 then (65533, 1)
  else if n < 2 ∨ b1 < lo b0 ∨ hi b0 < b1 then (65533, 1)
  else if b0 < 224 then (b0 % 32 * 64 + b1 % 64, 2)
  else if n < 3 ∨ b2 < 128 ∨ 191 < b2 then (65533, 2)
  else if b0 < 240 then (b0 % 16 * 4096 + b1 % 64 * 64 + b2 % 64, 3)
  else if n < 4 ∨ b3 < 128 ∨ 191 < b3 then (65533, 3)
  else (b0 % 8 * 262144 + b1 % 64 * 4096 + b2 % 64 * 64 + b3 % 64, 4)
/-- Whether n bytes (that begin so) are a sign, or can't be made one. -/
def fullN (n b0 b1 b2 : Nat) : Bool :=
  decide (firstT b0 % 8 ≤ n) || (decide (1 < n) && (decide (b1 < accLo (firstT b0 / 16)) || decide (accHi (firstT b0 / 16) < b1))) || (decide (2 < n) && (decide (b2 < 128) || decide (191 < b2)))
theorem full4 (n b0 b1 b2 : Nat) (h : 4 ≤ n) : fullN n b0 b1 b2 = true := by
  have : firstT b0 % 8 ≤ n := by
    unfold firstT
    repeat' split
    all_goals omega
  simp [fullN, this]
/-- The classes of first bytes. -/
theorem classes (b0 : Nat) (h : 128 ≤ b0) (h2 : b0 < 256) : ((b0 < 194 ∨ 244 < b0) ∧ firstT b0 = 241) ∨
    ((194 ≤ b0 ∧ b0 < 224) ∧ firstT b0 = 2 ∧ lo b0 = 128 ∧ hi b0 = 191) ∨ (b0 = 224 ∧ firstT b0 = 19 ∧ lo b0 = 160 ∧ hi b0 = 191) ∨
    (((225 ≤ b0 ∧ b0 < 237) ∨ (238 ≤ b0 ∧ b0 < 240)) ∧ firstT b0 = 3 ∧ lo b0 = 128 ∧ hi b0 = 191) ∨ (b0 = 237 ∧ firstT b0 = 35 ∧ lo b0 = 128 ∧ hi b0 = 159) ∨
    (b0 = 240 ∧ firstT b0 = 52 ∧ lo b0 = 144 ∧ hi b0 = 191) ∨ ((241 ≤ b0 ∧ b0 < 244) ∧ firstT b0 = 4 ∧ lo b0 = 128 ∧ hi b0 = 191) ∨ (b0 = 244 ∧ firstT b0 = 68 ∧ lo b0 = 128 ∧ hi b0 = 143) := by
  rcases (show (b0 < 194 ∨ 244 < b0) ∨ (194 ≤ b0 ∧ b0 < 224) ∨ b0 = 224 ∨ ((225 ≤ b0 ∧ b0 < 237) ∨ (238 ≤ b0 ∧ b0 < 240)) ∨ b0 = 237 ∨ b0 = 240 ∨ (241 ≤ b0 ∧ b0 < 244) ∨ b0 = 244 by omega) with h | h | h | h | h | h | h | h
  · exact Or.inl ⟨h, by unfold firstT; repeat' split
                        all_goals omega⟩
  · exact Or.inr (Or.inl ⟨h, firstT_C2 h, by simp only [lo]; rw [if_neg (by omega), if_neg (by omega)], by simp only [hi]; rw [if_neg (by omega), if_neg (by omega)]⟩)
  · subst h; exact Or.inr (Or.inr (Or.inl ⟨rfl, rfl, rfl, rfl⟩))
  · exact Or.inr (Or.inr (Or.inr (Or.inl ⟨h, firstT_E1 h, by simp only [lo]; rw [if_neg (by omega), if_neg (by omega)], by simp only [hi]; rw [if_neg (by omega), if_neg (by omega)]⟩)))
  · subst h; exact Or.inr (Or.inr (Or.inr (Or.inr (Or.inl ⟨rfl, rfl, rfl, rfl⟩))))
  · subst h; exact Or.inr (Or.inr (Or.inr (Or.inr (Or.inr (Or.inl ⟨rfl, rfl, rfl, rfl⟩)))))
  · exact Or.inr (Or.inr (Or.inr (Or.inr (Or.inr (Or.inr (Or.inl ⟨h, firstT_F1 h, by simp only [lo]; rw [if_neg (by omega), if_neg (by omega)], by simp only [hi]; rw [if_neg (by omega), if_neg (by omega)]⟩))))))
  · subst h; exact Or.inr (Or.inr (Or.inr (Or.inr (Or.inr (Or.inr (Or.inr ⟨rfl, rfl, rfl, rfl⟩))))))
theorem slow_one (n b0 b1 b2 b3 sz l h : Nat) : (slowN n b0 b1 b2 b3 sz l h).2 = 1 ↔ (n < sz ∨ b1 < l ∨ h < b1 ∨ (2 < sz ∧ (b2 < 128 ∨ 191 < b2)) ∨ (3 < sz ∧ (b3 < 128 ∨ 191 < b3))) := by
  unfold slowN
  repeat' split
  all_goals (constructor <;> intro hx <;> first | rfl | omega | (exfalso; simp only at hx; omega))
theorem slow_bad (n b0 b1 b2 b3 sz l h : Nat) (hb : (slowN n b0 b1 b2 b3 sz l h).2 = 1) : (slowN n b0 b1 b2 b3 sz l h).1 = 65533 := by
  revert hb
  unfold slowN
  repeat' split
  all_goals (intro hb; first | rfl | (exfalso; simp only at hb; omega))
theorem slow_good (n b0 b1 b2 b3 sz l h : Nat) (hb : ¬ (n < sz ∨ b1 < l ∨ h < b1 ∨ (2 < sz ∧ (b2 < 128 ∨ 191 < b2)) ∨ (3 < sz ∧ (b3 < 128 ∨ 191 < b3)))) :
    slowN n b0 b1 b2 b3 sz l h = if sz ≤ 2 then (b0 % 32 * 64 + b1 % 64, 2) else if sz ≤ 3 then (b0 % 16 * 4096 + b1 % 64 * 64 + b2 % 64, 3) else (b0 % 8 * 262144 + b1 % 64 * 4096 + b2 % 64 * 64 + b3 % 64, 4) := by
  unfold slowN
  rw [if_neg (by omega), if_neg (by omega)]
  by_cases h2 : sz ≤ 2
  · rw [if_pos h2, if_pos h2]
  · rw [if_neg h2, if_neg h2, if_neg (by omega)]
    by_cases h3 : sz ≤ 3
    · rw [if_pos h3, if_pos h3]
    · rw [if_neg h3, if_neg h3, if_neg (by omega)]
theorem st_good (n b0 b1 b2 b3 sz : Nat) (hb : ¬ (n < sz ∨ b1 < lo b0 ∨ hi b0 < b1 ∨ (2 < sz ∧ (b2 < 128 ∨ 191 < b2)) ∨ (3 < sz ∧ (b3 < 128 ∨ 191 < b3)))) (h0 : 194 ≤ b0) (h1 : b0 ≤ 244) (hs : sz = if b0 < 224 then 2 else if b0 < 240 then 3 else 4) :
    stN n b0 b1 b2 b3 = if sz ≤ 2 then (b0 % 32 * 64 + b1 % 64, 2) else if sz ≤ 3 then (b0 % 16 * 4096 + b1 % 64 * 64 + b2 % 64, 3) else (b0 % 8 * 262144 + b1 % 64 * 4096 + b2 % 64 * 64 + b3 % 64, 4) := by
  have h2 : 2 ≤ sz := by rw [hs]; split <;> (try split) <;> omega
  unfold stN
  rw [if_neg (by omega), if_neg (by omega), if_neg (by omega)]
  by_cases e2 : b0 < 224
  · rw [if_pos e2] at hs
    subst hs
    rw [if_pos e2, if_pos (by omega)]
  · rw [if_neg e2] at hs
    by_cases e3 : b0 < 240
    · rw [if_pos e3] at hs
      subst hs
      rw [if_neg e2, if_neg (by omega), if_pos e3, if_neg (by omega), if_pos (by omega)]
    · rw [if_neg e3] at hs
      subst hs
      rw [if_neg e2, if_neg (by omega), if_neg e3, if_neg (by omega), if_neg (by omega), if_neg (by omega)]
/-- What a lead byte's entry of the table says. -/
theorem lead (b0 : Nat) (h0 : 194 ≤ b0) (h1 : b0 ≤ 244) : firstT b0 % 8 = (if b0 < 224 then 2 else if b0 < 240 then 3 else 4) ∧ accLo (firstT b0 / 16) = lo b0 ∧ accHi (firstT b0 / 16) = hi b0 ∧ firstT b0 < 240 := by
  rcases classes b0 (by omega) (by omega) with ⟨h, hf⟩ | ⟨h, hf, hl, hh⟩ | ⟨h, hf, hl, hh⟩ | ⟨h, hf, hl, hh⟩ | ⟨h, hf, hl, hh⟩ | ⟨h, hf, hl, hh⟩ | ⟨h, hf, hl, hh⟩ | ⟨h, hf, hl, hh⟩
  · omega
  · rw [hf, hl, hh, if_pos (by omega)]; decide
  · rw [hf, hl, hh, if_neg (by omega), if_pos (by omega)]; decide
  · rw [hf, hl, hh, if_neg (by omega), if_pos (by omega)]; decide
  · rw [hf, hl, hh, if_neg (by omega), if_pos (by omega)]; decide
  · rw [hf, hl, hh, if_neg (by omega), if_neg (by omega)]; decide
  · rw [hf, hl, hh, if_neg (by omega), if_neg (by omega)]; decide
  · rw [hf, hl, hh, if_neg (by omega), if_neg (by omega)]; decide
theorem dec_slow (n b0 b1 b2 b3 sz : Nat) (hn : 1 ≤ n) (h1 : b1 < 256) (h2 : b2 < 256) (h3 : b3 < 256) (h0 : 194 ≤ b0) (h0' : b0 ≤ 244) (hs : sz = if b0 < 224 then 2 else if b0 < 240 then 3 else 4) :
    decodeN n b0 b1 b2 b3 = slowN n b0 b1 b2 b3 sz (lo b0) (hi b0) := by
  obtain ⟨e1, e2, e3, e4⟩ := lead b0 h0 h0'
  rw [hs, ← e1, ← e2, ← e3]
  exact (slow_eq n b0 b1 b2 b3 hn h1 h2 h3 e4).symm
theorem dec_bad (n b0 b1 b2 b3 : Nat) (ha : 128 ≤ b0) (h0 : b0 < 256) (h : b0 < 194 ∨ 244 < b0) : decodeN n b0 b1 b2 b3 = (65533, 1) := by
  rcases classes b0 ha h0 with ⟨_, hf⟩ | ⟨h', _⟩ | ⟨h', _⟩ | ⟨h', _⟩ | ⟨h', _⟩ | ⟨h', _⟩ | ⟨h', _⟩ | ⟨h', _⟩
  · exact bad_eq _ _ _ _ _ (by omega) hf
  all_goals omega
theorem dec_st (n b0 b1 b2 b3 : Nat) (hn : 1 ≤ n) (h0 : b0 < 256) (h1 : b1 < 256) (h2 : b2 < 256) (h3 : b3 < 256) :
    (¬ ((decodeN n b0 b1 b2 b3).1 = 65533 ∧ (decodeN n b0 b1 b2 b3).2 = 1) → stN n b0 b1 b2 b3 = decodeN n b0 b1 b2 b3) ∧
    ((decodeN n b0 b1 b2 b3).1 = 65533 ∧ (decodeN n b0 b1 b2 b3).2 = 1 → 128 ≤ b0) := by
  rcases Nat.lt_or_ge b0 128 with ha | ha
  · have : decodeN n b0 b1 b2 b3 = (b0, 1) := by simp [decodeN, ha]
    rw [this]
    refine ⟨fun _ => by simp [stN, ha], fun h => ?_⟩
    have := h.1
    simp only at this
    omega
  · refine ⟨fun h => ?_, fun _ => ha⟩
    by_cases hb : b0 < 194 ∨ 244 < b0
    · rw [dec_bad n b0 b1 b2 b3 ha h0 hb] at h
      exact absurd ⟨rfl, rfl⟩ h
    · have e := dec_slow n b0 b1 b2 b3 _ hn h1 h2 h3 (by omega) (by omega) rfl
      rw [e] at h ⊢
      have hg := fun hx => h ⟨slow_bad _ _ _ _ _ _ _ _ hx, hx⟩
      rw [slow_one] at hg
      rw [slow_good _ _ _ _ _ _ _ _ hg, st_good _ _ _ _ _ _ hg (by omega) (by omega) rfl]
theorem begun_is (n b0 b1 b2 b3 k : Nat) (hn : 1 ≤ n) (h0 : b0 < 256) (h1 : b1 < 256) (h2 : b2 < 256) (h3 : b3 < 256) (hd : (decodeN n b0 b1 b2 b3).1 = 65533 ∧ (decodeN n b0 b1 b2 b3).2 = 1)
    (hk : 1 ≤ k) (hkn : k ≤ n) (hall : ∀ j, 1 ≤ j → j < k → fullN (j + 1) b0 b1 b2 = false) (hend : k = n ∨ fullN (k + 1) b0 b1 b2 = true) : stN n b0 b1 b2 b3 = (65533, k) := by
  have ha := (dec_st n b0 b1 b2 b3 hn h0 h1 h2 h3).2 hd
  have hk3 : k ≤ 3 := by
    rcases Nat.lt_or_ge 3 k with h | h
    · have := hall 3 (by omega) h
      rw [full4 _ _ _ _ (by omega)] at this
      cases this
    · exact h
  have a1 := hall 1 (by omega)
  have a2 := hall 2 (by omega)
  clear hall
  by_cases hb : b0 < 194 ∨ 244 < b0
  · have hf : firstT b0 % 8 = 1 := by
      rcases classes b0 ha h0 with ⟨_, hf⟩ | ⟨h', _⟩ | ⟨h', _⟩ | ⟨h', _⟩ | ⟨h', _⟩ | ⟨h', _⟩ | ⟨h', _⟩ | ⟨h', _⟩
      · rw [hf]
      all_goals omega
    unfold stN
    rw [if_neg (by omega), if_pos hb]
    simp [fullN, hf] at a1
    rw [show k = 1 by omega]
  · obtain ⟨sz, hs⟩ : ∃ sz, sz = (if b0 < 224 then 2 else if b0 < 240 then 3 else 4) := ⟨_, rfl⟩
    obtain ⟨e1, e2, e3, _⟩ := lead b0 (by omega) (by omega)
    rw [dec_slow n b0 b1 b2 b3 sz hn h1 h2 h3 (by omega) (by omega) hs] at hd
    have hd' := (slow_one _ _ _ _ _ _ _ _).1 hd.2
    clear hd
    unfold fullN at a1 a2 hend
    rw [e1, e2, e3, ← hs] at a1 a2 hend
    have hs' : (b0 < 224 ∧ sz = 2) ∨ (224 ≤ b0 ∧ b0 < 240 ∧ sz = 3) ∨ (240 ≤ b0 ∧ sz = 4) := by
      rw [hs]; split
      · omega
      · split <;> omega
    clear hs e1 e2 e3
    simp only [Bool.or_eq_true, Bool.or_eq_false_iff, Bool.and_eq_false_iff, Bool.and_eq_true, decide_eq_true_eq, decide_eq_false_iff_not] at a1 a2 hend
    unfold stN
    generalize lo b0 = l at *
    generalize hi b0 = h at *
    rw [if_neg (by omega), if_neg hb]
    by_cases c1 : n < 2 ∨ b1 < l ∨ h < b1
    · rw [if_pos c1, show k = 1 by omega]
    · rw [if_neg c1]
      rcases hs' with ⟨c2, rfl⟩ | ⟨c2, c3, rfl⟩ | ⟨c2, rfl⟩
      · omega
      · rw [if_neg (by omega), if_pos (by omega), show k = 2 by omega]
      · rw [if_neg (by omega)]
        by_cases c4 : n < 3 ∨ b2 < 128 ∨ 191 < b2
        · rw [if_pos c4, show k = 2 by omega]
        · rw [if_neg c4, if_neg (by omega), if_pos (by omega), show k = 3 by omega]
end Go.Proofs.YtaboemchkmmgeaaDoor.utf
