/- FINE's and WILF's theorem; how a text goes on, told by what it begins and ends with. -/
import Derived.Test.YtehmjffbfgnijaaFdP
namespace Go.Proofs.Ytehmjffbfgnijaa.fd
set_option linter.unusedVariables false

/-- The first n go on as they did a ahead. -/
def Per (p : Nat → Int) (n a : Nat) : Prop := ∀ i, i + a < n → p i = p (i + a)
theorem Per.times {p : Nat → Int} {n g : Nat} (h : Per p n g) (k i : Nat) (hi : i + k * g < n) : p i = p (i + k * g) := by
  induction k with
  | zero => rw [Nat.zero_mul, Nat.add_zero]
  | succ k ih =>
    rw [Nat.succ_mul] at hi ⊢
    rw [ih (by omega), h (i + k * g) (by omega), Nat.add_assoc]
theorem Per.dvd {p : Nat → Int} {n g d i j : Nat} (h : Per p n g) (hd : g ∣ d) (hj : j = i + d) (hjn : j < n) : p i = p j := by
  obtain ⟨k, rfl⟩ := hd
  rw [Nat.mul_comm] at hj
  subst hj
  exact h.times k i hjn
theorem fine_wilf (p : Nat → Int) : ∀ (m a b n : Nat), a + b ≤ m → 0 < a → 0 < b → a + b ≤ n + Nat.gcd a b → Per p n a → Per p n b → Per p n (Nat.gcd a b) := by
  have main : ∀ (m : Nat), (∀ a b n : Nat, a + b < m → 0 < a → 0 < b → a + b ≤ n + Nat.gcd a b → Per p n a → Per p n b → Per p n (Nat.gcd a b)) →
      ∀ a b n : Nat, a + b = m → a < b → 0 < a → a + b ≤ n + Nat.gcd a b → Per p n a → Per p n b → Per p n (Nat.gcd a b) := by
    intro m ih a b n hm hab ha hn hpa hpb
    have hg : Nat.gcd a (b - a) = Nat.gcd a b := by
      have h := Nat.gcd_add_self_right a (b - a)
      rw [show b - a + a = b by omega] at h
      exact h.symm
    have hga : Nat.gcd a b ∣ a := Nat.gcd_dvd_left a b
    have hgb : Nat.gcd a b ∣ b := Nat.gcd_dvd_right a b
    have hgd : Nat.gcd a b ∣ b - a := Nat.dvd_sub hgb hga
    have hgp : 0 < Nat.gcd a b := Nat.gcd_pos_of_pos_left b ha
    have hgl : Nat.gcd a b ≤ b - a := Nat.le_of_dvd (by omega) hgd
    have hgl' : Nat.gcd a b ≤ a := Nat.le_of_dvd ha hga
    generalize Nat.gcd a b = g at *
    have hin : Per p (n - a) g := by
      have := ih a (b - a) (n - a) (by omega) ha (by omega) (by rw [hg]; omega) (fun i hi => hpa i (by omega)) (fun i hi => by
        rw [hpb i (by omega)]
        have := hpa (i + (b - a)) (by omega)
        rw [this]
        congr 1
        omega)
      rw [hg] at this
      exact this
    intro i hi
    rcases Nat.lt_or_ge (i + g) (n - a) with h1 | h1
    · exact hin i h1
    · have e1 : p (i + g - a) = p (i + g) := by
        have := hpa (i + g - a) (by omega)
        rwa [show i + g - a + a = i + g by omega] at this
      rw [← e1]
      rcases Nat.lt_or_ge i a with h2 | h2
      · exact (hin.dvd (i := i + g - a) (j := i) (d := a - g) (Nat.dvd_sub hga (Nat.dvd_refl g)) (by omega) (by omega)).symm
      · have e2 : p (i - a) = p i := by
          have := hpa (i - a) (by omega)
          rwa [show i - a + a = i by omega] at this
        rw [← e2]
        have := hin (i - a) (by omega)
        rwa [show i - a + g = i + g - a by omega] at this
  intro m
  induction m with
  | zero => intro a b n h ha hb; omega
  | succ m ih =>
    intro a b n hm ha hb hn hpa hpb
    rcases Nat.lt_trichotomy a b with h | h | h
    · exact main (a + b) (fun a' b' n' h' => ih a' b' n' (by omega)) a b n rfl h ha hn hpa hpb
    · subst h; rw [Nat.gcd_self]; exact hpa
    · rw [Nat.gcd_comm] at hn ⊢
      exact main (b + a) (fun a' b' n' h' => ih a' b' n' (by omega)) b a n rfl h hb (by omega) hpb hpa
/-- All that the first k begin and end with, falling. -/
def ch (p : Nat → Int) (L : Nat) (k : Nat) : List Nat :=
  if h : k = 0 then [] else lg p (tl p) L (k - 1) :: ch p L (lg p (tl p) L (k - 1))
termination_by k
decreasing_by
  have := lg_le' p (tl p) L (k - 1)
  omega
theorem ch_zero (p : Nat → Int) (L : Nat) : ch p L 0 = [] := by unfold ch; simp
theorem ch_pos (p : Nat → Int) (L k : Nat) (h : 0 < k) : ch p L k = lg p (tl p) L (k - 1) :: ch p L (lg p (tl p) L (k - 1)) := by
  rw [ch, dif_neg (by omega)]
theorem mem_ch (p : Nat → Int) (L : Nat) : ∀ (m k : Nat), k ≤ m → k ≤ L → ∀ x, x ∈ ch p L k ↔ x < k ∧ En p (tl p) x (k - 1) := by
  intro m
  induction m with
  | zero => intro k hk _ x
            have e : k = 0 := Nat.le_zero.1 hk
            rw [e, ch_zero]
            simp
  | succ m ih =>
    intro k hk hL x
    rcases Nat.eq_zero_or_pos k with h0 | h0
    · subst h0; rw [ch_zero]; simp
    · have hb := lg_is p (tl p) L (k - 1)
      rw [ch_pos p L k h0]
      generalize lg p (tl p) L (k - 1) = b at hb ⊢
      have hbk := hb.2.1.1
      rw [List.mem_cons, ih b (by omega) hb.1 x]
      constructor
      · rintro (rfl | ⟨h1, h2⟩)
        · exact ⟨by omega, hb.2.1⟩
        · exact ⟨by omega, (hb.2.1.inner h1).2 h2⟩
      · rintro ⟨h1, h2⟩
        have := hb.2.2 x (by omega) h2
        rcases Nat.lt_or_ge x b with h3 | h3
        · exact Or.inr ⟨h3, (hb.2.1.inner h3).1 h2⟩
        · exact Or.inl (by omega)
theorem ch_len (p : Nat → Int) (L : Nat) : ∀ (m k : Nat), k ≤ m → (ch p L k).length ≤ k := by
  intro m
  induction m with
  | zero => intro k hk
            have e : k = 0 := Nat.le_zero.1 hk
            rw [e, ch_zero]
            exact Nat.le_refl _
  | succ m ih =>
    intro k hk
    rcases Nat.eq_zero_or_pos k with h0 | h0
    · subst h0; rw [ch_zero]; exact Nat.le_refl _
    · have := lg_le' p (tl p) L (k - 1)
      have := ih (lg p (tl p) L (k - 1)) (by omega)
      rw [ch_pos p L k h0, List.length_cons]
      omega
/-- By how much the first L go on as they did. -/
def pers (p : Nat → Int) (L : Nat) : List Int := (ch p L L).map fun (x : Nat) => (L : Int) - (x : Int)
theorem mem_pers (p : Nat → Int) (L : Nat) (a : Nat) : (a : Int) ∈ pers p L ↔ 0 < a ∧ a ≤ L ∧ Per p L a := by
  unfold pers
  rw [List.mem_map]
  have key : ∀ x, x < L → (En p (tl p) x (L - 1) ↔ Per p L (L - x)) := fun x hx => by
    constructor
    · rintro ⟨h1, h2⟩ i hi
      have := h2 i (by omega)
      rw [this]
      unfold tl
      congr 1
      omega
    · intro h
      refine ⟨by omega, fun j hj => ?_⟩
      rw [h j (by omega)]
      unfold tl
      congr 1
      omega
  constructor
  · rintro ⟨x, hx, e⟩
    obtain ⟨h1, h2⟩ := (mem_ch p L L L (Nat.le_refl _) (Nat.le_refl _) x).1 hx
    have ea : a = L - x := by omega
    subst ea
    exact ⟨by omega, by omega, (key x h1).1 h2⟩
  · rintro ⟨h1, h2, h3⟩
    refine ⟨L - a, (mem_ch p L L L (Nat.le_refl _) (Nat.le_refl _) _).2 ⟨by omega, (key (L - a) (by omega)).2 ?_⟩, by omega⟩
    rwa [show L - (L - a) = a by omega]
theorem pers_fw (p : Nat → Int) (L a b : Nat) (ha : (a : Int) ∈ pers p L) (hb : (b : Int) ∈ pers p L) (h : a + b ≤ L + Nat.gcd a b) : ((Nat.gcd a b : Nat) : Int) ∈ pers p L := by
  obtain ⟨a1, a2, a3⟩ := (mem_pers p L a).1 ha
  obtain ⟨b1, b2, b3⟩ := (mem_pers p L b).1 hb
  have hg := Nat.gcd_pos_of_pos_left b a1
  have hl := Nat.le_of_dvd a1 (Nat.gcd_dvd_left a b)
  exact (mem_pers p L _).2 ⟨hg, by omega, fine_wilf p (a + b) a b L (Nat.le_refl _) a1 b1 h a3 b3⟩
end Go.Proofs.Ytehmjffbfgnijaa.fd
