/- Numbers of bits as reals: plain facts of whole numbers, and of the model's reals. -/
import Derived.Laws.FloatArith
namespace Go.Proofs.YtnhekkahiphlgaaDoor.flt

/-- What the r-th magnitude is, in units of the least one. -/
def val (F r : Nat) : Nat := if r < 2 ^ F then r else (2 ^ F + r % 2 ^ F) * 2 ^ (r / 2 ^ F - 1)

theorem val_low {F r : Nat} (h : r < 2 ^ F) : val F r = r := if_pos h
theorem val_at {F r : Nat} (q m : Nat) (hm : m < 2 ^ F) (hr : r = (q + 1) * 2 ^ F + m) : val F r = (2 ^ F + m) * 2 ^ q := by
  have hp : 0 < 2 ^ F := Nat.two_pow_pos F
  have h1 : r / 2 ^ F = q + 1 := by
    rw [hr, Nat.mul_comm, Nat.mul_add_div hp, Nat.div_eq_of_lt hm, Nat.add_zero]
  have h2 : r % 2 ^ F = m := by
    rw [hr, Nat.mul_comm, Nat.mul_add_mod, Nat.mod_eq_of_lt hm]
  have h3 : ¬ r < 2 ^ F := by
    rw [hr, Nat.add_mul]; omega
  unfold val
  rw [if_neg h3, h1, h2, Nat.add_sub_cancel]

/-- Any rung is below the first binade, or in one. -/
theorem rung_cases (F r : Nat) : r < 2 ^ F ∨ ∃ q m, m < 2 ^ F ∧ r = (q + 1) * 2 ^ F + m := by
  have hp : 0 < 2 ^ F := Nat.two_pow_pos F
  rcases Nat.lt_or_ge r (2 ^ F) with h | h
  · exact Or.inl h
  · right
    refine ⟨r / 2 ^ F - 1, r % 2 ^ F, Nat.mod_lt _ hp, ?_⟩
    have h1 : 1 ≤ r / 2 ^ F := (Nat.le_div_iff_mul_le hp).2 (by omega)
    rw [Nat.sub_add_cancel h1, Nat.mul_comm]
    exact (Nat.div_add_mod r _).symm

theorem val_succ (F r : Nat) : val F r < val F (r + 1) := by
  have hp : 0 < 2 ^ F := Nat.two_pow_pos F
  rcases rung_cases F r with h | ⟨q, m, hm, hr⟩
  · rw [val_low h]
    rcases Nat.lt_or_ge (r + 1) (2 ^ F) with h' | h'
    · rw [val_low h']; omega
    · rw [val_at 0 0 hp (by omega)]; simp; omega
  · rw [val_at q m hm hr]
    have hq : 0 < 2 ^ q := Nat.two_pow_pos q
    rcases Nat.lt_or_ge (m + 1) (2 ^ F) with h' | h'
    · rw [val_at q (m + 1) h' (by omega)]
      exact Nat.mul_lt_mul_of_pos_right (by omega) hq
    · have e : r + 1 = (q + 1 + 1) * 2 ^ F + 0 := by rw [hr, Nat.add_mul (q + 1)]; omega
      rw [val_at (q + 1) 0 hp e, Nat.pow_succ, Nat.add_zero, Nat.mul_comm (2 ^ q) 2, ← Nat.mul_assoc]
      exact Nat.mul_lt_mul_of_pos_right (by omega) hq

/-- The next one in a binade, and the first of the next one, alike. -/
theorem val_step {F r q m : Nat} (hm : m < 2 ^ F) (hr : r = (q + 1) * 2 ^ F + m) : val F (r + 1) = (2 ^ F + m + 1) * 2 ^ q := by
  have hp : 0 < 2 ^ F := Nat.two_pow_pos F
  rcases Nat.lt_or_ge (m + 1) (2 ^ F) with h' | h'
  · rw [val_at q (m + 1) h' (by omega), Nat.add_assoc]
  · have e : r + 1 = (q + 1 + 1) * 2 ^ F + 0 := by rw [hr, Nat.add_mul (q + 1)]; omega
    rw [val_at (q + 1) 0 hp e, Nat.pow_succ, Nat.add_zero, Nat.mul_comm (2 ^ q) 2, ← Nat.mul_assoc]
    congr 1; omega

theorem val_lt {F r s : Nat} (h : r < s) : val F r < val F s := by
  induction s with
  | zero => omega
  | succ s ih =>
    rcases Nat.lt_or_ge r s with h' | h'
    · exact Nat.lt_trans (ih h') (val_succ F s)
    · have : r = s := by omega
      subst this
      exact val_succ F r
theorem val_le {F r s : Nat} (h : r ≤ s) : val F r ≤ val F s := by
  rcases Nat.eq_or_lt_of_le h with h | h
  · rw [h]; exact Nat.le_refl _
  · exact Nat.le_of_lt (val_lt h)
theorem val_lt_iff {F r s : Nat} : val F r < val F s ↔ r < s :=
  ⟨fun h => Nat.lt_of_not_le fun h' => absurd (val_le (F := F) h') (by omega), val_lt⟩
theorem val_zero (F : Nat) : val F 0 = 0 := val_low (Nat.two_pow_pos F)
theorem val_ge (F r : Nat) : r ≤ val F r := by
  induction r with
  | zero => omega
  | succ r ih => have := val_succ F r; omega

/-- With its sign. -/
def sv (f : Ieee.Format) (x : Nat) : Int := if x / f.signWeight % 2 == 1 then -(val f.fractionBits (x % f.signWeight) : Nat) else (val f.fractionBits (x % f.signWeight) : Nat)

theorem cmp_lt {a b : Int} (h : a < b) : compare a b = .lt := by
  simp only [compare, compareOfLessAndEq]; rw [if_pos h]
theorem cmp_gt {a b : Int} (h : b < a) : compare a b = .gt := by
  simp only [compare, compareOfLessAndEq]; rw [if_neg (by omega), if_neg (by omega)]
theorem cmp_eq (a : Int) : compare a a = .eq := by
  simp only [compare, compareOfLessAndEq]; rw [if_neg (by omega)]; simp
theorem compare_mul (a b : Int) (c : Nat) (hc : 0 < c) : compare (a * c) (b * c) = compare a b := by
  have hc' : (0 : Int) < c := by omega
  rcases Int.lt_trichotomy a b with h | h | h
  · rw [cmp_lt h, cmp_lt (Int.mul_lt_mul_of_pos_right h hc')]
  · subst h
    rw [cmp_eq, cmp_eq]
  · rw [cmp_gt h, cmp_gt (Int.mul_lt_mul_of_pos_right h hc')]

theorem read_fin (f : Ieee.Format) (x : Nat) (h : x % f.signWeight < f.infRung) :
    ∃ m e : Nat, f.read x = .number (x / f.signWeight % 2 == 1) m (f.leastPlace + e) ∧ m * 2 ^ e = val f.fractionBits (x % f.signWeight) := by
  unfold Ieee.Format.read
  dsimp only
  split
  · rename_i hb
    refine ⟨x % f.signWeight, 0, by simp, ?_⟩
    rw [val_low hb]; simp
  · rename_i hb
    refine ⟨f.binade + x % f.signWeight % f.binade, x % f.signWeight / f.binade - 1, rfl, ?_⟩
    exact (if_neg hb).symm
theorem read_inf (f : Ieee.Format) (x : Nat) (h : x % f.signWeight = f.infRung) (hb : f.binade ≤ f.infRung) : f.read x = .infinity (x / f.signWeight % 2 == 1) := by
  unfold Ieee.Format.read
  dsimp only
  rw [if_neg (by omega), if_neg (by omega), if_pos h]
theorem read_nan (f : Ieee.Format) (x : Nat) (h : f.infRung < x % f.signWeight) (hb : f.binade ≤ f.infRung) : f.read x = .nan (x / f.signWeight % 2 == 1) (x % f.signWeight - f.infRung) := by
  unfold Ieee.Format.read
  dsimp only
  rw [if_neg (by omega), if_neg (by omega), if_neg (by omega)]

theorem order_num (f : Ieee.Format) (s t : Bool) (m n i j : Nat) :
    (Ieee.Datum.number s m (f.leastPlace + i)).order (.number t n (f.leastPlace + j)) = some (compare (if s then -((m * 2 ^ i : Nat) : Int) else (m * 2 ^ i : Nat)) (if t then -((n * 2 ^ j : Nat) : Int) else (n * 2 ^ j : Nat))) := by
  simp only [Ieee.Datum.order]
  congr 1
  have e1 : (f.leastPlace + (i : Int) - min (f.leastPlace + (i : Int)) (f.leastPlace + (j : Int))).toNat = i - min i j := by omega
  have e2 : (f.leastPlace + (j : Int) - min (f.leastPlace + (i : Int)) (f.leastPlace + (j : Int))).toNat = j - min i j := by omega
  rw [e1, e2, ← compare_mul _ _ (2 ^ min i j) (Nat.two_pow_pos _)]
  have k1 : m * 2 ^ i = (m * 2 ^ (i - min i j)) * 2 ^ min i j := by
    rw [Nat.mul_assoc, ← Nat.pow_add]; congr 2; omega
  have k2 : n * 2 ^ j = (n * 2 ^ (j - min i j)) * 2 ^ min i j := by
    rw [Nat.mul_assoc, ← Nat.pow_add]; congr 2; omega
  unfold Ieee.signed
  rw [k1, k2, Nat.shiftLeft_eq, Nat.shiftLeft_eq]
  congr 1
  · split <;> push_cast <;> first | rw [Int.neg_mul] | rfl
  · split <;> push_cast <;> first | rw [Int.neg_mul] | rfl

theorem order_eq (f : Ieee.Format) (x y : Nat) (hx : x % f.signWeight ≤ f.infRung) (hy : y % f.signWeight ≤ f.infRung) (hb : f.binade ≤ f.infRung) : f.order x y = some (compare (sv f x) (sv f y)) := by
  have hi : 0 < val f.fractionBits f.infRung := by
    have := val_ge f.fractionBits f.infRung
    have : 0 < f.binade := Nat.two_pow_pos _
    omega
  unfold Ieee.Format.order
  rcases Nat.lt_or_eq_of_le hx with hx | hx <;> rcases Nat.lt_or_eq_of_le hy with hy | hy
  · obtain ⟨m, i, e1, v1⟩ := read_fin f x hx
    obtain ⟨n, j, e2, v2⟩ := read_fin f y hy
    rw [e1, e2, order_num, v1, v2]
    rfl
  · obtain ⟨m, i, e1, v1⟩ := read_fin f x hx
    rw [e1, read_inf f y hy hb]
    have hv := val_lt (F := f.fractionBits) hx
    simp only [Ieee.Datum.order, sv, hy]
    congr 1
    cases y / f.signWeight % 2 == 1 <;> cases x / f.signWeight % 2 == 1 <;> simp only [Bool.false_eq_true, if_true, if_false] <;> first | (rw [cmp_lt (by omega)]) | (rw [cmp_gt (by omega)])
  · obtain ⟨m, i, e1, v1⟩ := read_fin f y hy
    rw [e1, read_inf f x hx hb]
    have hv := val_lt (F := f.fractionBits) hy
    simp only [Ieee.Datum.order, sv, hx]
    congr 1
    cases y / f.signWeight % 2 == 1 <;> cases x / f.signWeight % 2 == 1 <;> simp only [Bool.false_eq_true, if_true, if_false] <;> first | (rw [cmp_lt (by omega)]) | (rw [cmp_gt (by omega)])
  · rw [read_inf f x hx hb, read_inf f y hy hb]
    simp only [Ieee.Datum.order, sv, hx, hy]
    congr 1
    cases y / f.signWeight % 2 == 1 <;> cases x / f.signWeight % 2 == 1 <;> simp only [Bool.false_eq_true, if_true, if_false] <;> first | (rw [cmp_lt (by omega)]; rfl) | (rw [cmp_gt (by omega)]; rfl) | (rw [cmp_eq]; rfl)
theorem order_nan (f : Ieee.Format) (x y : Nat) (hx : f.infRung < x % f.signWeight ∨ f.infRung < y % f.signWeight) (hb : f.binade ≤ f.infRung) : f.order x y = none := by
  unfold Ieee.Format.order
  rcases hx with hx | hx
  · rw [read_nan f x hx hb]; rfl
  · rw [read_nan f y hx hb]; cases f.read x <;> rfl

/-- A number less its low bits, the nearest; of two the even one. -/
def rne (n d : Nat) : Nat := n / 2 ^ d + if 2 ^ d < 2 * (n % 2 ^ d) ∨ (2 ^ d = 2 * (n % 2 ^ d) ∧ n / 2 ^ d % 2 = 1) then 1 else 0

theorem rne_zero (n d : Nat) (h : 2 * n < 2 ^ d) : rne n d = 0 := by
  unfold rne
  rw [Nat.div_eq_of_lt (by omega), Nat.mod_eq_of_lt (by omega), if_neg (by omega)]

/-- The magnitude of 32 bits that is nearest to one of 64 bits. -/
def nar (k : Nat) : Nat :=
  if k / 2 ^ 52 < 897 then rne (if k / 2 ^ 52 = 0 then k % 2 ^ 52 else 2 ^ 52 + k % 2 ^ 52) (926 - max (k / 2 ^ 52) 1)
  else (k / 2 ^ 52 - 897) * 2 ^ 23 + rne (2 ^ 52 + k % 2 ^ 52) 29

theorem pow_split (a b c : Nat) (h : a = b + c) : 2 ^ a = 2 ^ b * 2 ^ c := by rw [h, Nat.pow_add]

theorem floor_unique {n d m : Nat} (h1 : m * 2 ^ d ≤ n) (h2 : n < (m + 1) * 2 ^ d) : n / 2 ^ d = m ∧ n = m * 2 ^ d + n % 2 ^ d ∧ n % 2 ^ d < 2 ^ d := by
  have hp : 0 < 2 ^ d := Nat.two_pow_pos d
  have e : n / 2 ^ d = m := by
    apply Nat.le_antisymm
    · exact Nat.le_of_lt_succ ((Nat.div_lt_iff_lt_mul hp).2 h2)
    · exact (Nat.le_div_iff_mul_le hp).2 h1
  refine ⟨e, ?_, Nat.mod_lt _ hp⟩
  have := Nat.div_add_mod n (2 ^ d)
  rw [e, Nat.mul_comm] at this
  exact this.symm

/-- Where the one below and the one above are known, the nearest is the nearer one. -/
theorem rne_of {n d m : Nat} (h1 : m * 2 ^ d ≤ n) (h2 : n < (m + 1) * 2 ^ d) : rne n d = if 2 * n < (m + (m + 1)) * 2 ^ d ∨ (2 * n = (m + (m + 1)) * 2 ^ d ∧ m % 2 = 0) then m else m + 1 := by
  obtain ⟨e, h3, h4⟩ := floor_unique h1 h2
  unfold rne
  rw [e]
  have e2 : (m + (m + 1)) * 2 ^ d = 2 * (m * 2 ^ d) + 2 ^ d := by rw [Nat.add_mul, Nat.add_mul]; omega
  rw [e2]
  generalize m * 2 ^ d = M at *
  generalize n % 2 ^ d = R at *
  generalize 2 ^ d = D at *
  subst h3
  split <;> split <;> omega

theorem val52_lo (k : Nat) (h : k / 2 ^ 52 < 897) : val 52 k = (if k / 2 ^ 52 = 0 then k % 2 ^ 52 else 2 ^ 52 + k % 2 ^ 52) * 2 ^ (max (k / 2 ^ 52) 1 - 1) := by
  unfold val
  split
  · rename_i hk
    rw [if_pos (Nat.div_eq_of_lt hk), Nat.div_eq_of_lt hk, Nat.mod_eq_of_lt hk]
    simp
  · rename_i hk
    have : 1 ≤ k / 2 ^ 52 := (Nat.le_div_iff_mul_le (by omega)).2 (by omega)
    rw [if_neg (by omega), Nat.max_eq_left this]

theorem le_of_mul_pow {a b d : Nat} (h : a * 2 ^ d ≤ b * 2 ^ d) : a ≤ b := Nat.le_of_mul_le_mul_right h (Nat.two_pow_pos d)
theorem lt_of_mul_pow {a b d : Nat} (h : a * 2 ^ d < b * 2 ^ d) : a < b := Nat.lt_of_mul_lt_mul_right h
theorem lt_mul_pow {a b d : Nat} (h : a < b) : a * 2 ^ d < b * 2 ^ d := Nat.mul_lt_mul_of_pos_right h (Nat.two_pow_pos d)
theorem le_mul_pow {a b d : Nat} (h : a ≤ b) : a * 2 ^ d ≤ b * 2 ^ d := Nat.mul_le_mul_right _ h
theorem lt_mul_iff {a b d : Nat} : a * 2 ^ d < b * 2 ^ d ↔ a < b := ⟨lt_of_mul_pow, lt_mul_pow⟩
theorem eq_mul_iff {a b d : Nat} : a * 2 ^ d = b * 2 ^ d ↔ a = b := ⟨fun h => Nat.eq_of_mul_eq_mul_right (Nat.two_pow_pos d) h, fun h => by rw [h]⟩
theorem le_mul_iff {a b d : Nat} : a * 2 ^ d ≤ b * 2 ^ d ↔ a ≤ b := ⟨le_of_mul_pow, le_mul_pow⟩

/-- One unit of 32 bits is so many of 64 bits, as a power of two. -/
def U : Nat := 925
theorem U_eq : U = 925 := rfl

/-- Of the two neighbours the nearer one; of both the even one. -/
theorem nar_of {k low : Nat} (h1 : val 23 low * 2 ^ U ≤ val 52 k) (h2 : val 52 k < val 23 (low + 1) * 2 ^ U) :
    nar k = if 2 * val 52 k < (val 23 low + val 23 (low + 1)) * 2 ^ U ∨ (2 * val 52 k = (val 23 low + val 23 (low + 1)) * 2 ^ U ∧ low % 2 = 0) then low else low + 1 := by
  unfold nar
  rcases Nat.lt_or_ge (k / 2 ^ 52) 897 with he | he
  · rw [if_pos he]
    have hv := val52_lo k he
    have hn : (if k / 2 ^ 52 = 0 then k % 2 ^ 52 else 2 ^ 52 + k % 2 ^ 52) < 2 ^ 53 := by
      have : k % 2 ^ 52 < 2 ^ 52 := Nat.mod_lt _ (by omega)
      split <;> omega
    generalize (if k / 2 ^ 52 = 0 then k % 2 ^ 52 else 2 ^ 52 + k % 2 ^ 52) = n at *
    have hM : 1 ≤ max (k / 2 ^ 52) 1 ∧ max (k / 2 ^ 52) 1 ≤ 896 := by omega
    generalize max (k / 2 ^ 52) 1 = e at *
    have s1 : 2 ^ U = 2 ^ (926 - e) * 2 ^ (e - 1) := pow_split _ _ _ (by rw [U_eq]; omega)
    have hlow : low < 2 ^ 23 := by
      have hub : val 52 k < 2 ^ 23 * 2 ^ U := by
        rw [hv, ← Nat.pow_add]
        calc n * 2 ^ (e - 1) < 2 ^ 53 * 2 ^ (e - 1) := lt_mul_pow hn
          _ = 2 ^ (53 + (e - 1)) := (Nat.pow_add ..).symm
          _ ≤ 2 ^ (23 + U) := Nat.pow_le_pow_right (by omega) (by rw [U_eq]; omega)
      have : val 23 low < 2 ^ 23 := lt_of_mul_pow (Nat.lt_of_le_of_lt h1 hub)
      have := val_ge 23 low
      omega
    have v1 : val 23 low = low := val_low hlow
    have v2 : val 23 (low + 1) = low + 1 := by
      rcases Nat.lt_or_ge (low + 1) (2 ^ 23) with h | h
      · exact val_low h
      · rw [val_at 0 0 (by omega) (by omega)]; omega
    rw [v1, hv, s1, ← Nat.mul_assoc, le_mul_iff] at h1
    rw [v2, hv, s1, ← Nat.mul_assoc, lt_mul_iff] at h2
    rw [v1, v2, hv, s1]
    rw [rne_of h1 h2, ← Nat.mul_assoc, ← Nat.mul_assoc]
    simp only [lt_mul_iff, eq_mul_iff]
  · rw [if_neg (by omega)]
    have hk : k = ((k / 2 ^ 52 - 1) + 1) * 2 ^ 52 + k % 2 ^ 52 := by
      have := Nat.div_add_mod k (2 ^ 52)
      omega
    have hm : k % 2 ^ 52 < 2 ^ 52 := Nat.mod_lt _ (by omega)
    have hv : val 52 k = (2 ^ 52 + k % 2 ^ 52) * 2 ^ (k / 2 ^ 52 - 1) := val_at _ _ hm hk
    generalize k % 2 ^ 52 = fr at *
    generalize k / 2 ^ 52 = e at *
    have hge : 2 ^ (23 + U) ≤ val 52 k := by
      rw [hv]
      calc 2 ^ (23 + U) = 2 ^ 52 * 2 ^ 896 := pow_split _ _ _ (by rw [U_eq])
        _ ≤ 2 ^ 52 * 2 ^ (e - 1) := Nat.mul_le_mul_left _ (Nat.pow_le_pow_right (by omega) (by omega))
        _ ≤ _ := le_mul_pow (by omega)
    rcases rung_cases 23 low with hl | ⟨q, m, hmm, hr⟩
    · exfalso
      have v2 : val 23 (low + 1) ≤ 2 ^ 23 := by
        rcases Nat.lt_or_ge (low + 1) (2 ^ 23) with h | h
        · rw [val_low h]; omega
        · rw [val_at 0 0 (by omega) (by omega)]; omega
      have : val 23 (low + 1) * 2 ^ U ≤ 2 ^ 23 * 2 ^ U := le_mul_pow v2
      rw [← Nat.pow_add] at this
      exact absurd (Nat.lt_of_lt_of_le h2 this) (Nat.not_lt.2 hge)
    · have v1 := val_at q m hmm hr
      have v2 := val_step hmm hr
      rw [v1, hv] at h1
      rw [v2, hv] at h2
      rw [v1, v2, hv]
      have hq : e = q + 897 := by
        have l1 : 2 ^ (23 + q + U) < 2 ^ (53 + (e - 1)) := by
          calc 2 ^ (23 + q + U) = 2 ^ 23 * 2 ^ q * 2 ^ U := by rw [← Nat.pow_add, ← Nat.pow_add]
            _ ≤ (2 ^ 23 + m) * 2 ^ q * 2 ^ U := le_mul_pow (le_mul_pow (by omega))
            _ ≤ _ := h1
            _ < 2 ^ 53 * 2 ^ (e - 1) := lt_mul_pow (by omega)
            _ = _ := (Nat.pow_add ..).symm
        have l2 : 2 ^ (52 + (e - 1)) < 2 ^ (24 + q + U) := by
          calc 2 ^ (52 + (e - 1)) = 2 ^ 52 * 2 ^ (e - 1) := Nat.pow_add ..
            _ ≤ (2 ^ 52 + fr) * 2 ^ (e - 1) := le_mul_pow (by omega)
            _ < _ := h2
            _ ≤ 2 ^ 24 * 2 ^ q * 2 ^ U := le_mul_pow (le_mul_pow (by omega))
            _ = _ := by rw [← Nat.pow_add, ← Nat.pow_add]
        have := (Nat.pow_lt_pow_iff_right (a := 2) (by omega)).1 l1
        have := (Nat.pow_lt_pow_iff_right (a := 2) (by omega)).1 l2
        rw [U_eq] at *
        omega
      have s1 : 2 ^ q * 2 ^ U = 2 ^ 29 * 2 ^ (e - 1) := by rw [← Nat.pow_add, ← Nat.pow_add, U_eq]; congr 1; omega
      rw [Nat.mul_assoc, s1, ← Nat.mul_assoc, le_mul_iff] at h1
      rw [Nat.mul_assoc (2 ^ 23 + m + 1), s1, ← Nat.mul_assoc, lt_mul_iff] at h2
      rw [rne_of h1 h2, ← Nat.add_mul, Nat.mul_assoc _ (2 ^ q), s1, ← Nat.mul_assoc, ← Nat.mul_assoc]
      simp only [lt_mul_iff, eq_mul_iff]
      have hp : low % 2 = (2 ^ 23 + m) % 2 := by omega
      have hsub : e - 897 = q := by omega
      rw [hp, hsub, hr]
      split <;> omega

theorem low_exists (v : Nat) : ∃ low, val 23 low * 2 ^ U ≤ v ∧ v < val 23 (low + 1) * 2 ^ U := by
  have hp : 0 < 2 ^ U := Nat.two_pow_pos _
  have : ∀ n, v < val 23 n * 2 ^ U → ∃ low, val 23 low * 2 ^ U ≤ v ∧ v < val 23 (low + 1) * 2 ^ U := by
    intro n
    induction n with
    | zero => intro h; rw [val_zero] at h; omega
    | succ n ih =>
      intro h
      rcases Nat.lt_or_ge v (val 23 n * 2 ^ U) with h' | h'
      · exact ih h'
      · exact ⟨n, h', h⟩
  refine this (v + 1) ?_
  have h1 := val_ge 23 (v + 1)
  calc v < (v + 1) * 1 := by omega
    _ ≤ val 23 (v + 1) * 2 ^ U := Nat.mul_le_mul h1 hp

theorem nar_mono {k l : Nat} (h : k ≤ l) : nar k ≤ nar l := by
  obtain ⟨a, a1, a2⟩ := low_exists (val 52 k)
  obtain ⟨b, b1, b2⟩ := low_exists (val 52 l)
  have hv := val_le (F := 52) h
  rw [nar_of a1 a2, nar_of b1 b2]
  have hab : a < b + 1 := by
    have := lt_of_mul_pow (Nat.lt_of_le_of_lt a1 (Nat.lt_of_le_of_lt hv b2))
    exact val_lt_iff.1 this
  rcases Nat.lt_or_ge a b with h' | h'
  · split <;> split <;> omega
  · have e : a = b := by omega
    subst e
    generalize (val 23 a + val 23 (a + 1)) * 2 ^ U = M
    split <;> split <;> omega

theorem nar_exact {k m : Nat} (h : val 52 k = val 23 m * 2 ^ U) : nar k = m := by
  have h1 : val 23 m * 2 ^ U ≤ val 52 k := by rw [h]; exact Nat.le_refl _
  have h2 : val 52 k < val 23 (m + 1) * 2 ^ U := by rw [h]; exact lt_mul_pow (val_succ 23 m)
  rw [nar_of h1 h2, if_pos]
  left
  rw [h, ← Nat.mul_assoc, lt_mul_iff]
  have := val_succ 23 m
  omega

end Go.Proofs.YtnhekkahiphlgaaDoor.flt
