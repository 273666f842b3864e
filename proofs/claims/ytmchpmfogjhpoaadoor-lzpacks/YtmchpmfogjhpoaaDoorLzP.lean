/- How a text is told by what stood in it already, in plain numbers: what stood nearest, the longest one, pieces, and what pieces tell. -/
import Derived.WalkKit
namespace Go.Proofs.YtmchpmfogjhpoaaDoor.lz
set_option linter.unusedVariables false

/-- How many bytes are the same, from the m-th one on, at k and at a; f of them are looked at. -/
def cmF (g : Nat → Int) (n k a : Nat) : Nat → Nat → Nat
  | 0, m => m
  | f + 1, m => if a + m < n ∧ g (k + m) = g (a + m) then cmF g n k a f (m + 1) else m
def cm (g : Nat → Int) (n k a : Nat) : Nat := cmF g n k a 130 0
structure IsCm (g : Nat → Int) (n k a m : Nat) : Prop where
  le : m ≤ 130
  inn : a ≤ n → a + m ≤ n
  same : ∀ i, i < m → g (k + i) = g (a + i)
  stop : m = 130 ∨ n ≤ a + m ∨ g (k + m) ≠ g (a + m)
theorem cmF_is (g : Nat → Int) (n k a : Nat) : ∀ f m, f + m = 130 → (a ≤ n → a + m ≤ n) → (∀ i, i < m → g (k + i) = g (a + i)) → IsCm g n k a (cmF g n k a f m)
  | 0, m, h, h1, h2 => ⟨by rw [cmF]; omega, by rw [cmF]; exact h1, by rw [cmF]; exact h2, by rw [cmF]; exact Or.inl (by omega)⟩
  | f + 1, m, h, h1, h2 => by
    rw [cmF]
    by_cases c : a + m < n ∧ g (k + m) = g (a + m)
    · rw [if_pos c]
      exact cmF_is g n k a f (m + 1) (by omega) (fun _ => by omega) (fun i hi => by
        by_cases e : i = m
        · rw [e]; exact c.2
        · exact h2 i (by omega))
    · rw [if_neg c]
      refine ⟨by omega, h1, h2, ?_⟩
      by_cases h3 : a + m < n
      · exact Or.inr (Or.inr (fun e => c ⟨h3, e⟩))
      · exact Or.inr (Or.inl (by omega))
theorem cm_is (g : Nat → Int) (n k a : Nat) : IsCm g n k a (cm g n k a) := cmF_is g n k a 130 0 rfl (fun h => h) (fun i hi => absurd hi (Nat.not_lt_zero _))
theorem IsCm.ge {g : Nat → Int} {n k a m j : Nat} (h : IsCm g n k a m) (hj : j ≤ 130) (hn : a + j ≤ n) (hs : ∀ i, i < j → g (k + i) = g (a + i)) : j ≤ m := by
  rcases Nat.lt_or_ge m j with hlt | hge
  · rcases h.stop with h1 | h1 | h1
    · omega
    · omega
    · exact absurd (hs m hlt) h1
  · exact hge
theorem IsCm.uniq {g : Nat → Int} {n k a m j : Nat} (h : IsCm g n k a m) (h' : IsCm g n k a j) (ha : a ≤ n) : m = j := by
  have h1 := h.ge h'.le (h'.inn ha) h'.same
  have h2 := h'.ge h.le (h.inn ha) h.same
  omega
/-- Do the same three bytes stand at both places? -/
def Th (g : Nat → Int) (k a : Nat) : Prop := g k = g a ∧ g (k + 1) = g (a + 1) ∧ g (k + 2) = g (a + 2)
instance (g : Nat → Int) (k a : Nat) : Decidable (Th g k a) := by unfold Th; infer_instance
theorem cm_three {g : Nat → Int} {n k a : Nat} (ha : a ≤ n) : 3 ≤ cm g n k a ↔ (a + 3 ≤ n ∧ Th g k a) := by
  have h := cm_is g n k a
  constructor
  · intro h3
    refine ⟨by have := h.inn ha; omega, ?_, ?_, ?_⟩
    · exact h.same 0 (by omega)
    · exact h.same 1 (by omega)
    · exact h.same 2 (by omega)
  · rintro ⟨h1, h2, h3, h4⟩
    refine h.ge (by omega) h1 (fun i hi => ?_)
    rcases (show i = 0 ∨ i = 1 ∨ i = 2 by omega) with rfl | rfl | rfl
    · exact h2
    · exact h3
    · exact h4
/-- The nearest place below k at which the three bytes of i stand. -/
def nrF (g : Nat → Int) (i : Nat) : Nat → Int
  | 0 => -1
  | k + 1 => if Th g k i then (k : Int) else nrF g i k
def nr (g : Nat → Int) (n i : Nat) : Int := if i + 3 ≤ n then nrF g i i else -1
theorem nrF_spec (g : Nat → Int) (i : Nat) : ∀ k, (nrF g i k = -1 ∧ ∀ j, j < k → ¬ Th g j i) ∨ (∃ q : Nat, nrF g i k = (q : Int) ∧ q < k ∧ Th g q i ∧ ∀ j, q < j → j < k → ¬ Th g j i)
  | 0 => Or.inl ⟨rfl, fun j hj => absurd hj (Nat.not_lt_zero _)⟩
  | k + 1 => by
    rw [nrF]
    by_cases c : Th g k i
    · rw [if_pos c]
      exact Or.inr ⟨k, rfl, Nat.lt_succ_self k, c, fun j h1 h2 => by omega⟩
    · rw [if_neg c]
      rcases nrF_spec g i k with ⟨h1, h2⟩ | ⟨q, h1, h2, h3, h4⟩
      · refine Or.inl ⟨h1, fun j hj => ?_⟩
        by_cases e : j = k
        · rw [e]; exact c
        · exact h2 j (by omega)
      · refine Or.inr ⟨q, h1, by omega, h3, fun j hj hk => ?_⟩
        by_cases e : j = k
        · rw [e]; exact c
        · exact h4 j hj (by omega)
theorem nr_spec (g : Nat → Int) (n i : Nat) (hi : i + 3 ≤ n) : (nr g n i = -1 ∧ ∀ j, j < i → ¬ Th g j i) ∨ (∃ q : Nat, nr g n i = (q : Int) ∧ q < i ∧ Th g q i ∧ ∀ j, q < j → j < i → ¬ Th g j i) := by
  unfold nr
  rw [if_pos hi]
  exact nrF_spec g i i
theorem nr_out (g : Nat → Int) (n i : Nat) (hi : ¬ i + 3 ≤ n) : nr g n i = -1 := by unfold nr; rw [if_neg hi]
theorem nr_bd (g : Nat → Int) (n i : Nat) : -1 ≤ nr g n i ∧ nr g n i < (i : Int) := by
  by_cases hi : i + 3 ≤ n
  · rcases nr_spec g n i hi with ⟨h1, _⟩ | ⟨q, h1, h2, _⟩ <;> omega
  · rw [nr_out g n i hi]; omega
/-- The longest one of those that begin up to b places ahead of a: how far ahead, and how long. -/
def agF (g : Nat → Int) (n a : Nat) : Nat → Nat × Nat
  | 0 => (0, 0)
  | b + 1 => if (agF g n a b).2 < cm g n (a - (b + 1)) a ∧ 3 ≤ cm g n (a - (b + 1)) a then (b + 1, cm g n (a - (b + 1)) a) else agF g n a b
def ag (g : Nat → Int) (n a : Nat) : Nat × Nat := agF g n a (min 1023 a)
theorem agF_skip {g : Nat → Int} {n a b : Nat} : ∀ c, b ≤ c → (∀ j, b < j → j ≤ c → cm g n (a - j) a < 3) → agF g n a c = agF g n a b
  | 0, h, _ => by obtain rfl : b = 0 := by omega
                  rfl
  | c + 1, h, hs => by
    by_cases e : b = c + 1
    · rw [e]
    · rw [agF, if_neg (fun h2 => by have := hs (c + 1) (by omega) (Nat.le_refl _); omega)]
      exact agF_skip c (by omega) (fun j h1 h2 => hs j h1 (by omega))
theorem agF_spec (g : Nat → Int) (n a : Nat) : ∀ b, (agF g n a b = (0, 0) ∧ ∀ j, 1 ≤ j → j ≤ b → cm g n (a - j) a < 3) ∨
    (1 ≤ (agF g n a b).1 ∧ (agF g n a b).1 ≤ b ∧ 3 ≤ (agF g n a b).2 ∧ (agF g n a b).2 = cm g n (a - (agF g n a b).1) a ∧ ∀ j, 1 ≤ j → j ≤ b → cm g n (a - j) a ≤ (agF g n a b).2)
  | 0 => Or.inl ⟨rfl, fun j h1 h2 => by omega⟩
  | b + 1 => by
    rw [agF]
    by_cases c : (agF g n a b).2 < cm g n (a - (b + 1)) a ∧ 3 ≤ cm g n (a - (b + 1)) a
    · rw [if_pos c]
      refine Or.inr ⟨Nat.le_add_left _ _, Nat.le_refl _, c.2, rfl, fun j h1 h2 => ?_⟩
      by_cases e : j = b + 1
      · rw [e]; exact Nat.le_refl _
      · rcases agF_spec g n a b with ⟨h3, h4⟩ | ⟨_, _, _, _, h4⟩
        · have := h4 j h1 (by omega)
          have := c.2
          show _ ≤ cm g n (a - (b + 1)) a
          omega
        · have := h4 j h1 (by omega)
          have := c.1
          show _ ≤ cm g n (a - (b + 1)) a
          omega
    · rw [if_neg c]
      rcases agF_spec g n a b with ⟨h3, h4⟩ | ⟨h1, h2, h3, h5, h4⟩
      · refine Or.inl ⟨h3, fun j h1 h2 => ?_⟩
        by_cases e : j = b + 1
        · subst e
          rw [h3] at c
          have : ¬ ((0 : Nat) < cm g n (a - (b + 1)) a ∧ 3 ≤ cm g n (a - (b + 1)) a) := c
          omega
        · exact h4 j h1 (by omega)
      · refine Or.inr ⟨h1, by omega, h3, h5, fun j h6 h7 => ?_⟩
        by_cases e : j = b + 1
        · subst e
          omega
        · exact h4 j h6 (by omega)
/-- What is known of the longest one. -/
theorem ag_spec (g : Nat → Int) (n a : Nat) (ha : a ≤ n) : (ag g n a = (0, 0) ∧ ∀ j, 1 ≤ j → j ≤ 1023 → j ≤ a → cm g n (a - j) a < 3) ∨
    (1 ≤ (ag g n a).1 ∧ (ag g n a).1 ≤ 1023 ∧ (ag g n a).1 ≤ a ∧ 3 ≤ (ag g n a).2 ∧ (ag g n a).2 ≤ 130 ∧ a + (ag g n a).2 ≤ n ∧ (∀ i, i < (ag g n a).2 → g (a - (ag g n a).1 + i) = g (a + i)) ∧ ∀ j, 1 ≤ j → j ≤ 1023 → j ≤ a → cm g n (a - j) a ≤ (ag g n a).2) := by
  unfold ag
  rcases agF_spec g n a (min 1023 a) with ⟨h1, h2⟩ | ⟨h1, h2, h3, h4, h5⟩
  · exact Or.inl ⟨h1, fun j a1 a2 a3 => h2 j a1 (by omega)⟩
  · have hc := cm_is g n (a - (agF g n a (min 1023 a)).1) a
    rw [← h4] at hc
    exact Or.inr ⟨h1, by omega, by omega, h3, hc.le, hc.inn ha, hc.same, fun j a1 a2 a3 => h5 j a1 (by omega)⟩
/-- PLAIN bytes from one place to another one, as they are told. -/
def told (g : Nat → Int) (a b : Nat) : List Int :=
  if h : a < b then (((min (b - a) 128 : Nat) : Int) - 1) :: (((List.range (min (b - a) 128)).map fun i => g (a + i)) ++ told g (a + min (b - a) 128) b) else []
termination_by b - a
decreasing_by omega
/-- All that is told from a place on, where PLAIN bytes from fr on aren't told yet. -/
def pkT (g : Nat → Int) (n a fr : Nat) : List Int :=
  if h : a < n then
    if h2 : (ag g n a).2 = 0 then pkT g n (a + 1) fr
    else told g fr a ++ ([125 + ((ag g n a).2 : Int), ((ag g n a).1 : Int) / 256, ((ag g n a).1 : Int) % 256] ++ pkT g n (a + (ag g n a).2) (a + (ag g n a).2))
  else told g fr n
termination_by n - a
decreasing_by all_goals omega
theorem told_len (g : Nat → Int) (a b : Nat) : 4 * (told g a b).length ≤ 5 * (b - a) + 3 ∧ (a < b → 1 ≤ (told g a b).length) := by
  generalize hm : b - a = m
  induction m using Nat.strongRecOn generalizing a with
  | _ m ih =>
    rw [told]
    by_cases h : a < b
    · rw [dif_pos h]
      have h2 := (ih (b - (a + min (b - a) 128)) (by omega) (a + min (b - a) 128) rfl).1
      simp only [List.length_cons, List.length_append, List.length_map, List.length_range]
      refine ⟨?_, fun _ => by omega⟩
      by_cases h3 : m ≤ 128
      · have e : told g (a + min (b - a) 128) b = [] := by rw [told, dif_neg (by omega)]
        rw [e, List.length_nil]
        omega
      · omega
    · rw [dif_neg h]
      exact ⟨by simp, fun h' => absurd h' h⟩
theorem pkT_len (g : Nat → Int) (n a fr : Nat) (h1 : fr ≤ a) (h2 : a ≤ n) : 4 * (pkT g n a fr).length ≤ 5 * (n - fr) + 3 := by
  generalize hm : n - a = m
  induction m using Nat.strongRecOn generalizing a fr with
  | _ m ih =>
    rw [pkT]
    by_cases h : a < n
    · rw [dif_pos h]
      by_cases h3 : (ag g n a).2 = 0
      · rw [dif_pos h3]
        exact ih (n - (a + 1)) (by omega) (a + 1) fr (by omega) (by omega) rfl
      · rw [dif_neg h3]
        rcases ag_spec g n a h2 with ⟨h4, _⟩ | ⟨k1, k2, k3, k4, k5, k6, k7, k8⟩
        · rw [h4] at h3; exact absurd rfl h3
        · have := ih (n - (a + (ag g n a).2)) (by omega) (a + (ag g n a).2) (a + (ag g n a).2) (Nat.le_refl _) k6 rfl
          have ht := (told_len g fr a).1
          simp only [List.length_append, List.length_cons, List.length_nil]
          omega
    · rw [dif_neg h]
      have := (told_len g fr n).1
      omega
/-- A text that stands again and again. -/
def Per (g : Nat → Int) (n d : Nat) : Prop := ∀ i, i + d < n → g (i + d) = g i
theorem per_cm {g : Nat → Int} {n d a : Nat} (hp : Per g n d) (hd : d ≤ a) (ha : a ≤ n) : min 130 (n - a) ≤ cm g n (a - d) a :=
  (cm_is g n (a - d) a).ge (by omega) (by omega) (fun i hi => by
    have := hp (a - d + i) (by omega)
    rw [show a - d + i + d = a + i by omega] at this
    exact this.symm)
theorem per_ag {g : Nat → Int} {n d a : Nat} (hp : Per g n d) (hd1 : 1 ≤ d) (hd2 : d ≤ 1023) (hd : d ≤ a) (ha : a + 3 ≤ n) : (ag g n a).2 = min 130 (n - a) := by
  have h1 := per_cm hp hd (by omega)
  rcases ag_spec g n a (by omega) with ⟨_, h⟩ | ⟨k1, k2, k3, k4, k5, k6, k7, k8⟩
  · have := h d hd1 hd2 hd
    omega
  · have := k8 d hd1 hd2 hd
    omega
theorem per_at {g : Nat → Int} {n d : Nat} (hp : Per g n d) (hd1 : 1 ≤ d) (hd2 : d ≤ 1023) (a fr : Nat) (hd : d ≤ a) (hf : fr ≤ a) (ha : a ≤ n) : 4 * (pkT g n a fr).length ≤ (if fr = a then 0 else 5 * (a - fr) + 3) + 12 * ((n - a) / 130 + 1) := by
  generalize hm : n - a = m
  induction m using Nat.strongRecOn generalizing a fr with
  | _ m ih =>
    by_cases h : a + 3 ≤ n
    · have hs := per_ag hp hd1 hd2 hd h
      rw [pkT, dif_pos (by omega), dif_neg (by omega), hs]
      have h1 := ih (n - (a + min 130 (n - a))) (by omega) (a + min 130 (n - a)) (a + min 130 (n - a)) (by omega) (Nat.le_refl _) (by omega) rfl
      rw [if_pos rfl] at h1
      have ht := (told_len g fr a).1
      have h0 : (if fr = a then 0 else 5 * (a - fr) + 3) ≥ 4 * (told g fr a).length := by
        by_cases e : fr = a
        · rw [if_pos e, e, told, dif_neg (Nat.lt_irrefl _)]; simp
        · rw [if_neg e]; omega
      simp only [List.length_append, List.length_cons, List.length_nil]
      by_cases h3 : m ≤ 130
      · by_cases e : n ≤ a + min 130 (n - a)
        · have e2 : pkT g n (a + min 130 (n - a)) (a + min 130 (n - a)) = [] := by
            rw [pkT, dif_neg (by omega), told, dif_neg (by omega)]
          rw [e2, List.length_nil]
          omega
        · omega
      · omega
    · have h1 := pkT_len g n a fr hf ha
      by_cases e : fr = a
      · rw [if_pos e]
        subst e
        omega
      · rw [if_neg e]
        omega
theorem per_all {g : Nat → Int} {n d : Nat} (hp : Per g n d) (hd1 : 1 ≤ d) (hd2 : d ≤ 1023) (hn : d ≤ n) (a fr : Nat) (hd : a < d) (hf : fr ≤ a) : 4 * (pkT g n a fr).length ≤ 5 * (d - fr) + 3 + 12 * ((n - d) / 130 + 2) := by
  generalize hm : d - a = m
  induction m using Nat.strongRecOn generalizing a fr with
  | _ m ih =>
    rw [pkT, dif_pos (by omega)]
    by_cases h3 : (ag g n a).2 = 0
    · rw [dif_pos h3]
      by_cases e : a + 1 = d
      · have := per_at hp hd1 hd2 (a + 1) fr (by omega) (by omega) (by omega)
        rw [if_neg (by omega), e] at this
        rw [e]
        omega
      · exact ih (d - (a + 1)) (by omega) (a + 1) fr (by omega) (by omega) rfl
    · rw [dif_neg h3]
      rcases ag_spec g n a (by omega) with ⟨h4, _⟩ | ⟨k1, k2, k3, k4, k5, k6, k7, k8⟩
      · rw [h4] at h3; exact absurd rfl h3
      · have ht := (told_len g fr a).1
        simp only [List.length_append, List.length_cons, List.length_nil]
        by_cases e : a + (ag g n a).2 < d
        · have := ih (d - (a + (ag g n a).2)) (by omega) (a + (ag g n a).2) (a + (ag g n a).2) e (Nat.le_refl _) rfl
          omega
        · have := per_at hp hd1 hd2 (a + (ag g n a).2) (a + (ag g n a).2) (by omega) (Nat.le_refl _) k6
          rw [if_pos rfl] at this
          have : (n - (a + (ag g n a).2)) / 130 ≤ (n - d) / 130 := Nat.div_le_div_right (by omega)
          omega
/-- What is told once more: m bytes from f bytes ahead on, one by one. -/
def cp (t : List Int) (f : Nat) : Nat → List Int
  | 0 => t
  | m + 1 => cp t f m ++ [(cp t f m).getD ((cp t f m).length - f) 0]
theorem cp_len (t : List Int) (f : Nat) : ∀ m, (cp t f m).length = t.length + m
  | 0 => rfl
  | m + 1 => by rw [cp, List.length_append, cp_len t f m]; rfl
/-- What any pieces tell: a text, or an error's number. -/
def un (l t : List Int) : List Int × Int :=
  if h0 : l.length = 0 then (t, 0) else
  if l.getD 0 0 < 128 then
    if l.length < (l.getD 0 0).toNat + 2 then ([], 3) else
    if 4000 < (t ++ (l.drop 1).take ((l.getD 0 0).toNat + 1)).length then ([], 4) else
    un (l.drop ((l.getD 0 0).toNat + 2)) (t ++ (l.drop 1).take ((l.getD 0 0).toNat + 1))
  else
    if l.length < 3 then ([], 3) else
    if l.getD 1 0 * 256 + l.getD 2 0 < 1 ∨ 1023 < l.getD 1 0 * 256 + l.getD 2 0 ∨ (t.length : Int) < l.getD 1 0 * 256 + l.getD 2 0 then ([], 3) else
    if 4000 < (cp t (l.getD 1 0 * 256 + l.getD 2 0).toNat ((l.getD 0 0).toNat - 125)).length then ([], 4) else
    un (l.drop 3) (cp t (l.getD 1 0 * 256 + l.getD 2 0).toNat ((l.getD 0 0).toNat - 125))
termination_by l.length
decreasing_by all_goals (simp only [List.length_drop]; omega)
/-- The first n bytes. -/
def hd (g : Nat → Int) (n : Nat) : List Int := (List.range n).map g
theorem hd_len (g : Nat → Int) (n : Nat) : (hd g n).length = n := by simp [hd]
theorem hd_get (g : Nat → Int) (n i : Nat) (h : i < n) : (hd g n).getD i 0 = g i := by
  unfold hd
  rw [List.getD_eq_getElem?_getD, List.getElem?_map, List.getElem?_range h]
  rfl
theorem hd_more (g : Nat → Int) (a m : Nat) : hd g a ++ ((List.range m).map fun i => g (a + i)) = hd g (a + m) := by
  unfold hd
  rw [List.range_add, List.map_append, List.map_map]
  rfl
theorem un_told (g : Nat → Int) (a b : Nat) (v : List Int) (hab : a ≤ b) (hb : b ≤ 4000) : un (told g a b ++ v) (hd g a) = un v (hd g b) := by
  generalize hm : b - a = m
  induction m using Nat.strongRecOn generalizing a with
  | _ m ih =>
    rw [told]
    by_cases h : a < b
    · rw [dif_pos h, List.cons_append, List.append_assoc]
      generalize hk : min (b - a) 128 = k
      have hk1 : 1 ≤ k := by omega
      have hk2 : k ≤ 128 := by omega
      have hk3 : a + k ≤ b := by omega
      generalize hR : ((List.range k).map fun i => g (a + i)) = R
      have hRl : R.length = k := by rw [← hR]; simp
      rw [un]
      have e0 : ((((k : Nat) : Int) - 1) :: (R ++ (told g (a + k) b ++ v))).getD 0 0 = (k : Int) - 1 := rfl
      have e1 : ((k : Int) - 1).toNat + 1 = k := by omega
      have e2 : (((((k : Nat) : Int) - 1) :: (R ++ (told g (a + k) b ++ v))).drop 1).take k = R := by
        rw [List.drop_one, List.tail_cons, List.take_append_of_le_length (by omega), ← hRl, List.take_length]
      have e3 : ((((k : Nat) : Int) - 1) :: (R ++ (told g (a + k) b ++ v))).drop (k + 1) = told g (a + k) b ++ v := by
        rw [List.drop_succ_cons, ← hRl, List.drop_left]
      have e4 : hd g a ++ R = hd g (a + k) := by rw [← hR]; exact hd_more g a k
      rw [dif_neg (by simp), e0, if_pos (by omega), e1, show ((k : Int) - 1).toNat + 2 = k + 1 by omega, e2, e3, e4, if_neg (by simp only [List.length_cons, List.length_append]; omega), if_neg (by rw [hd_len]; omega)]
      exact ih (b - (a + k)) (by omega) (a + k) (by omega) rfl
    · rw [dif_neg h, List.nil_append, show a = b by omega]
theorem cp_is (g : Nat → Int) (a f : Nat) : ∀ m, 1 ≤ f → f ≤ a → (∀ i, i < m → g (a - f + i) = g (a + i)) → cp (hd g a) f m = hd g (a + m)
  | 0, _, _, _ => rfl
  | m + 1, h1, h2, h3 => by
    have ih := cp_is g a f m h1 h2 (fun i hi => h3 i (by omega))
    rw [cp, ih, hd_len, hd_get g (a + m) _ (by omega), show a + m - f = a - f + m by omega, h3 m (by omega), ← hd_more g a (m + 1), List.range_succ, List.map_append, ← List.append_assoc, hd_more g a m]
    rfl
theorem un_pk (g : Nat → Int) (n a fr : Nat) (h1 : fr ≤ a) (h2 : a ≤ n) (hn : n ≤ 4000) : un (pkT g n a fr) (hd g fr) = (hd g n, 0) := by
  generalize hm : n - a = m
  induction m using Nat.strongRecOn generalizing a fr with
  | _ m ih =>
    rw [pkT]
    by_cases h : a < n
    · rw [dif_pos h]
      by_cases h3 : (ag g n a).2 = 0
      · rw [dif_pos h3]
        exact ih (n - (a + 1)) (by omega) (a + 1) fr (by omega) (by omega) rfl
      · rw [dif_neg h3]
        rcases ag_spec g n a h2 with ⟨h4, _⟩ | ⟨k1, k2, k3, k4, k5, k6, k7, k8⟩
        · rw [h4] at h3; exact absurd rfl h3
        · rw [un_told g fr a _ h1 (by omega)]
          have ih' := ih (n - (a + (ag g n a).2)) (by omega) (a + (ag g n a).2) (a + (ag g n a).2) (Nat.le_refl _) k6 rfl
          generalize (ag g n a).2 = M at *
          generalize (ag g n a).1 = f at *
          generalize pkT g n (a + M) (a + M) = v at *
          rw [un]
          have e0 : ([125 + (M : Int), (f : Int) / 256, (f : Int) % 256] ++ v).getD 0 0 = 125 + (M : Int) := rfl
          have e1 : ([125 + (M : Int), (f : Int) / 256, (f : Int) % 256] ++ v).getD 1 0 = (f : Int) / 256 := rfl
          have e2 : ([125 + (M : Int), (f : Int) / 256, (f : Int) % 256] ++ v).getD 2 0 = (f : Int) % 256 := rfl
          have e3 : ([125 + (M : Int), (f : Int) / 256, (f : Int) % 256] ++ v).drop 3 = v := rfl
          have e4 : (f : Int) / 256 * 256 + (f : Int) % 256 = (f : Int) := by omega
          have e5 : (125 + (M : Int)).toNat - 125 = M := by omega
          rw [dif_neg (by simp), e0, if_neg (by omega), if_neg (by simp only [List.length_append, List.length_cons, List.length_nil]; omega), e1, e2, e3, e4, e5, Int.toNat_natCast, hd_len,
            if_neg (by omega), cp_is g a f M k1 k3 k7, hd_len, if_neg (by omega)]
          exact ih'
    · rw [dif_neg h]
      have := un_told g fr n [] (by omega) hn
      rw [List.append_nil] at this
      rw [this, un, dif_pos List.length_nil]
end Go.Proofs.YtmchpmfogjhpoaaDoor.lz
