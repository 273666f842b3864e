/- Plain facts on the ends of a text: their order, ranks by doubling. -/
namespace Go.Proofs.YtnhdaolieifhnaaGreatDoor.sx
set_option linter.unusedVariables false

/-- The bytes of a text from 1 on, and 0 behind its end. -/
structure Tx (g : Nat → Int) (N : Nat) : Prop where
  pos : ∀ k, k < N → 0 < g k
  zero : ∀ k, N ≤ k → g k = 0
/-- The first m from i and from j on are the same. -/
def Eqm (g : Nat → Int) (m i j : Nat) : Prop := ∀ t, t < m → g (i + t) = g (j + t)
/-- By the first m the end at i stands ahead of the one at j. -/
def Ltm (g : Nat → Int) (m i j : Nat) : Prop := ∃ k, k < m ∧ Eqm g k i j ∧ g (i + k) < g (j + k)
/-- The end at i stands ahead of the one at j. -/
def lt (g : Nat → Int) (i j : Nat) : Prop := ∃ k, Eqm g k i j ∧ g (i + k) < g (j + k)
instance (g : Nat → Int) (m i j : Nat) : Decidable (Eqm g m i j) := by unfold Eqm; infer_instance
instance (g : Nat → Int) (m i j : Nat) : Decidable (Ltm g m i j) := by unfold Ltm; infer_instance

theorem Eqm.zero (g : Nat → Int) (i j : Nat) : Eqm g 0 i j := fun t h => absurd h (Nat.not_lt_zero _)
theorem Eqm.refl (g : Nat → Int) (m i : Nat) : Eqm g m i i := fun _ _ => rfl
theorem Eqm.symm {g : Nat → Int} {m i j : Nat} (h : Eqm g m i j) : Eqm g m j i := fun t ht => (h t ht).symm
theorem Eqm.trans {g : Nat → Int} {m i j k : Nat} (h : Eqm g m i j) (h' : Eqm g m j k) : Eqm g m i k := fun t ht => (h t ht).trans (h' t ht)
theorem Eqm.mono {g : Nat → Int} {m n i j : Nat} (h : Eqm g m i j) (hn : n ≤ m) : Eqm g n i j := fun t ht => h t (by omega)
theorem Eqm.add {g : Nat → Int} {a b i j : Nat} : Eqm g (a + b) i j ↔ Eqm g a i j ∧ Eqm g b (i + a) (j + a) := by
  constructor
  · intro h
    refine ⟨h.mono (by omega), fun t ht => ?_⟩
    rw [Nat.add_assoc, Nat.add_assoc]
    exact h (a + t) (by omega)
  · rintro ⟨h1, h2⟩ t ht
    rcases Nat.lt_or_ge t a with h | h
    · exact h1 t h
    · have := h2 (t - a) (by omega)
      rwa [show i + a + (t - a) = i + t by omega, show j + a + (t - a) = j + t by omega] at this
theorem Ltm.mono {g : Nat → Int} {m n i j : Nat} (h : Ltm g m i j) (hn : m ≤ n) : Ltm g n i j := by
  obtain ⟨k, h1, h2, h3⟩ := h
  exact ⟨k, by omega, h2, h3⟩
theorem Ltm.lt {g : Nat → Int} {m i j : Nat} (h : Ltm g m i j) : lt g i j := by
  obtain ⟨k, _, h2, h3⟩ := h
  exact ⟨k, h2, h3⟩
theorem tri (g : Nat → Int) (m i j : Nat) : Ltm g m i j ∨ Eqm g m i j ∨ Ltm g m j i := by
  induction m with
  | zero => exact Or.inr (Or.inl (Eqm.zero _ _ _))
  | succ m ih =>
    rcases ih with h | h | h
    · exact Or.inl (h.mono (by omega))
    · rcases Int.lt_trichotomy (g (i + m)) (g (j + m)) with h' | h' | h'
      · exact Or.inl ⟨m, by omega, h, h'⟩
      · refine Or.inr (Or.inl fun t ht => ?_)
        rcases Nat.lt_or_ge t m with h1 | h1
        · exact h t h1
        · obtain rfl : t = m := by omega
          exact h'
      · exact Or.inr (Or.inr ⟨m, by omega, h.symm, h'⟩)
    · exact Or.inr (Or.inr (h.mono (by omega)))
theorem lt.irrefl {g : Nat → Int} {i : Nat} : ¬ lt g i i := by
  rintro ⟨k, _, h⟩
  omega
theorem lt.trans {g : Nat → Int} {i j k : Nat} (h : lt g i j) (h' : lt g j k) : lt g i k := by
  obtain ⟨a, h1, h2⟩ := h
  obtain ⟨b, h3, h4⟩ := h'
  rcases Nat.lt_trichotomy a b with hab | hab | hab
  · exact ⟨a, h1.trans (h3.mono (by omega)), by rw [← h3 a hab]; exact h2⟩
  · subst hab; exact ⟨a, h1.trans h3, Int.lt_trans h2 h4⟩
  · exact ⟨b, (h1.mono (by omega)).trans h3, by rw [h1 b hab]; exact h4⟩
theorem lt.asymm {g : Nat → Int} {i j : Nat} (h : lt g i j) (h' : lt g j i) : False := lt.irrefl (h.trans h')
theorem Ltm.not_eqm {g : Nat → Int} {m i j : Nat} (h : Ltm g m i j) (h' : Eqm g m i j) : False := by
  obtain ⟨k, h1, _, h3⟩ := h
  have := h' k h1
  omega
theorem not_ltm {g : Nat → Int} {m i j : Nat} : ¬ Ltm g m i j ↔ (Eqm g m i j ∨ Ltm g m j i) := by
  constructor
  · intro h
    rcases tri g m i j with h' | h' | h'
    · exact absurd h' h
    · exact Or.inl h'
    · exact Or.inr h'
  · rintro (h | h) h'
    · exact h'.not_eqm h
    · exact lt.asymm h.lt h'.lt
theorem Ltm.add {g : Nat → Int} {a b i j : Nat} : Ltm g (a + b) i j ↔ Ltm g a i j ∨ (Eqm g a i j ∧ Ltm g b (i + a) (j + a)) := by
  constructor
  · rintro ⟨k, h1, h2, h3⟩
    rcases Nat.lt_or_ge k a with h | h
    · exact Or.inl ⟨k, h, h2, h3⟩
    · refine Or.inr ⟨h2.mono h, k - a, by omega, ?_, ?_⟩
      · have := (Eqm.add (a := a) (b := k - a)).1 (by rw [show a + (k - a) = k by omega]; exact h2)
        exact this.2
      · rw [show i + a + (k - a) = i + k by omega, show j + a + (k - a) = j + k by omega]
        exact h3
  · rintro (h | ⟨h1, k, h2, h3, h4⟩)
    · exact h.mono (by omega)
    · refine ⟨a + k, by omega, Eqm.add.2 ⟨h1, h3⟩, ?_⟩
      rw [← Nat.add_assoc, ← Nat.add_assoc]
      exact h4
/-- Two ends are not the same. -/
theorem Tx.apart {g : Nat → Int} {N i j m : Nat} (h : Tx g N) (hi : i < N) (hj : j < N) (hm : N ≤ m) (he : Eqm g m i j) : i = j := by
  rcases Nat.lt_trichotomy i j with h1 | h1 | h1
  · have h2 := he (N - j) (by omega)
    have := h.zero (j + (N - j)) (by omega)
    have := h.pos (i + (N - j)) (by omega)
    omega
  · exact h1
  · have h2 := he (N - i) (by omega)
    have := h.zero (i + (N - i)) (by omega)
    have := h.pos (j + (N - i)) (by omega)
    omega
theorem Tx.tri {g : Nat → Int} {N i j : Nat} (h : Tx g N) (hi : i < N) (hj : j < N) : lt g i j ∨ i = j ∨ lt g j i := by
  rcases sx.tri g N i j with h1 | h1 | h1
  · exact Or.inl h1.lt
  · exact Or.inr (Or.inl (h.apart hi hj (Nat.le_refl _) h1))
  · exact Or.inr (Or.inr h1.lt)
/-- What agrees does not go beyond either end. -/
theorem Tx.short {g : Nat → Int} {N i j n : Nat} (h : Tx g N) (hi : i < N) (hj : j < N) (hne : i ≠ j) (he : Eqm g n i j) : i + n ≤ N ∧ j + n ≤ N := by
  have hlt : n ≤ N - i ∧ n ≤ N - j := by
    rcases Nat.lt_or_ge i j with h1 | h1
    · have : n ≤ N - j := by
        rcases Nat.lt_or_ge (N - j) n with h2 | h2
        · have h3 := he (N - j) h2
          have := h.zero (j + (N - j)) (by omega)
          have := h.pos (i + (N - j)) (by omega)
          omega
        · exact h2
      omega
    · have : n ≤ N - i := by
        rcases Nat.lt_or_ge (N - i) n with h2 | h2
        · have h3 := he (N - i) h2
          have := h.zero (i + (N - i)) (by omega)
          have := h.pos (j + (N - i)) (by omega)
          omega
        · exact h2
      omega
  omega
/-- What stands between two ends that agree agrees with them. -/
theorem between {g : Nat → Int} {n p q a : Nat} (he : Eqm g n p a) (h1 : p = q ∨ lt g p q) (h2 : q = a ∨ lt g q a) : Eqm g n q a := by
  rcases h1 with rfl | h1
  · exact he
  rcases h2 with rfl | ⟨k, h3, h4⟩
  · exact Eqm.refl _ _ _
  rcases Nat.lt_or_ge k n with hk | hk
  · exfalso
    refine lt.asymm h1 ⟨k, fun t ht => ?_, ?_⟩
    · rw [h3 t ht, he t (by omega)]
    · rw [he k hk]; exact h4
  · exact h3.mono hk

/-- Ranks by the first m. -/
structure Rk (g : Nat → Int) (N m : Nat) (r : Nat → Int) : Prop where
  lt : ∀ i j, i < N → j < N → (r i < r j ↔ Ltm g m i j)
  pos : ∀ i, i < N → 0 < r i
theorem Rk.eq {g : Nat → Int} {N m : Nat} {r : Nat → Int} (h : Rk g N m r) {i j : Nat} (hi : i < N) (hj : j < N) : r i = r j ↔ Eqm g m i j := by
  have h1 := h.lt i j hi hj
  have h2 := h.lt j i hj hi
  constructor
  · intro e
    rcases tri g m i j with h' | h' | h'
    · have := h1.2 h'; omega
    · exact h'
    · have := h2.2 h'; omega
  · intro e
    have n1 : ¬ r i < r j := fun k => (h1.1 k).not_eqm e
    have n2 : ¬ r j < r i := fun k => (h2.1 k).not_eqm e.symm
    omega
theorem Rk.one {g : Nat → Int} {N : Nat} (h : Tx g N) : Rk g N 1 g where
  lt i j _ _ := by
    constructor
    · intro h; exact ⟨0, by omega, Eqm.zero _ _ _, h⟩
    · rintro ⟨k, h1, _, h3⟩
      obtain rfl : k = 0 := by omega
      exact h3
  pos := h.pos
/-- The second half of a key. -/
def k2 (r : Nat → Int) (N n i : Nat) : Int := if i + n < N then r (i + n) else 0
/-- A key stands ahead of another one. -/
def klt (x y : Int × Int) : Prop := x.1 < y.1 ∨ (x.1 = y.1 ∧ x.2 < y.2)
instance (x y : Int × Int) : Decidable (klt x y) := by unfold klt; infer_instance
def kk (r : Nat → Int) (N n i : Nat) : Int × Int := (r i, k2 r N n i)
theorem k2_lt {g : Nat → Int} {N n : Nat} {r : Nat → Int} (hT : Tx g N) (h : Rk g N n r) (hn : 1 ≤ n) (i j : Nat) : k2 r N n i < k2 r N n j ↔ Ltm g n (i + n) (j + n) := by
  unfold k2
  by_cases h1 : i + n < N
  · by_cases h2 : j + n < N
    · rw [if_pos h1, if_pos h2]; exact h.lt _ _ h1 h2
    · rw [if_pos h1, if_neg h2]
      have := h.pos _ h1
      constructor
      · intro; omega
      · rintro ⟨k, _, _, h4⟩
        have h5 := hT.zero (j + n + k) (by omega)
        by_cases h6 : i + n + k < N
        · have := hT.pos _ h6; omega
        · have := hT.zero (i + n + k) (by omega); omega
  · by_cases h2 : j + n < N
    · rw [if_neg h1, if_pos h2]
      have h3 := h.pos _ h2
      refine ⟨fun _ => ⟨0, by omega, Eqm.zero _ _ _, ?_⟩, fun _ => h3⟩
      have h4 := hT.pos _ h2
      have h5 := hT.zero (i + n + 0) (by omega)
      rw [h5]
      exact h4
    · rw [if_neg h1, if_neg h2]
      constructor
      · intro; omega
      · rintro ⟨k, _, _, h4⟩
        have h5 := hT.zero (j + n + k) (by omega)
        have := hT.zero (i + n + k) (by omega)
        omega
theorem key_lt {g : Nat → Int} {N n : Nat} {r : Nat → Int} (hT : Tx g N) (h : Rk g N n r) (hn : 1 ≤ n) {i j : Nat} (hi : i < N) (hj : j < N) : klt (kk r N n i) (kk r N n j) ↔ Ltm g (n + n) i j := by
  unfold klt kk
  rw [Ltm.add]
  simp only
  rw [h.lt i j hi hj, h.eq hi hj, k2_lt hT h hn]
theorem klt.tri (x y : Int × Int) : klt x y ∨ x = y ∨ klt y x := by
  unfold klt
  rcases x with ⟨a, b⟩
  rcases y with ⟨c, d⟩
  simp only [Prod.mk.injEq]
  omega
/-- How many unlike ones there are up to place i, of what stands in order. -/
def cnt (K : Nat → Int × Int) : Nat → Nat
  | 0 => 1
  | i + 1 => cnt K i + if K (i + 1) = K i then 0 else 1
theorem cnt_pos (K : Nat → Int × Int) (i : Nat) : 1 ≤ cnt K i := by
  induction i with
  | zero => exact Nat.le_refl _
  | succ i ih => rw [cnt]; omega
theorem cnt_le (K : Nat → Int × Int) (i : Nat) : cnt K i ≤ i + 1 := by
  induction i with
  | zero => exact Nat.le_refl _
  | succ i ih => rw [cnt]; split <;> omega
theorem cnt_mono (K : Nat → Int × Int) (i d : Nat) : cnt K i ≤ cnt K (i + d) := by
  induction d with
  | zero => exact Nat.le_refl _
  | succ d ih => rw [← Nat.add_assoc, cnt]; omega
theorem cnt_lt (K : Nat → Int × Int) (N : Nat) (hs : ∀ i j, i < j → j < N → ¬ klt (K j) (K i)) (i d : Nat) (hd : i + d < N) : (cnt K i < cnt K (i + d) ↔ klt (K i) (K (i + d))) ∧ (cnt K i = cnt K (i + d) ↔ K i = K (i + d)) := by
  induction d with
  | zero =>
    refine ⟨⟨fun h => absurd h (Nat.lt_irrefl _), fun h => ?_⟩, by simp⟩
    unfold klt at h; simp only [Nat.add_zero] at h; omega
  | succ d ih =>
    obtain ⟨h1, h2⟩ := ih (by omega)
    rw [← Nat.add_assoc, cnt]
    have hm := cnt_mono K i d
    by_cases he : K (i + d + 1) = K (i + d)
    · rw [if_pos he, Nat.add_zero, he]
      exact ⟨h1, h2⟩
    · rw [if_neg he]
      have h3 := hs (i + d) (i + d + 1) (by omega) (by omega)
      have h4 : klt (K (i + d)) (K (i + d + 1)) := by
        rcases klt.tri (K (i + d)) (K (i + d + 1)) with h | h | h
        · exact h
        · exact absurd h.symm he
        · exact absurd h h3
      have h5 : klt (K i) (K (i + d + 1)) := by
        by_cases e : cnt K i < cnt K (i + d)
        · have := h1.1 e
          unfold klt at *; omega
        · have := h2.1 (by omega)
          rw [this]; exact h4
      refine ⟨⟨fun _ => h5, fun _ => by omega⟩, ⟨fun e => by omega, fun e => ?_⟩⟩
      rw [e] at h5
      unfold klt at h5; omega
/-- Ranks that are made so are by twice as many. -/
theorem ranked_rk {g : Nat → Int} {N n : Nat} {r r' : Nat → Int} {L : List Nat} (hT : Tx g N) (h : Rk g N n r) (hn : 1 ≤ n) (hp : L.Perm (List.range N)) (hs : L.Pairwise fun x y => ¬ klt (kk r N n y) (kk r N n x))
    (hr : ∀ k, k < N → r' (L.getD k 0) = ((cnt (fun k => kk r N n (L.getD k 0)) k : Nat) : Int)) : Rk g N (n + n) r' := by
  have hlen : L.length = N := by have := hp.length_eq; rwa [List.length_range] at this
  have hat : ∀ i, i < N → ∃ k, k < N ∧ L.getD k 0 = i := fun i hi => by
    obtain ⟨k, hk, e⟩ := List.mem_iff_getElem.1 (hp.mem_iff.2 (List.mem_range.2 hi))
    exact ⟨k, by omega, by simp [hk, e]⟩
  have hs' : ∀ i j, i < j → j < N → ¬ klt (kk r N n (L.getD j 0)) (kk r N n (L.getD i 0)) := fun i j hij hj => by
    have := List.pairwise_iff_getElem.1 hs i j (by omega) (by omega) hij
    simpa [show i < L.length by omega, show j < L.length by omega] using this
  have hL : ∀ k, k < N → L.getD k 0 < N := fun k hk => by
    have : L.getD k 0 ∈ L := by simp [show k < L.length by omega]
    exact List.mem_range.1 (hp.mem_iff.1 this)
  refine ⟨fun i j hi hj => ?_, fun i hi => ?_⟩
  · obtain ⟨a, ha, rfl⟩ := hat i hi
    obtain ⟨b, hb, rfl⟩ := hat j hj
    rw [hr a ha, hr b hb, ← key_lt hT h hn (hL a ha) (hL b hb), Int.ofNat_lt]
    rcases Nat.lt_trichotomy a b with hab | hab | hab
    · obtain ⟨d, rfl⟩ : ∃ d, b = a + d := ⟨b - a, by omega⟩
      exact (cnt_lt (fun k => kk r N n (L.getD k 0)) N hs' a d hb).1
    · subst hab
      refine ⟨fun h => absurd h (Nat.lt_irrefl _), fun h => ?_⟩
      unfold klt at h; omega
    · obtain ⟨d, rfl⟩ : ∃ d, a = b + d := ⟨a - b, by omega⟩
      have := cnt_mono (fun k => kk r N n (L.getD k 0)) b d
      exact ⟨fun h => by omega, fun h => absurd h (hs' b (b + d) hab ha)⟩
  · obtain ⟨a, ha, rfl⟩ := hat i hi
    rw [hr a ha]
    have := cnt_pos (fun k => kk r N n (L.getD k 0)) a
    omega
theorem cnt_all (K : Nat → Int × Int) (N : Nat) (h : cnt K N = N + 1) (i : Nat) (hi : i ≤ N) : cnt K i = i + 1 := by
  induction N generalizing i with
  | zero => obtain rfl : i = 0 := by omega
            rfl
  | succ N ih =>
    have h1 := cnt_le K N
    have h2 := cnt_le K (N + 1)
    rw [cnt] at h h2
    have h3 : cnt K N = N + 1 := by split at h <;> omega
    rcases Nat.lt_or_ge i (N + 1) with h4 | h4
    · exact ih h3 i (by omega)
    · obtain rfl : i = N + 1 := by omega
      rw [cnt]; omega
/-- Where all are unlike the ends stand in their order. -/
theorem ranked_all {g : Nat → Int} {N n : Nat} {r : Nat → Int} {L : List Nat} (hT : Tx g N) (h : Rk g N n r) (hn : 1 ≤ n) (hp : L.Perm (List.range N)) (hs : L.Pairwise fun x y => ¬ klt (kk r N n y) (kk r N n x))
    (hN : 0 < N) (hc : cnt (fun k => kk r N n (L.getD k 0)) (N - 1) = N) : L.Pairwise (lt g) := by
  have hlen : L.length = N := by have := hp.length_eq; rwa [List.length_range] at this
  have hL : ∀ k, k < N → L.getD k 0 < N := fun k hk => by
    have : L.getD k 0 ∈ L := by simp [show k < L.length by omega]
    exact List.mem_range.1 (hp.mem_iff.1 this)
  have hs' : ∀ i j, i < j → j < N → ¬ klt (kk r N n (L.getD j 0)) (kk r N n (L.getD i 0)) := fun i j hij hj => by
    have := List.pairwise_iff_getElem.1 hs i j (by omega) (by omega) hij
    simpa [show i < L.length by omega, show j < L.length by omega] using this
  refine List.pairwise_iff_getElem.2 fun i j hi hj hij => ?_
  obtain ⟨d, rfl⟩ : ∃ d, j = i + d := ⟨j - i, by omega⟩
  have h1 := cnt_all (fun k => kk r N n (L.getD k 0)) (N - 1) (by omega) i (by omega)
  have h2 := cnt_all (fun k => kk r N n (L.getD k 0)) (N - 1) (by omega) (i + d) (by omega)
  have h3 := (cnt_lt _ N hs' i d (by omega)).1.1 (by omega)
  have h4 := (key_lt hT h hn (hL i (by omega)) (hL (i + d) (by omega))).1 h3
  have := h4.lt
  simpa [hi, hj] using this
/-- By so many as there are all are unlike. -/
theorem ranked_end {g : Nat → Int} {N n : Nat} {r : Nat → Int} {L : List Nat} (hT : Tx g N) (h : Rk g N n r) (hn : 1 ≤ n) (hp : L.Perm (List.range N)) (hN : 0 < N) (hm : N ≤ n + n) :
    cnt (fun k => kk r N n (L.getD k 0)) (N - 1) = N := by
  have hlen : L.length = N := by have := hp.length_eq; rwa [List.length_range] at this
  have hL : ∀ k, k < N → L.getD k 0 < N := fun k hk => by
    have : L.getD k 0 ∈ L := by simp [show k < L.length by omega]
    exact List.mem_range.1 (hp.mem_iff.1 this)
  have hnd : L.Nodup := hp.nodup_iff.2 List.nodup_range
  have : ∀ i, i < N → cnt (fun k => kk r N n (L.getD k 0)) i = i + 1 := fun i => by
    induction i with
    | zero => intro _; rfl
    | succ i ih =>
      intro hi
      rw [cnt, ih (by omega), if_neg]
      intro e
      have n1 : ¬ klt (kk r N n (L.getD i 0)) (kk r N n (L.getD (i + 1) 0)) := by rw [e]; unfold klt; omega
      have n2 : ¬ klt (kk r N n (L.getD (i + 1) 0)) (kk r N n (L.getD i 0)) := by rw [e]; unfold klt; omega
      rw [key_lt hT h hn (hL _ (by omega)) (hL _ (by omega))] at n1 n2
      have h3 : L.getD i 0 = L.getD (i + 1) 0 := by
        rcases tri g (n + n) (L.getD i 0) (L.getD (i + 1) 0) with h' | h' | h'
        · exact absurd h' n1
        · exact hT.apart (hL _ (by omega)) (hL _ (by omega)) hm h'
        · exact absurd h' n2
      have h4 : L[i]'(by omega) = L[i + 1]'(by omega) := by simpa [show i < L.length by omega, show i + 1 < L.length by omega] using h3
      have := (List.nodup_iff_pairwise_ne.1 hnd)
      exact (List.pairwise_iff_getElem.1 this i (i + 1) (by omega) (by omega) (by omega)) h4
  have := this (N - 1) (by omega)
  omega
/-- All ends, each below the next one. -/
structure IsSort (g : Nat → Int) (N : Nat) (L : List Nat) : Prop where
  perm : L.Perm (List.range N)
  order : L.Pairwise (lt g)
theorem IsSort.same {g : Nat → Int} {N : Nat} {L L' : List Nat} (h : IsSort g N L) (h' : IsSort g N L') : L = L' :=
  List.Perm.eq_of_pairwise (fun a b _ _ h1 h2 => (lt.asymm h1 h2).elim) h.order h'.order (h.perm.trans h'.perm.symm)
theorem IsSort.len {g : Nat → Int} {N : Nat} {L : List Nat} (h : IsSort g N L) : L.length = N := by have := h.perm.length_eq; rwa [List.length_range] at this
theorem IsSort.nil (g : Nat → Int) : IsSort g 0 [] := ⟨List.Perm.refl _, List.Pairwise.nil⟩
end Go.Proofs.YtnhdaolieifhnaaGreatDoor.sx
