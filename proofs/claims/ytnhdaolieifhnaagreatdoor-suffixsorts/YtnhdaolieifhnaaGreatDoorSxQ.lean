/- Plain facts on the ends of a text: what they begin alike with, and how many unlike texts stand in a text. -/
import Derived.Test.YtnhdaolieifhnaaGreatDoorSxP
namespace Go.Proofs.YtnhdaolieifhnaaGreatDoor.sx
set_option linter.unusedVariables false

/-- So many bytes two ends begin alike with. -/
def IsLc (g : Nat → Int) (i j n : Nat) : Prop := Eqm g n i j ∧ g (i + n) ≠ g (j + n)
theorem IsLc.same {g : Nat → Int} {i j n m : Nat} (h : IsLc g i j n) (k : IsLc g i j m) : n = m := by
  rcases Nat.lt_trichotomy n m with h1 | h1 | h1
  · exact absurd (k.1 n h1) h.2
  · exact h1
  · exact absurd (h.1 m h1) k.2
theorem IsLc.ge {g : Nat → Int} {i j n m : Nat} (h : IsLc g i j n) (k : Eqm g m i j) : m ≤ n := by
  rcases Nat.lt_or_ge n m with h1 | h1
  · exact absurd (k n h1) h.2
  · exact h1
def lcF (g : Nat → Int) : Nat → Nat → Nat → Nat
  | 0, _, _ => 0
  | f + 1, i, j => if g i = g j then lcF g f (i + 1) (j + 1) + 1 else 0
theorem lcF_eqm (g : Nat → Int) (f i j : Nat) : Eqm g (lcF g f i j) i j := by
  induction f generalizing i j with
  | zero => exact Eqm.zero _ _ _
  | succ f ih =>
    rw [lcF]
    split
    · rename_i h
      rw [Nat.add_comm, Eqm.add]
      refine ⟨fun t ht => ?_, ih (i + 1) (j + 1)⟩
      obtain rfl : t = 0 := by omega
      exact h
    · exact Eqm.zero _ _ _
theorem lcF_ne (g : Nat → Int) (f i j : Nat) (h : lcF g f i j < f) : g (i + lcF g f i j) ≠ g (j + lcF g f i j) := by
  induction f generalizing i j with
  | zero => exact absurd h (Nat.not_lt_zero _)
  | succ f ih =>
    rw [lcF] at h ⊢
    split
    · rename_i h1
      rw [if_pos h1] at h
      have := ih (i + 1) (j + 1) (by omega)
      rwa [show i + 1 + lcF g f (i + 1) (j + 1) = i + (lcF g f (i + 1) (j + 1) + 1) by omega, show j + 1 + lcF g f (i + 1) (j + 1) = j + (lcF g f (i + 1) (j + 1) + 1) by omega] at this
    · rename_i h1
      exact h1
theorem lcF_le (g : Nat → Int) (f i j : Nat) : lcF g f i j ≤ f := by
  induction f generalizing i j with
  | zero => exact Nat.le_refl _
  | succ f ih =>
    rw [lcF]
    split
    · have := ih (i + 1) (j + 1); omega
    · omega
def lc (g : Nat → Int) (N i j : Nat) : Nat := lcF g N i j
theorem lc_is {g : Nat → Int} {N i j : Nat} (hT : Tx g N) (hi : i < N) (hj : j < N) (hne : i ≠ j) : IsLc g i j (lc g N i j) := by
  unfold lc
  refine ⟨lcF_eqm _ _ _ _, lcF_ne _ _ _ _ ?_⟩
  rcases Nat.lt_or_ge (lcF g N i j) N with h | h
  · exact h
  · exact absurd (hT.apart hi hj h (lcF_eqm _ _ _ _)) hne
/-- What the end at place k of the order has in common with the one ahead of it. -/
def cm (g : Nat → Int) (N : Nat) (L : List Nat) (k : Nat) : Nat := if k = 0 then 0 else lc g N (L.getD (k - 1) 0) (L.getD k 0)
def com (g : Nat → Int) (N : Nat) (L : List Nat) : List Int := (List.range N).map fun k => ((cm g N L k : Nat) : Int)
/-- The same, of ends ahead of a alone. -/
def comz (g : Nat → Int) (N : Nat) (L : List Nat) (a : Nat) : List Int := (List.range N).map fun k => if L.getD k 0 < a then ((cm g N L k : Nat) : Int) else 0
theorem com_len (g : Nat → Int) (N : Nat) (L : List Nat) : (com g N L).length = N := by simp [com]
theorem comz_len (g : Nat → Int) (N : Nat) (L : List Nat) (a : Nat) : (comz g N L a).length = N := by simp [comz]
theorem com_at (g : Nat → Int) (N : Nat) (L : List Nat) (k : Nat) (h : k < N) : (com g N L).getD k 0 = ((cm g N L k : Nat) : Int) := by simp [com, h]
theorem comz_zero (g : Nat → Int) (N : Nat) (L : List Nat) : comz g N L 0 = List.replicate N 0 := by
  unfold comz
  simp only [Nat.not_lt_zero, if_false]
  rw [List.map_const', List.length_range]
theorem IsSort.lt_N {g : Nat → Int} {N : Nat} {L : List Nat} (h : IsSort g N L) (k : Nat) (hk : k < N) : L.getD k 0 < N := by
  have hl := h.len
  have : L.getD k 0 ∈ L := by simp [show k < L.length by omega]
  exact List.mem_range.1 (h.perm.mem_iff.1 this)
theorem IsSort.at {g : Nat → Int} {N : Nat} {L : List Nat} (h : IsSort g N L) (i : Nat) (hi : i < N) : ∃ k, k < N ∧ L.getD k 0 = i := by
  have hl := h.len
  obtain ⟨k, hk, e⟩ := List.mem_iff_getElem.1 (h.perm.mem_iff.2 (List.mem_range.2 hi))
  exact ⟨k, by omega, by simp [hk, e]⟩
theorem IsSort.lt {g : Nat → Int} {N : Nat} {L : List Nat} (h : IsSort g N L) {i j : Nat} (hij : i < j) (hj : j < N) : lt g (L.getD i 0) (L.getD j 0) := by
  have hl := h.len
  have := List.pairwise_iff_getElem.1 h.order i j (by omega) (by omega) hij
  simpa [show i < L.length by omega, show j < L.length by omega] using this
theorem IsSort.inj {g : Nat → Int} {N : Nat} {L : List Nat} (h : IsSort g N L) {i j : Nat} (hi : i < N) (hj : j < N) (e : L.getD i 0 = L.getD j 0) : i = j := by
  rcases Nat.lt_trichotomy i j with h1 | h1 | h1
  · have := h.lt h1 hj; rw [e] at this; exact absurd this lt.irrefl
  · exact h1
  · have := h.lt h1 hi; rw [e] at this; exact absurd this lt.irrefl
theorem IsSort.le_of {g : Nat → Int} {N : Nat} {L : List Nat} (h : IsSort g N L) {i j : Nat} (hi : i < N) (hj : j < N) (e : sx.lt g (L.getD i 0) (L.getD j 0)) : i < j := by
  rcases Nat.lt_trichotomy i j with h1 | h1 | h1
  · exact h1
  · subst h1; exact absurd e lt.irrefl
  · exact (lt.asymm e (h.lt h1 hi)).elim
theorem comz_all {g : Nat → Int} {N : Nat} {L : List Nat} (h : IsSort g N L) : comz g N L N = com g N L := by
  unfold comz com
  refine List.map_congr_left fun k hk => ?_
  rw [if_pos (h.lt_N k (List.mem_range.1 hk))]
theorem comz_set {g : Nat → Int} {N : Nat} {L : List Nat} (h : IsSort g N L) {k a : Nat} (hk : k < N) (ha : L.getD k 0 = a) : (comz g N L a).set k ((cm g N L k : Nat) : Int) = comz g N L (a + 1) := by
  apply List.ext_getElem?
  intro j
  by_cases hj : j < N
  · by_cases e : k = j
    · subst e
      rw [List.getElem?_set_self (by rw [comz_len]; exact hj)]
      simp only [comz, List.getElem?_map, List.getElem?_range hj, Option.map_some]
      rw [if_pos (by omega)]
    · rw [List.getElem?_set_ne e]
      have : L.getD j 0 ≠ a := fun e' => e (h.inj hk hj (by rw [ha, e']))
      have e2 : (L.getD j 0 < a) ↔ (L.getD j 0 < a + 1) := by omega
      simp only [comz, List.getElem?_map, List.getElem?_range hj, Option.map_some, e2]
  · rw [List.getElem?_eq_none (by rw [List.length_set, comz_len]; omega), List.getElem?_eq_none (by rw [comz_len]; omega)]
theorem comz_first {g : Nat → Int} {N : Nat} {L : List Nat} (h : IsSort g N L) {a : Nat} (hN : 0 < N) (ha : L.getD 0 0 = a) : comz g N L a = comz g N L (a + 1) := by
  unfold comz
  refine List.map_congr_left fun k hk => ?_
  have hk' := List.mem_range.1 hk
  by_cases e : k = 0
  · subst e
    simp [cm]
  · have : L.getD k 0 ≠ a := fun e' => e (h.inj hk' hN (by rw [ha, e']))
    have e2 : (L.getD k 0 < a) ↔ (L.getD k 0 < a + 1) := by omega
    simp only [e2]
/-- What is known of the end at a, ahead of looking: so many bytes it has in common with one ahead of it. -/
def Ks (g : Nat → Int) (N a n : Nat) : Prop := n = 0 ∨ ∃ p, p < N ∧ lt g p a ∧ Eqm g n p a
theorem Ks.first {g : Nat → Int} {N a n : Nat} {L : List Nat} (h : IsSort g N L) (k : Ks g N a n) (hN : 0 < N) (ha : L.getD 0 0 = a) : n = 0 := by
  rcases k with k | ⟨p, h1, h2, _⟩
  · exact k
  · obtain ⟨j, hj, rfl⟩ := h.at p h1
    subst ha
    exact absurd (h.le_of hj hN h2) (by omega)
theorem Ks.pred {g : Nat → Int} {N a n k : Nat} {L : List Nat} (h : IsSort g N L) (hk : Ks g N a n) (hkN : k + 1 < N) (ha : L.getD (k + 1) 0 = a) : Eqm g n (L.getD k 0) a := by
  rcases hk with e | ⟨p, h1, h2, h3⟩
  · subst e; exact Eqm.zero _ _ _
  · obtain ⟨j, hj, rfl⟩ := h.at p h1
    subst ha
    have h4 := h.le_of hj hkN h2
    refine between h3 ?_ (Or.inr (h.lt (Nat.lt_succ_self k) hkN))
    rcases Nat.lt_or_ge j k with h5 | h5
    · exact Or.inr (h.lt h5 (by omega))
    · obtain rfl : j = k := by omega
      exact Or.inl rfl
theorem cm_is {g : Nat → Int} {N k : Nat} {L : List Nat} (hT : Tx g N) (h : IsSort g N L) (hk : k + 1 < N) : IsLc g (L.getD k 0) (L.getD (k + 1) 0) (cm g N L (k + 1)) := by
  unfold cm
  rw [if_neg (by omega), Nat.add_sub_cancel]
  refine lc_is hT (h.lt_N _ (by omega)) (h.lt_N _ hk) fun e => ?_
  have := h.inj (by omega) hk e
  omega
theorem Ks.next {g : Nat → Int} {N a k : Nat} {L : List Nat} (hT : Tx g N) (h : IsSort g N L) (hk : k + 1 < N) (ha : L.getD (k + 1) 0 = a) : Ks g N (a + 1) (cm g N L (k + 1) - 1) := by
  have hc := cm_is hT h hk
  rw [ha] at hc
  have hl := h.lt (Nat.lt_succ_self k) hk
  rw [ha] at hl
  have hp := h.lt_N k (by omega)
  have ha' := h.lt_N (k + 1) hk
  rw [ha] at ha'
  generalize cm g N L (k + 1) = n at hc ⊢
  generalize L.getD k 0 = p at hc hl hp
  rcases Nat.lt_or_ge n 2 with hn | hn
  · exact Or.inl (by omega)
  · have hne : p ≠ a := fun e => by subst e; exact lt.irrefl hl
    obtain ⟨h1, h2⟩ := hT.short hp ha' hne hc.1
    obtain ⟨m, rfl⟩ : ∃ m, n = 1 + m := ⟨n - 1, by omega⟩
    have h3 := (Eqm.add.1 hc.1).2
    obtain ⟨t, h4, h5⟩ := hl
    have ht : 1 ≤ t := by
      rcases Nat.eq_zero_or_pos t with e | e
      · subst e
        have := hc.1 0 (by omega)
        omega
      · exact e
    obtain ⟨u, rfl⟩ : ∃ u, t = 1 + u := ⟨t - 1, by omega⟩
    refine Or.inr ⟨p + 1, by omega, ⟨u, (Eqm.add.1 h4).2, ?_⟩, ?_⟩
    · rw [Nat.add_assoc, Nat.add_assoc]; exact h5
    · rw [show 1 + m - 1 = m by omega]; exact h3
theorem cm_le {g : Nat → Int} {N k : Nat} {L : List Nat} (hT : Tx g N) (h : IsSort g N L) (hk : k < N) : cm g N L k ≤ N - L.getD k 0 := by
  cases k with
  | zero => simp [cm]
  | succ k =>
    have hc := cm_is hT h hk
    have hne : L.getD k 0 ≠ L.getD (k + 1) 0 := fun e => by have := h.inj (by omega) hk e; omega
    have := hT.short (h.lt_N _ (by omega)) (h.lt_N _ hk) hne hc.1
    omega

/-- The n bytes from i on. -/
def seg (g : Nat → Int) (i n : Nat) : List Int := (List.range n).map fun t => g (i + t)
theorem seg_len (g : Nat → Int) (i n : Nat) : (seg g i n).length = n := by simp [seg]
theorem seg_eq {g : Nat → Int} {i j n m : Nat} : seg g i n = seg g j m ↔ n = m ∧ Eqm g n i j := by
  constructor
  · intro h
    have hl : n = m := by rw [← seg_len g i n, h, seg_len]
    subst hl
    refine ⟨rfl, fun t ht => ?_⟩
    have : (seg g i n)[t]? = (seg g j n)[t]? := by rw [h]
    simpa [seg, ht] using this
  · rintro ⟨rfl, h⟩
    exact List.map_congr_left fun t ht => h t (List.mem_range.1 ht)
/-- All unlike texts, each told once. -/
def prt (g : Nat → Int) (N : Nat) (L : List Nat) : List (List Int) :=
  (List.range N).flatMap fun k => (List.range' (cm g N L k + 1) (N - L.getD k 0 - cm g N L k)).map (seg g (L.getD k 0))
theorem mem_prt {g : Nat → Int} {N : Nat} {L : List Nat} (hT : Tx g N) (h : IsSort g N L) (x : List Int) : x ∈ prt g N L ↔ ∃ i n, 1 ≤ n ∧ i + n ≤ N ∧ x = seg g i n := by
  unfold prt
  rw [List.mem_flatMap]
  constructor
  · rintro ⟨k, hk, hx⟩
    obtain ⟨n, hn, rfl⟩ := List.mem_map.1 hx
    rw [List.mem_range'_1] at hn
    have := h.lt_N k (List.mem_range.1 hk)
    exact ⟨_, n, by omega, by omega, rfl⟩
  · rintro ⟨i, n, h1, h2, rfl⟩
    have key : ∀ k, k < N → L.getD k 0 + n ≤ N → Eqm g n (L.getD k 0) i → ∃ k, k < N ∧ L.getD k 0 + n ≤ N ∧ Eqm g n (L.getD k 0) i ∧ cm g N L k < n := by
      intro k
      induction k with
      | zero => intro a1 a2 a3; exact ⟨0, a1, a2, a3, by simp [cm]; omega⟩
      | succ k ih =>
        intro a1 a2 a3
        by_cases hc : cm g N L (k + 1) < n
        · exact ⟨k + 1, a1, a2, a3, hc⟩
        · have hk := cm_is hT h a1
          have he : Eqm g n (L.getD k 0) (L.getD (k + 1) 0) := hk.1.mono (by omega)
          have hne : L.getD k 0 ≠ L.getD (k + 1) 0 := fun e => by have := h.inj (by omega) a1 e; omega
          have := hT.short (h.lt_N _ (by omega)) (h.lt_N _ a1) hne he
          exact ih (by omega) this.1 (he.trans a3)
    obtain ⟨k0, hk0, e0⟩ := h.at i (by omega)
    obtain ⟨k, b1, b2, b3, b4⟩ := key k0 hk0 (by rw [e0]; exact h2) (by rw [e0]; exact Eqm.refl _ _ _)
    exact ⟨k, List.mem_range.2 b1, List.mem_map.2 ⟨n, by rw [List.mem_range'_1]; omega, seg_eq.2 ⟨rfl, b3⟩⟩⟩
theorem nodup_prt {g : Nat → Int} {N : Nat} {L : List Nat} (hT : Tx g N) (h : IsSort g N L) : (prt g N L).Nodup := by
  unfold prt
  rw [List.nodup_iff_pairwise_ne, List.pairwise_flatMap]
  refine ⟨fun k _ => ?_, ?_⟩
  · rw [List.pairwise_map]
    refine List.Pairwise.imp (fun hab e => ?_) (List.pairwise_lt_range' (s := cm g N L k + 1) (n := N - L.getD k 0 - cm g N L k))
    have := (seg_eq.1 e).1
    omega
  · rw [List.pairwise_iff_getElem]
    intro i j hi hj hij x hx y hy e
    simp only [List.getElem_range] at hx hy
    rw [List.length_range] at hi hj
    obtain ⟨n, hn, rfl⟩ := List.mem_map.1 hx
    obtain ⟨m, hm, rfl⟩ := List.mem_map.1 hy
    obtain ⟨rfl, he⟩ := seg_eq.1 e
    rw [List.mem_range'_1] at hn hm
    obtain ⟨k, rfl⟩ : ∃ k, j = k + 1 := ⟨j - 1, by omega⟩
    have hk := cm_is hT h hj
    have : Eqm g n (L.getD k 0) (L.getD (k + 1) 0) := by
      refine between he ?_ (Or.inr (h.lt (Nat.lt_succ_self k) hj))
      rcases Nat.lt_or_ge i k with h5 | h5
      · exact Or.inr (h.lt h5 (by omega))
      · obtain rfl : i = k := by omega
        exact Or.inl rfl
    have := hk.ge this
    omega
theorem sum_add (l : List Nat) (f h : Nat → Nat) : (l.map f).sum + (l.map h).sum = (l.map fun k => f k + h k).sum := by
  induction l with
  | nil => rfl
  | cons x l ih => simp only [List.map_cons, List.sum_cons]; omega
theorem sum_down (N : Nat) : 2 * ((List.range N).map fun i => N - i).sum = N * (N + 1) := by
  induction N with
  | zero => rfl
  | succ N ih =>
    rw [List.range_succ_eq_map, List.map_cons, List.sum_cons, List.map_map]
    have e : ((fun i => N + 1 - i) ∘ Nat.succ) = fun i => N - i := by funext i; simp
    rw [e, Nat.mul_add, ih]
    rw [show N + 1 - 0 = N + 1 by omega, show N + 1 + 1 = N + 2 by omega, Nat.mul_comm N (N + 1), ← Nat.mul_comm (N + 1) 2, ← Nat.mul_add, Nat.add_comm 2 N]
theorem sum_cast (l : List Nat) (f : Nat → Nat) : (l.map fun k => ((f k : Nat) : Int)).sum = (((l.map f).sum : Nat) : Int) := by
  induction l with
  | nil => rfl
  | cons x l ih => simp only [List.map_cons, List.sum_cons, ih]; omega
theorem map_self (L : List Nat) (N : Nat) (h : L.length = N) (f : Nat → Nat) : (List.range N).map (fun k => f (L.getD k 0)) = L.map f := by
  apply List.ext_getElem?
  intro j
  by_cases hj : j < N
  · simp [hj, show j < L.length by omega]
  · rw [List.getElem?_eq_none (by simp; omega), List.getElem?_eq_none (by simp; omega)]
theorem len_prt {g : Nat → Int} {N : Nat} {L : List Nat} (hT : Tx g N) (h : IsSort g N L) : ((prt g N L).length : Int) = ((N * (N + 1) / 2 : Nat) : Int) - (com g N L).sum := by
  have h1 : (prt g N L).length + ((List.range N).map (cm g N L)).sum = N * (N + 1) / 2 := by
    unfold prt
    rw [List.length_flatMap]
    simp only [List.length_map, List.length_range']
    rw [sum_add]
    have e : (List.range N).map (fun k => N - L.getD k 0 - cm g N L k + cm g N L k) = (List.range N).map (fun k => N - L.getD k 0) := by
      refine List.map_congr_left fun k hk => ?_
      have := cm_le hT h (List.mem_range.1 hk)
      omega
    rw [e, map_self L N h.len (fun i => N - i), (h.perm.map _).sum_nat]
    have := sum_down N
    omega
  unfold com
  rw [sum_cast]
  omega
/-- With a byte more a text has more parts, by no more than it has bytes then. -/
theorem prt_more {g g' : Nat → Int} {N : Nat} {L L' : List Nat} (hT : Tx g N) (hT' : Tx g' (N + 1)) (h : IsSort g N L) (h' : IsSort g' (N + 1) L') (he : ∀ k, k < N → g k = g' k) :
    (prt g N L).length < (prt g' (N + 1) L').length ∧ (prt g' (N + 1) L').length ≤ (prt g N L).length + (N + 1) := by
  have hs : ∀ i n, i + n ≤ N → seg g i n = seg g' i n := fun i n hin => List.map_congr_left fun t ht => he _ (by have := List.mem_range.1 ht; omega)
  constructor
  · have hn : (seg g' 0 (N + 1) :: prt g N L).Nodup := by
      refine List.nodup_cons.2 ⟨fun hm => ?_, nodup_prt hT h⟩
      obtain ⟨i, n, a1, a2, a3⟩ := (mem_prt hT h _).1 hm
      rw [hs i n a2] at a3
      have := (seg_eq.1 a3).1
      omega
    have := hn.length_le_of_subset (l₂ := prt g' (N + 1) L') fun x hx => by
      rcases List.mem_cons.1 hx with rfl | hx
      · exact (mem_prt hT' h' _).2 ⟨0, N + 1, by omega, by omega, rfl⟩
      · obtain ⟨i, n, a1, a2, rfl⟩ := (mem_prt hT h _).1 hx
        exact (mem_prt hT' h' _).2 ⟨i, n, a1, by omega, hs i n a2⟩
    rw [List.length_cons] at this
    omega
  · have := (nodup_prt hT' h').length_le_of_subset (l₂ := prt g N L ++ (List.range (N + 1)).map fun i => seg g' i (N + 1 - i)) fun x hx => by
      obtain ⟨i, n, a1, a2, rfl⟩ := (mem_prt hT' h' _).1 hx
      rw [List.mem_append]
      rcases Nat.lt_or_ge N (i + n) with hin | hin
      · exact Or.inr (List.mem_map.2 ⟨i, List.mem_range.2 (by omega), by rw [show N + 1 - i = n by omega]⟩)
      · exact Or.inl ((mem_prt hT h _).2 ⟨i, n, a1, hin, (hs i n hin).symm⟩)
    rw [List.length_append, List.length_map, List.length_range] at this
    exact this
end Go.Proofs.YtnhdaolieifhnaaGreatDoor.sx
