/- Texts laid together: HfO, HfC. -/
import Derived.Test.YtkldnapbeebdkaaDoorZ15
import Derived.Test.YtkldnapbeebdkaaDoorZ16
/- HUFFMAN's: no signs of which none begins another one take fewer bits in all. -/
namespace Go.Proofs.YtkldnapbeebdkaaDoor.hf
set_option linter.unusedVariables false
open hfp hg
/-- All the numbers of groups that are joined. -/
def totG : Nat → List G → Int
  | 0, _ => 0
  | f + 1, gs => match gs.mergeSort leP with
    | a :: b :: r => (a.1 + b.1) + totG f (r ++ [cat a b])
    | _ => 0
theorem totG_step {f : Nat} {gs r : List G} {a b : G} (h : gs.mergeSort leP = a :: b :: r) : totG (f + 1) gs = (a.1 + b.1) + totG f (r ++ [cat a b]) := by
  rw [totG, h]
theorem totG_end {f : Nat} {gs : List G} (h : gs.length ≤ 1) : totG f gs = 0 := by
  cases f with
  | zero => rfl
  | succ f =>
    rw [totG]
    have hl := List.length_mergeSort (le := leP) gs
    split
    · next hs => rw [hs] at hl; simp at hl; omega
    · rfl
def kp (ps : List (G × Nat)) : Nat := (ps.map fun p => 2 ^ (24 - p.2)).sum
def cs (ps : List (G × Nat)) : Int := (ps.map fun p => p.1.1 * (p.2 : Int)).sum
theorem kp_cons (p : G × Nat) (ps : List (G × Nat)) : kp (p :: ps) = 2 ^ (24 - p.2) + kp ps := by simp [kp]
theorem cs_cons (p : G × Nat) (ps : List (G × Nat)) : cs (p :: ps) = p.1.1 * (p.2 : Int) + cs ps := by simp [cs]
/-- The longest sign, exchanged to the rarest group. -/
theorem exch (a : G) (x : Nat) : ∀ qs : List (G × Nat), (∀ q ∈ qs, a.1 ≤ q.1.1) →
    ∃ (x' : Nat) (qs' : List (G × Nat)), qs'.map (·.1) = qs.map (·.1) ∧ 2 ^ (24 - x') + kp qs' = 2 ^ (24 - x) + kp qs ∧ (∀ q ∈ qs', q.2 ≤ x') ∧ a.1 * (x' : Int) + cs qs' ≤ a.1 * (x : Int) + cs qs ∧ ∀ M, x ≤ M → (∀ q ∈ qs, q.2 ≤ M) → x' ≤ M
  | [], _ => ⟨x, [], rfl, rfl, fun q hq => by simp at hq, Int.le_refl _, fun M h _ => h⟩
  | q :: qs, h => by
    obtain ⟨x1, qs1, h1, h2, h3, h4, h5⟩ := exch a x qs (fun p hp => h p (by simp [hp]))
    have hqa := h q (by simp)
    by_cases hc : q.2 ≤ x1
    · refine ⟨x1, q :: qs1, by simp [h1], by rw [kp_cons, kp_cons]; omega, fun p hp => ?_, by rw [cs_cons, cs_cons]; omega, fun M m1 m2 => h5 M m1 (fun p hp => m2 p (by simp [hp]))⟩
      rcases List.mem_cons.1 hp with rfl | hp
      · exact hc
      · exact h3 p hp
    · refine ⟨q.2, (q.1, x1) :: qs1, by simp [h1], by rw [kp_cons, kp_cons]; simp only; omega, fun p hp => ?_, ?_, fun M m1 m2 => m2 q (by simp)⟩
      · rcases List.mem_cons.1 hp with rfl | hp
        · simp only; omega
        · have := h3 p hp; omega
      · rw [cs_cons, cs_cons]
        have hm := Int.mul_nonneg (show 0 ≤ q.1.1 - a.1 by omega) (show 0 ≤ (q.2 : Int) - (x1 : Int) by omega)
        rw [Int.sub_mul, Int.mul_sub, Int.mul_sub] at hm
        simp only
        omega
theorem kp_dvd {y : Nat} (hy : y ≤ 24) : ∀ qs : List (G × Nat), (∀ q ∈ qs, q.2 ≤ y) → 2 ^ (24 - y) ∣ kp qs
  | [], _ => ⟨0, by simp [kp]⟩
  | q :: qs, h => by
    rw [kp_cons]
    refine Nat.dvd_add (Nat.pow_dvd_pow 2 ?_) (kp_dvd hy qs (fun p hp => h p (by simp [hp])))
    have := h q (by simp)
    omega
theorem kp_append (a b : List (G × Nat)) : kp (a ++ b) = kp a + kp b := by simp [kp]
theorem cs_append (a b : List (G × Nat)) : cs (a ++ b) = cs a + cs b := by simp [cs]
theorem kp_perm {a b : List (G × Nat)} (h : a.Perm b) : kp a = kp b := perm_sumN _ h
theorem cs_perm {a b : List (G × Nat)} (h : a.Perm b) : cs a = cs b := perm_sumI _ h
theorem take_one {gs : List G} {a : G} {r : List G} {ps : List (G × Nat)} (h : (ps.map (·.1)).Perm (a :: r)) : ∃ x ps', ps.Perm ((a, x) :: ps') ∧ (ps'.map (·.1)).Perm r := by
  have hm : a ∈ ps.map (·.1) := h.mem_iff.2 (by simp)
  obtain ⟨p, hp, rfl⟩ := List.mem_map.1 hm
  have hpe := List.perm_cons_erase hp
  refine ⟨p.2, ps.erase p, hpe, ?_⟩
  have := (hpe.map (·.1)).symm.trans h
  exact List.Perm.cons_inv this
theorem cs_pos : ∀ ps : List (G × Nat), (∀ p ∈ ps, 0 ≤ p.1.1) → 0 ≤ cs ps
  | [], _ => by simp [cs]
  | p :: ps, h => by
    have h1 := cs_pos ps (fun q hq => h q (by simp [hq]))
    have h2 := Int.mul_nonneg (h p (by simp)) (show (0 : Int) ≤ (p.2 : Int) by omega)
    rw [cs_cons]
    omega
theorem opt : ∀ (f : Nat) (gs : List G) (ps : List (G × Nat)), (∀ g ∈ gs, 0 ≤ g.1) → (ps.map (·.1)).Perm gs → (∀ p ∈ ps, p.2 ≤ 24) → kp ps ≤ 2 ^ 24 → totG f gs ≤ cs ps
  | 0, gs, ps, h0, hp, _, _ => by
    refine cs_pos ps fun p hpm => h0 _ (hp.mem_iff.1 (List.mem_map.2 ⟨p, hpm, rfl⟩))
  | f + 1, gs, ps, h0, hp, h24, hk => by
    by_cases hg : gs.length ≤ 1
    · rw [totG_end hg]
      refine cs_pos ps fun p hpm => h0 _ (hp.mem_iff.1 (List.mem_map.2 ⟨p, hpm, rfl⟩))
    · obtain ⟨a, b, r, hs, hl⟩ := sort_two (gs := gs) (by omega)
      rw [totG_step hs]
      obtain ⟨ha, hb, hr⟩ := mem_step hs
      have hpw := List.pairwise_mergeSort (le := leP) leP_trans leP_total gs
      rw [hs] at hpw
      obtain ⟨hw1, hw2⟩ := List.pairwise_cons.1 hpw
      obtain ⟨hw3, _⟩ := List.pairwise_cons.1 hw2
      have hab : a.1 ≤ b.1 := of_decide_eq_true (hw1 b (by simp))
      have hp2 : (ps.map (·.1)).Perm (a :: b :: r) := hp.trans (by have := (List.mergeSort_perm gs leP).symm; rwa [hs] at this)
      obtain ⟨x, ps1, hx1, hx2⟩ := take_one (gs := gs) hp2
      obtain ⟨y, ps2, hy1, hy2⟩ := take_one (gs := gs) hx2
      have hall : ps.Perm ((a, x) :: (b, y) :: ps2) := hx1.trans (List.Perm.cons _ hy1)
      rw [kp_perm hall, kp_cons, kp_cons] at hk
      rw [cs_perm hall, cs_cons, cs_cons]
      have hm24 : ∀ q ∈ (a, x) :: (b, y) :: ps2, q.2 ≤ 24 := fun q hq => h24 q (hall.mem_iff.2 hq)
      have hra : ∀ q ∈ ps2, a.1 ≤ q.1.1 ∧ b.1 ≤ q.1.1 := fun q hq => by
        have : q.1 ∈ r := hy2.mem_iff.1 (List.mem_map.2 ⟨q, hq, rfl⟩)
        exact ⟨of_decide_eq_true (hw1 q.1 (by simp [this])), of_decide_eq_true (hw3 q.1 this)⟩
      obtain ⟨x', qs, e1, e2, e3, e4, e5⟩ := exch a x ((b, y) :: ps2) (fun q hq => by
        rcases List.mem_cons.1 hq with rfl | hq
        · exact hab
        · exact (hra q hq).1)
      have e5 := e5 24 (hm24 (a, x) (by simp)) (fun q hq => hm24 q (by simp at hq ⊢; exact Or.inr hq))
      match qs, e1 with
      | q0 :: qs0, e1 =>
        simp only [List.map_cons, List.cons.injEq] at e1
        obtain ⟨e1a, e1b⟩ := e1
        have hmm : ∀ q ∈ qs0, b.1 ≤ q.1.1 := fun q hq => by
          have : q.1 ∈ ps2.map (·.1) := by rw [← e1b]; exact List.mem_map.2 ⟨q, hq, rfl⟩
          obtain ⟨q', hq', e⟩ := List.mem_map.1 this
          rw [← e]
          exact (hra q' hq').2
        obtain ⟨y', qs1, d1, d2, d3, d4, d5⟩ := exch b q0.2 qs0 hmm
        have hxy : y' ≤ x' := d5 x' (e3 q0 (by simp)) (fun q hq => e3 q (by simp [hq]))
        have d5 : y' ≤ 24 := by omega
        rw [kp_cons, kp_cons] at e2
        rw [cs_cons, cs_cons] at e4
        simp only at e2 e4 hk
        rw [e1a] at e4
        -- the greatest two
        obtain ⟨K, hK⟩ := kp_dvd d5 qs1 d3
        have hD : 0 < 2 ^ (24 - y') := Nat.pow_pos (by decide)
        have hX : 0 < 2 ^ (24 - x') := Nat.pow_pos (by decide)
        have h24e : 2 ^ (24 - y') * 2 ^ y' = 2 ^ 24 := by rw [← Nat.pow_add]; congr 1; omega
        have hlt : 2 ^ (24 - y') * (1 + K) < 2 ^ (24 - y') * 2 ^ y' := by
          rw [h24e, Nat.mul_add, Nat.mul_one, ← hK]
          omega
        have h1 : 1 + K < 2 ^ y' := Nat.lt_of_mul_lt_mul_left hlt
        have hy1' : 1 ≤ y' := by
          rcases Nat.eq_zero_or_pos y' with h | h
          · rw [h] at h1; simp at h1
          · exact h
        have h2 : 2 ^ (24 - y') * (2 + K) ≤ 2 ^ 24 := by rw [← h24e]; exact Nat.mul_le_mul_left _ (by omega)
        have h3 : 2 ^ (24 - (y' - 1)) = 2 * 2 ^ (24 - y') := by
          rw [show 24 - (y' - 1) = 24 - y' + 1 by omega, Nat.pow_succ, Nat.mul_comm]
        have ih := opt f (r ++ [cat a b]) (qs1 ++ [(cat a b, y' - 1)]) (fun g hg => by
            rcases List.mem_append.1 hg with h | h
            · exact h0 g (hr g h)
            · simp at h
              subst h
              have := h0 a ha
              have := h0 b hb
              simp [cat]
              omega) (by
            rw [List.map_append, d1, e1b]
            exact hy2.append_right _) (fun p hp => by
            rcases List.mem_append.1 hp with h | h
            · have := d3 p h; omega
            · simp at h
              subst h
              simp only
              omega) (by
            rw [kp_append, hK]
            have e : kp [(cat a b, y' - 1)] = 2 ^ (24 - (y' - 1)) := by simp [kp]
            rw [e, h3]
            rw [Nat.mul_add] at h2
            omega)
        rw [cs_append] at ih
        have e : cs [(cat a b, y' - 1)] = (a.1 + b.1) * ((y' : Int) - 1) := by
          have : ((y' - 1 : Nat) : Int) = (y' : Int) - 1 := by omega
          simp [cs, cat, this]
        rw [e, Int.mul_sub, Int.mul_one, Int.add_mul] at ih
        have hax : a.1 * (y' : Int) ≤ a.1 * (x' : Int) := Int.mul_le_mul_of_nonneg_left (by omega) (h0 a ha)
        simp only
        omega
end Go.Proofs.YtkldnapbeebdkaaDoor.hf
/- How many bits things have in all. -/
namespace Go.Proofs.YtkldnapbeebdkaaDoor.hf
set_option linter.unusedVariables false
open hfp hg
/-- The bits of the first k things. -/
def csum (l D : List Int) : Nat → Int
  | 0 => 0
  | k + 1 => csum l D k + l.getD k 0 * D.getD k 0
theorem csum_set (l : List Int) {ls : List Int} {i : Nat} (hi : i < ls.length) : ∀ k, csum l (ls.set i (ls.getD i 0 + 1)) k = csum l ls k + (if i < k then l.getD i 0 else 0)
  | 0 => by simp [csum]
  | k + 1 => by
    rw [csum, csum, csum_set l hi k, getD_set]
    by_cases hik : i = k
    · subst hik
      rw [if_neg (show ¬ i < i by omega), if_pos (show i = i ∧ i < ls.length from ⟨rfl, hi⟩), if_pos (show i < i + 1 by omega), Int.mul_add, Int.mul_one]
      omega
    · rw [if_neg (show ¬ (i = k ∧ k < ls.length) by omega)]
      by_cases h : i < k
      · rw [if_pos h, if_pos (show i < k + 1 by omega)]; omega
      · rw [if_neg h, if_neg (show ¬ i < k + 1 by omega)]; omega
theorem csum_bump (l : List Int) (n : Nat) : ∀ (t ls : List Int), ls.length = n → (∀ i ∈ t, 0 ≤ i ∧ i.toNat < n) → csum l (bump ls t) n = csum l ls n + (t.map fun i => l.getD i.toNat 0).sum
  | [], ls, _, _ => by simp [bump]
  | i :: t, ls, hl, h => by
    rw [bump, csum_bump l n t _ (by simp [hl]) (fun j hj => h j (by simp [hj])), csum_set l (by rw [hl]; exact (h i (by simp)).2), if_pos (h i (by simp)).2, List.map_cons, List.sum_cons]
    omega
/-- Each group's number is how often its things stand. -/
def Wt (l : List Int) (gs : List G) : Prop := ∀ g ∈ gs, g.1 = (g.2.map fun i => l.getD i.toNat 0).sum
theorem Wt.step {l : List Int} {gs r : List G} {a b : G} (k : Wt l gs) (h : gs.mergeSort leP = a :: b :: r) : Wt l (r ++ [cat a b]) := by
  obtain ⟨ha, hb, hr⟩ := mem_step h
  intro g hg
  rcases List.mem_append.1 hg with h1 | h1
  · exact k g (hr g h1)
  · simp at h1
    subst h1
    show a.1 + b.1 = ((a.2 ++ b.2).map _).sum
    rw [List.map_append, List.sum_append, ← k a ha, ← k b hb]
theorem csum_loop {l : List Int} {n : Nat} : ∀ (f : Nat) (gs : List G) (ls : List Int), Wt l gs → Pw n gs ls → csum l (hloop f gs ls) n = csum l ls n + totG f gs
  | 0, gs, ls, _, _ => by rw [hloop, totG]; omega
  | f + 1, gs, ls, hw, p => by
    by_cases h : gs.length ≤ 1
    · rw [hloop_end h, totG_end h]; omega
    · obtain ⟨a, b, r, hs, hl⟩ := sort_two (gs := gs) (by omega)
      obtain ⟨ha, hb, hr⟩ := mem_step hs
      rw [hloop_step hs, totG_step hs, csum_loop f _ _ (hw.step hs) (p.step hs), csum_bump l n _ _ p.len (fun i hi => by
        rcases List.mem_append.1 hi with h | h
        · exact p.rng a ha i h
        · exact p.rng b hb i h), List.map_append, List.sum_append, ← hw a ha, ← hw b hb]
      omega
theorem csum_zero (l : List Int) (n : Nat) : ∀ k, csum l (List.replicate n 0) k = 0
  | 0 => rfl
  | k + 1 => by
    have hz : (List.replicate n (0 : Int)).getD k 0 = 0 := by
      rw [List.getD_eq_getElem?_getD, List.getElem?_replicate]
      split <;> rfl
    rw [csum, csum_zero l n k, hz]
    omega
def dOf (D : List Int) (g : G) : Nat := (D.getD (g.2.getD 0 0).toNat 0).toNat
theorem csum_grp {l D : List Int} : ∀ k, okL l k → (∀ i, i < k → 0 ≤ D.getD i 0) → csum l D k = cs ((grp l k).map fun g => (g, dOf D g))
  | 0, _, _ => by simp [csum, grp, cs]
  | k + 1, h, hd => by
    rw [csum, csum_grp k (fun i hi => h i (by omega)) (fun i hi => hd i (by omega)), grp_succ, List.map_append, cs_append]
    have hk := h k (by omega)
    have hdk := hd k (by omega)
    by_cases hp : 0 < l.getD k 0
    · rw [if_pos hp]
      have e : ((dOf D (l.getD k 0, [(k : Int)]) : Nat) : Int) = D.getD k 0 := by
        show (((D.getD ((k : Int)).toNat 0).toNat : Nat) : Int) = _
        simp only [Int.toNat_natCast]
        omega
      simp only [List.map_cons, List.map_nil]
      rw [cs_cons]
      simp only
      rw [e]
      simp [cs]
    · rw [if_neg hp, show l.getD k 0 = 0 by omega]
      simp [cs]
theorem kp_grp {l D : List Int} : ∀ k, (∀ i, i < k → 0 < l.getD i 0 → 0 < D.getD i 0) → (kp ((grp l k).map fun g => (g, dOf D g)) : Int) ≤ tk D k
  | 0, _ => by simp [grp, kp, tk]
  | k + 1, h => by
    have ih := kp_grp k (fun i hi => h i (by omega))
    have hr := rm_bd (D.getD k 0)
    rw [grp_succ, List.map_append, kp_append, tk]
    by_cases hp : 0 < l.getD k 0
    · rw [if_pos hp, if_pos (h k (by omega) hp)]
      have e : kp ([(l.getD k 0, [(k : Int)])].map fun g => (g, dOf D g)) = 2 ^ (24 - (D.getD k 0).toNat) := by simp [kp, dOf]
      rw [e]
      have e2 : ((2 ^ (24 - (D.getD k 0).toNat) : Nat) : Int) = rm (D.getD k 0) := by unfold rm; simp
      rw [Int.natCast_add, e2]
      omega
    · rw [if_neg hp]
      simp only [List.map_nil]
      have : kp [] = 0 := rfl
      rw [this]
      split <;> omega
/-- HUFFMAN's. -/
theorem least {l D : List Int} (hok : okL l l.length) (hn : l.length ≤ 256) (hD : okS D l.length) (ht : tk D l.length ≤ 16777216) (hp : ∀ i, i < l.length → 0 < l.getD i 0 → 0 < D.getD i 0) : csum l (lensOf l) l.length ≤ csum l D l.length := by
  have hg := csum_grp (l := l) (D := D) l.length hok (fun i hi => (hD i hi).1)
  have h0 : ∀ g ∈ grp l l.length, 0 ≤ g.1 := (pw_grp hok hn).pos
  by_cases h1 : (grp l l.length).length = 1
  · obtain ⟨g, hgg⟩ := List.length_eq_one_iff.1 h1
    have hm : g ∈ grp l l.length := by rw [hgg]; simp
    obtain ⟨i, hi1, hi2, hi3⟩ := grp_mem hm
    have hL : lensOf l = (List.replicate l.length 0).set i 1 := by rw [lensOf_one hgg, hi3]; simp
    have hc := csum_set l (ls := List.replicate l.length 0) (i := i) (by simpa using hi1) l.length
    have hz : (List.replicate l.length (0 : Int)).getD i 0 = 0 := by
      rw [List.getD_eq_getElem?_getD, List.getElem?_replicate]
      split <;> rfl
    rw [hz, csum_zero, if_pos hi1] at hc
    rw [hL, hg, hgg, show (1 : Int) = 0 + 1 by omega, hc]
    have hd : 1 ≤ dOf D g := by
      rw [hi3]
      have := hp i hi1 hi2
      show 1 ≤ (D.getD ((i : Int)).toNat 0).toNat
      simp only [Int.toNat_natCast]
      omega
    simp only [List.map_cons, List.map_nil]
    rw [cs_cons]
    have e : g.1 = l.getD i 0 := by rw [hi3]
    have hmul := Int.mul_le_mul_of_nonneg_left (show (1 : Int) ≤ (dOf D g : Int) by omega) (Int.le_of_lt hi2)
    simp only
    rw [e]
    have e0 : cs [] = 0 := rfl
    rw [e0]
    omega
  · rw [lensOf_more h1, csum_loop _ _ _ (fun g hgm => by
      obtain ⟨i, _, _, rfl⟩ := grp_mem hgm
      simp) (pw_grp hok hn), csum_zero, hg, Int.zero_add]
    refine opt _ _ _ h0 (by rw [List.map_map]; simp [Function.comp_def]) (fun p hpm => ?_) ?_
    · obtain ⟨g, hgm, rfl⟩ := List.mem_map.1 hpm
      obtain ⟨i, hi1, _, rfl⟩ := grp_mem hgm
      have := hD i hi1
      show (D.getD ((i : Int)).toNat 0).toNat ≤ 24
      simp only [Int.toNat_natCast]
      omega
    · have := kp_grp (l := l) (D := D) l.length hp
      have h24 : (2 : Nat) ^ 24 = 16777216 := by decide
      omega
end Go.Proofs.YtkldnapbeebdkaaDoor.hf
