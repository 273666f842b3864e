/- How many bits things have in all. -/
import Derived.Test.YtkldnapbeebdkaaHfO
namespace Go.Proofs.Ytkldnapbeebdkaa.hf
set_option linter.unusedVariables false
open hfp hg
/-- The bits of the first k things. -/
def csum (l D : List Int) : Nat → Int
  | 0 => 0
  | k + 1 => csum l D k + l.getD k 0 * D.getD k 0
theorem csum_set (l : List Int) {ls : List Int} {i : Nat} (hi : i < ls.length) : ∀ k, csum l (ls.set i (ls.getD i 0 + 1)) k = csum l ls k + (if i < k then l.getD i 0 else 0)
  | 0 => by simp [csum]
  | k + 1 => by
    rw [csum, csum, csum_set l hi k, getD_set]
    by_cases hik : i = k
    · subst hik
      rw [if_neg (show ¬ i < i by omega), if_pos (show i = i ∧ i < ls.length from ⟨rfl, hi⟩), if_pos (show i < i + 1 by omega), Int.mul_add, Int.mul_one]
      omega
    · rw [if_neg (show ¬ (i = k ∧ k < ls.length) by omega)]
      by_cases h : i < k
      · rw [if_pos h, if_pos (show i < k + 1 by omega)]; omega
      · rw [if_neg h, if_neg (show ¬ i < k + 1 by omega)]; omega
theorem csum_bump (l : List Int) (n : Nat) : ∀ (t ls : List Int), ls.length = n → (∀ i ∈ t, 0 ≤ i ∧ i.toNat < n) → csum l (bump ls t) n = csum l ls n + (t.map fun i => l.getD i.toNat 0).sum
  | [], ls, _, _ => by simp [bump]
  | i :: t, ls, hl, h => by
    rw [bump, csum_bump l n t _ (by simp [hl]) (fun j hj => h j (by simp [hj])), csum_set l (by rw [hl]; exact (h i (by simp)).2), if_pos (h i (by simp)).2, List.map_cons, List.sum_cons]
    omega
/-- Each group's number is how often its things stand. -/
def Wt (l : List Int) (gs : List G) : Prop := ∀ g ∈ gs, g.1 = (g.2.map fun i => l.getD i.toNat 0).sum
theorem Wt.step {l : List Int} {gs r : List G} {a b : G} (k : Wt l gs) (h : gs.mergeSort leP = a :: b :: r) : Wt l (r ++ [cat a b]) := by
  obtain ⟨ha, hb, hr⟩ := mem_step h
  intro g hg
  rcases List.mem_append.1 hg with h1 | h1
  · exact k g (hr g h1)
  · simp at h1
    subst h1
    show a.1 + b.1 = ((a.2 ++ b.2).map _).sum
    rw [List.map_append, List.sum_append, ← k a ha, ← k b hb]
theorem csum_loop {l : List Int} {n : Nat} : ∀ (f : Nat) (gs : List G) (ls : List Int), Wt l gs → Pw n gs ls → csum l (hloop f gs ls) n = csum l ls n + totG f gs
  | 0, gs, ls, _, _ => by rw [hloop, totG]; omega
  | f + 1, gs, ls, hw, p => by
    by_cases h : gs.length ≤ 1
    · rw [hloop_end h, totG_end h]; omega
    · obtain ⟨a, b, r, hs, hl⟩ := sort_two (gs := gs) (by omega)
      obtain ⟨ha, hb, hr⟩ := mem_step hs
      rw [hloop_step hs, totG_step hs, csum_loop f _ _ (hw.step hs) (p.step hs), csum_bump l n _ _ p.len (fun i hi => by
        rcases List.mem_append.1 hi with h | h
        · exact p.rng a ha i h
        · exact p.rng b hb i h), List.map_append, List.sum_append, ← hw a ha, ← hw b hb]
      omega
theorem csum_zero (l : List Int) (n : Nat) : ∀ k, csum l (List.replicate n 0) k = 0
  | 0 => rfl
  | k + 1 => by
    have hz : (List.replicate n (0 : Int)).getD k 0 = 0 := by
      rw [List.getD_eq_getElem?_getD, List.getElem?_replicate]
      split <;> rfl
    rw [csum, csum_zero l n k, hz]
    omega
def dOf (D : List Int) (g : G) : Nat := (D.getD (g.2.getD 0 0).toNat 0).toNat
theorem csum_grp {l D : List Int} : ∀ k, okL l k → (∀ i, i < k → 0 ≤ D.getD i 0) → csum l D k = cs ((grp l k).map fun g => (g, dOf D g))
  | 0, _, _ => by simp [csum, grp, cs]
  | k + 1, h, hd => by
    rw [csum, csum_grp k (fun i hi => h i (by omega)) (fun i hi => hd i (by omega)), grp_succ, List.map_append, cs_append]
    have hk := h k (by omega)
    have hdk := hd k (by omega)
    by_cases hp : 0 < l.getD k 0
    · rw [if_pos hp]
      have e : ((dOf D (l.getD k 0, [(k : Int)]) : Nat) : Int) = D.getD k 0 := by
        show (((D.getD ((k : Int)).toNat 0).toNat : Nat) : Int) = _
        simp only [Int.toNat_natCast]
        omega
      simp only [List.map_cons, List.map_nil]
      rw [cs_cons]
      simp only
      rw [e]
      simp [cs]
    · rw [if_neg hp, show l.getD k 0 = 0 by omega]
      simp [cs]
theorem kp_grp {l D : List Int} : ∀ k, (∀ i, i < k → 0 < l.getD i 0 → 0 < D.getD i 0) → (kp ((grp l k).map fun g => (g, dOf D g)) : Int) ≤ tk D k
  | 0, _ => by simp [grp, kp, tk]
  | k + 1, h => by
    have ih := kp_grp k (fun i hi => h i (by omega))
    have hr := rm_bd (D.getD k 0)
    rw [grp_succ, List.map_append, kp_append, tk]
    by_cases hp : 0 < l.getD k 0
    · rw [if_pos hp, if_pos (h k (by omega) hp)]
      have e : kp ([(l.getD k 0, [(k : Int)])].map fun g => (g, dOf D g)) = 2 ^ (24 - (D.getD k 0).toNat) := by simp [kp, dOf]
      rw [e]
      have e2 : ((2 ^ (24 - (D.getD k 0).toNat) : Nat) : Int) = rm (D.getD k 0) := by unfold rm; simp
      rw [Int.natCast_add, e2]
      omega
    · rw [if_neg hp]
      simp only [List.map_nil]
      have : kp [] = 0 := rfl
      rw [this]
      split <;> omega
/-- HUFFMAN's. -/
theorem least {l D : List Int} (hok : okL l l.length) (hn : l.length ≤ 256) (hD : okS D l.length) (ht : tk D l.length ≤ 16777216) (hp : ∀ i, i < l.length → 0 < l.getD i 0 → 0 < D.getD i 0) : csum l (lensOf l) l.length ≤ csum l D l.length := by
  have hg := csum_grp (l := l) (D := D) l.length hok (fun i hi => (hD i hi).1)
  have h0 : ∀ g ∈ grp l l.length, 0 ≤ g.1 := (pw_grp hok hn).pos
  by_cases h1 : (grp l l.length).length = 1
  · obtain ⟨g, hgg⟩ := List.length_eq_one_iff.1 h1
    have hm : g ∈ grp l l.length := by rw [hgg]; simp
    obtain ⟨i, hi1, hi2, hi3⟩ := grp_mem hm
    have hL : lensOf l = (List.replicate l.length 0).set i 1 := by rw [lensOf_one hgg, hi3]; simp
    have hc := csum_set l (ls := List.replicate l.length 0) (i := i) (by simpa using hi1) l.length
    have hz : (List.replicate l.length (0 : Int)).getD i 0 = 0 := by
      rw [List.getD_eq_getElem?_getD, List.getElem?_replicate]
      split <;> rfl
    rw [hz, csum_zero, if_pos hi1] at hc
    rw [hL, hg, hgg, show (1 : Int) = 0 + 1 by omega, hc]
    have hd : 1 ≤ dOf D g := by
      rw [hi3]
      have := hp i hi1 hi2
      show 1 ≤ (D.getD ((i : Int)).toNat 0).toNat
      simp only [Int.toNat_natCast]
      omega
    simp only [List.map_cons, List.map_nil]
    rw [cs_cons]
    have e : g.1 = l.getD i 0 := by rw [hi3]
    have hmul := Int.mul_le_mul_of_nonneg_left (show (1 : Int) ≤ (dOf D g : Int) by omega) (Int.le_of_lt hi2)
    simp only
    rw [e]
    have e0 : cs [] = 0 := rfl
    rw [e0]
    omega
  · rw [lensOf_more h1, csum_loop _ _ _ (fun g hgm => by
      obtain ⟨i, _, _, rfl⟩ := grp_mem hgm
      simp) (pw_grp hok hn), csum_zero, hg, Int.zero_add]
    refine opt _ _ _ h0 (by rw [List.map_map]; simp [Function.comp_def]) (fun p hpm => ?_) ?_
    · obtain ⟨g, hgm, rfl⟩ := List.mem_map.1 hpm
      obtain ⟨i, hi1, _, rfl⟩ := grp_mem hgm
      have := hD i hi1
      show (D.getD ((i : Int)).toNat 0).toNat ≤ 24
      simp only [Int.toNat_natCast]
      omega
    · have := kp_grp (l := l) (D := D) l.length hp
      have h24 : (2 : Nat) ^ 24 = 16777216 := by decide
      omega
end Go.Proofs.Ytkldnapbeebdkaa.hf
