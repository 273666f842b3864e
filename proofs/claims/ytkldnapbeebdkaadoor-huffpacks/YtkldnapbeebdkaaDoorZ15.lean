/- Texts laid together: HfL, HfF. -/
import Derived.Test.YtkldnapbeebdkaaDoorZ14
/- What is told of the lengths that are made. -/
namespace Go.Proofs.YtkldnapbeebdkaaDoor.hf
set_option linter.unusedVariables false
open hfp
/-- How many of the first k are above 0. -/
def cp (L : List Int) : Nat → Nat
  | 0 => 0
  | k + 1 => cp L k + (if 0 < L.getD k 0 then 1 else 0)
/-- The room of the first k, by signs of up to M bits. -/
def ksum (M : Nat) (L : List Int) : Nat → Nat
  | 0 => 0
  | k + 1 => ksum M L k + (if 0 < L.getD k 0 then 2 ^ (M - (L.getD k 0).toNat) else 0)
theorem cp_grp (l : List Int) : ∀ k, (grp l k).length = cp l k
  | 0 => rfl
  | k + 1 => by
    rw [grp_succ, List.length_append, cp_grp l k, cp]
    split <;> simp
theorem cp_same {L l : List Int} : ∀ k, (∀ i, i < k → (0 < L.getD i 0 ↔ 0 < l.getD i 0)) → cp L k = cp l k
  | 0, _ => rfl
  | k + 1, h => by
    rw [cp, cp, cp_same k (fun i hi => h i (by omega))]
    have := h k (by omega)
    by_cases h1 : 0 < l.getD k 0
    · rw [if_pos (this.2 h1), if_pos h1]
    · rw [if_neg (fun h2 => h1 (this.1 h2)), if_neg h1]
theorem ksum_list (M : Nat) (L : List Int) : ∀ k, ksum M L k = (((List.range k).filter fun i => decide (0 < L.getD i 0)).map fun i => 2 ^ (M - (L.getD i 0).toNat)).sum
  | 0 => rfl
  | k + 1 => by
    rw [ksum, ksum_list M L k, List.range_succ, List.filter_append, List.map_append, List.sum_append]
    congr 1
    by_cases h : 0 < L.getD k 0
    · rw [if_pos h]; simp only [h, List.filter_cons, List.filter_nil, decide_true, if_true, List.map_cons, List.map_nil, List.sum_cons, List.sum_nil, Nat.add_zero]
    · rw [if_neg h]; simp only [h, List.filter_cons, List.filter_nil, decide_false, if_false, List.map_nil, List.sum_nil, Bool.false_eq_true]
theorem ksum_scale {L : List Int} {M d : Nat} : ∀ k, (∀ i, i < k → (L.getD i 0).toNat ≤ M) → ksum (M + d) L k = ksum M L k * 2 ^ d
  | 0, _ => by simp [ksum]
  | k + 1, h => by
    rw [ksum, ksum, ksum_scale k (fun i hi => h i (by omega)), Nat.add_mul]
    congr 1
    have := h k (by omega)
    split
    · rw [← Nat.pow_add]; congr 1; omega
    · simp
theorem tn_grp (l : List Int) : ∀ k, tn (grp l k) = cp l k
  | 0 => rfl
  | k + 1 => by
    have ih := tn_grp l k
    rw [grp_succ, cp, ← ih]
    unfold tn
    rw [List.map_append, List.sum_append]
    split <;> simp
/-- The lengths that are made. -/
theorem lens_facts {l : List Int} (hok : okL l l.length) (hn : l.length ≤ 256) : (lensOf l).length = l.length ∧ (∀ i, i < l.length → 0 ≤ (lensOf l).getD i 0 ∧ (lensOf l).getD i 0 ≤ 255 ∧ (0 < (lensOf l).getD i 0 ↔ 0 < l.getD i 0)) ∧ (2 ≤ cp l l.length → ksum 255 (lensOf l) l.length = 2 ^ 255) := by
  have hz : ∀ j, (List.replicate l.length (0 : Int)).getD j 0 = 0 := fun j => by
    rw [List.getD_eq_getElem?_getD, List.getElem?_replicate]
    split <;> rfl
  have hc := cp_grp l l.length
  by_cases h1 : (grp l l.length).length = 1
  · obtain ⟨g, hg⟩ := List.length_eq_one_iff.1 h1
    have hm : g ∈ grp l l.length := by rw [hg]; simp
    obtain ⟨i, hi1, hi2, hi3⟩ := grp_mem hm
    have hL : lensOf l = (List.replicate l.length 0).set i 1 := by rw [lensOf_one hg, hi3]; simp
    have honly : ∀ j, j < l.length → 0 < l.getD j 0 → j = i := fun j hj hp => by
      have : (l.getD j 0, [(j : Int)]) ∈ grp l l.length := by
        unfold grp
        exact List.mem_map.2 ⟨j, List.mem_filter.2 ⟨List.mem_range.2 hj, decide_eq_true hp⟩, rfl⟩
      rw [hg, List.mem_singleton, hi3] at this
      simp only [Prod.mk.injEq, List.cons.injEq, and_true] at this
      omega
    refine ⟨by rw [hL]; simp, fun j hj => ?_, fun h2 => by omega⟩
    rw [hL, getD_set, hz]
    by_cases hij : i = j
    · subst hij
      rw [if_pos ⟨rfl, by simpa using hj⟩]
      exact ⟨by omega, by omega, ⟨fun _ => hi2, fun _ => by omega⟩⟩
    · rw [if_neg (by omega)]
      refine ⟨by omega, by omega, ⟨fun h => by omega, fun h => absurd (honly j hj h).symm hij⟩⟩
  · have hpw := pw_grp (n := l.length) hok hn
    have hkr := kr_first l l.length
    rw [lensOf_more h1]
    by_cases h0 : (grp l l.length).length = 0
    · have he : grp l l.length = [] := List.eq_nil_of_length_eq_zero h0
      rw [hloop_end (by omega)]
      refine ⟨by simp, fun j hj => ?_, fun h2 => by omega⟩
      rw [hz]
      refine ⟨by omega, by omega, ⟨fun h => by omega, fun h => ?_⟩⟩
      have := (hkr.mem (j : Int)).2 ⟨by omega, by simpa using hj, by simpa using h⟩
      rw [he] at this
      simp at this
    · obtain ⟨g, hg⟩ := kr_loop (n := l.length) (l := l) (grp l l.length).length (grp l l.length) (List.replicate l.length 0) (by omega) (by omega) hkr hpw
      have hlen : ∀ f gs ls, (hloop f gs ls).length = ls.length := by
        intro f
        induction f with
        | zero => intro gs ls; rfl
        | succ f ih =>
          intro gs ls
          rw [hloop]
          split
          · rw [ih, bump_len]
          · rfl
      generalize hLL : hloop (grp l l.length).length (grp l l.length) (List.replicate l.length 0) = L at hg
      have hLl : L.length = l.length := by rw [← hLL, hlen]; simp
      have hfl : flat [g] = g.2 := by simp [flat]
      have hp : g.2.Perm (flat (grp l l.length)) := by
        rw [← hfl]
        exact (List.perm_ext_iff_of_nodup hg.nod hkr.nod).2 fun a => (hg.mem a).trans (hkr.mem a).symm
      have hgl : g.2.length = cp l l.length := by rw [hp.length_eq, flat_len, tn_grp]
      have hcl : cp l l.length ≤ 256 := by have := grp_len l l.length; omega
      have hpos : ∀ i, i < l.length → (0 < L.getD i 0 ↔ 0 < l.getD i 0) := fun i hi => by
        constructor
        · intro h
          rcases Decidable.em ((i : Int) ∈ flat [g]) with hm | hm
          · have := ((hg.mem (i : Int)).1 hm).2.2; simpa using this
          · have := hg.rest i hm; omega
        · intro h
          have hm := (hg.mem (i : Int)).2 ⟨by omega, by simpa using hi, by simpa using h⟩
          rw [hfl] at hm
          have := hg.some g (by simp) (by omega) (i : Int) hm
          simp only [Int.toNat_natCast] at this
          omega
      refine ⟨hLl, fun i hi => ⟨?_, ?_, hpos i hi⟩, fun h2 => ?_⟩
      · rcases Decidable.em ((i : Int) ∈ flat [g]) with hm | hm
        · rw [hfl] at hm; have := (hg.deep g (by simp) _ hm).1; simpa using this
        · rw [hg.rest i hm]; exact Int.le_refl _
      · rcases Decidable.em ((i : Int) ∈ flat [g]) with hm | hm
        · rw [hfl] at hm; have := (hg.deep g (by simp) _ hm).2; simp only [Int.toNat_natCast] at this; omega
        · rw [hg.rest i hm]; omega
      · rw [ksum_list, ← hg.room g (by simp)]
        unfold ks
        have hp2 : g.2.Perm (((List.range l.length).filter fun i => decide (0 < L.getD i 0)).map fun i : Nat => (i : Int)) := by
          rw [← hfl]
          refine (List.perm_ext_iff_of_nodup hg.nod ?_).2 fun a => ?_
          · refine List.Pairwise.map _ (fun a b h => ?_) (List.nodup_range.filter _)
            omega
          · rw [hg.mem, List.mem_map]
            constructor
            · rintro ⟨h1, h2, h3⟩
              exact ⟨a.toNat, List.mem_filter.2 ⟨List.mem_range.2 h2, decide_eq_true ((hpos _ h2).2 h3)⟩, by omega⟩
            · rintro ⟨k, hk, rfl⟩
              obtain ⟨h1, h2⟩ := List.mem_filter.1 hk
              have h3 := List.mem_range.1 h1
              exact ⟨by omega, by simpa using h3, by have := (hpos k h3).1 (of_decide_eq_true h2); simpa using this⟩
        rw [perm_sumN _ hp2, List.map_map]
        rfl
end Go.Proofs.YtkldnapbeebdkaaDoor.hf
/- How long signs can be: no longer than 23 bits, where there are few. -/
namespace Go.Proofs.YtkldnapbeebdkaaDoor.hf
set_option linter.unusedVariables false
open hfp
def fib : Nat → Int
  | 0 => 0
  | 1 => 1
  | n + 2 => fib (n + 1) + fib n
theorem fib_nn : ∀ n, 0 ≤ fib n ∧ 0 ≤ fib (n + 1)
  | 0 => by decide
  | n + 1 => by have := fib_nn n; rw [show n + 1 + 1 = n + 2 from rfl, fib]; omega
theorem fib_mono (n : Nat) : fib (n + 1) ≤ fib (n + 2) := by have := fib_nn n; rw [fib]; omega
theorem fib_le (m : Nat) : ∀ d, fib (m + 1) ≤ fib (m + 1 + d)
  | 0 => Int.le_refl _
  | d + 1 => by have h := fib_le m d; have h2 := fib_mono (m + d); rw [show m + 1 + (d + 1) = m + d + 2 by omega]; rw [show m + 1 + d = m + d + 1 by omega] at h; omega
/-- A group weighs as much as its deepest thing asks, all groups at least as much as parts did. -/
structure Fb (m : Int) (gs : List G) (ls : List Int) : Prop where
  low : ∀ g ∈ gs, m ≤ g.1
  wt : ∀ g ∈ gs, ∀ t ∈ g.2, 0 ≤ ls.getD t.toNat 0 ∧ fib ((ls.getD t.toNat 0).toNat + 1) ≤ g.1 ∧ fib (ls.getD t.toNat 0).toNat ≤ m
theorem Fb.step {n : Nat} {l : List Int} {m : Int} {gs r : List G} {a b : G} {ls : List Int} (k : Fb m gs ls) (kr : Kr n l gs ls) (p : Pw n gs ls) (h : gs.mergeSort leP = a :: b :: r) : Fb b.1 (r ++ [cat a b]) (bump ls (a.2 ++ b.2)) := by
  obtain ⟨ha, hb, hr⟩ := mem_step h
  have hpw := List.pairwise_mergeSort (le := leP) leP_trans leP_total gs
  rw [h] at hpw
  obtain ⟨hw1, hw2⟩ := List.pairwise_cons.1 hpw
  obtain ⟨hw3, _⟩ := List.pairwise_cons.1 hw2
  have hab : a.1 ≤ b.1 := of_decide_eq_true (hw1 b (by simp))
  have hpa := p.pos a ha
  have hp : (flat gs).Perm (a.2 ++ (b.2 ++ flat r)) := by
    have := (List.mergeSort_perm gs leP).flatMap_right (fun x : G => x.2)
    rw [h] at this
    exact this.symm
  have hnod := (hp.nodup_iff).1 kr.nod
  rw [← List.append_assoc] at hnod
  obtain ⟨hn1, hn2, hn3⟩ := List.nodup_append.1 hnod
  have hlen : ls.length = n := p.len
  have hrng : ∀ t ∈ a.2 ++ b.2, 0 ≤ t ∧ t.toNat < ls.length := fun t ht => by
    rw [hlen]
    rcases List.mem_append.1 ht with h1 | h1
    · exact p.rng a ha t h1
    · exact p.rng b hb t h1
  have hin : ∀ t ∈ a.2 ++ b.2, (bump ls (a.2 ++ b.2)).getD t.toNat 0 = ls.getD t.toNat 0 + 1 := fun t ht => by
    rw [bump_get _ _ _ hrng hn1, if_pos (by have := (hrng t ht).1; rw [show ((t.toNat : Nat) : Int) = t by omega]; exact ht)]
  have hoff : ∀ g ∈ r, ∀ t ∈ g.2, (bump ls (a.2 ++ b.2)).getD t.toNat 0 = ls.getD t.toNat 0 := fun g hg t ht => by
    have h0 := (p.rng g (hr g hg) t ht).1
    rw [bump_get _ _ _ hrng hn1, if_neg]
    rw [show ((t.toNat : Nat) : Int) = t by omega]
    intro hc
    exact hn3 t hc t (List.mem_flatMap.2 ⟨g, hg, ht⟩) rfl
  have hma := k.low a ha
  have hmb := k.low b hb
  refine ⟨fun g hg => ?_, fun g hg t ht => ?_⟩
  · rcases List.mem_append.1 hg with h1 | h1
    · exact of_decide_eq_true (hw3 g h1)
    · simp at h1
      subst h1
      simp [cat]
      omega
  · rcases List.mem_append.1 hg with h1 | h1
    · rw [hoff g h1 t ht]
      have := k.wt g (hr g h1) t ht
      exact ⟨this.1, this.2.1, by omega⟩
    · simp at h1
      subst h1
      have ht' : t ∈ a.2 ++ b.2 := ht
      rw [hin t ht']
      have key : ∀ g' ∈ gs, t ∈ g'.2 → (g' = a ∨ g' = b) → 0 ≤ ls.getD t.toNat 0 + 1 ∧ fib ((ls.getD t.toNat 0 + 1).toNat + 1) ≤ a.1 + b.1 ∧ fib (ls.getD t.toNat 0 + 1).toNat ≤ b.1 := fun g' hg' ht2 hab' => by
        have hw := k.wt g' hg' t ht2
        rw [show (ls.getD t.toNat 0 + 1).toNat = (ls.getD t.toNat 0).toNat + 1 by omega, fib]
        rcases hab' with rfl | rfl <;> omega
      rcases List.mem_append.1 ht' with h2 | h2
      · exact key a ha h2 (Or.inl rfl)
      · exact key b hb h2 (Or.inr rfl)
theorem fb_loop {n : Nat} {l : List Int} : ∀ (f : Nat) (m : Int) (gs : List G) (ls : List Int), gs.length ≤ f + 1 → 1 ≤ gs.length → Fb m gs ls → Kr n l gs ls → Pw n gs ls → ∃ m' g, Fb m' [g] (hloop f gs ls) ∧ Kr n l [g] (hloop f gs ls) ∧ g.1 = sm gs
  | 0, m, gs, ls, h1, h2, k, kr, p => by
    obtain ⟨g, rfl⟩ := List.length_eq_one_iff.1 (show gs.length = 1 by omega)
    exact ⟨m, g, k, kr, by simp [sm]⟩
  | f + 1, m, gs, ls, h1, h2, k, kr, p => by
    by_cases h : gs.length = 1
    · obtain ⟨g, rfl⟩ := List.length_eq_one_iff.1 h
      rw [hloop_end (by simp)]
      exact ⟨m, g, k, kr, by simp [sm]⟩
    · obtain ⟨a, b, r, hs, hl⟩ := sort_two (gs := gs) (by omega)
      rw [hloop_step hs, ← sm_step hs]
      exact fb_loop f _ _ _ (by simp; omega) (by simp) (k.step kr p hs) (kr.step p hs) (p.step hs)
theorem fb_first {l : List Int} {n : Nat} (hok : okL l n) : Fb 0 (grp l n) (List.replicate n 0) := by
  have hz : ∀ j, (List.replicate n (0 : Int)).getD j 0 = 0 := fun j => by
    rw [List.getD_eq_getElem?_getD, List.getElem?_replicate]
    split <;> rfl
  refine ⟨fun g hg => ?_, fun g hg t ht => ?_⟩
  · obtain ⟨i, _, h2, rfl⟩ := grp_mem hg
    exact Int.le_of_lt h2
  · rw [hz]
    obtain ⟨i, _, h2, rfl⟩ := grp_mem hg
    exact ⟨by omega, by show fib 1 ≤ _; rw [fib]; simp only; omega, by decide⟩
/-- Where there are no more than 4000 things in all, no sign has more than 17 bits. -/
theorem lens_short {l : List Int} (hok : okL l l.length) (hn : l.length ≤ 256) (hs : sm (grp l l.length) ≤ 4000) : ∀ i, i < l.length → (lensOf l).getD i 0 ≤ 17 := by
  intro i hi
  by_cases h1 : (grp l l.length).length = 1
  · obtain ⟨g, hg⟩ := List.length_eq_one_iff.1 h1
    rw [lensOf_one hg, getD_set]
    have hz : (List.replicate l.length (0 : Int)).getD i 0 = 0 := by
      rw [List.getD_eq_getElem?_getD, List.getElem?_replicate]
      split <;> rfl
    rw [hz]
    split <;> omega
  · rw [lensOf_more h1]
    by_cases h0 : (grp l l.length).length = 0
    · rw [hloop_end (by omega), List.getD_eq_getElem?_getD, List.getElem?_replicate]
      split <;> simp
    · obtain ⟨m, g, hf, hk, hw⟩ := fb_loop (n := l.length) (l := l) (grp l l.length).length 0 (grp l l.length) (List.replicate l.length 0) (by omega) (by omega) (fb_first hok) (kr_first l l.length) (pw_grp hok hn)
      rcases Decidable.em ((i : Int) ∈ flat [g]) with hm | hm
      · have hfl : flat [g] = g.2 := by simp [flat]
        rw [hfl] at hm
        have h2 := (hf.wt g (by simp) _ hm)
        simp only [Int.toNat_natCast] at h2
        rcases Int.lt_or_le 17 ((hloop (grp l l.length).length (grp l l.length) (List.replicate l.length 0)).getD i 0) with h | h
        · exfalso
          generalize (hloop (grp l l.length).length (grp l l.length) (List.replicate l.length 0)).getD i 0 = d at h2 h
          have h3 := fib_le 18 (d.toNat + 1 - 19)
          rw [show 18 + 1 + (d.toNat + 1 - 19) = d.toNat + 1 by omega] at h3
          have h4 : fib (18 + 1) = 4181 := by decide
          omega
        · exact h
      · rw [hk.rest i hm]; omega
end Go.Proofs.YtkldnapbeebdkaaDoor.hf
