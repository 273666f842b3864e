/- What is told of the lengths that are made. -/
import Derived.Test.YtkldnapbeebdkaaDoorHfK
namespace Go.Proofs.YtkldnapbeebdkaaDoor.hf
set_option linter.unusedVariables false
open hfp
/-- How many of the first k are above 0. -/
def cp (L : List Int) : Nat → Nat
  | 0 => 0
  | k + 1 => cp L k + (if 0 < L.getD k 0 then 1 else 0)
/-- The room of the first k, by signs of up to M bits. -/
def ksum (M : Nat) (L : List Int) : Nat → Nat
  | 0 => 0
  | k + 1 => ksum M L k + (if 0 < L.getD k 0 then 2 ^ (M - (L.getD k 0).toNat) else 0)
theorem cp_grp (l : List Int) : ∀ k, (grp l k).length = cp l k
  | 0 => rfl
  | k + 1 => by
    rw [grp_succ, List.length_append, cp_grp l k, cp]
    split <;> simp
theorem cp_same {L l : List Int} : ∀ k, (∀ i, i < k → (0 < L.getD i 0 ↔ 0 < l.getD i 0)) → cp L k = cp l k
  | 0, _ => rfl
  | k + 1, h => by
    rw [cp, cp, cp_same k (fun i hi => h i (by omega))]
    have := h k (by omega)
    by_cases h1 : 0 < l.getD k 0
    · rw [if_pos (this.2 h1), if_pos h1]
    · rw [if_neg (fun h2 => h1 (this.1 h2)), if_neg h1]
theorem ksum_list (M : Nat) (L : List Int) : ∀ k, ksum M L k = (((List.range k).filter fun i => decide (0 < L.getD i 0)).map fun i => 2 ^ (M - (L.getD i 0).toNat)).sum
  | 0 => rfl
  | k + 1 => by
    rw [ksum, ksum_list M L k, List.range_succ, List.filter_append, List.map_append, List.sum_append]
    congr 1
    by_cases h : 0 < L.getD k 0
    · rw [if_pos h]; simp only [h, List.filter_cons, List.filter_nil, decide_true, if_true, List.map_cons, List.map_nil, List.sum_cons, List.sum_nil, Nat.add_zero]
    · rw [if_neg h]; simp only [h, List.filter_cons, List.filter_nil, decide_false, if_false, List.map_nil, List.sum_nil, Bool.false_eq_true]
theorem ksum_scale {L : List Int} {M d : Nat} : ∀ k, (∀ i, i < k → (L.getD i 0).toNat ≤ M) → ksum (M + d) L k = ksum M L k * 2 ^ d
  | 0, _ => by simp [ksum]
  | k + 1, h => by
    rw [ksum, ksum, ksum_scale k (fun i hi => h i (by omega)), Nat.add_mul]
    congr 1
    have := h k (by omega)
    split
    · rw [← Nat.pow_add]; congr 1; omega
    · simp
theorem tn_grp (l : List Int) : ∀ k, tn (grp l k) = cp l k
  | 0 => rfl
  | k + 1 => by
    have ih := tn_grp l k
    rw [grp_succ, cp, ← ih]
    unfold tn
    rw [List.map_append, List.sum_append]
    split <;> simp
/-- The lengths that are made. -/
theorem lens_facts {l : List Int} (hok : okL l l.length) (hn : l.length ≤ 256) : (lensOf l).length = l.length ∧ (∀ i, i < l.length → 0 ≤ (lensOf l).getD i 0 ∧ (lensOf l).getD i 0 ≤ 255 ∧ (0 < (lensOf l).getD i 0 ↔ 0 < l.getD i 0)) ∧ (2 ≤ cp l l.length → ksum 255 (lensOf l) l.length = 2 ^ 255) := by
  have hz : ∀ j, (List.replicate l.length (0 : Int)).getD j 0 = 0 := fun j => by
    rw [List.getD_eq_getElem?_getD, List.getElem?_replicate]
    split <;> rfl
  have hc := cp_grp l l.length
  by_cases h1 : (grp l l.length).length = 1
  · obtain ⟨g, hg⟩ := List.length_eq_one_iff.1 h1
    have hm : g ∈ grp l l.length := by rw [hg]; simp
    obtain ⟨i, hi1, hi2, hi3⟩ := grp_mem hm
    have hL : lensOf l = (List.replicate l.length 0).set i 1 := by rw [lensOf_one hg, hi3]; simp
    have honly : ∀ j, j < l.length → 0 < l.getD j 0 → j = i := fun j hj hp => by
      have : (l.getD j 0, [(j : Int)]) ∈ grp l l.length := by
        unfold grp
        exact List.mem_map.2 ⟨j, List.mem_filter.2 ⟨List.mem_range.2 hj, decide_eq_true hp⟩, rfl⟩
      rw [hg, List.mem_singleton, hi3] at this
      simp only [Prod.mk.injEq, List.cons.injEq, and_true] at this
      omega
    refine ⟨by rw [hL]; simp, fun j hj => ?_, fun h2 => by omega⟩
    rw [hL, getD_set, hz]
    by_cases hij : i = j
    · subst hij
      rw [if_pos ⟨rfl, by simpa using hj⟩]
      exact ⟨by omega, by omega, ⟨fun _ => hi2, fun _ => by omega⟩⟩
    · rw [if_neg (by omega)]
      refine ⟨by omega, by omega, ⟨fun h => by omega, fun h => absurd (honly j hj h).symm hij⟩⟩
  · have hpw := pw_grp (n := l.length) hok hn
    have hkr := kr_first l l.length
    rw [lensOf_more h1]
    by_cases h0 : (grp l l.length).length = 0
    · have he : grp l l.length = [] := List.eq_nil_of_length_eq_zero h0
      rw [hloop_end (by omega)]
      refine ⟨by simp, fun j hj => ?_, fun h2 => by omega⟩
      rw [hz]
      refine ⟨by omega, by omega, ⟨fun h => by omega, fun h => ?_⟩⟩
      have := (hkr.mem (j : Int)).2 ⟨by omega, by simpa using hj, by simpa using h⟩
      rw [he] at this
      simp at this
    · obtain ⟨g, hg⟩ := kr_loop (n := l.length) (l := l) (grp l l.length).length (grp l l.length) (List.replicate l.length 0) (by omega) (by omega) hkr hpw
      have hlen : ∀ f gs ls, (hloop f gs ls).length = ls.length := by
        intro f
        induction f with
        | zero => intro gs ls; rfl
        | succ f ih =>
          intro gs ls
          rw [hloop]
          split
          · rw [ih, bump_len]
          · rfl
      generalize hLL : hloop (grp l l.length).length (grp l l.length) (List.replicate l.length 0) = L at hg
      have hLl : L.length = l.length := by rw [← hLL, hlen]; simp
      have hfl : flat [g] = g.2 := by simp [flat]
      have hp : g.2.Perm (flat (grp l l.length)) := by
        rw [← hfl]
        exact (List.perm_ext_iff_of_nodup hg.nod hkr.nod).2 fun a => (hg.mem a).trans (hkr.mem a).symm
      have hgl : g.2.length = cp l l.length := by rw [hp.length_eq, flat_len, tn_grp]
      have hcl : cp l l.length ≤ 256 := by have := grp_len l l.length; omega
      have hpos : ∀ i, i < l.length → (0 < L.getD i 0 ↔ 0 < l.getD i 0) := fun i hi => by
        constructor
        · intro h
          rcases Decidable.em ((i : Int) ∈ flat [g]) with hm | hm
          · have := ((hg.mem (i : Int)).1 hm).2.2; simpa using this
          · have := hg.rest i hm; omega
        · intro h
          have hm := (hg.mem (i : Int)).2 ⟨by omega, by simpa using hi, by simpa using h⟩
          rw [hfl] at hm
          have := hg.some g (by simp) (by omega) (i : Int) hm
          simp only [Int.toNat_natCast] at this
          omega
      refine ⟨hLl, fun i hi => ⟨?_, ?_, hpos i hi⟩, fun h2 => ?_⟩
      · rcases Decidable.em ((i : Int) ∈ flat [g]) with hm | hm
        · rw [hfl] at hm; have := (hg.deep g (by simp) _ hm).1; simpa using this
        · rw [hg.rest i hm]; exact Int.le_refl _
      · rcases Decidable.em ((i : Int) ∈ flat [g]) with hm | hm
        · rw [hfl] at hm; have := (hg.deep g (by simp) _ hm).2; simp only [Int.toNat_natCast] at this; omega
        · rw [hg.rest i hm]; omega
      · rw [ksum_list, ← hg.room g (by simp)]
        unfold ks
        have hp2 : g.2.Perm (((List.range l.length).filter fun i => decide (0 < L.getD i 0)).map fun i : Nat => (i : Int)) := by
          rw [← hfl]
          refine (List.perm_ext_iff_of_nodup hg.nod ?_).2 fun a => ?_
          · refine List.Pairwise.map _ (fun a b h => ?_) (List.nodup_range.filter _)
            omega
          · rw [hg.mem, List.mem_map]
            constructor
            · rintro ⟨h1, h2, h3⟩
              exact ⟨a.toNat, List.mem_filter.2 ⟨List.mem_range.2 h2, decide_eq_true ((hpos _ h2).2 h3)⟩, by omega⟩
            · rintro ⟨k, hk, rfl⟩
              obtain ⟨h1, h2⟩ := List.mem_filter.1 hk
              have h3 := List.mem_range.1 h1
              exact ⟨by omega, by simpa using h3, by have := (hpos k h3).1 (of_decide_eq_true h2); simpa using this⟩
        rw [perm_sumN _ hp2, List.map_map]
        rfl
end Go.Proofs.YtkldnapbeebdkaaDoor.hf
