/- KRAFT's, of the signs that are made: there is just room for all. -/
import Derived.Test.YtkldnapbeebdkaaDoorHf5
namespace Go.Proofs.YtkldnapbeebdkaaDoor.hf
set_option linter.unusedVariables false
open hfp
/-- The room of some things. -/
def ks (ls t : List Int) : Nat := (t.map fun i => 2 ^ (255 - (ls.getD i.toNat 0).toNat)).sum
abbrev flat (gs : List G) : List Int := gs.flatMap (·.2)
/-- Things apart, each group's signs fill all room. -/
structure Kr (n : Nat) (l : List Int) (gs : List G) (ls : List Int) : Prop where
  nod : (flat gs).Nodup
  mem : ∀ i : Int, i ∈ flat gs ↔ 0 ≤ i ∧ i.toNat < n ∧ 0 < l.getD i.toNat 0
  room : ∀ g ∈ gs, ks ls g.2 = 2 ^ 255
  deep : ∀ g ∈ gs, ∀ t ∈ g.2, 0 ≤ ls.getD t.toNat 0 ∧ ls.getD t.toNat 0 + 1 ≤ (g.2.length : Int)
  some : ∀ g ∈ gs, 2 ≤ g.2.length → ∀ t ∈ g.2, 1 ≤ ls.getD t.toNat 0
  rest : ∀ j : Nat, (j : Int) ∉ flat gs → ls.getD j 0 = 0
theorem flat_len (gs : List G) : (flat gs).length = tn gs := by
  unfold flat tn
  rw [List.length_flatMap]
theorem ks_append (ls t t' : List Int) : ks ls (t ++ t') = ks ls t + ks ls t' := by
  unfold ks
  rw [List.map_append, List.sum_append]
theorem ks_half (ls ls' : List Int) : ∀ t : List Int, (∀ i ∈ t, 0 ≤ ls.getD i.toNat 0 ∧ ls.getD i.toNat 0 + 1 ≤ 255 ∧ ls'.getD i.toNat 0 = ls.getD i.toNat 0 + 1) → ks ls t = 2 * ks ls' t
  | [], _ => rfl
  | i :: t, h => by
    have ih := ks_half ls ls' t (fun j hj => h j (by simp [hj]))
    obtain ⟨h1, h2, h3⟩ := h i (by simp)
    unfold ks at ih ⊢
    rw [List.map_cons, List.map_cons, List.sum_cons, List.sum_cons, ih, Nat.mul_add, h3]
    congr 1
    rw [show 255 - (ls.getD i.toNat 0).toNat = 255 - (ls.getD i.toNat 0 + 1).toNat + 1 by omega, Nat.pow_succ, Nat.mul_comm]
theorem ks_same (ls ls' : List Int) (t : List Int) (h : ∀ i ∈ t, ls'.getD i.toNat 0 = ls.getD i.toNat 0) : ks ls' t = ks ls t := by
  unfold ks
  congr 1
  exact List.map_congr_left fun i hi => by rw [h i hi]
theorem Kr.step {n : Nat} {l : List Int} {gs r : List G} {a b : G} {ls : List Int} (k : Kr n l gs ls) (p : Pw n gs ls) (h : gs.mergeSort leP = a :: b :: r) : Kr n l (r ++ [cat a b]) (bump ls (a.2 ++ b.2)) := by
  obtain ⟨ha, hb, hr⟩ := mem_step h
  have hp : (flat gs).Perm (a.2 ++ (b.2 ++ flat r)) := by
    have := (List.mergeSort_perm gs leP).flatMap_right (fun x : G => x.2)
    rw [h] at this
    exact this.symm
  have hp2 : (flat (r ++ [cat a b])).Perm (flat gs) := by
    refine List.Perm.trans ?_ hp.symm
    unfold flat
    rw [List.flatMap_append]
    simp only [List.flatMap_cons, List.flatMap_nil, List.append_nil, cat]
    rw [← List.append_assoc a.2]
    exact List.perm_append_comm
  have hnod := (hp.nodup_iff).1 k.nod
  rw [← List.append_assoc] at hnod
  obtain ⟨hn1, hn2, hn3⟩ := List.nodup_append.1 hnod
  have hlen : ls.length = n := p.len
  have hrng : ∀ t ∈ a.2 ++ b.2, 0 ≤ t ∧ t.toNat < ls.length := fun t ht => by
    rw [hlen]
    rcases List.mem_append.1 ht with h1 | h1
    · exact p.rng a ha t h1
    · exact p.rng b hb t h1
  have hin : ∀ t ∈ a.2 ++ b.2, (bump ls (a.2 ++ b.2)).getD t.toNat 0 = ls.getD t.toNat 0 + 1 := fun t ht => by
    rw [bump_get _ _ _ hrng hn1, if_pos (by have := (hrng t ht).1; rw [show ((t.toNat : Nat) : Int) = t by omega]; exact ht)]
  have hout : ∀ j : Nat, (j : Int) ∉ a.2 ++ b.2 → (bump ls (a.2 ++ b.2)).getD j 0 = ls.getD j 0 := fun j hj => by
    rw [bump_get _ _ _ hrng hn1, if_neg hj]
  have hoff : ∀ g ∈ r, ∀ t ∈ g.2, (bump ls (a.2 ++ b.2)).getD t.toNat 0 = ls.getD t.toNat 0 := fun g hg t ht => by
    have h0 := (p.rng g (hr g hg) t ht).1
    refine hout _ ?_
    rw [show ((t.toNat : Nat) : Int) = t by omega]
    intro hc
    exact hn3 t hc t (List.mem_flatMap.2 ⟨g, hg, ht⟩) rfl
  have hsz : a.2.length + b.2.length ≤ 256 := by
    have := len_tn (gs := r ++ [cat a b]) (cat a b) (by simp)
    rw [tn_step h] at this
    have hf := p.few
    have e : (cat a b).2.length = a.2.length + b.2.length := by simp [cat]
    omega
  have ne : ∀ g ∈ gs, 0 < g.2.length := fun g hg => by
    have := k.room g hg
    cases hg2 : g.2 with
    | nil =>
      rw [hg2] at this
      have h0 : ks ls [] = 0 := rfl
      rw [h0] at this
      exact absurd this.symm (Nat.ne_of_gt (Nat.pow_pos (by decide)))
    | cons x t => simp
  have na := ne a ha
  have nb := ne b hb
  refine ⟨(hp2.nodup_iff).2 k.nod, fun i => by rw [hp2.mem_iff]; exact k.mem i, fun g hg => ?_, fun g hg t ht => ?_, fun g hg hg2 t ht => ?_, fun j hj => ?_⟩
  · rcases List.mem_append.1 hg with h1 | h1
    · rw [ks_same ls _ _ (hoff g h1)]; exact k.room g (hr g h1)
    · simp at h1
      subst h1
      have hh := ks_half ls (bump ls (a.2 ++ b.2)) (a.2 ++ b.2) (fun t ht => by
        refine ⟨?_, ?_, hin t ht⟩
        · rcases List.mem_append.1 ht with h1 | h1
          · exact (k.deep a ha t h1).1
          · exact (k.deep b hb t h1).1
        · rcases List.mem_append.1 ht with h1 | h1
          · have := (k.deep a ha t h1).2; omega
          · have := (k.deep b hb t h1).2; omega)
      rw [ks_append, k.room a ha, k.room b hb] at hh
      show ks _ (a.2 ++ b.2) = _
      omega
  · rcases List.mem_append.1 hg with h1 | h1
    · rw [hoff g h1 t ht]; exact k.deep g (hr g h1) t ht
    · simp at h1
      subst h1
      have ht' : t ∈ a.2 ++ b.2 := ht
      rw [hin t ht']
      have e : (cat a b).2.length = a.2.length + b.2.length := by simp [cat]
      rw [e]
      rcases List.mem_append.1 ht' with h1 | h1
      · have := k.deep a ha t h1; omega
      · have := k.deep b hb t h1; omega
  · rcases List.mem_append.1 hg with h1 | h1
    · rw [hoff g h1 t ht]; exact k.some g (hr g h1) hg2 t ht
    · simp at h1
      subst h1
      have ht' : t ∈ a.2 ++ b.2 := ht
      rw [hin t ht']
      rcases List.mem_append.1 ht' with h1 | h1
      · have := k.deep a ha t h1; omega
      · have := k.deep b hb t h1; omega
  · rw [hp2.mem_iff] at hj
    rw [hout j (fun hc => hj (by rw [hp.mem_iff, ← List.append_assoc]; exact List.mem_append.2 (Or.inl hc)))]
    exact k.rest j hj
/-- In the end there is one group. -/
theorem kr_loop {n : Nat} {l : List Int} : ∀ (f : Nat) (gs : List G) (ls : List Int), gs.length ≤ f + 1 → 1 ≤ gs.length → Kr n l gs ls → Pw n gs ls → ∃ g, Kr n l [g] (hloop f gs ls)
  | 0, gs, ls, h1, h2, k, _ => by
    obtain ⟨g, rfl⟩ := List.length_eq_one_iff.1 (show gs.length = 1 by omega)
    exact ⟨g, k⟩
  | f + 1, gs, ls, h1, h2, k, p => by
    by_cases h : gs.length = 1
    · obtain ⟨g, rfl⟩ := List.length_eq_one_iff.1 h
      rw [hloop_end (by simp)]
      exact ⟨g, k⟩
    · obtain ⟨a, b, r, hs, hl⟩ := sort_two (gs := gs) (by omega)
      rw [hloop_step hs]
      exact kr_loop f _ _ (by simp; omega) (by simp) (k.step p hs) (p.step hs)
theorem kr_first (l : List Int) (n : Nat) : Kr n l (grp l n) (List.replicate n 0) := by
  have hz : ∀ j, (List.replicate n (0 : Int)).getD j 0 = 0 := fun j => by
    rw [List.getD_eq_getElem?_getD, List.getElem?_replicate]
    split <;> rfl
  have hf : flat (grp l n) = ((List.range n).filter fun i => decide (0 < l.getD i 0)).map fun i : Nat => (i : Int) := by
    unfold flat grp
    rw [List.flatMap_map]
    induction (List.range n).filter fun i => decide (0 < l.getD i 0) with
    | nil => rfl
    | cons x t ih => simp [ih]
  refine ⟨?_, fun i => ?_, fun g hg => ?_, fun g hg t ht => ?_, fun g hg h2 => ?_, fun j _ => hz j⟩
  · rw [hf]
    refine List.Pairwise.map _ (fun a b h => ?_) (List.nodup_range.filter _)
    omega
  · rw [hf, List.mem_map]
    constructor
    · rintro ⟨k, hk, rfl⟩
      obtain ⟨h1, h2⟩ := List.mem_filter.1 hk
      have := List.mem_range.1 h1
      exact ⟨by omega, by simpa using this, by simpa using h2⟩
    · rintro ⟨h1, h2, h3⟩
      exact ⟨i.toNat, List.mem_filter.2 ⟨List.mem_range.2 h2, by simpa using h3⟩, by omega⟩
  · obtain ⟨i, _, _, rfl⟩ := grp_mem hg
    show 2 ^ (255 - ((List.replicate n (0 : Int)).getD ((i : Int)).toNat 0).toNat) + 0 = _
    rw [hz]
    rfl
  · rw [hz]
    obtain ⟨i, _, _, rfl⟩ := grp_mem hg
    simp
  · obtain ⟨i, _, _, rfl⟩ := grp_mem hg
    simp at h2
end Go.Proofs.YtkldnapbeebdkaaDoor.hf
