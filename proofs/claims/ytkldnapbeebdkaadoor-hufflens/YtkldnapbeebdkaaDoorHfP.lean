/- HUFFMAN's signs, in plain lists: groups joined, and how many bits each thing has then. -/
namespace Go.Proofs.YtkldnapbeebdkaaDoor.hfp
set_option linter.unusedVariables false
abbrev G := Int × List Int
def leP (x y : G) : Bool := decide (x.1 ≤ y.1)
theorem leP_trans (a b c : G) : leP a b → leP b c → leP a c := by
  unfold leP
  simp only [decide_eq_true_eq]
  omega
theorem leP_total (a b : G) : leP a b || leP b a := by
  unfold leP
  simp only [Bool.or_eq_true, decide_eq_true_eq]
  omega
def cat (a b : G) : G := (a.1 + b.1, a.2 ++ b.2)
/-- One bit more for each of some things. -/
def bump (ls : List Int) : List Int → List Int
  | [] => ls
  | i :: t => bump (ls.set i.toNat (ls.getD i.toNat 0 + 1)) t
def hloop : Nat → List G → List Int → List Int
  | 0, _, ls => ls
  | f + 1, gs, ls => match gs.mergeSort leP with
    | a :: b :: r => hloop f (r ++ [cat a b]) (bump ls (a.2 ++ b.2))
    | _ => ls
theorem hloop_step {f : Nat} {gs r : List G} {a b : G} {ls : List Int} (h : gs.mergeSort leP = a :: b :: r) : hloop (f + 1) gs ls = hloop f (r ++ [cat a b]) (bump ls (a.2 ++ b.2)) := by
  rw [hloop, h]
theorem sort_two {gs : List G} (h : 1 < gs.length) : ∃ a b r, gs.mergeSort leP = a :: b :: r ∧ r.length + 2 = gs.length := by
  have hl := List.length_mergeSort (le := leP) gs
  match hs : gs.mergeSort leP with
  | [] => rw [hs] at hl; simp at hl; omega
  | [a] => rw [hs] at hl; simp at hl; omega
  | a :: b :: r => exact ⟨a, b, r, rfl, by rw [hs] at hl; simpa using hl⟩
theorem hloop_end {f : Nat} {gs : List G} {ls : List Int} (h : gs.length ≤ 1) : hloop f gs ls = ls := by
  cases f with
  | zero => rfl
  | succ f =>
    rw [hloop]
    have hl := List.length_mergeSort (le := leP) gs
    split
    · next hs => rw [hs] at hl; simp at hl; omega
    · rfl
/-! ### Bits that are counted -/
theorem bump_len (t : List Int) : ∀ ls : List Int, (bump ls t).length = ls.length := by
  induction t with
  | nil => intro ls; rfl
  | cons i t ih => intro ls; rw [bump, ih]; simp
theorem bump_append (t t' : List Int) : ∀ ls : List Int, bump ls (t ++ t') = bump (bump ls t) t' := by
  induction t with
  | nil => intro ls; rfl
  | cons i t ih => intro ls; rw [List.cons_append, bump, ih, bump]
theorem getD_set (ls : List Int) (i j : Nat) (v : Int) : (ls.set i v).getD j 0 = if i = j ∧ j < ls.length then v else ls.getD j 0 := by
  simp only [List.getD_eq_getElem?_getD, List.getElem?_set]
  by_cases h : i = j
  · subst h
    by_cases h2 : i < ls.length
    · simp [h2]
    · simp [h2]
  · simp [h]
/-- Each thing that stands there once has one bit more, others as many as before. -/
theorem bump_get (t : List Int) : ∀ (ls : List Int) (j : Nat), (∀ i ∈ t, 0 ≤ i ∧ i.toNat < ls.length) → t.Nodup → (bump ls t).getD j 0 = if (j : Int) ∈ t then ls.getD j 0 + 1 else ls.getD j 0 := by
  induction t with
  | nil => intro ls j _ _; simp [bump]
  | cons i t ih =>
    intro ls j hr hn
    obtain ⟨hi, hn⟩ := List.nodup_cons.1 hn
    have hri := hr i (by simp)
    rw [bump, ih _ j (fun k hk => by rw [List.length_set]; exact hr k (by simp [hk])) hn, getD_set]
    by_cases hj : (j : Int) ∈ t
    · have : i.toNat ≠ j := fun e => hi (by have : i = (j : Int) := by omega
                                            rw [this]; exact hj)
      rw [if_pos hj, if_neg (by omega), if_pos (by simp [hj])]
    · rw [if_neg hj]
      by_cases hij : i.toNat = j
      · rw [if_pos (by omega), if_pos (by simp; left; omega), hij]
      · rw [if_neg (by omega), if_neg (by simp [hj]; omega)]
theorem bump_bd (t : List Int) : ∀ (ls : List Int) (B : Int), (∀ j, 0 ≤ ls.getD j 0 ∧ ls.getD j 0 ≤ B) → ∀ j, 0 ≤ (bump ls t).getD j 0 ∧ (bump ls t).getD j 0 ≤ B + t.length := by
  induction t with
  | nil => intro ls B h j; have := h j; show 0 ≤ ls.getD j 0 ∧ ls.getD j 0 ≤ B + ((0 : Nat) : Int); omega
  | cons i t ih =>
    intro ls B h j
    rw [bump]
    have := ih (ls.set i.toNat (ls.getD i.toNat 0 + 1)) (B + 1) (fun k => by
      rw [getD_set]
      have h1 := h i.toNat
      have h2 := h k
      split <;> omega) j
    rw [List.length_cons]
    omega
/-! ### What stays so while groups are joined -/
theorem perm_sumI {α : Type} (f : α → Int) {l l' : List α} (h : l.Perm l') : (l.map f).sum = (l'.map f).sum := by
  induction h with
  | nil => rfl
  | cons x _ ih => simp [ih]
  | swap x y l => simp; omega
  | trans _ _ h1 h2 => rw [h1, h2]
theorem perm_sumN {α : Type} (f : α → Nat) {l l' : List α} (h : l.Perm l') : (l.map f).sum = (l'.map f).sum := (h.map f).sum_nat
def sm (gs : List G) : Int := (gs.map (·.1)).sum
def tn (gs : List G) : Nat := (gs.map (·.2.length)).sum
theorem sm_step {gs r : List G} {a b : G} (h : gs.mergeSort leP = a :: b :: r) : sm (r ++ [cat a b]) = sm gs := by
  have := perm_sumI (fun x : G => x.1) (List.mergeSort_perm gs leP)
  unfold sm
  rw [← this, h]
  simp [cat]
  omega
theorem tn_step {gs r : List G} {a b : G} (h : gs.mergeSort leP = a :: b :: r) : tn (r ++ [cat a b]) = tn gs := by
  have := perm_sumN (fun x : G => x.2.length) (List.mergeSort_perm gs leP)
  unfold tn
  rw [← this, h]
  simp [cat]
  omega
theorem mem_step {gs r : List G} {a b : G} (h : gs.mergeSort leP = a :: b :: r) : a ∈ gs ∧ b ∈ gs ∧ ∀ x ∈ r, x ∈ gs := by
  have hp := List.mergeSort_perm gs leP
  rw [h] at hp
  exact ⟨hp.mem_iff.1 (by simp), hp.mem_iff.1 (by simp), fun x hx => hp.mem_iff.1 (by simp [hx])⟩
theorem le_sm {gs : List G} (h0 : ∀ g ∈ gs, 0 ≤ g.1) : ∀ g ∈ gs, g.1 ≤ sm gs := by
  unfold sm
  induction gs with
  | nil => intro g hg; simp at hg
  | cons x gs ih =>
    intro g hg
    have hx := h0 x (by simp)
    have hs : 0 ≤ (gs.map (·.1)).sum := by
      clear ih hg
      induction gs with
      | nil => simp
      | cons y gs ih2 =>
        have := ih2 (fun g hg => h0 g (by simp at hg ⊢; rcases hg with h | h <;> simp [h]))
        have := h0 y (by simp)
        simp
        omega
    simp only [List.map_cons, List.sum_cons]
    rcases List.mem_cons.1 hg with rfl | hg
    · omega
    · have := ih (fun g hg => h0 g (by simp [hg])) g hg
      omega
theorem two_sm {gs r : List G} {a b : G} (h0 : ∀ g ∈ gs, 0 ≤ g.1) (h : gs.mergeSort leP = a :: b :: r) : a.1 + b.1 ≤ sm gs ∧ 0 ≤ a.1 ∧ 0 ≤ b.1 := by
  obtain ⟨ha, hb, hr⟩ := mem_step h
  rw [← sm_step h]
  refine ⟨le_sm (fun g hg => ?_) (cat a b) (by simp), h0 a ha, h0 b hb⟩
  rcases List.mem_append.1 hg with h1 | h1
  · exact h0 g (hr g h1)
  · simp at h1
    subst h1
    have := h0 a ha
    have := h0 b hb
    simp [cat]
    omega
/-- Numbers that can be held, and things that there are. -/
structure Pw (n : Nat) (gs : List G) (ls : List Int) : Prop where
  pos : ∀ g ∈ gs, 0 ≤ g.1
  sum : sm gs ≤ 281474976710656
  rng : ∀ g ∈ gs, ∀ t ∈ g.2, 0 ≤ t ∧ t.toNat < n
  few : tn gs ≤ 256
  cnt : gs.length ≤ 256
  len : ls.length = n
  low : ∀ j, 0 ≤ ls.getD j 0 ∧ ls.getD j 0 ≤ 256 * (256 - (gs.length : Int))
theorem len_tn {gs : List G} : ∀ g ∈ gs, g.2.length ≤ tn gs := by
  unfold tn
  induction gs with
  | nil => intro g hg; simp at hg
  | cons x gs ih =>
    intro g hg
    simp only [List.map_cons, List.sum_cons]
    rcases List.mem_cons.1 hg with rfl | hg
    · omega
    · have := ih g hg
      omega
theorem Pw.step {n : Nat} {gs r : List G} {a b : G} {ls : List Int} (p : Pw n gs ls) (h : gs.mergeSort leP = a :: b :: r) : Pw n (r ++ [cat a b]) (bump ls (a.2 ++ b.2)) := by
  obtain ⟨ha, hb, hr⟩ := mem_step h
  have hl := List.length_mergeSort (le := leP) gs
  rw [h] at hl
  simp only [List.length_cons] at hl
  have h2 := two_sm p.pos h
  have hc := len_tn (gs := r ++ [cat a b]) (cat a b) (by simp)
  rw [tn_step h] at hc
  have hcl : (cat a b).2.length = (a.2 ++ b.2).length := rfl
  refine ⟨fun g hg => ?_, by rw [sm_step h]; exact p.sum, fun g hg t ht => ?_, by rw [tn_step h]; exact p.few, ?_, by rw [bump_len]; exact p.len, fun j => ?_⟩
  · rcases List.mem_append.1 hg with h1 | h1
    · exact p.pos g (hr g h1)
    · simp at h1
      subst h1
      simp [cat]
      omega
  · rcases List.mem_append.1 hg with h1 | h1
    · exact p.rng g (hr g h1) t ht
    · simp at h1
      subst h1
      rcases List.mem_append.1 ht with h3 | h3
      · exact p.rng a ha t h3
      · exact p.rng b hb t h3
  · have := p.cnt
    simp
    omega
  · have := bump_bd (a.2 ++ b.2) ls _ p.low j
    have hf := p.few
    simp only [List.length_append, List.length_singleton] at this hcl ⊢
    omega
end Go.Proofs.YtkldnapbeebdkaaDoor.hfp
