/- What two have changed together, told by all pairs; put in order, and done from the end (pure). -/
import Derived.Test.YtoiiphkcpdphbaaDoorDfB
namespace Go.Proofs.YtoiiphkcpdphbaaDoor.df
set_option linter.unusedVariables false
/-- Two changes touch, or lie over one another. -/
def Tch (p q : Ed) : Prop := p.w ≤ q.n ∧ q.w ≤ p.n
theorem sep_rest {n lo : Int} {c : Ed} {r : List Ed} (h : Sep n lo (c :: r)) : ∀ q ∈ r, c.n < q.w := by
  obtain ⟨h1, h2, h3, h4⟩ := h
  rcases h4 with rfl | h4
  · intro q hq; cases hq
  · intro q hq
    clear h1 h2 h3
    induction r generalizing c with
    | nil => cases hq
    | cons d r ih =>
      obtain ⟨g1, g2, g3, g4⟩ := h4
      rcases List.mem_cons.1 hq with rfl | hq
      · omega
      · rcases g4 with rfl | g4
        · cases hq
        · have := ih (c := d) g4 hq; omega
theorem sep_tail {n lo : Int} {c : Ed} {r : List Ed} (h : Sep n lo (c :: r)) : r = [] ∨ Sep n (c.n + 1) r := h.2.2.2
theorem jn_touch {n : Int} {x y : List Ed} : ∀ (lo lo' : Int), (x = [] ∨ Sep n lo x) → (y = [] ∨ Sep n lo' y) → (jn x y = none ↔ ∃ p ∈ x, ∃ q ∈ y, p ≠ q ∧ Tch p q) := by
  fun_induction jn x y with
  | case1 b => intro lo lo' _ _; simp
  | case2 x a => intro lo lo' _ _; simp
  | case3 a y b ih =>
    intro lo lo' hx hy
    rcases hx with hx | hx
    · cases hx
    rcases hy with hy | hy
    · cases hy
    have ra := sep_rest hx
    have rb := sep_rest hy
    have hyy := hy.2.1
    rw [Option.map_eq_none_iff, ih _ _ (sep_tail hx) (sep_tail hy)]
    constructor
    · rintro ⟨p, hp, q, hq, h1, h2⟩
      exact ⟨p, List.mem_cons_of_mem _ hp, q, List.mem_cons_of_mem _ hq, h1, h2⟩
    · rintro ⟨p, hp, q, hq, h1, h2, h3⟩
      rcases List.mem_cons.1 hp with e1 | hp'
      · rcases List.mem_cons.1 hq with e2 | hq'
        · exact absurd (e1.trans e2.symm) h1
        · have := rb q hq'; rw [e1] at h3; omega
      · rcases List.mem_cons.1 hq with e2 | hq'
        · have := ra p hp'; rw [e2] at h2; omega
        · exact ⟨p, hp', q, hq', h1, h2, h3⟩
  | case4 x a y b hne hlt ih =>
    intro lo lo' hx hy
    rcases hx with hx | hx
    · cases hx
    rcases hy with hy | hy
    · cases hy
    have rb := sep_rest hy
    have hyy := hy.2.1
    rw [Option.map_eq_none_iff, ih _ _ (sep_tail hx) (Or.inr hy)]
    constructor
    · rintro ⟨p, hp, q, hq, h1, h2⟩
      exact ⟨p, List.mem_cons_of_mem _ hp, q, hq, h1, h2⟩
    · rintro ⟨p, hp, q, hq, h1, h2, h3⟩
      rcases List.mem_cons.1 hp with rfl | hp
      · rcases List.mem_cons.1 hq with rfl | hq
        · omega
        · have := rb q hq; omega
      · exact ⟨p, hp, q, hq, h1, h2, h3⟩
  | case5 x a y b hne hlt hgt ih =>
    intro lo lo' hx hy
    rcases hx with hx | hx
    · cases hx
    rcases hy with hy | hy
    · cases hy
    have ra := sep_rest hx
    have hxx := hx.2.1
    rw [Option.map_eq_none_iff, ih _ _ (Or.inr hx) (sep_tail hy)]
    constructor
    · rintro ⟨p, hp, q, hq, h1, h2⟩
      exact ⟨p, hp, q, List.mem_cons_of_mem _ hq, h1, h2⟩
    · rintro ⟨p, hp, q, hq, h1, h2, h3⟩
      rcases List.mem_cons.1 hq with rfl | hq
      · rcases List.mem_cons.1 hp with rfl | hp
        · omega
        · have := ra p hp; omega
      · exact ⟨p, hp, q, hq, h1, h2, h3⟩
  | case6 x a y b hne hlt hgt =>
    intro lo lo' _ _
    exact ⟨fun _ => ⟨x, List.mem_cons_self .., y, List.mem_cons_self .., hne, by constructor <;> omega⟩, fun _ => rfl⟩
/-- Those of y that aren't in x. -/
def oth (x y : List Ed) : List Ed := y.filter fun q => decide (q ∉ x)
theorem oth_nil (y : List Ed) : oth [] y = y := by simp [oth]
theorem oth_cons_ne {x : List Ed} {c : Ed} {y : List Ed} (h : ∀ q ∈ y, q ≠ c) : oth (c :: x) y = oth x y := by
  unfold oth
  apply List.filter_congr
  intro q hq
  have := h q hq
  simp [this]
theorem jn_perm {n : Int} {x y : List Ed} : ∀ (lo lo' : Int) (l : List Ed), (x = [] ∨ Sep n lo x) → (y = [] ∨ Sep n lo' y) → jn x y = some l → l.Perm (x ++ oth x y) := by
  fun_induction jn x y with
  | case1 b => intro lo lo' l _ _ h; injection h with h; subst h; rw [oth_nil]; exact List.Perm.refl _
  | case2 x a => intro lo lo' l _ _ h; injection h with h; subst h; simp [oth]
  | case3 a y b ih =>
    intro lo lo' l hx hy h
    rcases hx with hx | hx
    · cases hx
    rcases hy with hy | hy
    · cases hy
    have rb := sep_rest hy
    have hyy := hy.2.1
    obtain ⟨k, hk, rfl⟩ := Option.map_eq_some_iff.1 h
    have := ih _ _ k (sep_tail hx) (sep_tail hy) hk
    have e : oth (y :: a) (y :: b) = oth a b := by
      rw [← oth_cons_ne (x := a) (c := y) (y := b) (fun q hq e => by have := rb q hq; rw [e] at this; omega)]
      simp [oth]
    rw [e]
    exact this.cons y
  | case4 x a y b hne hlt ih =>
    intro lo lo' l hx hy h
    rcases hx with hx | hx
    · cases hx
    rcases hy with hy | hy
    · cases hy
    have rb := sep_rest hy
    have hyy := hy.2.1
    have hxx := hx.2.1
    obtain ⟨k, hk, rfl⟩ := Option.map_eq_some_iff.1 h
    have := ih _ _ k (sep_tail hx) (Or.inr hy) hk
    rw [oth_cons_ne (fun q hq e => by
      rcases List.mem_cons.1 hq with rfl | hq
      · exact hne e.symm
      · have := rb q hq; rw [e] at this; omega)]
    exact this.cons x
  | case5 x a y b hne hlt hgt ih =>
    intro lo lo' l hx hy h
    rcases hx with hx | hx
    · cases hx
    rcases hy with hy | hy
    · cases hy
    have ra := sep_rest hx
    have hyy := hy.2.1
    have hxx := hx.2.1
    obtain ⟨k, hk, rfl⟩ := Option.map_eq_some_iff.1 h
    have := ih _ _ k (Or.inr hx) (sep_tail hy) hk
    have e : oth (x :: a) (y :: b) = y :: oth (x :: a) b := by
      have hy' : y ∉ x :: a := fun hm => by
        rcases List.mem_cons.1 hm with rfl | hm
        · exact hne rfl
        · have := ra y hm; omega
      unfold oth
      rw [List.filter_cons, if_pos (by simpa using hy')]
    rw [e]
    exact (this.cons y).trans List.perm_middle.symm
  | case6 x a y b hne hlt hgt => intro lo lo' l _ _ h; cases h
theorem sep_pair {n lo : Int} {l : List Ed} (h : l = [] ∨ Sep n lo l) : l.Pairwise fun p q => p.w < q.w := by
  induction l generalizing lo with
  | nil => exact List.Pairwise.nil
  | cons c r ih =>
    rcases h with h | h
    · cases h
    have := sep_rest h
    have h2 := h.2.1
    exact List.Pairwise.cons (fun q hq => by have := this q hq; omega) (ih (sep_tail h))
/-- Just one list of these stands in order. -/
theorem one_order : ∀ (d s : List Ed), d.Perm s → s.Pairwise (fun p q => q.w < p.w) → d.Pairwise (fun p q => ¬ p.w < q.w) → d = s := by
  intro d
  induction d with
  | nil => intro s hp _ _; exact (List.nil_perm.1 hp).symm
  | cons c d ih =>
    intro s hp hs hd
    cases s with
    | nil => exact absurd hp.length_eq (by simp)
    | cons e s =>
      have hce : c = e := by
        have h1 : c ∈ e :: s := hp.mem_iff.1 (List.mem_cons_self ..)
        have h2 : e ∈ c :: d := hp.mem_iff.2 (List.mem_cons_self ..)
        rcases List.mem_cons.1 h1 with h1 | h1
        · exact h1
        · rcases List.mem_cons.1 h2 with h2 | h2
          · exact h2.symm
          · have a1 := (List.pairwise_cons.1 hs).1 c h1
            have a2 := (List.pairwise_cons.1 hd).1 e h2
            omega
      subst hce
      rw [ih s (hp.cons_inv) (List.pairwise_cons.1 hs).2 (List.pairwise_cons.1 hd).2]
theorem pat_cut {old : List UInt8} {m : Int} {r : List Ed} (k : Nat) (h : r = [] ∨ Sep old.length m r) (hk : (k : Int) ≤ m) (hn : k ≤ old.length) : (pat old 0 r).take k = old.take k ∧ (pat old 0 r).drop k = pat old k r ∧ k ≤ (pat old 0 r).length := by
  cases r with
  | nil => simp [pat, hn]
  | cons c r =>
    rcases h with h | ⟨h1, h2, h3, h4⟩
    · cases h
    have hw : k ≤ c.w.toNat := by omega
    have hl : (old.take c.w.toNat).length = c.w.toNat := by simp; omega
    simp only [pat, List.drop_zero]
    refine ⟨?_, ?_, ?_⟩
    · rw [List.take_append_of_le_length (by omega), List.take_take, Nat.min_eq_left hw]
    · rw [List.drop_append_of_le_length (by omega)]
    · rw [List.length_append]; omega
/-- The changes from place j on are done. -/
theorem pat_step {old : List UInt8} {l : List Ed} (h : l = [] ∨ Sep old.length 0 l) (j : Nat) (hj : j < l.length) :
    0 ≤ l[j].w ∧ l[j].w ≤ l[j].n ∧ l[j].n ≤ (pat old 0 (l.drop (j + 1))).length ∧
    pat old 0 (l.drop j) = (pat old 0 (l.drop (j + 1))).take l[j].w.toNat ++ (l[j].t ++ (pat old 0 (l.drop (j + 1))).drop l[j].n.toNat) := by
  have key : ∀ (j : Nat) (lo : Int) (l : List Ed), 0 ≤ lo → (l = [] ∨ Sep old.length lo l) → l.drop j = [] ∨ ∃ lo', 0 ≤ lo' ∧ Sep old.length lo' (l.drop j) := by
    intro j
    induction j with
    | zero => intro lo l h0 h; rcases h with h | h; · exact Or.inl (by simpa using h)
              exact Or.inr ⟨lo, h0, by simpa using h⟩
    | succ j ih =>
      intro lo l h0 h
      cases l with
      | nil => exact Or.inl (by simp)
      | cons c r =>
        rcases h with h | h
        · cases h
        have h1 := h.1
        have h2 := h.2.1
        simp only [List.drop_succ_cons]
        exact ih (c.n + 1) r (by omega) (sep_tail h)
  rcases key j 0 l (Int.le_refl _) h with hd | ⟨lo', h0, hd⟩
  · have := congrArg List.length hd; simp at this; omega
  · rw [List.drop_eq_getElem_cons hj] at hd ⊢
    obtain ⟨g1, g2, g3, g4⟩ := hd
    have c1 := pat_cut (old := old) (m := l[j].n + 1) l[j].n.toNat g4 (by omega) (by omega)
    have c2 := pat_cut (old := old) (m := l[j].n + 1) l[j].w.toNat g4 (by omega) (by omega)
    refine ⟨by omega, g2, by omega, ?_⟩
    rw [c2.1, c1.2.1]
    simp [pat]
end Go.Proofs.YtoiiphkcpdphbaaDoor.df
