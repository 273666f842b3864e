/- What comes of two texts that were made of one (pure). -/
import Derived.Test.YtoiiphkcpdphbaaDoorDfC
namespace Go.Proofs.YtoiiphkcpdphbaaDoor.df
set_option linter.unusedVariables false
theorem grp_len' (l : List Ed) : (grp l).length ≤ l.length := by
  induction l with
  | nil => exact Nat.le_refl _
  | cons e r ih =>
    rw [grp_cons]
    cases h : grp r with
    | nil => simp
    | cons f k =>
      rw [h] at ih
      dsimp only
      split <;> simp at ih ⊢ <;> omega
theorem st_len' (a b : List UInt8) : (st a b).length ≤ a.length + b.length := by
  fun_induction st a b <;> simp at * <;> omega
/-- How many bytes are put in. -/
def sumT : List Ed → Nat
  | [] => 0
  | e :: r => e.t.length + sumT r
theorem sumT_mem {l : List Ed} {e : Ed} (h : e ∈ l) : e.t.length ≤ sumT l := by
  induction l with
  | nil => cases h
  | cons x l ih =>
    rcases List.mem_cons.1 h with rfl | h
    · simp [sumT]
    · have := ih h; simp [sumT]; omega
theorem pat_sum (old : List UInt8) (at' : Nat) (l : List Ed) : sumT l ≤ (pat old at' l).length := by
  induction l generalizing at' with
  | nil => simp [sumT]
  | cons c r ih => have := ih c.n.toNat; simp only [sumT, pat, List.length_append]; omega
theorem pat_len (old : List UInt8) (at' : Nat) (l : List Ed) : (pat old at' l).length ≤ old.length * (l.length + 1) + sumT l := by
  induction l generalizing at' with
  | nil => simp [sumT, pat]
  | cons c r ih =>
    have := ih c.n.toNat
    have h : ((old.take c.w.toNat).drop at').length ≤ old.length := by simp; omega
    simp only [sumT, pat, List.length_append, List.length_cons, Nat.mul_add, Nat.mul_one] at this ⊢
    omega
theorem jn_sum {a b l : List Ed} (h : jn a b = some l) : sumT l ≤ sumT a + sumT b ∧ l.length ≤ a.length + b.length := by
  fun_induction jn a b generalizing l with
  | case1 b => injection h with h; subst h; simp [sumT]
  | case2 x a => injection h with h; subst h; simp [sumT]
  | case3 a y b ih =>
    obtain ⟨k, hk, rfl⟩ := Option.map_eq_some_iff.1 h
    have := ih hk; simp [sumT]; omega
  | case4 x a y b h1 h2 ih =>
    obtain ⟨k, hk, rfl⟩ := Option.map_eq_some_iff.1 h
    have := ih hk; simp [sumT] at this ⊢; omega
  | case5 x a y b h1 h2 h3 ih =>
    obtain ⟨k, hk, rfl⟩ := Option.map_eq_some_iff.1 h
    have := ih hk; simp [sumT] at this ⊢; omega
  | case6 x a y b h1 h2 h3 => cases h
theorem cgo_len (l : List Ed) : ∀ c at', (cgo c at' l).length ≤ c.toList.length + l.length := by
  induction l with
  | nil => intro c at'; simp [cgo]
  | cons e r ih =>
    intro c at'
    rw [cgo]
    split
    · have := ih none (at' + e.n); simp at this ⊢; omega
    · have := ih (some ⟨(c.map Ed.w).getD at', at' + e.n, (c.map Ed.t).getD [] ++ e.t⟩) (at' + e.n)
      simp at this ⊢; omega
theorem chg_len (l : List Ed) : (chg l).length ≤ l.length := by have := cgo_len l none 0; simpa [chg] using this
theorem rn_bd (l : List Ed) : ∀ a b, Rn l a b → ∀ e ∈ l, 0 ≤ e.n ∧ e.n ≤ a.length ∧ e.t.length ≤ b.length := by
  induction l with
  | nil => intro a b _ e he; cases he
  | cons x l ih =>
    intro a b h e he
    rcases h with ⟨h1, h2, k, a', b', h3, h4, h5, h6, h7⟩ | ⟨h1, h2, k, a', h3, h4, h5⟩ | ⟨h1, h2, b', h3, h4⟩
    · subst h3; subst h4
      rcases List.mem_cons.1 he with rfl | he
      · rw [h2]; simp; omega
      · have := ih _ _ h7 e he; simp; omega
    · subst h3
      rcases List.mem_cons.1 he with rfl | he
      · rw [h2]; simp; omega
      · have := ih _ _ h5 e he; simp; omega
    · subst h3
      rcases List.mem_cons.1 he with rfl | he
      · simp; omega
      · have := ih _ _ h4 e he; simp; omega
/-- How far a text is changed. -/
def Ps (old : List UInt8) (l : List Ed) (k at' : Nat) (d : List UInt8) : Prop := d ++ pat old at' (l.drop k) = pat old 0 l ∧ (l.drop k = [] ∨ Sep old.length at' (l.drop k)) ∧ at' ≤ old.length
theorem Ps.zero {old : List UInt8} {l : List Ed} (h : l = [] ∨ Sep old.length 0 l) : Ps old l 0 0 [] := ⟨by simp, by simpa using h, by omega⟩
theorem Ps.step {old : List UInt8} {l : List Ed} {k at' : Nat} {d : List UInt8} (h : Ps old l k at' d) (hk : k < l.length) :
    (at' : Int) ≤ l[k].w ∧ l[k].w ≤ l[k].n ∧ l[k].n ≤ old.length ∧ Ps old l (k + 1) l[k].n.toNat (d ++ ((old.take l[k].w.toNat).drop at') ++ l[k].t) := by
  obtain ⟨h1, h2, h3⟩ := h
  have e := List.drop_eq_getElem_cons hk
  rw [e] at h1 h2
  rcases h2 with h2 | ⟨g1, g2, g3, g4⟩
  · cases h2
  refine ⟨g1, g2, g3, ?_, ?_, by omega⟩
  · rw [← h1, pat]; simp
  · rcases g4 with g4 | g4
    · exact Or.inl g4
    · exact Or.inr (sep_le g4 (by omega))
theorem Ps.end {old : List UInt8} {l : List Ed} {at' : Nat} {d : List UInt8} (h : Ps old l l.length at' d) : d ++ old.drop at' = pat old 0 l := by
  have := h.1
  rw [List.drop_of_length_le (Nat.le_refl _), pat] at this
  exact this
/-- What comes of two that were made of one. -/
def both (old a b : List UInt8) : List UInt8 × Bool :=
  match jn (chg (edits old a)) (chg (edits old b)) with
  | none => (a, false)
  | some l => (pat old 0 l, true)
theorem jn_ok (old a b : List UInt8) (l : List Ed) (h : jn (chg (edits old a)) (chg (edits old b)) = some l) :
    (l = [] ∨ Sep old.length 0 l) ∧ l.length ≤ old.length + a.length + old.length + b.length ∧ (pat old 0 l).length ≤ old.length * (old.length + a.length + old.length + b.length + 1) + a.length + b.length := by
  have ha := chg_is _ _ _ (rn_edits old a)
  have hb := chg_is _ _ _ (rn_edits old b)
  have hs := jn_sum h
  have la := Nat.le_trans (chg_len (edits old a)) (Nat.le_trans (grp_len' _) (st_len' old a))
  have lb := Nat.le_trans (chg_len (edits old b)) (Nat.le_trans (grp_len' _) (st_len' old b))
  have sa := pat_sum old 0 (chg (edits old a))
  have sb := pat_sum old 0 (chg (edits old b))
  rw [ha.2] at sa
  rw [hb.2] at sb
  refine ⟨jn_sep ha.1 hb.1 h, by omega, ?_⟩
  have h1 := pat_len old 0 l
  have h2 : old.length * (l.length + 1) ≤ old.length * (old.length + a.length + old.length + b.length + 1) := Nat.mul_le_mul_left _ (by omega)
  omega
end Go.Proofs.YtoiiphkcpdphbaaDoor.df
