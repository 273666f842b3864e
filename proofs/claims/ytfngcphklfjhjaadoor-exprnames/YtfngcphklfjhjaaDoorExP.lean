/- Expressions: how tokens are read, in two ways (pure). -/
import Derived.Test.YtfngcphklfjhjaaDoorLxP
namespace Go.Proofs.YtfngcphklfjhjaaDoor.ex
set_option linter.unusedVariables false
open lx

/-- An expression. -/
inductive Ex where
  | num (a : Nat) (n : Int)
  | nam (a : Nat) (t : List UInt8)
  | bin (a : Nat) (o : List UInt8) (l r : Ex)
deriving Inhabited
/-- How much an op binds. -/
def bd (t : List UInt8) : Nat :=
  if t = [61, 61] ∨ t = [33, 61] ∨ t = [60] ∨ t = [62] then 1 else if t = [43] ∨ t = [45] ∨ t = [124] then 2 else if t = [42] ∨ t = [38] then 3 else 0
theorem bd_le (t : List UInt8) : bd t ≤ 3 := by unfold bd; split <;> (try split) <;> (try split) <;> omega
def isN (t : List UInt8) : Bool := match t.head? with | some c => isL c | none => false
def isU (t : List UInt8) : Bool := match t.head? with | some c => isD c | none => false
/-- The token that comes now. -/
def hd (en : Nat) : List Tk → Tk
  | [] => ⟨[], en⟩
  | t :: _ => t
def hb (ts : List Tk) : Nat := match ts with | [] => 0 | t :: _ => bd t.t
abbrev Res := Except (Int × Nat) (Ex × List Tk)
section
variable (nb : List UInt8 → Int × Int) (en : Nat)
mutual
def row : Nat → Nat → Nat → List Tk → Option Res
  | 0, _, _, _ => none
  | f + 1, m, d, ts =>
    if 3 < m then one f d ts
    else match row f (m + 1) d ts with
      | none => none
      | some (.error e) => some (.error e)
      | some (.ok (x, r)) => lp f m d x r
def lp : Nat → Nat → Nat → Ex → List Tk → Option Res
  | 0, _, _, _, _ => none
  | _ + 1, _, _, x, [] => some (.ok (x, []))
  | f + 1, m, d, x, t :: r =>
    if bd t.t = m then
      match row f (m + 1) d r with
      | none => none
      | some (.error e) => some (.error e)
      | some (.ok (y, r')) => lp f m d (.bin t.a t.t x y) r'
    else some (.ok (x, t :: r))
def one : Nat → Nat → List Tk → Option Res
  | 0, _, _ => none
  | _ + 1, _, [] => some (.error (3, en))
  | f + 1, d, t :: r =>
    if isN t.t then (if 12 < t.t.length then some (.error (4, t.a)) else some (.ok (.nam t.a t.t, r)))
    else if isU t.t then (if (nb t.t).2 = 0 then some (.ok (.num t.a (nb t.t).1, r)) else some (.error ((nb t.t).2, t.a)))
    else if t.t = [40] then
      (if d = 8 then some (.error (4, t.a))
      else match row f 1 (d + 1) r with
        | none => none
        | some (.error e) => some (.error e)
        | some (.ok (x, r')) => if (hd en r').t = [41] then some (.ok (x, r'.tail)) else some (.error (3, (hd en r').a)))
    else some (.error (3, t.a))
end
mutual
def ce : Nat → Nat → Nat → List Tk → Option Res
  | 0, _, _, _ => none
  | f + 1, m, d, ts =>
    match sg f d ts with
      | none => none
      | some (.error e) => some (.error e)
      | some (.ok (x, r)) => cl f m d x r
def cl : Nat → Nat → Nat → Ex → List Tk → Option Res
  | 0, _, _, _, _ => none
  | _ + 1, _, _, x, [] => some (.ok (x, []))
  | f + 1, m, d, x, t :: r =>
    if m ≤ bd t.t ∧ 0 < bd t.t then
      match ce f (bd t.t + 1) d r with
      | none => none
      | some (.error e) => some (.error e)
      | some (.ok (y, r')) => cl f m d (.bin t.a t.t x y) r'
    else some (.ok (x, t :: r))
def sg : Nat → Nat → List Tk → Option Res
  | 0, _, _ => none
  | _ + 1, _, [] => some (.error (3, en))
  | f + 1, d, t :: r =>
    if isN t.t then (if 12 < t.t.length then some (.error (4, t.a)) else some (.ok (.nam t.a t.t, r)))
    else if isU t.t then (if (nb t.t).2 = 0 then some (.ok (.num t.a (nb t.t).1, r)) else some (.error ((nb t.t).2, t.a)))
    else if t.t = [40] then
      (if d = 8 then some (.error (4, t.a))
      else match ce f 1 (d + 1) r with
        | none => none
        | some (.error e) => some (.error e)
        | some (.ok (x, r')) => if (hd en r').t = [41] then some (.ok (x, r'.tail)) else some (.error (3, (hd en r').a)))
    else some (.error (3, t.a))
end
variable {nb en}
theorem row_top (f m d : Nat) (ts : List Tk) (h : 3 < m) : row nb en (f + 1) m d ts = one nb en f d ts := by rw [row, if_pos h]
theorem row_low (f m d : Nat) (ts : List Tk) (h : ¬ 3 < m) : row nb en (f + 1) m d ts = match row nb en f (m + 1) d ts with
      | none => none
      | some (.error e) => some (.error e)
      | some (.ok (x, r)) => lp nb en f m d x r := by rw [row, if_neg h]
/-- What is read is gone. -/
theorem len_all (f : Nat) : (∀ m d ts x r, row nb en f m d ts = some (.ok (x, r)) → r.length < ts.length) ∧ (∀ m d y ts x r, lp nb en f m d y ts = some (.ok (x, r)) → r.length ≤ ts.length) ∧ (∀ d ts x r, one nb en f d ts = some (.ok (x, r)) → r.length < ts.length) := by
  induction f with
  | zero => exact ⟨fun _ _ _ _ _ h => by simp [row] at h, fun _ _ _ _ _ _ h => by simp [lp] at h, fun _ _ _ _ h => by simp [one] at h⟩
  | succ f ih =>
    obtain ⟨i1, i2, i3⟩ := ih
    refine ⟨?_, ?_, ?_⟩
    · intro m d ts x r h
      by_cases hm : 3 < m
      · rw [row_top _ _ _ _ hm] at h
        exact i3 _ _ _ _ h
      · rw [row_low _ _ _ _ hm] at h
        split at h
        · cases h
        · cases h
        · rename_i y r' hr
          have := i1 _ _ _ _ _ hr
          have := i2 _ _ _ _ _ _ h
          omega
    · intro m d y ts x r h
      cases ts with
      | nil =>
        simp only [lp, Option.some.injEq, Except.ok.injEq, Prod.mk.injEq] at h
        rw [← h.2]
        exact Nat.le_refl _
      | cons t ts =>
        rw [lp] at h
        split at h
        · split at h
          · cases h
          · cases h
          · rename_i z r' hr
            have := i1 _ _ _ _ _ hr
            have := i2 _ _ _ _ _ _ h
            simp only [List.length_cons]
            omega
        · simp only [Option.some.injEq, Except.ok.injEq, Prod.mk.injEq] at h
          rw [← h.2]
          exact Nat.le_refl _
    · intro d ts x r h
      cases ts with
      | nil => simp [one] at h
      | cons t ts =>
        rw [one] at h
        split at h
        · split at h
          · simp at h
          · simp at h; rw [← h.2]; simp
        · split at h
          · split at h
            · simp at h; rw [← h.2]; simp
            · simp at h
          · split at h
            · split at h
              · simp at h
              · split at h
                · cases h
                · cases h
                · rename_i z r' hr
                  have := i1 _ _ _ _ _ hr
                  split at h
                  · simp at h; rw [← h.2, List.length_tail]; simp; omega
                  · simp at h
            · simp at h
/-- There is always an answer. -/
theorem some_all (f : Nat) : (∀ m d ts, m ≤ 4 → 10 * ts.length + (5 - m) < f → row nb en f m d ts ≠ none) ∧ (∀ m d y ts, m ≤ 3 → 10 * ts.length + 1 < f → lp nb en f m d y ts ≠ none) ∧ (∀ d ts, 10 * ts.length < f → one nb en f d ts ≠ none) := by
  induction f with
  | zero => exact ⟨fun _ _ _ _ h => by omega, fun _ _ _ _ _ h => by omega, fun _ _ h => by omega⟩
  | succ f ih =>
    obtain ⟨i1, i2, i3⟩ := ih
    obtain ⟨l1, l2, l3⟩ := len_all (nb := nb) (en := en) f
    refine ⟨?_, ?_, ?_⟩
    · intro m d ts hm4 hf
      by_cases hm : 3 < m
      · rw [row_top _ _ _ _ hm]
        exact i3 _ _ (by omega)
      · rw [row_low _ _ _ _ hm]
        split
        · rename_i hr
          exact absurd hr (i1 _ _ _ (by omega) (by omega))
        · simp
        · rename_i y r' hr
          have := l1 _ _ _ _ _ hr
          exact i2 _ _ _ _ (by omega) (by omega)
    · intro m d y ts hm hf
      cases ts with
      | nil => simp [lp]
      | cons t ts =>
        simp only [List.length_cons] at hf
        rw [lp]
        split
        · split
          · rename_i hr
            exact absurd hr (i1 _ _ _ (by omega) (by omega))
          · simp
          · rename_i z r' hr
            have := l1 _ _ _ _ _ hr
            exact i2 _ _ _ _ (by omega) (by omega)
        · simp
    · intro d ts hf
      cases ts with
      | nil => simp [one]
      | cons t ts =>
        simp only [List.length_cons] at hf
        rw [one]
        split
        · split <;> simp
        · split
          · split <;> simp
          · split
            · split
              · simp
              · split
                · rename_i hr
                  exact absurd hr (i1 _ _ _ (by omega) (by omega))
                · simp
                · split <;> simp
            · simp
theorem up_all (f : Nat) : (∀ m d ts q, ce nb en f m d ts = some q → ce nb en (f + 1) m d ts = some q) ∧ (∀ m d y ts q, cl nb en f m d y ts = some q → cl nb en (f + 1) m d y ts = some q) ∧ (∀ d ts q, sg nb en f d ts = some q → sg nb en (f + 1) d ts = some q) := by
  induction f with
  | zero => exact ⟨fun _ _ _ _ h => by simp [ce] at h, fun _ _ _ _ _ h => by simp [cl] at h, fun _ _ _ h => by simp [sg] at h⟩
  | succ f ih =>
    obtain ⟨i1, i2, i3⟩ := ih
    refine ⟨?_, ?_, ?_⟩
    · intro m d ts q h
      rw [ce] at h ⊢
      split at h
      · cases h
      · rename_i e hr
        rw [i3 _ _ _ hr]
        exact h
      · rename_i x r hr
        rw [i3 _ _ _ hr]
        exact i2 _ _ _ _ _ h
    · intro m d y ts q h
      cases ts with
      | nil => simpa [cl] using h
      | cons t ts =>
        rw [cl] at h ⊢
        split at h
        · rename_i hc
          rw [if_pos hc]
          split at h
          · cases h
          · rename_i e hr
            rw [i1 _ _ _ _ hr]
            exact h
          · rename_i x r hr
            rw [i1 _ _ _ _ hr]
            exact i2 _ _ _ _ _ h
        · rename_i hc
          rw [if_neg hc]
          exact h
    · intro d ts q h
      cases ts with
      | nil => simpa [sg] using h
      | cons t ts =>
        rw [sg] at h ⊢
        split at h
        · rename_i h1
          rw [if_pos h1]; exact h
        · rename_i h1
          rw [if_neg h1]
          split at h
          · rename_i h2
            rw [if_pos h2]; exact h
          · rename_i h2
            rw [if_neg h2]
            split at h
            · rename_i h3
              rw [if_pos h3]
              split at h
              · rename_i h4
                rw [if_pos h4]; exact h
              · rename_i h4
                rw [if_neg h4]
                split at h
                · cases h
                · rename_i e hr
                  rw [i1 _ _ _ _ hr]; exact h
                · rename_i x r hr
                  rw [i1 _ _ _ _ hr]; exact h
            · rename_i h3
              rw [if_neg h3]; exact h
theorem up_ce {f g m d : Nat} {ts : List Tk} {q : Res} (h : ce nb en f m d ts = some q) (hg : f ≤ g) : ce nb en g m d ts = some q := by
  induction g with
  | zero => obtain rfl : f = 0 := by omega
            exact h
  | succ g ih =>
    rcases Nat.lt_or_ge g f with h1 | h1
    · obtain rfl : f = g + 1 := by omega
      exact h
    · exact (up_all g).1 _ _ _ _ (ih h1)
theorem up_cl {f g m d : Nat} {y : Ex} {ts : List Tk} {q : Res} (h : cl nb en f m d y ts = some q) (hg : f ≤ g) : cl nb en g m d y ts = some q := by
  induction g with
  | zero => obtain rfl : f = 0 := by omega
            exact h
  | succ g ih =>
    rcases Nat.lt_or_ge g f with h1 | h1
    · obtain rfl : f = g + 1 := by omega
      exact h
    · exact (up_all g).2.1 _ _ _ _ _ (ih h1)
theorem up_sg {f g d : Nat} {ts : List Tk} {q : Res} (h : sg nb en f d ts = some q) (hg : f ≤ g) : sg nb en g d ts = some q := by
  induction g with
  | zero => obtain rfl : f = 0 := by omega
            exact h
  | succ g ih =>
    rcases Nat.lt_or_ge g f with h1 | h1
    · obtain rfl : f = g + 1 := by omega
      exact h
    · exact (up_all g).2.2 _ _ _ (ih h1)
/-- Where the loop ends, what comes next binds less. -/
theorem cl_stops (f : Nat) : ∀ m d y ts x r, cl nb en f m d y ts = some (.ok (x, r)) → hb r < m ∨ hb r = 0 := by
  induction f with
  | zero => intro m d y ts x r h; simp [cl] at h
  | succ f ih =>
    intro m d y ts x r h
    cases ts with
    | nil =>
      simp only [cl, Option.some.injEq, Except.ok.injEq, Prod.mk.injEq] at h
      rw [← h.2]
      exact Or.inr rfl
    | cons t ts =>
      rw [cl] at h
      split at h
      · split at h
        · cases h
        · cases h
        · exact ih _ _ _ _ _ _ h
      · rename_i hc
        simp only [Option.some.injEq, Except.ok.injEq, Prod.mk.injEq] at h
        rw [← h.2]
        show bd t.t < m ∨ bd t.t = 0
        omega
theorem ce_stops {f m d : Nat} {ts r : List Tk} {x : Ex} (h : ce nb en f m d ts = some (.ok (x, r))) : hb r < m ∨ hb r = 0 := by
  cases f with
  | zero => simp [ce] at h
  | succ f =>
    rw [ce] at h
    split at h
    · cases h
    · cases h
    · exact cl_stops _ _ _ _ _ _ _ h
/-- What ops that bind more join, and then what others do. -/
theorem cl_err (f : Nat) : ∀ m d y ts e, cl nb en f (m + 1) d y ts = some (.error e) → cl nb en f m d y ts = some (.error e) := by
  induction f with
  | zero => intro m d y ts e h; simp [cl] at h
  | succ f ih =>
    intro m d y ts e h
    cases ts with
    | nil => simp [cl] at h
    | cons t ts =>
      rw [cl] at h ⊢
      split at h
      · rename_i hc
        rw [if_pos (by omega)]
        split at h
        · cases h
        · exact h
        · exact ih _ _ _ _ _ h
      · simp at h
theorem cl_then (f : Nat) : ∀ m d y ts x r g q, cl nb en f (m + 1) d y ts = some (.ok (x, r)) → cl nb en g m d x r = some q → cl nb en (f + g) m d y ts = some q := by
  induction f with
  | zero => intro m d y ts x r g q h; simp [cl] at h
  | succ f ih =>
    intro m d y ts x r g q h hg
    cases ts with
    | nil =>
      simp only [cl, Option.some.injEq, Except.ok.injEq, Prod.mk.injEq] at h
      obtain ⟨rfl, rfl⟩ := h
      exact up_cl hg (by omega)
    | cons t ts =>
      rw [cl] at h
      split at h
      · rename_i hc
        split at h
        · cases h
        · cases h
        · rename_i z r' hr
          have h1 := ih _ _ _ _ _ _ _ _ h hg
          have h2 := up_ce hr (show f ≤ f + g by omega)
          rw [show f + 1 + g = f + g + 1 by omega, cl, if_pos (by omega), h2]
          exact h1
      · simp only [Option.some.injEq, Except.ok.injEq, Prod.mk.injEq] at h
        obtain ⟨rfl, rfl⟩ := h
        exact up_cl hg (by omega)
/-- Both ways are one. -/
theorem both_ways (f : Nat) : (∀ m d ts q, 1 ≤ m → m ≤ 4 → row nb en f m d ts = some q → ∃ g, ce nb en g m d ts = some q) ∧ (∀ m d y ts q, 1 ≤ m → m ≤ 3 → (hb ts ≤ m) → lp nb en f m d y ts = some q → ∃ g, cl nb en g m d y ts = some q) ∧ (∀ d ts q, one nb en f d ts = some q → ∃ g, sg nb en g d ts = some q) := by
  induction f with
  | zero => exact ⟨fun _ _ _ _ _ _ h => by simp [row] at h, fun _ _ _ _ _ _ _ _ h => by simp [lp] at h, fun _ _ _ h => by simp [one] at h⟩
  | succ f ih =>
    obtain ⟨i1, i2, i3⟩ := ih
    refine ⟨?_, ?_, ?_⟩
    · intro m d ts q h1 h4 h
      by_cases hm : 3 < m
      · obtain rfl : m = 4 := by omega
        rw [row_top _ _ _ _ hm] at h
        obtain ⟨g, hg⟩ := i3 _ _ _ h
        refine ⟨g + 2, ?_⟩
        rw [ce, up_sg hg (Nat.le_succ g)]
        cases q with
        | error e => rfl
        | ok p =>
          obtain ⟨x, r⟩ := p
          show cl nb en (g + 1) 4 d x r = _
          cases r with
          | nil => rw [cl]
          | cons t r => rw [cl, if_neg (by have := bd_le t.t; omega)]
      · rw [row_low _ _ _ _ hm] at h
        split at h
        · cases h
        · rename_i e hr
          obtain ⟨g, hg⟩ := i1 _ _ _ _ (by omega) (by omega) hr
          refine ⟨g, ?_⟩
          cases g with
          | zero => simp [ce] at hg
          | succ g =>
            rw [ce] at hg ⊢
            split at hg
            · cases hg
            · rw [hg]; exact h
            · rw [cl_err _ _ _ _ _ _ hg]; exact h
        · rename_i x r hr
          obtain ⟨g, hg⟩ := i1 _ _ _ _ (by omega) (by omega) hr
          have hs := ce_stops hg
          obtain ⟨k, hk⟩ := i2 _ _ _ _ _ h1 (by omega) (by omega) h
          cases g with
          | zero => simp [ce] at hg
          | succ g =>
            rw [ce] at hg
            split at hg
            · cases hg
            · cases hg
            · rename_i y r' hsg
              refine ⟨g + k + 1, ?_⟩
              rw [ce, up_sg hsg (show g ≤ g + k by omega)]
              exact cl_then _ _ _ _ _ _ _ _ _ hg hk
    · intro m d y ts q h1 h3 hh h
      cases ts with
      | nil => exact ⟨1, by simpa [cl, lp] using h⟩
      | cons t ts =>
        rw [lp] at h
        split at h
        · rename_i hb'
          split at h
          · cases h
          · rename_i e hr
            obtain ⟨g, hg⟩ := i1 _ _ _ _ (by omega) (by omega) hr
            refine ⟨g + 1, ?_⟩
            rw [cl, if_pos (by omega), hb', hg]
            exact h
          · rename_i z r hr
            obtain ⟨g, hg⟩ := i1 _ _ _ _ (by omega) (by omega) hr
            have hs := ce_stops hg
            obtain ⟨k, hk⟩ := i2 _ _ _ _ _ h1 h3 (by omega) h
            refine ⟨g + k + 1, ?_⟩
            rw [cl, if_pos (by omega), hb', up_ce hg (show g ≤ g + k by omega)]
            exact up_cl hk (by omega)
        · rename_i hb'
          refine ⟨1, ?_⟩
          have : bd t.t ≤ m := hh
          rw [cl, if_neg (by omega)]
          exact h
    · intro d ts q h
      cases ts with
      | nil => exact ⟨1, by simpa [one, sg] using h⟩
      | cons t ts =>
        rw [one] at h
        by_cases c1 : isN t.t = true
        · exact ⟨1, by rw [sg, if_pos c1]; rw [if_pos c1] at h; exact h⟩
        · rw [if_neg c1] at h
          by_cases c2 : isU t.t = true
          · exact ⟨1, by rw [sg, if_neg c1, if_pos c2]; rw [if_pos c2] at h; exact h⟩
          · rw [if_neg c2] at h
            by_cases c3 : t.t = [40]
            · rw [if_pos c3] at h
              by_cases c4 : d = 8
              · exact ⟨1, by rw [sg, if_neg c1, if_neg c2, if_pos c3, if_pos c4]; rw [if_pos c4] at h; exact h⟩
              · rw [if_neg c4] at h
                split at h
                · cases h
                · rename_i e hr
                  obtain ⟨g, hg⟩ := i1 _ _ _ _ (by omega) (by omega) hr
                  refine ⟨g + 1, ?_⟩
                  rw [sg, if_neg c1, if_neg c2, if_pos c3, if_neg c4, hg]
                  exact h
                · rename_i x r hr
                  obtain ⟨g, hg⟩ := i1 _ _ _ _ (by omega) (by omega) hr
                  refine ⟨g + 1, ?_⟩
                  rw [sg, if_neg c1, if_neg c2, if_pos c3, if_neg c4, hg]
                  exact h
            · exact ⟨1, by rw [sg, if_neg c1, if_neg c2, if_neg c3]; rw [if_neg c3] at h; exact h⟩
end
end Go.Proofs.YtfngcphklfjhjaaDoor.ex
