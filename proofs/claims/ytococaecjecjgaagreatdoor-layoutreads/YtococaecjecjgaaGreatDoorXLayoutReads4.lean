/- Texts laid together: Lx4, Lx5, ExP, Ex1, Dig. -/
import Derived.Test.YtococaecjecjgaaGreatDoorXLayoutReads3
import Derived.Defers
import Derived.Recover
import Derived.Test.YtococaecjecjgaaGreatDoorXLayoutReads2
import Derived.Laws.Rows
import Derived.WalkKit
import Derived.ProofKit
import Derived.OpenShut
import Derived.Laws.BytesArg

namespace Go.Proofs.YtococaecjecjgaaGreatDoor.lx
set_option linter.unusedVariables false
open Go.ChangeShapes Go.WideShapes Go.ChangeAt Go.RowKit
open mem

def nmb (l : List UInt8) : Bool := match l.head? with | some c => isL c | none => false
end Go.Proofs.YtococaecjecjgaaGreatDoor.lx
namespace Go.Proofs.YtococaecjecjgaaGreatDoor.ex
set_option linter.unusedVariables false
open lx

inductive Ex where
  | num (a : Nat) (n : Int)
  | nam (a : Nat) (t : List UInt8)
  | bin (a : Nat) (o : List UInt8) (l r : Ex)
deriving Inhabited
def bd (t : List UInt8) : Nat :=
  if t = [61, 61] ∨ t = [33, 61] ∨ t = [60] ∨ t = [62] then 1 else if t = [43] ∨ t = [45] ∨ t = [124] then 2 else if t = [42] ∨ t = [38] then 3 else 0
theorem bd_le (t : List UInt8) : bd t ≤ 3 := by unfold bd; split <;> (try split) <;> (try split) <;> omega
def isN (t : List UInt8) : Bool := match t.head? with | some c => isL c | none => false
def isU (t : List UInt8) : Bool := match t.head? with | some c => isD c | none => false
def hd (en : Nat) : List Tk → Tk
  | [] => ⟨[], en⟩
  | t :: _ => t
def hb (ts : List Tk) : Nat := match ts with | [] => 0 | t :: _ => bd t.t
abbrev Res := Except (Int × Nat) (Ex × List Tk)
section
variable (nb : List UInt8 → Int × Int) (en : Nat)
mutual
def row : Nat → Nat → Nat → List Tk → Option Res
  | 0, _, _, _ => none
  | f + 1, m, d, ts =>
    if 3 < m then one f d ts
    else match row f (m + 1) d ts with
      | none => none
      | some (.error e) => some (.error e)
      | some (.ok (x, r)) => lp f m d x r
def lp : Nat → Nat → Nat → Ex → List Tk → Option Res
  | 0, _, _, _, _ => none
  | _ + 1, _, _, x, [] => some (.ok (x, []))
  | f + 1, m, d, x, t :: r =>
    if bd t.t = m then
      match row f (m + 1) d r with
      | none => none
      | some (.error e) => some (.error e)
      | some (.ok (y, r')) => lp f m d (.bin t.a t.t x y) r'
    else some (.ok (x, t :: r))
def one : Nat → Nat → List Tk → Option Res
  | 0, _, _ => none
  | _ + 1, _, [] => some (.error (3, en))
  | f + 1, d, t :: r =>
    if isN t.t then (if 12 < t.t.length then some (.error (4, t.a)) else some (.ok (.nam t.a t.t, r)))
    else if isU t.t then (if (nb t.t).2 = 0 then some (.ok (.num t.a (nb t.t).1, r)) else some (.error ((nb t.t).2, t.a)))
    else if t.t = [40] then
      (if d = 8 then some (.error (4, t.a))
      else match row f 1 (d + 1) r with
        | none => none
        | some (.error e) => some (.error e)
        | some (.ok (x, r')) => if (hd en r').t = [41] then some (.ok (x, r'.tail)) else some (.error (3, (hd en r').a)))
    else some (.error (3, t.a))
end
mutual
def ce : Nat → Nat → Nat → List Tk → Option Res
  | 0, _, _, _ => none
  | f + 1, m, d, ts =>
    match sg f d ts with
      | none => none
      | some (.error e) => some (.error e)
      | some (.ok (x, r)) => cl f m d x r
def cl : Nat → Nat → Nat → Ex → List Tk → Option Res
  | 0, _, _, _, _ => none
  | _ + 1, _, _, x, [] => some (.ok (x, []))
  | f + 1, m, d, x, t :: r =>
    if m ≤ bd t.t ∧ 0 < bd t.t then
      match ce f (bd t.t + 1) d r with
      | none => none
      | some (.error e) => some (.error e)
      | some (.ok (y, r')) => cl f m d (.bin t.a t.t x y) r'
    else some (.ok (x, t :: r))
def sg : Nat → Nat → List Tk → Option Res
  | 0, _, _ => none
  | _ + 1, _, [] => some (.error (3, en))
  | f + 1, d, t :: r =>
    if isN t.t then (if 12 < t.t.length then some (.error (4, t.a)) else some (.ok (.nam t.a t.t, r)))
    else if isU t.t then (if (nb t.t).2 = 0 then some (.ok (.num t.a (nb t.t).1, r)) else some (.error ((nb t.t).2, t.a)))
    else if t.t = [40] then
      (if d = 8 then some (.error (4, t.a))
      else match ce f 1 (d + 1) r with
        | none => none
        | some (.error e) => some (.error e)
        | some (.ok (x, r')) => if (hd en r').t = [41] then some (.ok (x, r'.tail)) else some (.error (3, (hd en r').a)))
    else some (.error (3, t.a))
end
variable {nb en}
theorem row_top (f m d : Nat) (ts : List Tk) (h : 3 < m) : row nb en (f + 1) m d ts = one nb en f d ts := by rw [row, if_pos h]
theorem row_low (f m d : Nat) (ts : List Tk) (h : ¬ 3 < m) : row nb en (f + 1) m d ts = match row nb en f (m + 1) d ts with
      | none => none
      | some (.error e) => some (.error e)
      | some (.ok (x, r)) => lp nb en f m d x r := by rw [row, if_neg h]
theorem len_all (f : Nat) : (∀ m d ts x r, row nb en f m d ts = some (.ok (x, r)) → r.length < ts.length) ∧ (∀ m d y ts x r, lp nb en f m d y ts = some (.ok (x, r)) → r.length ≤ ts.length) ∧ (∀ d ts x r, one nb en f d ts = some (.ok (x, r)) → r.length < ts.length) := by
  induction f with
  | zero => exact ⟨fun _ _ _ _ _ h => by simp [row] at h, fun _ _ _ _ _ _ h => by simp [lp] at h, fun _ _ _ _ h => by simp [one] at h⟩
  | succ f ih =>
    obtain ⟨i1, i2, i3⟩ := ih
    refine ⟨?_, ?_, ?_⟩
    · intro m d ts x r h
      by_cases hm : 3 < m
      · rw [row_top _ _ _ _ hm] at h
        exact i3 _ _ _ _ h
      · rw [row_low _ _ _ _ hm] at h
        split at h
        · cases h
        · cases h
        · rename_i y r' hr
          have := i1 _ _ _ _ _ hr
          have := i2 _ _ _ _ _ _ h
          omega
    · intro m d y ts x r h
      cases ts with
      | nil =>
        simp only [lp, Option.some.injEq, Except.ok.injEq, Prod.mk.injEq] at h
        rw [← h.2]
        exact Nat.le_refl _
      | cons t ts =>
        rw [lp] at h
        split at h
        · split at h
          · cases h
          · cases h
          · rename_i z r' hr
            have := i1 _ _ _ _ _ hr
            have := i2 _ _ _ _ _ _ h
            simp only [List.length_cons]
            omega
        · simp only [Option.some.injEq, Except.ok.injEq, Prod.mk.injEq] at h
          rw [← h.2]
          exact Nat.le_refl _
    · intro d ts x r h
      cases ts with
      | nil => simp [one] at h
      | cons t ts =>
        rw [one] at h
        split at h
        · split at h
          · simp at h
          · simp at h; rw [← h.2]; simp
        · split at h
          · split at h
            · simp at h; rw [← h.2]; simp
            · simp at h
          · split at h
            · split at h
              · simp at h
              · split at h
                · cases h
                · cases h
                · rename_i z r' hr
                  have := i1 _ _ _ _ _ hr
                  split at h
                  · simp at h; rw [← h.2, List.length_tail]; simp; omega
                  · simp at h
            · simp at h
theorem some_all (f : Nat) : (∀ m d ts, m ≤ 4 → 10 * ts.length + (5 - m) < f → row nb en f m d ts ≠ none) ∧ (∀ m d y ts, m ≤ 3 → 10 * ts.length + 1 < f → lp nb en f m d y ts ≠ none) ∧ (∀ d ts, 10 * ts.length < f → one nb en f d ts ≠ none) := by
  induction f with
  | zero => exact ⟨fun _ _ _ _ h => by omega, fun _ _ _ _ _ h => by omega, fun _ _ h => by omega⟩
  | succ f ih =>
    obtain ⟨i1, i2, i3⟩ := ih
    obtain ⟨l1, l2, l3⟩ := len_all (nb := nb) (en := en) f
    refine ⟨?_, ?_, ?_⟩
    · intro m d ts hm4 hf
      by_cases hm : 3 < m
      · rw [row_top _ _ _ _ hm]
        exact i3 _ _ (by omega)
      · rw [row_low _ _ _ _ hm]
        split
        · rename_i hr
          exact absurd hr (i1 _ _ _ (by omega) (by omega))
        · simp
        · rename_i y r' hr
          have := l1 _ _ _ _ _ hr
          exact i2 _ _ _ _ (by omega) (by omega)
    · intro m d y ts hm hf
      cases ts with
      | nil => simp [lp]
      | cons t ts =>
        simp only [List.length_cons] at hf
        rw [lp]
        split
        · split
          · rename_i hr
            exact absurd hr (i1 _ _ _ (by omega) (by omega))
          · simp
          · rename_i z r' hr
            have := l1 _ _ _ _ _ hr
            exact i2 _ _ _ _ (by omega) (by omega)
        · simp
    · intro d ts hf
      cases ts with
      | nil => simp [one]
      | cons t ts =>
        simp only [List.length_cons] at hf
        rw [one]
        split
        · split <;> simp
        · split
          · split <;> simp
          · split
            · split
              · simp
              · split
                · rename_i hr
                  exact absurd hr (i1 _ _ _ (by omega) (by omega))
                · simp
                · split <;> simp
            · simp
theorem up_all (f : Nat) : (∀ m d ts q, ce nb en f m d ts = some q → ce nb en (f + 1) m d ts = some q) ∧ (∀ m d y ts q, cl nb en f m d y ts = some q → cl nb en (f + 1) m d y ts = some q) ∧ (∀ d ts q, sg nb en f d ts = some q → sg nb en (f + 1) d ts = some q) := by
  induction f with
  | zero => exact ⟨fun _ _ _ _ h => by simp [ce] at h, fun _ _ _ _ _ h => by simp [cl] at h, fun _ _ _ h => by simp [sg] at h⟩
  | succ f ih =>
    obtain ⟨i1, i2, i3⟩ := ih
    refine ⟨?_, ?_, ?_⟩
    · intro m d ts q h
      rw [ce] at h ⊢
      split at h
      · cases h
      · rename_i e hr
        rw [i3 _ _ _ hr]
        exact h
      · rename_i x r hr
        rw [i3 _ _ _ hr]
        exact i2 _ _ _ _ _ h
    · intro m d y ts q h
      cases ts with
      | nil => simpa [cl] using h
      | cons t ts =>
        rw [cl] at h ⊢
        split at h
        · rename_i hc
          rw [if_pos hc]
          split at h
          · cases h
          · rename_i e hr
            rw [i1 _ _ _ _ hr]
            exact h
          · rename_i x r hr
            rw [i1 _ _ _ _ hr]
            exact i2 _ _ _ _ _ h
        · rename_i hc
          rw [if_neg hc]
          exact h
    · intro d ts q h
      cases ts with
      | nil => simpa [sg] using h
      | cons t ts =>
        rw [sg] at h ⊢
        split at h
        · rename_i h1
          rw [if_pos h1]; exact h
        · rename_i h1
          rw [if_neg h1]
          split at h
          · rename_i h2
            rw [if_pos h2]; exact h
          · rename_i h2
            rw [if_neg h2]
            split at h
            · rename_i h3
              rw [if_pos h3]
              split at h
              · rename_i h4
                rw [if_pos h4]; exact h
              · rename_i h4
                rw [if_neg h4]
                split at h
                · cases h
                · rename_i e hr
                  rw [i1 _ _ _ _ hr]; exact h
                · rename_i x r hr
                  rw [i1 _ _ _ _ hr]; exact h
            · rename_i h3
              rw [if_neg h3]; exact h
theorem up_ce {f g m d : Nat} {ts : List Tk} {q : Res} (h : ce nb en f m d ts = some q) (hg : f ≤ g) : ce nb en g m d ts = some q := by
  induction g with
  | zero => obtain rfl : f = 0 := by omega
            exact h
  | succ g ih =>
    rcases Nat.lt_or_ge g f with h1 | h1
    · obtain rfl : f = g + 1 := by omega
      exact h
    · exact (up_all g).1 _ _ _ _ (ih h1)
theorem up_cl {f g m d : Nat} {y : Ex} {ts : List Tk} {q : Res} (h : cl nb en f m d y ts = some q) (hg : f ≤ g) : cl nb en g m d y ts = some q := by
  induction g with
  | zero => obtain rfl : f = 0 := by omega
            exact h
  | succ g ih =>
    rcases Nat.lt_or_ge g f with h1 | h1
    · obtain rfl : f = g + 1 := by omega
      exact h
    · exact (up_all g).2.1 _ _ _ _ _ (ih h1)
theorem up_sg {f g d : Nat} {ts : List Tk} {q : Res} (h : sg nb en f d ts = some q) (hg : f ≤ g) : sg nb en g d ts = some q := by
  induction g with
  | zero => obtain rfl : f = 0 := by omega
            exact h
  | succ g ih =>
    rcases Nat.lt_or_ge g f with h1 | h1
    · obtain rfl : f = g + 1 := by omega
      exact h
    · exact (up_all g).2.2 _ _ _ (ih h1)
theorem cl_stops (f : Nat) : ∀ m d y ts x r, cl nb en f m d y ts = some (.ok (x, r)) → hb r < m ∨ hb r = 0 := by
  induction f with
  | zero => intro m d y ts x r h; simp [cl] at h
  | succ f ih =>
    intro m d y ts x r h
    cases ts with
    | nil =>
      simp only [cl, Option.some.injEq, Except.ok.injEq, Prod.mk.injEq] at h
      rw [← h.2]
      exact Or.inr rfl
    | cons t ts =>
      rw [cl] at h
      split at h
      · split at h
        · cases h
        · cases h
        · exact ih _ _ _ _ _ _ h
      · rename_i hc
        simp only [Option.some.injEq, Except.ok.injEq, Prod.mk.injEq] at h
        rw [← h.2]
        show bd t.t < m ∨ bd t.t = 0
        omega
theorem ce_stops {f m d : Nat} {ts r : List Tk} {x : Ex} (h : ce nb en f m d ts = some (.ok (x, r))) : hb r < m ∨ hb r = 0 := by
  cases f with
  | zero => simp [ce] at h
  | succ f =>
    rw [ce] at h
    split at h
    · cases h
    · cases h
    · exact cl_stops _ _ _ _ _ _ _ h
theorem cl_err (f : Nat) : ∀ m d y ts e, cl nb en f (m + 1) d y ts = some (.error e) → cl nb en f m d y ts = some (.error e) := by
  induction f with
  | zero => intro m d y ts e h; simp [cl] at h
  | succ f ih =>
    intro m d y ts e h
    cases ts with
    | nil => simp [cl] at h
    | cons t ts =>
      rw [cl] at h ⊢
      split at h
      · rename_i hc
        rw [if_pos (by omega)]
        split at h
        · cases h
        · exact h
        · exact ih _ _ _ _ _ h
      · simp at h
theorem cl_then (f : Nat) : ∀ m d y ts x r g q, cl nb en f (m + 1) d y ts = some (.ok (x, r)) → cl nb en g m d x r = some q → cl nb en (f + g) m d y ts = some q := by
  induction f with
  | zero => intro m d y ts x r g q h; simp [cl] at h
  | succ f ih =>
    intro m d y ts x r g q h hg
    cases ts with
    | nil =>
      simp only [cl, Option.some.injEq, Except.ok.injEq, Prod.mk.injEq] at h
      obtain ⟨rfl, rfl⟩ := h
      exact up_cl hg (by omega)
    | cons t ts =>
      rw [cl] at h
      split at h
      · rename_i hc
        split at h
        · cases h
        · cases h
        · rename_i z r' hr
          have h1 := ih _ _ _ _ _ _ _ _ h hg
          have h2 := up_ce hr (show f ≤ f + g by omega)
          rw [show f + 1 + g = f + g + 1 by omega, cl, if_pos (by omega), h2]
          exact h1
      · simp only [Option.some.injEq, Except.ok.injEq, Prod.mk.injEq] at h
        obtain ⟨rfl, rfl⟩ := h
        exact up_cl hg (by omega)
theorem both_ways (f : Nat) : (∀ m d ts q, 1 ≤ m → m ≤ 4 → row nb en f m d ts = some q → ∃ g, ce nb en g m d ts = some q) ∧ (∀ m d y ts q, 1 ≤ m → m ≤ 3 → (hb ts ≤ m) → lp nb en f m d y ts = some q → ∃ g, cl nb en g m d y ts = some q) ∧ (∀ d ts q, one nb en f d ts = some q → ∃ g, sg nb en g d ts = some q) := by
  induction f with
  | zero => exact ⟨fun _ _ _ _ _ _ h => by simp [row] at h, fun _ _ _ _ _ _ _ _ h => by simp [lp] at h, fun _ _ _ h => by simp [one] at h⟩
  | succ f ih =>
    obtain ⟨i1, i2, i3⟩ := ih
    refine ⟨?_, ?_, ?_⟩
    · intro m d ts q h1 h4 h
      by_cases hm : 3 < m
      · obtain rfl : m = 4 := by omega
        rw [row_top _ _ _ _ hm] at h
        obtain ⟨g, hg⟩ := i3 _ _ _ h
        refine ⟨g + 2, ?_⟩
        rw [ce, up_sg hg (Nat.le_succ g)]
        cases q with
        | error e => rfl
        | ok p =>
          obtain ⟨x, r⟩ := p
          show cl nb en (g + 1) 4 d x r = _
          cases r with
          | nil => rw [cl]
          | cons t r => rw [cl, if_neg (by have := bd_le t.t; omega)]
      · rw [row_low _ _ _ _ hm] at h
        split at h
        · cases h
        · rename_i e hr
          obtain ⟨g, hg⟩ := i1 _ _ _ _ (by omega) (by omega) hr
          refine ⟨g, ?_⟩
          cases g with
          | zero => simp [ce] at hg
          | succ g =>
            rw [ce] at hg ⊢
            split at hg
            · cases hg
            · rw [hg]; exact h
            · rw [cl_err _ _ _ _ _ _ hg]; exact h
        · rename_i x r hr
          obtain ⟨g, hg⟩ := i1 _ _ _ _ (by omega) (by omega) hr
          have hs := ce_stops hg
          obtain ⟨k, hk⟩ := i2 _ _ _ _ _ h1 (by omega) (by omega) h
          cases g with
          | zero => simp [ce] at hg
          | succ g =>
            rw [ce] at hg
            split at hg
            · cases hg
            · cases hg
            · rename_i y r' hsg
              refine ⟨g + k + 1, ?_⟩
              rw [ce, up_sg hsg (show g ≤ g + k by omega)]
              exact cl_then _ _ _ _ _ _ _ _ _ hg hk
    · intro m d y ts q h1 h3 hh h
      cases ts with
      | nil => exact ⟨1, by simpa [cl, lp] using h⟩
      | cons t ts =>
        rw [lp] at h
        split at h
        · rename_i hb'
          split at h
          · cases h
          · rename_i e hr
            obtain ⟨g, hg⟩ := i1 _ _ _ _ (by omega) (by omega) hr
            refine ⟨g + 1, ?_⟩
            rw [cl, if_pos (by omega), hb', hg]
            exact h
          · rename_i z r hr
            obtain ⟨g, hg⟩ := i1 _ _ _ _ (by omega) (by omega) hr
            have hs := ce_stops hg
            obtain ⟨k, hk⟩ := i2 _ _ _ _ _ h1 h3 (by omega) h
            refine ⟨g + k + 1, ?_⟩
            rw [cl, if_pos (by omega), hb', up_ce hg (show g ≤ g + k by omega)]
            exact up_cl hk (by omega)
        · rename_i hb'
          refine ⟨1, ?_⟩
          have : bd t.t ≤ m := hh
          rw [cl, if_neg (by omega)]
          exact h
    · intro d ts q h
      cases ts with
      | nil => exact ⟨1, by simpa [one, sg] using h⟩
      | cons t ts =>
        rw [one] at h
        by_cases c1 : isN t.t = true
        · exact ⟨1, by rw [sg, if_pos c1]; rw [if_pos c1] at h; exact h⟩
        · rw [if_neg c1] at h
          by_cases c2 : isU t.t = true
          · exact ⟨1, by rw [sg, if_neg c1, if_pos c2]; rw [if_pos c2] at h; exact h⟩
          · rw [if_neg c2] at h
            by_cases c3 : t.t = [40]
            · rw [if_pos c3] at h
              by_cases c4 : d = 8
              · exact ⟨1, by rw [sg, if_neg c1, if_neg c2, if_pos c3, if_pos c4]; rw [if_pos c4] at h; exact h⟩
              · rw [if_neg c4] at h
                split at h
                · cases h
                · rename_i e hr
                  obtain ⟨g, hg⟩ := i1 _ _ _ _ (by omega) (by omega) hr
                  refine ⟨g + 1, ?_⟩
                  rw [sg, if_neg c1, if_neg c2, if_pos c3, if_neg c4, hg]
                  exact h
                · rename_i x r hr
                  obtain ⟨g, hg⟩ := i1 _ _ _ _ (by omega) (by omega) hr
                  refine ⟨g + 1, ?_⟩
                  rw [sg, if_neg c1, if_neg c2, if_pos c3, if_neg c4, hg]
                  exact h
            · exact ⟨1, by rw [sg, if_neg c1, if_neg c2, if_neg c3]; rw [if_neg c3] at h; exact h⟩
end
end Go.Proofs.YtococaecjecjgaaGreatDoor.ex
namespace Go.Proofs.YtococaecjecjgaaGreatDoor.ex
set_option linter.unusedVariables false
open Go.ChangeShapes Go.WideShapes Go.ChangeAt Go.RowKit
open mem lx

def cellsX (code a n : Int) (nm op : List UInt8) (l r : Value) : Obj := .cells #[.int .i64 code, .int .i64 a, .int .i64 n, .string (tx nm), .string (tx op), l, r] 152 (0, 0)
def IsX (w : World) : Value → Ex → Prop
  | v, .num a n => ∃ b, v = .pointer (some ⟨b, 0, none⟩) ∧ w.heap[b]? = some (cellsX 1 a n [] [] (.pointer none) (.pointer none))
  | v, .nam a t => ∃ b, v = .pointer (some ⟨b, 0, none⟩) ∧ w.heap[b]? = some (cellsX 2 a 0 t [] (.pointer none) (.pointer none))
  | v, .bin a o l r => ∃ b vl vr, v = .pointer (some ⟨b, 0, none⟩) ∧ w.heap[b]? = some (cellsX 3 a 0 [] o vl vr) ∧ IsX w vl l ∧ IsX w vr r
def Kx (w w' : World) : Prop := ∀ (b : Nat) (cs : Array Value), w.heap[b]? = some (.cells cs 152 (0, 0)) → w'.heap[b]? = some (.cells cs 152 (0, 0))
theorem Kx.bl {w w' : World} (h : Bl w w') : Kx w w' := fun b cs hb => by rw [Below.block h b (lt_of_heap hb)]; exact hb
theorem Kx.trans {a b c : World} (h : Kx a b) (k : Kx b c) : Kx a c := fun x cs hx => k x cs (h x cs hx)
theorem IsX.keep {w w' : World} (h : Kx w w') {v : Value} {x : Ex} (hx : IsX w v x) : IsX w' v x := by
  induction x generalizing v with
  | num a n =>
    obtain ⟨b, h1, h2⟩ := hx
    exact ⟨b, h1, h _ _ h2⟩
  | nam a t =>
    obtain ⟨b, h1, h2⟩ := hx
    exact ⟨b, h1, h _ _ h2⟩
  | bin a o l r il ir =>
    obtain ⟨b, vl, vr, h1, h2, h3, h4⟩ := hx
    exact ⟨b, vl, vr, h1, h _ _ h2, il h3, ir h4⟩
theorem IsX.ptr {w : World} {v : Value} {x : Ex} (hx : IsX w v x) : ∃ b, v = .pointer (some ⟨b, 0, none⟩) ∧ b < w.heap.size := by
  cases x with
  | num a n => obtain ⟨b, h1, h2⟩ := hx; exact ⟨b, h1, lt_of_heap h2⟩
  | nam a t => obtain ⟨b, h1, h2⟩ := hx; exact ⟨b, h1, lt_of_heap h2⟩
  | bin a o l r => obtain ⟨b, vl, vr, h1, h2, _⟩ := hx; exact ⟨b, h1, lt_of_heap h2⟩
structure Gp (P : Nat) (w w' : World) : Prop where
  os : w'.os = w.os
  tape : w'.tape = w.tape
  output : w'.output = w.output
  size : w.heap.size ≤ w'.heap.size
  block : ∀ k, k < w.heap.size → k ≠ P → w'.heap[k]? = w.heap[k]?
theorem Gp.bl {P : Nat} {w w' : World} (h : Bl w w') : Gp P w w' := ⟨h.os, h.tape, h.output, h.size, fun k hk _ => Below.block h k hk⟩
theorem Gp.refl (P : Nat) (w : World) : Gp P w w := Gp.bl (Bl.refl _)
theorem Gp.trans {P : Nat} {a b c : World} (h : Gp P a b) (k : Gp P b c) : Gp P a c :=
  ⟨k.os.trans h.os, k.tape.trans h.tape, k.output.trans h.output, Nat.le_trans h.size k.size, fun x hx hne => (k.block x (Nat.lt_of_lt_of_le hx h.size) hne).trans (h.block x hx hne)⟩
theorem Gp.set {P j : Nat} {w : World} (v : Value) : Gp P w (w.setCell ⟨P, j, none⟩ v) :=
  let g := grown_set w P j v
  ⟨g.os, g.tape, g.output, g.size, fun k hk hne => g.block k hk (fun e => hne (by injection e))⟩
theorem Gp.setNew {P N j : Nat} {w w' : World} (h : Gp P w w') (hN : w.heap.size ≤ N) (v : Value) : Gp P w (w'.setCell ⟨N, j, none⟩ v) :=
  let g := grown_set w' N j v
  ⟨g.os.trans h.os, g.tape.trans h.tape, g.output.trans h.output, Nat.le_trans h.size g.size, fun k hk hne => (g.block k (Nat.lt_of_lt_of_le hk h.size) (fun e => by injection e with e; omega)).trans (h.block k hk hne)⟩
theorem Gp.alloc {P : Nat} {w w' : World} (h : Gp P w w') (o : Obj) : Gp P w (w'.alloc o) := h.trans (Gp.bl ((Bl.refl _).alloc _))
theorem Gp.kx {P : Nat} {w w' : World} {cs : Array Value} {fz : Nat × Nat} (h : Gp P w w') (hp : w.heap[P]? = some (.cells cs 269 fz)) : Kx w w' := fun b cs' hb => by
  rw [h.block b (lt_of_heap hb) (fun e => by rw [e, hp] at hb; simp at hb)]
  exact hb
theorem Gp.below {P : Nat} {w0 w w' : World} (h0 : Bl w0 w) (h : Gp P w w') (hP : w0.heap.size ≤ P) : Bl w0 w' :=
  ⟨h.os.trans h0.os, h.tape.trans h0.tape, h.output.trans h0.output, Nat.le_trans h0.size h.size, fun k hk => by
    rw [h.block k (Nat.lt_of_lt_of_le hk h0.size) (by omega)]
    exact Below.block h0 k hk⟩
theorem In.gp {P : Nat} {w w' : World} {p : Option Addr} {l : List Tk} (h : tr.In w p l) (hg : Gp P w w') (hp : ∀ x, p = some x → x.block < w.heap.size ∧ x.block ≠ P) : tr.In w' p l := by
  rcases h with h | ⟨x, h1, h2⟩
  · exact Or.inl h
  · refine Or.inr ⟨x, h1, fun k u hk => ?_⟩
    have := h2 k u hk
    obtain ⟨q1, q2⟩ := hp x h1
    have hb : (x.add k).block = x.block := by cases k <;> rfl
    unfold World.cell? at this ⊢
    rw [hb, hg.block _ q1 q2, ← hb]
    exact this
theorem tl_tx (t : List UInt8) : (tx t).toList = t := by rw [ByteArray.toList_eq]; simp [tx]
end Go.Proofs.YtococaecjecjgaaGreatDoor.ex
namespace Go.Proofs.YtococaecjecjgaaGreatDoor.dig
open Go.RowKit

def sb (s : ByteArray) (j : Nat) : Int := ((s.data.toList.getD j 0).toNat : Int)
theorem sb_bd (s : ByteArray) (j : Nat) : 0 ≤ sb s j ∧ sb s j < 256 := by
  unfold sb
  have := (s.data.toList.getD j 0).toNat_lt
  omega
theorem sb_get (s : ByteArray) (j : Nat) (h : j < s.size) : sb s j = ((s[j]'h).toNat : Int) := by
  unfold sb
  have h' : j < s.data.toList.length := by simpa using h
  rw [List.getD_eq_getElem?_getD, List.getElem?_eq_getElem h']
  rfl
def dv (c : Int) : Int := if 48 ≤ c ∧ c ≤ 57 then c - 48 else if 97 ≤ c ∧ c ≤ 102 then c - 87 else if 65 ≤ c ∧ c ≤ 70 then c - 55 else -1
def ch (d : Nat) : Int := if d < 10 then 48 + (d : Int) else 87 + (d : Int)
def pr (b n : Nat) : Nat → List Int
  | 0 => []
  | k + 1 => ch (n / b ^ k % b) :: pr b n k
def pv (b : Nat) (s : ByteArray) : Nat → Nat
  | 0 => 0
  | k + 1 => pv b s k * b + (dv (sb s k)).toNat
theorem pv_mono (b : Nat) (s : ByteArray) (hb : 2 ≤ b) (k j : Nat) (h : k ≤ j) : pv b s k ≤ pv b s j := by
  induction j with
  | zero => obtain rfl : k = 0 := by omega
            exact Nat.le_refl _
  | succ j ih =>
    rcases Nat.lt_or_ge j k with h' | h'
    · obtain rfl : k = j + 1 := by omega
      exact Nat.le_refl _
    · refine Nat.le_trans (ih h') ?_
      show pv b s j ≤ pv b s j * b + _
      exact Nat.le_trans (Nat.le_mul_of_pos_right _ (by omega)) (Nat.le_add_right _ _)
def okD (b : Nat) (s : ByteArray) : Prop := 0 < s.size ∧ ∀ i, i < s.size → 0 ≤ dv (sb s i) ∧ dv (sb s i) < b
end Go.Proofs.YtococaecjecjgaaGreatDoor.dig
