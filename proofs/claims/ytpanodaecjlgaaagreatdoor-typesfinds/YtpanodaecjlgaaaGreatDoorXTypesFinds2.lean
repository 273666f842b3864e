/- Texts laid together: LxP, ExP, TmP, ExQ, ExR. -/
import Derived.Test.YtpanodaecjlgaaaGreatDoorXTypesFinds1
/- Texts, cut into tokens (pure). -/
namespace Go.Proofs.YtpanodaecjlgaaaGreatDoor.lx
set_option linter.unusedVariables false

/-- Letters, digits. -/
def lt (x : Int) : Bool := decide (97 ≤ x) && decide (x ≤ 122) || decide (65 ≤ x) && decide (x ≤ 90) || decide (x = 95)
def dg (x : Int) : Bool := decide (48 ≤ x) && decide (x ≤ 57)
def isL (c : UInt8) : Bool := lt (c.toNat : Int)
def isD (c : UInt8) : Bool := dg (c.toNat : Int)
def isW (c : UInt8) : Bool := isL c || isD c
/-- A blank, a line feed, a tab. -/
def isB (c : UInt8) : Bool := c == 32 || c == 10 || c == 9
/-- Marks of one byte. -/
def singles : List UInt8 := [123, 125, 91, 93, 40, 41, 59, 44, 61, 43, 45, 42, 38, 124, 60, 62]
def isM (c : UInt8) : Bool := singles.contains c
/-- How many bytes are gone over at a time. -/
def rl (l : List UInt8) : Nat := (l.takeWhile (· != 10)).length
def gap : List UInt8 → Nat
  | [] => 0
  | c :: r => if isB c then 1 else if c == 35 then rl (c :: r) else 0
theorem gap_cons (c : UInt8) (r : List UInt8) : gap (c :: r) = if isB c then 1 else if c == 35 then rl (c :: r) else 0 := rfl
/-- The mark that a text begins with: how long it is. -/
def mk : List UInt8 → Nat
  | [] => 0
  | c :: r => if (c == 61 || c == 33) && r.head? == some 61 then 2 else if isM c then 1 else 0
theorem mk_cons (c : UInt8) (r : List UInt8) : mk (c :: r) = if (c == 61 || c == 33) && r.head? == some 61 then 2 else if isM c then 1 else 0 := rfl
/-- The word that a text begins with: how long it is. -/
def wl (l : List UInt8) : Nat := (l.takeWhile isW).length
/-- The token. -/
def tl (l : List UInt8) : Nat := if wl l = 0 then mk l else wl l
/-- A token. -/
structure Tk where
  t : List UInt8
  a : Nat
deriving DecidableEq, Inhabited
/-- All tokens; where none begins. -/
def lxn : Nat → List UInt8 → Nat → List Tk × Option Nat
  | 0, _, _ => ([], none)
  | _ + 1, [], _ => ([], none)
  | n + 1, c :: r, a =>
    if 0 < gap (c :: r) then lxn n ((c :: r).drop (gap (c :: r))) (a + gap (c :: r))
    else if 0 < tl (c :: r) then (⟨(c :: r).take (tl (c :: r)), a⟩ :: (lxn n ((c :: r).drop (tl (c :: r))) (a + tl (c :: r))).1, (lxn n ((c :: r).drop (tl (c :: r))) (a + tl (c :: r))).2)
    else ([], some a)
def lx (l : List UInt8) (a : Nat) : List Tk × Option Nat := lxn (l.length + 1) l a
theorem tw_le {α : Type} (p : α → Bool) (l : List α) : (l.takeWhile p).length ≤ l.length := (List.takeWhile_prefix p).length_le
theorem gap_le (l : List UInt8) : gap l ≤ l.length := by
  cases l with
  | nil => exact Nat.le_refl _
  | cons c r =>
    rw [gap_cons]
    split
    · simp
    · split
      · exact tw_le _ _
      · exact Nat.zero_le _
theorem mk_le (l : List UInt8) : mk l ≤ l.length := by
  cases l with
  | nil => exact Nat.le_refl _
  | cons c r =>
    rw [mk_cons]
    split
    · rename_i h
      cases r with
      | nil => simp at h
      | cons d r => simp
    · split <;> simp
theorem wl_le (l : List UInt8) : wl l ≤ l.length := tw_le _ _
theorem tl_le (l : List UInt8) : tl l ≤ l.length := by
  unfold tl
  split
  · exact mk_le l
  · exact wl_le l
theorem lxn_more (n : Nat) : ∀ (l : List UInt8) (a m : Nat), l.length < n → l.length < m → lxn n l a = lxn m l a := by
  induction n with
  | zero => intro l a m h; omega
  | succ n ih =>
    intro l a m hn hm
    cases m with
    | zero => omega
    | succ m =>
      cases l with
      | nil => rfl
      | cons c r =>
        simp only [lxn]
        by_cases hg : 0 < gap (c :: r)
        · rw [if_pos hg, if_pos hg]
          exact ih _ _ _ (by rw [List.length_drop]; simp only [List.length_cons] at *; omega) (by rw [List.length_drop]; simp only [List.length_cons] at *; omega)
        · rw [if_neg hg, if_neg hg]
          by_cases ht : 0 < tl (c :: r)
          · rw [if_pos ht, if_pos ht]
            rw [ih _ _ m (by rw [List.length_drop]; simp only [List.length_cons] at *; omega) (by rw [List.length_drop]; simp only [List.length_cons] at *; omega)]
          · rw [if_neg ht, if_neg ht]
theorem lx_nil (a : Nat) : lx [] a = ([], none) := rfl
theorem lx_gap (l : List UInt8) (a : Nat) (h : 0 < gap l) : lx l a = lx (l.drop (gap l)) (a + gap l) := by
  cases l with
  | nil => exact absurd h (Nat.lt_irrefl _)
  | cons c r =>
    have e : lx (c :: r) a = lxn (r.length + 1) ((c :: r).drop (gap (c :: r))) (a + gap (c :: r)) := by
      show lxn (r.length + 1 + 1) (c :: r) a = _
      simp only [lxn]
      rw [if_pos h]
    rw [e]
    exact lxn_more _ _ _ _ (by rw [List.length_drop]; simp; omega) (by omega)
theorem lx_tok (l : List UInt8) (a : Nat) (hg : gap l = 0) (h : 0 < tl l) : lx l a = (⟨l.take (tl l), a⟩ :: (lx (l.drop (tl l)) (a + tl l)).1, (lx (l.drop (tl l)) (a + tl l)).2) := by
  cases l with
  | nil => exact absurd h (Nat.lt_irrefl _)
  | cons c r =>
    have e : lxn (r.length + 1) ((c :: r).drop (tl (c :: r))) (a + tl (c :: r)) = lx ((c :: r).drop (tl (c :: r))) (a + tl (c :: r)) :=
      lxn_more _ _ _ _ (by rw [List.length_drop]; simp; omega) (by omega)
    show lxn (r.length + 1 + 1) (c :: r) a = _
    simp only [lxn]
    rw [if_neg (by omega), if_pos h, e]
theorem lx_bad (l : List UInt8) (a : Nat) (hl : l ≠ []) (hg : gap l = 0) (h : tl l = 0) : lx l a = ([], some a) := by
  cases l with
  | nil => exact absurd rfl hl
  | cons c r =>
    show lxn (r.length + 1 + 1) (c :: r) a = _
    simp only [lxn]
    rw [if_neg (by omega), if_neg (by omega)]
/-- What is a token. -/
def IsT (x : List UInt8) : Prop := (x ≠ [] ∧ ∀ c ∈ x, isW c = true) ∨ (∃ c, x = [c] ∧ isM c = true) ∨ x = [61, 61] ∨ x = [33, 61]
set_option maxRecDepth 100000 in
theorem isW_not (c : UInt8) (h : isW c = true) : isB c = false ∧ (c == 35) = false ∧ isM c = false ∧ (c == 61 || c == 33) = false := by
  have key : ∀ c : Fin 256, isW (UInt8.ofNat c.1) = true → isB (UInt8.ofNat c.1) = false ∧ (UInt8.ofNat c.1 == 35) = false ∧ isM (UInt8.ofNat c.1) = false ∧ (UInt8.ofNat c.1 == 61 || UInt8.ofNat c.1 == 33) = false := by decide
  have := key ⟨c.toNat, c.toNat_lt⟩
  simp only [UInt8.ofNat_toNat] at this
  exact this h
set_option maxRecDepth 100000 in
theorem isM_not (c : UInt8) (h : isM c = true ∨ (c == 61 || c == 33) = true) : isB c = false ∧ (c == 35) = false ∧ isW c = false := by
  have key : ∀ c : Fin 256, isM (UInt8.ofNat c.1) = true ∨ (UInt8.ofNat c.1 == 61 || UInt8.ofNat c.1 == 33) = true → isB (UInt8.ofNat c.1) = false ∧ (UInt8.ofNat c.1 == 35) = false ∧ isW (UInt8.ofNat c.1) = false := by decide
  have := key ⟨c.toNat, c.toNat_lt⟩
  simp only [UInt8.ofNat_toNat] at this
  exact this h
theorem tw_mem {p : UInt8 → Bool} {l : List UInt8} {c : UInt8} (h : c ∈ l.takeWhile p) : p c = true := by
  induction l with
  | nil => simp at h
  | cons d l ih =>
    by_cases hd : p d = true
    · rw [List.takeWhile_cons_of_pos hd, List.mem_cons] at h
      rcases h with rfl | h
      · exact hd
      · exact ih h
    · rw [List.takeWhile_cons_of_neg hd] at h
      simp at h
theorem tl_isT (l : List UInt8) (h : 0 < tl l) : IsT (l.take (tl l)) := by
  unfold tl at h ⊢
  by_cases hw : wl l = 0
  · rw [if_pos hw] at h ⊢
    cases l with
    | nil => exact absurd h (Nat.lt_irrefl _)
    | cons c r =>
      rw [mk_cons] at h ⊢
      by_cases h2 : ((c == 61 || c == 33) && r.head? == some 61) = true
      · rw [if_pos h2]
        simp only [Bool.and_eq_true, Bool.or_eq_true, beq_iff_eq] at h2
        cases r with
        | nil => simp at h2
        | cons d r =>
          simp at h2
          obtain ⟨h3, rfl⟩ := h2
          rcases h3 with rfl | rfl
          · exact Or.inr (Or.inr (Or.inl rfl))
          · exact Or.inr (Or.inr (Or.inr rfl))
      · rw [if_neg h2] at h ⊢
        by_cases h1 : isM c = true
        · rw [if_pos h1]
          exact Or.inr (Or.inl ⟨c, rfl, h1⟩)
        · rw [if_neg h1] at h
          exact absurd h (Nat.lt_irrefl _)
  · rw [if_neg hw]
    have e : l.take (wl l) = l.takeWhile isW := by
      unfold wl
      exact (List.prefix_iff_eq_take.1 (List.takeWhile_prefix isW)).symm
    rw [e]
    refine Or.inl ⟨?_, ?_⟩
    · intro e2
      unfold wl at hw
      rw [e2] at hw
      exact hw rfl
    · intro c hc
      exact tw_mem hc
theorem wl_app (x y : List UInt8) (hx : ∀ c ∈ x, isW c = true) (hy : ∀ c, y.head? = some c → isW c = false) : wl (x ++ y) = x.length := by
  unfold wl
  rw [List.takeWhile_append_of_pos hx, List.length_append]
  cases y with
  | nil => rfl
  | cons c y => rw [List.takeWhile_cons_of_neg (by rw [hy c rfl]; decide)]; rfl
/-- A token, and what may stand right behind it. -/
theorem tok_app (x y : List UInt8) (hx : IsT x) (h1 : (∀ c ∈ x, isW c = true) → ∀ c, y.head? = some c → isW c = false) (h2 : x = [61] → y.head? ≠ some 61) : gap (x ++ y) = 0 ∧ tl (x ++ y) = x.length ∧ 0 < x.length := by
  rcases hx with ⟨hx0, hx⟩ | ⟨c, rfl, hc⟩ | rfl | rfl
  · cases x with
    | nil => exact absurd rfl hx0
    | cons c x =>
      obtain ⟨g1, g2, g3, g4⟩ := isW_not c (hx c (by simp))
      have hw := wl_app _ _ hx (h1 hx)
      refine ⟨?_, ?_, by simp⟩
      · show gap (c :: (x ++ y)) = 0
        rw [gap_cons]
        rw [if_neg (by rw [g1]; decide), if_neg (by rw [g2]; decide)]
      · unfold tl
        rw [hw, if_neg (by simp)]
  · obtain ⟨g1, g2, g3⟩ := isM_not c (Or.inl hc)
    refine ⟨?_, ?_, by simp⟩
    · show gap (c :: y) = 0
      rw [gap_cons]
      rw [if_neg (by rw [g1]; decide), if_neg (by rw [g2]; decide)]
    · show tl (c :: y) = 1
      have hw : wl (c :: y) = 0 := by unfold wl; rw [List.takeWhile_cons_of_neg (by rw [g3]; decide)]; rfl
      unfold tl
      rw [if_pos hw]
      rw [mk_cons]
      rw [if_neg, if_pos hc]
      intro h
      simp only [Bool.and_eq_true, Bool.or_eq_true, beq_iff_eq] at h
      rcases h with ⟨rfl | rfl, h⟩
      · exact h2 rfl h
      · revert hc; decide
  · exact ⟨rfl, rfl, by simp⟩
  · exact ⟨rfl, rfl, by simp⟩
theorem lx_app (x y : List UInt8) (a : Nat) (hx : IsT x) (h1 : (∀ c ∈ x, isW c = true) → ∀ c, y.head? = some c → isW c = false) (h2 : x = [61] → y.head? ≠ some 61) :
    lx (x ++ y) a = (⟨x, a⟩ :: (lx y (a + x.length)).1, (lx y (a + x.length)).2) := by
  obtain ⟨g1, g2, g3⟩ := tok_app x y hx h1 h2
  have := lx_tok (x ++ y) a g1 (by omega)
  rw [g2] at this
  rw [this]
  simp
theorem lx_blank (c : UInt8) (y : List UInt8) (a : Nat) (h : isB c = true) : lx (c :: y) a = lx y (a + 1) := by
  have e : gap (c :: y) = 1 := by rw [gap_cons]; rw [if_pos h]
  rw [lx_gap _ _ (by omega), e]
  rfl
end Go.Proofs.YtpanodaecjlgaaaGreatDoor.lx
/- Expressions: how tokens are read, in two ways (pure). -/
namespace Go.Proofs.YtpanodaecjlgaaaGreatDoor.ex
set_option linter.unusedVariables false
open lx

/-- An expression. -/
inductive Ex where
  | num (a : Nat) (n : Int)
  | nam (a : Nat) (t : List UInt8)
  | bin (a : Nat) (o : List UInt8) (l r : Ex)
deriving Inhabited
/-- How much an op binds. -/
def bd (t : List UInt8) : Nat :=
  if t = [61, 61] ∨ t = [33, 61] ∨ t = [60] ∨ t = [62] then 1 else if t = [43] ∨ t = [45] ∨ t = [124] then 2 else if t = [42] ∨ t = [38] then 3 else 0
theorem bd_le (t : List UInt8) : bd t ≤ 3 := by unfold bd; split <;> (try split) <;> (try split) <;> omega
def isN (t : List UInt8) : Bool := match t.head? with | some c => isL c | none => false
def isU (t : List UInt8) : Bool := match t.head? with | some c => isD c | none => false
/-- The token that comes now. -/
def hd (en : Nat) : List Tk → Tk
  | [] => ⟨[], en⟩
  | t :: _ => t
def hb (ts : List Tk) : Nat := match ts with | [] => 0 | t :: _ => bd t.t
abbrev Res := Except (Int × Nat) (Ex × List Tk)
section
variable (nb : List UInt8 → Int × Int) (en : Nat)
mutual
def row : Nat → Nat → Nat → List Tk → Option Res
  | 0, _, _, _ => none
  | f + 1, m, d, ts =>
    if 3 < m then one f d ts
    else match row f (m + 1) d ts with
      | none => none
      | some (.error e) => some (.error e)
      | some (.ok (x, r)) => lp f m d x r
def lp : Nat → Nat → Nat → Ex → List Tk → Option Res
  | 0, _, _, _, _ => none
  | _ + 1, _, _, x, [] => some (.ok (x, []))
  | f + 1, m, d, x, t :: r =>
    if bd t.t = m then
      match row f (m + 1) d r with
      | none => none
      | some (.error e) => some (.error e)
      | some (.ok (y, r')) => lp f m d (.bin t.a t.t x y) r'
    else some (.ok (x, t :: r))
def one : Nat → Nat → List Tk → Option Res
  | 0, _, _ => none
  | _ + 1, _, [] => some (.error (3, en))
  | f + 1, d, t :: r =>
    if isN t.t then (if 12 < t.t.length then some (.error (4, t.a)) else some (.ok (.nam t.a t.t, r)))
    else if isU t.t then (if (nb t.t).2 = 0 then some (.ok (.num t.a (nb t.t).1, r)) else some (.error ((nb t.t).2, t.a)))
    else if t.t = [40] then
      (if d = 8 then some (.error (4, t.a))
      else match row f 1 (d + 1) r with
        | none => none
        | some (.error e) => some (.error e)
        | some (.ok (x, r')) => if (hd en r').t = [41] then some (.ok (x, r'.tail)) else some (.error (3, (hd en r').a)))
    else some (.error (3, t.a))
end
mutual
def ce : Nat → Nat → Nat → List Tk → Option Res
  | 0, _, _, _ => none
  | f + 1, m, d, ts =>
    match sg f d ts with
      | none => none
      | some (.error e) => some (.error e)
      | some (.ok (x, r)) => cl f m d x r
def cl : Nat → Nat → Nat → Ex → List Tk → Option Res
  | 0, _, _, _, _ => none
  | _ + 1, _, _, x, [] => some (.ok (x, []))
  | f + 1, m, d, x, t :: r =>
    if m ≤ bd t.t ∧ 0 < bd t.t then
      match ce f (bd t.t + 1) d r with
      | none => none
      | some (.error e) => some (.error e)
      | some (.ok (y, r')) => cl f m d (.bin t.a t.t x y) r'
    else some (.ok (x, t :: r))
def sg : Nat → Nat → List Tk → Option Res
  | 0, _, _ => none
  | _ + 1, _, [] => some (.error (3, en))
  | f + 1, d, t :: r =>
    if isN t.t then (if 12 < t.t.length then some (.error (4, t.a)) else some (.ok (.nam t.a t.t, r)))
    else if isU t.t then (if (nb t.t).2 = 0 then some (.ok (.num t.a (nb t.t).1, r)) else some (.error ((nb t.t).2, t.a)))
    else if t.t = [40] then
      (if d = 8 then some (.error (4, t.a))
      else match ce f 1 (d + 1) r with
        | none => none
        | some (.error e) => some (.error e)
        | some (.ok (x, r')) => if (hd en r').t = [41] then some (.ok (x, r'.tail)) else some (.error (3, (hd en r').a)))
    else some (.error (3, t.a))
end
variable {nb en}
theorem row_top (f m d : Nat) (ts : List Tk) (h : 3 < m) : row nb en (f + 1) m d ts = one nb en f d ts := by rw [row, if_pos h]
theorem row_low (f m d : Nat) (ts : List Tk) (h : ¬ 3 < m) : row nb en (f + 1) m d ts = match row nb en f (m + 1) d ts with
      | none => none
      | some (.error e) => some (.error e)
      | some (.ok (x, r)) => lp nb en f m d x r := by rw [row, if_neg h]
/-- What is read is gone. -/
theorem len_all (f : Nat) : (∀ m d ts x r, row nb en f m d ts = some (.ok (x, r)) → r.length < ts.length) ∧ (∀ m d y ts x r, lp nb en f m d y ts = some (.ok (x, r)) → r.length ≤ ts.length) ∧ (∀ d ts x r, one nb en f d ts = some (.ok (x, r)) → r.length < ts.length) := by
  induction f with
  | zero => exact ⟨fun _ _ _ _ _ h => by simp [row] at h, fun _ _ _ _ _ _ h => by simp [lp] at h, fun _ _ _ _ h => by simp [one] at h⟩
  | succ f ih =>
    obtain ⟨i1, i2, i3⟩ := ih
    refine ⟨?_, ?_, ?_⟩
    · intro m d ts x r h
      by_cases hm : 3 < m
      · rw [row_top _ _ _ _ hm] at h
        exact i3 _ _ _ _ h
      · rw [row_low _ _ _ _ hm] at h
        split at h
        · cases h
        · cases h
        · rename_i y r' hr
          have := i1 _ _ _ _ _ hr
          have := i2 _ _ _ _ _ _ h
          omega
    · intro m d y ts x r h
      cases ts with
      | nil =>
        simp only [lp, Option.some.injEq, Except.ok.injEq, Prod.mk.injEq] at h
        rw [← h.2]
        exact Nat.le_refl _
      | cons t ts =>
        rw [lp] at h
        split at h
        · split at h
          · cases h
          · cases h
          · rename_i z r' hr
            have := i1 _ _ _ _ _ hr
            have := i2 _ _ _ _ _ _ h
            simp only [List.length_cons]
            omega
        · simp only [Option.some.injEq, Except.ok.injEq, Prod.mk.injEq] at h
          rw [← h.2]
          exact Nat.le_refl _
    · intro d ts x r h
      cases ts with
      | nil => simp [one] at h
      | cons t ts =>
        rw [one] at h
        split at h
        · split at h
          · simp at h
          · simp at h; rw [← h.2]; simp
        · split at h
          · split at h
            · simp at h; rw [← h.2]; simp
            · simp at h
          · split at h
            · split at h
              · simp at h
              · split at h
                · cases h
                · cases h
                · rename_i z r' hr
                  have := i1 _ _ _ _ _ hr
                  split at h
                  · simp at h; rw [← h.2, List.length_tail]; simp; omega
                  · simp at h
            · simp at h
/-- There is always an answer. -/
theorem some_all (f : Nat) : (∀ m d ts, m ≤ 4 → 10 * ts.length + (5 - m) < f → row nb en f m d ts ≠ none) ∧ (∀ m d y ts, m ≤ 3 → 10 * ts.length + 1 < f → lp nb en f m d y ts ≠ none) ∧ (∀ d ts, 10 * ts.length < f → one nb en f d ts ≠ none) := by
  induction f with
  | zero => exact ⟨fun _ _ _ _ h => by omega, fun _ _ _ _ _ h => by omega, fun _ _ h => by omega⟩
  | succ f ih =>
    obtain ⟨i1, i2, i3⟩ := ih
    obtain ⟨l1, l2, l3⟩ := len_all (nb := nb) (en := en) f
    refine ⟨?_, ?_, ?_⟩
    · intro m d ts hm4 hf
      by_cases hm : 3 < m
      · rw [row_top _ _ _ _ hm]
        exact i3 _ _ (by omega)
      · rw [row_low _ _ _ _ hm]
        split
        · rename_i hr
          exact absurd hr (i1 _ _ _ (by omega) (by omega))
        · simp
        · rename_i y r' hr
          have := l1 _ _ _ _ _ hr
          exact i2 _ _ _ _ (by omega) (by omega)
    · intro m d y ts hm hf
      cases ts with
      | nil => simp [lp]
      | cons t ts =>
        simp only [List.length_cons] at hf
        rw [lp]
        split
        · split
          · rename_i hr
            exact absurd hr (i1 _ _ _ (by omega) (by omega))
          · simp
          · rename_i z r' hr
            have := l1 _ _ _ _ _ hr
            exact i2 _ _ _ _ (by omega) (by omega)
        · simp
    · intro d ts hf
      cases ts with
      | nil => simp [one]
      | cons t ts =>
        simp only [List.length_cons] at hf
        rw [one]
        split
        · split <;> simp
        · split
          · split <;> simp
          · split
            · split
              · simp
              · split
                · rename_i hr
                  exact absurd hr (i1 _ _ _ (by omega) (by omega))
                · simp
                · split <;> simp
            · simp
theorem up_all (f : Nat) : (∀ m d ts q, ce nb en f m d ts = some q → ce nb en (f + 1) m d ts = some q) ∧ (∀ m d y ts q, cl nb en f m d y ts = some q → cl nb en (f + 1) m d y ts = some q) ∧ (∀ d ts q, sg nb en f d ts = some q → sg nb en (f + 1) d ts = some q) := by
  induction f with
  | zero => exact ⟨fun _ _ _ _ h => by simp [ce] at h, fun _ _ _ _ _ h => by simp [cl] at h, fun _ _ _ h => by simp [sg] at h⟩
  | succ f ih =>
    obtain ⟨i1, i2, i3⟩ := ih
    refine ⟨?_, ?_, ?_⟩
    · intro m d ts q h
      rw [ce] at h ⊢
      split at h
      · cases h
      · rename_i e hr
        rw [i3 _ _ _ hr]
        exact h
      · rename_i x r hr
        rw [i3 _ _ _ hr]
        exact i2 _ _ _ _ _ h
    · intro m d y ts q h
      cases ts with
      | nil => simpa [cl] using h
      | cons t ts =>
        rw [cl] at h ⊢
        split at h
        · rename_i hc
          rw [if_pos hc]
          split at h
          · cases h
          · rename_i e hr
            rw [i1 _ _ _ _ hr]
            exact h
          · rename_i x r hr
            rw [i1 _ _ _ _ hr]
            exact i2 _ _ _ _ _ h
        · rename_i hc
          rw [if_neg hc]
          exact h
    · intro d ts q h
      cases ts with
      | nil => simpa [sg] using h
      | cons t ts =>
        rw [sg] at h ⊢
        split at h
        · rename_i h1
          rw [if_pos h1]; exact h
        · rename_i h1
          rw [if_neg h1]
          split at h
          · rename_i h2
            rw [if_pos h2]; exact h
          · rename_i h2
            rw [if_neg h2]
            split at h
            · rename_i h3
              rw [if_pos h3]
              split at h
              · rename_i h4
                rw [if_pos h4]; exact h
              · rename_i h4
                rw [if_neg h4]
                split at h
                · cases h
                · rename_i e hr
                  rw [i1 _ _ _ _ hr]; exact h
                · rename_i x r hr
                  rw [i1 _ _ _ _ hr]; exact h
            · rename_i h3
              rw [if_neg h3]; exact h
theorem up_ce {f g m d : Nat} {ts : List Tk} {q : Res} (h : ce nb en f m d ts = some q) (hg : f ≤ g) : ce nb en g m d ts = some q := by
  induction g with
  | zero => obtain rfl : f = 0 := by omega
            exact h
  | succ g ih =>
    rcases Nat.lt_or_ge g f with h1 | h1
    · obtain rfl : f = g + 1 := by omega
      exact h
    · exact (up_all g).1 _ _ _ _ (ih h1)
theorem up_cl {f g m d : Nat} {y : Ex} {ts : List Tk} {q : Res} (h : cl nb en f m d y ts = some q) (hg : f ≤ g) : cl nb en g m d y ts = some q := by
  induction g with
  | zero => obtain rfl : f = 0 := by omega
            exact h
  | succ g ih =>
    rcases Nat.lt_or_ge g f with h1 | h1
    · obtain rfl : f = g + 1 := by omega
      exact h
    · exact (up_all g).2.1 _ _ _ _ _ (ih h1)
theorem up_sg {f g d : Nat} {ts : List Tk} {q : Res} (h : sg nb en f d ts = some q) (hg : f ≤ g) : sg nb en g d ts = some q := by
  induction g with
  | zero => obtain rfl : f = 0 := by omega
            exact h
  | succ g ih =>
    rcases Nat.lt_or_ge g f with h1 | h1
    · obtain rfl : f = g + 1 := by omega
      exact h
    · exact (up_all g).2.2 _ _ _ (ih h1)
/-- Where the loop ends, what comes next binds less. -/
theorem cl_stops (f : Nat) : ∀ m d y ts x r, cl nb en f m d y ts = some (.ok (x, r)) → hb r < m ∨ hb r = 0 := by
  induction f with
  | zero => intro m d y ts x r h; simp [cl] at h
  | succ f ih =>
    intro m d y ts x r h
    cases ts with
    | nil =>
      simp only [cl, Option.some.injEq, Except.ok.injEq, Prod.mk.injEq] at h
      rw [← h.2]
      exact Or.inr rfl
    | cons t ts =>
      rw [cl] at h
      split at h
      · split at h
        · cases h
        · cases h
        · exact ih _ _ _ _ _ _ h
      · rename_i hc
        simp only [Option.some.injEq, Except.ok.injEq, Prod.mk.injEq] at h
        rw [← h.2]
        show bd t.t < m ∨ bd t.t = 0
        omega
theorem ce_stops {f m d : Nat} {ts r : List Tk} {x : Ex} (h : ce nb en f m d ts = some (.ok (x, r))) : hb r < m ∨ hb r = 0 := by
  cases f with
  | zero => simp [ce] at h
  | succ f =>
    rw [ce] at h
    split at h
    · cases h
    · cases h
    · exact cl_stops _ _ _ _ _ _ _ h
/-- What ops that bind more join, and then what others do. -/
theorem cl_err (f : Nat) : ∀ m d y ts e, cl nb en f (m + 1) d y ts = some (.error e) → cl nb en f m d y ts = some (.error e) := by
  induction f with
  | zero => intro m d y ts e h; simp [cl] at h
  | succ f ih =>
    intro m d y ts e h
    cases ts with
    | nil => simp [cl] at h
    | cons t ts =>
      rw [cl] at h ⊢
      split at h
      · rename_i hc
        rw [if_pos (by omega)]
        split at h
        · cases h
        · exact h
        · exact ih _ _ _ _ _ h
      · simp at h
theorem cl_then (f : Nat) : ∀ m d y ts x r g q, cl nb en f (m + 1) d y ts = some (.ok (x, r)) → cl nb en g m d x r = some q → cl nb en (f + g) m d y ts = some q := by
  induction f with
  | zero => intro m d y ts x r g q h; simp [cl] at h
  | succ f ih =>
    intro m d y ts x r g q h hg
    cases ts with
    | nil =>
      simp only [cl, Option.some.injEq, Except.ok.injEq, Prod.mk.injEq] at h
      obtain ⟨rfl, rfl⟩ := h
      exact up_cl hg (by omega)
    | cons t ts =>
      rw [cl] at h
      split at h
      · rename_i hc
        split at h
        · cases h
        · cases h
        · rename_i z r' hr
          have h1 := ih _ _ _ _ _ _ _ _ h hg
          have h2 := up_ce hr (show f ≤ f + g by omega)
          rw [show f + 1 + g = f + g + 1 by omega, cl, if_pos (by omega), h2]
          exact h1
      · simp only [Option.some.injEq, Except.ok.injEq, Prod.mk.injEq] at h
        obtain ⟨rfl, rfl⟩ := h
        exact up_cl hg (by omega)
/-- Both ways are one. -/
theorem both_ways (f : Nat) : (∀ m d ts q, 1 ≤ m → m ≤ 4 → row nb en f m d ts = some q → ∃ g, ce nb en g m d ts = some q) ∧ (∀ m d y ts q, 1 ≤ m → m ≤ 3 → (hb ts ≤ m) → lp nb en f m d y ts = some q → ∃ g, cl nb en g m d y ts = some q) ∧ (∀ d ts q, one nb en f d ts = some q → ∃ g, sg nb en g d ts = some q) := by
  induction f with
  | zero => exact ⟨fun _ _ _ _ _ _ h => by simp [row] at h, fun _ _ _ _ _ _ _ _ h => by simp [lp] at h, fun _ _ _ h => by simp [one] at h⟩
  | succ f ih =>
    obtain ⟨i1, i2, i3⟩ := ih
    refine ⟨?_, ?_, ?_⟩
    · intro m d ts q h1 h4 h
      by_cases hm : 3 < m
      · obtain rfl : m = 4 := by omega
        rw [row_top _ _ _ _ hm] at h
        obtain ⟨g, hg⟩ := i3 _ _ _ h
        refine ⟨g + 2, ?_⟩
        rw [ce, up_sg hg (Nat.le_succ g)]
        cases q with
        | error e => rfl
        | ok p =>
          obtain ⟨x, r⟩ := p
          show cl nb en (g + 1) 4 d x r = _
          cases r with
          | nil => rw [cl]
          | cons t r => rw [cl, if_neg (by have := bd_le t.t; omega)]
      · rw [row_low _ _ _ _ hm] at h
        split at h
        · cases h
        · rename_i e hr
          obtain ⟨g, hg⟩ := i1 _ _ _ _ (by omega) (by omega) hr
          refine ⟨g, ?_⟩
          cases g with
          | zero => simp [ce] at hg
          | succ g =>
            rw [ce] at hg ⊢
            split at hg
            · cases hg
            · rw [hg]; exact h
            · rw [cl_err _ _ _ _ _ _ hg]; exact h
        · rename_i x r hr
          obtain ⟨g, hg⟩ := i1 _ _ _ _ (by omega) (by omega) hr
          have hs := ce_stops hg
          obtain ⟨k, hk⟩ := i2 _ _ _ _ _ h1 (by omega) (by omega) h
          cases g with
          | zero => simp [ce] at hg
          | succ g =>
            rw [ce] at hg
            split at hg
            · cases hg
            · cases hg
            · rename_i y r' hsg
              refine ⟨g + k + 1, ?_⟩
              rw [ce, up_sg hsg (show g ≤ g + k by omega)]
              exact cl_then _ _ _ _ _ _ _ _ _ hg hk
    · intro m d y ts q h1 h3 hh h
      cases ts with
      | nil => exact ⟨1, by simpa [cl, lp] using h⟩
      | cons t ts =>
        rw [lp] at h
        split at h
        · rename_i hb'
          split at h
          · cases h
          · rename_i e hr
            obtain ⟨g, hg⟩ := i1 _ _ _ _ (by omega) (by omega) hr
            refine ⟨g + 1, ?_⟩
            rw [cl, if_pos (by omega), hb', hg]
            exact h
          · rename_i z r hr
            obtain ⟨g, hg⟩ := i1 _ _ _ _ (by omega) (by omega) hr
            have hs := ce_stops hg
            obtain ⟨k, hk⟩ := i2 _ _ _ _ _ h1 h3 (by omega) h
            refine ⟨g + k + 1, ?_⟩
            rw [cl, if_pos (by omega), hb', up_ce hg (show g ≤ g + k by omega)]
            exact up_cl hk (by omega)
        · rename_i hb'
          refine ⟨1, ?_⟩
          have : bd t.t ≤ m := hh
          rw [cl, if_neg (by omega)]
          exact h
    · intro d ts q h
      cases ts with
      | nil => exact ⟨1, by simpa [one, sg] using h⟩
      | cons t ts =>
        rw [one] at h
        by_cases c1 : isN t.t = true
        · exact ⟨1, by rw [sg, if_pos c1]; rw [if_pos c1] at h; exact h⟩
        · rw [if_neg c1] at h
          by_cases c2 : isU t.t = true
          · exact ⟨1, by rw [sg, if_neg c1, if_pos c2]; rw [if_pos c2] at h; exact h⟩
          · rw [if_neg c2] at h
            by_cases c3 : t.t = [40]
            · rw [if_pos c3] at h
              by_cases c4 : d = 8
              · exact ⟨1, by rw [sg, if_neg c1, if_neg c2, if_pos c3, if_pos c4]; rw [if_pos c4] at h; exact h⟩
              · rw [if_neg c4] at h
                split at h
                · cases h
                · rename_i e hr
                  obtain ⟨g, hg⟩ := i1 _ _ _ _ (by omega) (by omega) hr
                  refine ⟨g + 1, ?_⟩
                  rw [sg, if_neg c1, if_neg c2, if_pos c3, if_neg c4, hg]
                  exact h
                · rename_i x r hr
                  obtain ⟨g, hg⟩ := i1 _ _ _ _ (by omega) (by omega) hr
                  refine ⟨g + 1, ?_⟩
                  rw [sg, if_neg c1, if_neg c2, if_pos c3, if_neg c4, hg]
                  exact h
            · exact ⟨1, by rw [sg, if_neg c1, if_neg c2, if_neg c3]; rw [if_neg c3] at h; exact h⟩
end
end Go.Proofs.YtpanodaecjlgaaaGreatDoor.ex
/- Templates: how tokens are read (pure). -/
namespace Go.Proofs.YtpanodaecjlgaaaGreatDoor.tm
set_option linter.unusedVariables false
open lx ex

/-- What a part is, but for the parts in it. -/
structure D where
  kd : Nat
  at_ : Nat
  nm : List UInt8
  ty : List UInt8
  wd : Nat
  od : Nat
  sg : Bool
  mn : Bool
  ct : Option Ex
  ru : Nat
  f1 : List UInt8
  l1 : List UInt8
deriving Inhabited
def D0 : D := ⟨0, 0, [], [], 0, 0, false, false, none, 0, [], []⟩
/-- Parts, one behind the other. -/
inductive Its where
  | nil
  | cons (d : D) (sub tl : Its)
deriving Inhabited
def Its.len : Its → Nat
  | .nil => 0
  | .cons _ _ tl => tl.len + 1
/-- A struct. -/
structure Ty where
  nm : List UInt8
  at_ : Nat
  l : Its
deriving Inhabited
def wStruct : List UInt8 := [115, 116, 114, 117, 99, 116]
def wBytes : List UInt8 := [98, 121, 116, 101, 115]
def wWhen : List UInt8 := [119, 104, 101, 110]
def wSize : List UInt8 := [115, 105, 122, 101]
def wCount : List UInt8 := [99, 111, 117, 110, 116]
def wCheck : List UInt8 := [99, 104, 101, 99, 107]
/-- The words for numbers. -/
def numW : List (List UInt8 × Nat × Nat × Bool) :=
  [([117, 56], 1, 0, false), ([105, 56], 1, 0, true),
   ([117, 49, 54, 108, 101], 2, 0, false), ([117, 49, 54, 98, 101], 2, 1, false), ([105, 49, 54, 108, 101], 2, 0, true), ([105, 49, 54, 98, 101], 2, 1, true),
   ([117, 51, 50, 108, 101], 4, 0, false), ([117, 51, 50, 98, 101], 4, 1, false), ([105, 51, 50, 108, 101], 4, 0, true), ([105, 51, 50, 98, 101], 4, 1, true),
   ([105, 54, 52, 108, 101], 8, 0, true), ([105, 54, 52, 98, 101], 8, 1, true)]
def numOf (t : List UInt8) : Option (Nat × Nat × Bool) := (numW.find? (fun p => p.1 == t)).map (·.2)
def resv (t : List UInt8) : Bool := [wStruct, wBytes, wWhen, wSize, wCount, wCheck].contains t || (numOf t).isSome
abbrev Rs (α : Type) := Except (Int × Nat) (α × List Tk)
section
variable (nb : List UInt8 → Int × Int) (en : Nat)
def want (m : List UInt8) (ts : List Tk) : Except (Int × Nat) (List Tk) := if (hd en ts).t = m then .ok ts.tail else .error (3, (hd en ts).a)
def name (ts : List Tk) : Rs (List UInt8) :=
  if resv (hd en ts).t = true ∨ isN (hd en ts).t = false then .error (3, (hd en ts).a)
  else if 12 < (hd en ts).t.length then .error (4, (hd en ts).a)
  else .ok ((hd en ts).t, ts.tail)
/-- An expression, behind which that must stand; up to it. -/
def rx (m : List UInt8) (ts : List Tk) : Rs Ex :=
  match row nb en (10 * ts.length + 10) 1 0 ts with
  | some (.ok (x, r)) => if (hd en r).t = m then .ok (x, r) else .error (3, (hd en r).a)
  | some (.error e) => .error e
  | none => .error (0, 0)
/-- In brackets. -/
def many (ts : List Tk) : Rs Ex :=
  match want en [91] ts with
  | .error e => .error e
  | .ok r => match rx nb en [93] r with
    | .error e => .error e
    | .ok (x, r) => .ok (x, r.tail)
def ruleOf (t : List UInt8) : Nat := if t = wSize then 1 else if t = wCount then 2 else if t = wCheck then 3 else 0
def rule (d : D) (ts : List Tk) : Rs D :=
  if ruleOf (hd en ts).t = 0 then .error (3, (hd en ts).a)
  else match name en ts.tail with
    | .error e => .error e
    | .ok (a, r) =>
      if ruleOf (hd en ts).t = 3 then
        if (hd en r).t = [59] then .ok ({ d with ru := 3, f1 := a, l1 := a }, r)
        else match name en r with
          | .error e => .error e
          | .ok (b, r) => .ok ({ d with ru := 3, f1 := a, l1 := b }, r)
      else .ok ({ d with ru := ruleOf (hd en ts).t, f1 := a }, r)
/-- What a part begins with. -/
def kind (ts : List Tk) : Rs D :=
  match numOf (hd en ts).t with
  | some (w, o, s) => .ok ({ D0 with kd := 1, wd := w, od := o, sg := s }, ts.tail)
  | none => match name en ts with
    | .error e => .error e
    | .ok (t, r) => .ok ({ D0 with kd := 3, ty := t }, r)
/-- How many, or what it hangs on. -/
def mark (d : D) (ts : List Tk) : Rs D :=
  if (hd en ts).t = [91] then match many nb en ts with
    | .error e => .error e
    | .ok (x, r) => .ok ({ d with mn := true, ct := some x }, r)
  else if (hd en ts).t = [61] ∧ d.kd = 1 then rule en d ts.tail
  else .ok (d, ts)
def part (ts : List Tk) : Rs D :=
  match kind en ts with
  | .error e => .error e
  | .ok (d, r) => match name en r with
    | .error e => .error e
    | .ok (t, r) => match mark nb en { d with nm := t } r with
      | .error e => .error e
      | .ok (d, r) => match want en [59] r with
        | .error e => .error e
        | .ok r => .ok (d, r)
def byts (ts : List Tk) : Rs D :=
  match name en ts with
  | .error e => .error e
  | .ok (t, r) => match many nb en r with
    | .error e => .error e
    | .ok (x, r) => match want en [59] r with
      | .error e => .error e
      | .ok r => .ok ({ D0 with kd := 2, nm := t, ct := some x }, r)
variable (inner : List Tk → Rs Its)
def item (ts : List Tk) : Rs (D × Its) :=
  if (hd en ts).t = wWhen then
    match rx nb en [123] ts.tail with
    | .error e => .error e
    | .ok (x, r) => match inner r with
      | .error e => .error e
      | .ok (l, r) => .ok (({ D0 with kd := 4, at_ := (hd en ts).a, ct := some x }, l), r)
  else if (hd en ts).t = wBytes then
    match byts nb en ts.tail with
    | .error e => .error e
    | .ok (d, r) => .ok (({ d with at_ := (hd en ts).a }, .nil), r)
  else match part nb en ts with
    | .error e => .error e
    | .ok (d, r) => .ok (({ d with at_ := (hd en ts).a }, .nil), r)
/-- Parts, up to the bracket: so many more may come. -/
def loop : Nat → List Tk → Rs Its
  | 0, ts => if (hd en ts).t = [125] then .ok (.nil, ts.tail) else .error (4, (hd en ts).a)
  | n + 1, ts =>
    if (hd en ts).t = [125] then .ok (.nil, ts.tail)
    else match item nb en inner ts with
      | .error e => .error e
      | .ok ((d, s), r) => match loop n r with
        | .error e => .error e
        | .ok (l, r) => .ok (.cons d s l, r)
/-- Parts in their brackets: so many brackets more may be opened. -/
def blk : Nat → List Tk → Rs Its
  | 0, ts => if (hd en ts).t = [123] then .error (4, (hd en ts).a) else .error (3, (hd en ts).a)
  | k + 1, ts => if (hd en ts).t = [123] then loop nb en (blk k) 16 ts.tail else .error (3, (hd en ts).a)
/-- Structs: so many more may come. -/
def typs : Nat → List Tk → Except (Int × Nat) (List Ty)
  | _, [] => .ok []
  | 0, t :: _ => if t.t = wStruct then .error (4, t.a) else .error (3, t.a)
  | n + 1, t :: r =>
    if t.t = wStruct then
      match name en r with
      | .error e => .error e
      | .ok (m, r') => match blk nb en 8 r' with
        | .error e => .error e
        | .ok (l, r'') => match typs n r'' with
          | .error e => .error e
          | .ok q => .ok (⟨m, (hd en r).a, l⟩ :: q)
    else .error (3, t.a)
end
end Go.Proofs.YtpanodaecjlgaaaGreatDoor.tm
/- Expressions: as they are written, they are read (pure). -/
namespace Go.Proofs.YtpanodaecjlgaaaGreatDoor.ex
set_option linter.unusedVariables false
open lx
section
variable {nb : List UInt8 → Int × Int} {en : Nat}
theorem upr_all (f : Nat) : (∀ m d ts q, row nb en f m d ts = some q → row nb en (f + 1) m d ts = some q) ∧ (∀ m d y ts q, lp nb en f m d y ts = some q → lp nb en (f + 1) m d y ts = some q) ∧ (∀ d ts q, one nb en f d ts = some q → one nb en (f + 1) d ts = some q) := by
  induction f with
  | zero => exact ⟨fun _ _ _ _ h => by simp [row] at h, fun _ _ _ _ _ h => by simp [lp] at h, fun _ _ _ h => by simp [one] at h⟩
  | succ f ih =>
    obtain ⟨i1, i2, i3⟩ := ih
    refine ⟨?_, ?_, ?_⟩
    · intro m d ts q h
      by_cases hm : 3 < m
      · rw [row_top _ _ _ _ hm] at h ⊢
        exact i3 _ _ _ h
      · rw [row_low _ _ _ _ hm] at h
        rw [row_low _ _ _ _ hm]
        split at h
        · cases h
        · rename_i e hr
          rw [i1 _ _ _ _ hr]
          exact h
        · rename_i x r hr
          rw [i1 _ _ _ _ hr]
          exact i2 _ _ _ _ _ h
    · intro m d y ts q h
      cases ts with
      | nil => simpa [lp] using h
      | cons t ts =>
        rw [lp] at h ⊢
        split at h
        · rename_i hc
          rw [if_pos hc]
          split at h
          · cases h
          · rename_i e hr
            rw [i1 _ _ _ _ hr]
            exact h
          · rename_i x r hr
            rw [i1 _ _ _ _ hr]
            exact i2 _ _ _ _ _ h
        · rename_i hc
          rw [if_neg hc]
          exact h
    · intro d ts q h
      cases ts with
      | nil => simpa [one] using h
      | cons t ts =>
        rw [one] at h ⊢
        split at h
        · rename_i h1
          rw [if_pos h1]; exact h
        · rename_i h1
          rw [if_neg h1]
          split at h
          · rename_i h2
            rw [if_pos h2]; exact h
          · rename_i h2
            rw [if_neg h2]
            split at h
            · rename_i h3
              rw [if_pos h3]
              split at h
              · rename_i h4
                rw [if_pos h4]; exact h
              · rename_i h4
                rw [if_neg h4]
                split at h
                · cases h
                · rename_i e hr
                  rw [i1 _ _ _ _ hr]; exact h
                · rename_i x r hr
                  rw [i1 _ _ _ _ hr]; exact h
            · rename_i h3
              rw [if_neg h3]; exact h
theorem up_row {f g m d : Nat} {ts : List Tk} {q : Res} (h : row nb en f m d ts = some q) (hg : f ≤ g) : row nb en g m d ts = some q := by
  induction g with
  | zero => obtain rfl : f = 0 := by omega
            exact h
  | succ g ih =>
    rcases Nat.lt_or_ge g f with h1 | h1
    · obtain rfl : f = g + 1 := by omega
      exact h
    · exact (upr_all g).1 _ _ _ _ (ih h1)
theorem up_lp {f g m d : Nat} {y : Ex} {ts : List Tk} {q : Res} (h : lp nb en f m d y ts = some q) (hg : f ≤ g) : lp nb en g m d y ts = some q := by
  induction g with
  | zero => obtain rfl : f = 0 := by omega
            exact h
  | succ g ih =>
    rcases Nat.lt_or_ge g f with h1 | h1
    · obtain rfl : f = g + 1 := by omega
      exact h
    · exact (upr_all g).2.1 _ _ _ _ _ (ih h1)
theorem row_one {f g m d : Nat} {ts : List Tk} {p q : Res} (h : row nb en f m d ts = some p) (h' : row nb en g m d ts = some q) : p = q := by
  have h1 := up_row h (Nat.le_max_left f g)
  have h2 := up_row h' (Nat.le_max_right f g)
  rw [h1] at h2
  injection h2
/-- Nothing joins here. -/
theorem lp_stop (f m d : Nat) (x : Ex) (ts : List Tk) (h : hb ts < m) : lp nb en (f + 1) m d x ts = some (.ok (x, ts)) := by
  cases ts with
  | nil => rw [lp]
  | cons t r =>
    have : bd t.t < m := h
    rw [lp, if_neg (by omega)]
/-- What is one thing, as a row. -/
theorem climb (k : Nat) : ∀ (m d f g : Nat) (us ts : List Tk) (x : Ex) (q : Res), m + k = 4 → hb ts ≤ m → one nb en f d us = some (.ok (x, ts)) → lp nb en g m d x ts = some q → ∃ f', row nb en f' m d us = some q := by
  induction k with
  | zero =>
    intro m d f g us ts x q hm hh h1 h2
    obtain rfl : m = 4 := by omega
    refine ⟨f + 1, ?_⟩
    rw [row_top _ _ _ _ (by omega), h1]
    have h3 : hb ts < 4 := by
      cases ts with
      | nil => exact Nat.zero_lt_succ _
      | cons t r => have := bd_le t.t; show bd t.t < 4; omega
    cases g with
    | zero => simp [lp] at h2
    | succ g => rw [lp_stop _ _ _ _ _ h3] at h2; exact h2
  | succ k ih =>
    intro m d f g us ts x q hm hh h1 h2
    obtain ⟨f', hf⟩ := ih (m + 1) d f 1 us ts x (.ok (x, ts)) (by omega) (by omega) h1 (lp_stop _ _ _ _ _ (by omega))
    refine ⟨max f' g + 1, ?_⟩
    rw [row_low _ _ _ _ (by omega), up_row hf (Nat.le_max_left _ _)]
    exact up_lp h2 (Nat.le_max_right _ _)
inductive Sm : Ex → Ex → Prop
  | num (a b : Nat) (k : Int) : Sm (.num a k) (.num b k)
  | nam (a b : Nat) (t : List UInt8) : Sm (.nam a t) (.nam b t)
  | bin (a b : Nat) (o : List UInt8) (l l' r r' : Ex) : Sm l l' → Sm r r' → Sm (.bin a o l r) (.bin b o l' r')
/-- What is one, in brackets, or not: of an expression that must bind so much. -/
def top (x : Ex) : Nat := match x with | .bin _ o _ _ => bd o | _ => 4
variable (dec : Int → List UInt8)
def tk : Ex → List (List UInt8)
  | .num _ n => [dec n]
  | .nam _ t => [t]
  | .bin _ o l r => (if top l < bd o then [40] :: tk l ++ [[41]] else tk l) ++ o :: (if top r < bd o + 1 then [40] :: tk r ++ [[41]] else tk r)
def sk (x : Ex) (m : Nat) : List (List UInt8) := if top x < m then [40] :: tk dec x ++ [[41]] else tk dec x
theorem tk_bin (a : Nat) (o : List UInt8) (l r : Ex) : tk dec (.bin a o l r) = sk dec l (bd o) ++ o :: sk dec r (bd o + 1) := by rw [tk]; rfl
/-- How deep brackets lie. -/
def dp : Ex → Nat
  | .num _ _ => 0
  | .nam _ _ => 0
  | .bin _ o l r => max (if top l < bd o then dp l + 1 else dp l) (if top r < bd o + 1 then dp r + 1 else dp r)
def sd (x : Ex) (m : Nat) : Nat := if top x < m then dp x + 1 else dp x
theorem dp_bin (a : Nat) (o : List UInt8) (l r : Ex) : dp (.bin a o l r) = max (sd l (bd o)) (sd r (bd o + 1)) := by rw [dp]; rfl
theorem sd_mono (x : Ex) (m k : Nat) (h : m ≤ k) : sd x m ≤ sd x k := by
  unfold sd
  split <;> split <;> omega
/-- What reading tells. -/
def Wf : Ex → Prop
  | .num _ n => isN (dec n) = false ∧ isU (dec n) = true ∧ nb (dec n) = (n, 0)
  | .nam _ t => isN t = true ∧ t.length ≤ 12
  | .bin _ o l r => 0 < bd o ∧ Wf l ∧ Wf r
theorem hd_cons (t : Tk) (r : List Tk) : hd en (t :: r) = t := rfl
variable {dec}
/-- What is in brackets, as one. -/
theorem in_brackets {f d p q' : Nat} {us ts : List Tk} {x : Ex} (hd8 : d ≠ 8) (h : row nb en f 1 (d + 1) (us ++ ⟨[41], q'⟩ :: ts) = some (.ok (x, ⟨[41], q'⟩ :: ts))) :
    one nb en (f + 1) d (⟨[40], p⟩ :: (us ++ ⟨[41], q'⟩ :: ts)) = some (.ok (x, ts)) := by
  rw [one, if_neg (by show ¬ isN [40] = true; decide), if_neg (by show ¬ isU [40] = true; decide), if_pos rfl, if_neg hd8, h]
  dsimp only
  rw [hd_cons, if_pos rfl]
  rfl
theorem map_cut {us : List Tk} {a b : List (List UInt8)} (h : us.map Tk.t = a ++ b) : ∃ u v, us = u ++ v ∧ u.map Tk.t = a ∧ v.map Tk.t = b :=
  List.map_eq_append_iff.1 h
theorem map_cons {us : List Tk} {a : List UInt8} {b : List (List UInt8)} (h : us.map Tk.t = a :: b) : ∃ p v, us = ⟨a, p⟩ :: v ∧ v.map Tk.t = b := by
  obtain ⟨u, v, h1, h2, h3⟩ := List.map_eq_cons_iff.1 h
  obtain ⟨t, p⟩ := u
  exact ⟨p, v, by rw [h1]; simp at h2; rw [h2], h3⟩
theorem map_nil {us : List Tk} (h : us.map Tk.t = []) : us = [] := List.map_eq_nil_iff.1 h
/-- What brackets do: from within. -/
theorem brack (x : Ex) (m d : Nat) (us ts : List Tk) (h0 : 1 ≤ m) (h4 : m ≤ 4) (htop : top x < m) (hs : sd x m + d ≤ 8) (hu : us.map Tk.t = sk dec x m) (hh : hb ts ≤ m)
    (C1 : ∀ (d : Nat) (us ts : List Tk), dp x + d ≤ 8 → us.map Tk.t = tk dec x → hb ts ≤ 1 → ∃ x', Sm x x' ∧ ∀ g q, lp nb en g 1 d x' ts = some q → ∃ f, row nb en f 1 d (us ++ ts) = some q) :
    ∃ x', Sm x x' ∧ ∀ g q, lp nb en g m d x' ts = some q → ∃ f, row nb en f m d (us ++ ts) = some q := by
  unfold sk at hu
  rw [if_pos htop] at hu
  obtain ⟨p, v, rfl, hv⟩ := map_cons hu
  obtain ⟨v1, v2, rfl, h1, h2⟩ := map_cut hv
  obtain ⟨p', v3, rfl, h3⟩ := map_cons h2
  obtain rfl := map_nil h3
  unfold sd at hs
  rw [if_pos htop] at hs
  obtain ⟨x', hx, hr⟩ := C1 (d + 1) v1 (⟨[41], p'⟩ :: ts) (by omega) h1 (by show bd [41] ≤ 1; decide)
  obtain ⟨f, hf⟩ := hr 1 _ (lp_stop 0 1 (d + 1) x' (⟨[41], p'⟩ :: ts) (by show bd [41] < 1; decide))
  refine ⟨x', hx, fun g q hg => ?_⟩
  have e := in_brackets (p := p) (show d ≠ 8 by omega) hf
  have e2 : ⟨[40], p⟩ :: (v1 ++ [⟨[41], p'⟩]) ++ ts = (⟨[40], p⟩ : Tk) :: (v1 ++ ⟨[41], p'⟩ :: ts) := by simp
  rw [e2]
  exact climb (4 - m) m d _ g _ ts x' q (by omega) hh e hg
/-- AS IT IS WRITTEN IT IS READ. -/
theorem reads (x : Ex) : ∀ (_ : Wf (nb := nb) dec x) (k m d : Nat) (us ts : List Tk), 1 ≤ m → m + k = 4 → sd x m + d ≤ 8 → us.map Tk.t = sk dec x m → hb ts ≤ m →
    ∃ x', Sm x x' ∧ ∀ g q, lp nb en g m d x' ts = some q → ∃ f, row nb en f m d (us ++ ts) = some q := by
  induction x with
  | num a n =>
    intro hw k m d us ts h0 hk hs hu hh
    have e : sk dec (.num a n) m = [dec n] := by unfold sk; rw [if_neg (by show ¬ 4 < m; omega)]; rfl
    rw [e] at hu
    obtain ⟨p, v, rfl, hv⟩ := map_cons hu
    obtain rfl := map_nil hv
    obtain ⟨w1, w2, w3⟩ := hw
    refine ⟨.num p n, Sm.num _ _ _, fun g q hg => climb k m d 1 g _ ts _ q (by omega) hh ?_ hg⟩
    show one nb en 1 d (⟨dec n, p⟩ :: ts) = _
    rw [one, if_neg (by rw [w1]; decide), if_pos w2, w3, if_pos rfl]
  | nam a t =>
    intro hw k m d us ts h0 hk hs hu hh
    have e : sk dec (.nam a t) m = [t] := by unfold sk; rw [if_neg (by show ¬ 4 < m; omega)]; rfl
    rw [e] at hu
    obtain ⟨p, v, rfl, hv⟩ := map_cons hu
    obtain rfl := map_nil hv
    obtain ⟨w1, w2⟩ := hw
    refine ⟨.nam p t, Sm.nam _ _ _, fun g q hg => climb k m d 1 g _ ts _ q (by omega) hh ?_ hg⟩
    show one nb en 1 d (⟨t, p⟩ :: ts) = _
    rw [one, if_pos w1, if_neg (by show ¬ 12 < t.length; omega)]
  | bin a o l r il ir =>
    intro hw
    obtain ⟨hb0, wl', wr⟩ := hw
    have hb3 := bd_le o
    -- what binds as much, or more, first
    have low : ∀ (j m d : Nat) (us ts : List Tk), 1 ≤ m → m + j = bd o → dp (.bin a o l r) + d ≤ 8 → us.map Tk.t = tk dec (.bin a o l r) → hb ts ≤ m →
        ∃ x', Sm (.bin a o l r) x' ∧ ∀ g q, lp nb en g m d x' ts = some q → ∃ f, row nb en f m d (us ++ ts) = some q := by
      intro j
      induction j with
      | zero =>
        intro m d us ts h0 hj hd hu hh
        obtain rfl : m = bd o := by omega
        rw [dp_bin] at hd
        rw [tk_bin] at hu
        obtain ⟨u, v, rfl, hu1, hv⟩ := map_cut hu
        obtain ⟨p, v', rfl, hv1⟩ := map_cons hv
        obtain ⟨l', sl, cl'⟩ := il wl' (4 - bd o) (bd o) d u ((⟨o, p⟩ : Tk) :: (v' ++ ts)) h0 (by omega) (by omega) hu1 (by show bd o ≤ bd o; omega)
        obtain ⟨r', sr, cr⟩ := ir wr (4 - (bd o + 1)) (bd o + 1) d v' ts (by omega) (by omega) (by omega) hv1 (by omega)
        obtain ⟨f1, hf1⟩ := cr 1 _ (lp_stop 0 (bd o + 1) d r' ts (by omega))
        refine ⟨.bin p o l' r', Sm.bin _ _ _ _ _ _ _ sl sr, fun g q hg => ?_⟩
        have e : u ++ (⟨o, p⟩ :: v') ++ ts = u ++ (⟨o, p⟩ : Tk) :: (v' ++ ts) := by simp
        rw [e]
        refine cl' (max f1 g + 1) q ?_
        rw [lp, if_pos rfl, up_row hf1 (Nat.le_max_left _ _)]
        exact up_lp hg (Nat.le_max_right _ _)
      | succ j ih =>
        intro m d us ts h0 hj hd hu hh
        obtain ⟨x', hx, hc⟩ := ih (m + 1) d us ts (by omega) (by omega) hd hu (by omega)
        refine ⟨x', hx, fun g q hg => ?_⟩
        obtain ⟨f, hf⟩ := hc 1 _ (lp_stop 0 (m + 1) d x' ts (by omega))
        refine ⟨max f g + 1, ?_⟩
        rw [row_low _ _ _ _ (by omega), up_row hf (Nat.le_max_left _ _)]
        exact up_lp hg (Nat.le_max_right _ _)
    intro k m d us ts h0 hk hs hu hh
    by_cases ht : bd o < m
    · exact brack _ m d us ts h0 (by omega) ht hs hu hh (fun d us ts h1 h2 h3 => low (bd o - 1) 1 d us ts (by omega) (by omega) h1 h2 h3)
    · have e1 : sk dec (.bin a o l r) m = tk dec (.bin a o l r) := by unfold sk; rw [if_neg (show ¬ top (.bin a o l r) < m from ht)]
      have e2 : sd (.bin a o l r) m = dp (.bin a o l r) := by unfold sd; rw [if_neg (show ¬ top (.bin a o l r) < m from ht)]
      rw [e1] at hu
      rw [e2] at hs
      exact low (bd o - m) m d us ts h0 (by omega) hs hu hh
end
end Go.Proofs.YtpanodaecjlgaaaGreatDoor.ex
/- Expressions: what reading tells; brackets too deep; names as numbers; what they come to (pure). -/
namespace Go.Proofs.YtpanodaecjlgaaaGreatDoor.ex
set_option linter.unusedVariables false
open lx
section
variable {nb : List UInt8 → Int × Int} {en : Nat} {dec : Int → List UInt8}
/-- Brackets that lie too deep are told. -/
theorem deep_brack (x : Ex) (m d : Nat) (us ts : List Tk) (htop : top x < m) (h4 : m ≤ 4) (h1 : 1 ≤ m) (hs : 8 < sd x m + d) (hd : d ≤ 8) (hu : us.map Tk.t = sk dec x m)
    (C1 : ∀ (d : Nat) (us ts : List Tk), d ≤ 8 → 8 < dp x + d → us.map Tk.t = tk dec x → ∃ f p, row nb en f 1 d (us ++ ts) = some (.error (4, p))) : ∃ f p, row nb en f m d (us ++ ts) = some (.error (4, p)) := by
  have up : ∀ (k m : Nat) (us : List Tk) (f p : Nat), m + k = 4 → one nb en f d us = some (.error (4, p)) → ∃ f, row nb en f m d us = some (.error (4, p)) := by
    intro k
    induction k with
    | zero =>
      intro m us f p hm h
      exact ⟨f + 1, by rw [row_top _ _ _ _ (by omega)]; exact h⟩
    | succ k ih =>
      intro m us f p hm h
      obtain ⟨f', hf⟩ := ih (m + 1) us f p (by omega) h
      exact ⟨f' + 1, by rw [row_low _ _ _ _ (by omega), hf]⟩
  unfold sk at hu
  rw [if_pos htop] at hu
  obtain ⟨p, v, rfl, hv⟩ := map_cons hu
  obtain ⟨v1, v2, rfl, g1, g2⟩ := map_cut hv
  unfold sd at hs
  rw [if_pos htop] at hs
  have e2 : ⟨[40], p⟩ :: (v1 ++ v2) ++ ts = (⟨[40], p⟩ : Tk) :: (v1 ++ (v2 ++ ts)) := by simp
  rw [e2]
  by_cases h8 : d = 8
  · obtain ⟨f, hf⟩ := up (4 - m) m ((⟨[40], p⟩ : Tk) :: (v1 ++ (v2 ++ ts))) 1 p (by omega) (by rw [one, if_neg (by show ¬ isN [40] = true; decide), if_neg (by show ¬ isU [40] = true; decide), if_pos rfl, if_pos h8])
    exact ⟨f, p, hf⟩
  · obtain ⟨f, p', hf⟩ := C1 (d + 1) v1 (v2 ++ ts) (by omega) (by omega) g1
    obtain ⟨f', hf'⟩ := up (4 - m) m ((⟨[40], p⟩ : Tk) :: (v1 ++ (v2 ++ ts))) (f + 1) p' (by omega) (by rw [one, if_neg (by show ¬ isN [40] = true; decide), if_neg (by show ¬ isU [40] = true; decide), if_pos rfl, if_neg h8, hf])
    exact ⟨f', p', hf'⟩
theorem too_deep (x : Ex) : ∀ (_ : Wf (nb := nb) dec x) (k m d : Nat) (us ts : List Tk), 1 ≤ m → m + k = 4 → d ≤ 8 → 8 < sd x m + d → us.map Tk.t = sk dec x m → ∃ f p, row nb en f m d (us ++ ts) = some (.error (4, p)) := by
  induction x with
  | num a n =>
    intro hw k m d us ts h0 hk h8 hs hu
    exfalso
    unfold sd at hs
    rw [if_neg (by show ¬ 4 < m; omega)] at hs
    have : dp (.num a n) = 0 := by rw [dp]
    omega
  | nam a t =>
    intro hw k m d us ts h0 hk h8 hs hu
    exfalso
    unfold sd at hs
    rw [if_neg (by show ¬ 4 < m; omega)] at hs
    have : dp (.nam a t) = 0 := by rw [dp]
    omega
  | bin a o l r il ir =>
    intro hw
    obtain ⟨hb0, wl', wr⟩ := hw
    have hb3 := bd_le o
    have low : ∀ (j m d : Nat) (us ts : List Tk), 1 ≤ m → m + j = bd o → d ≤ 8 → 8 < dp (.bin a o l r) + d → us.map Tk.t = tk dec (.bin a o l r) → ∃ f p, row nb en f m d (us ++ ts) = some (.error (4, p)) := by
      intro j
      induction j with
      | zero =>
        intro m d us ts h0 hj h8 hd hu
        obtain rfl : m = bd o := by omega
        rw [dp_bin] at hd
        rw [tk_bin] at hu
        obtain ⟨u, v, rfl, hu1, hv⟩ := map_cut hu
        obtain ⟨p, v', rfl, hv1⟩ := map_cons hv
        have e : u ++ (⟨o, p⟩ :: v') ++ ts = u ++ (⟨o, p⟩ : Tk) :: (v' ++ ts) := by simp
        rw [e]
        by_cases hl : 8 < sd l (bd o) + d
        · exact il wl' (4 - bd o) (bd o) d u _ h0 (by omega) h8 hl hu1
        · obtain ⟨l', sl, cl'⟩ := reads l wl' (4 - bd o) (bd o) d u ((⟨o, p⟩ : Tk) :: (v' ++ ts)) h0 (by omega) (by omega) hu1 (by show bd o ≤ bd o; omega)
          obtain ⟨f1, p', hf1⟩ := ir wr (4 - (bd o + 1)) (bd o + 1) d v' ts (by omega) (by omega) h8 (by omega) hv1
          obtain ⟨f, hf⟩ := cl' (f1 + 1) (.error (4, p')) (by rw [lp, if_pos rfl, hf1])
          exact ⟨f, p', hf⟩
      | succ j ih =>
        intro m d us ts h0 hj h8 hd hu
        obtain ⟨f, p, hf⟩ := ih (m + 1) d us ts (by omega) (by omega) h8 hd hu
        exact ⟨f + 1, p, by rw [row_low _ _ _ _ (by omega), hf]⟩
    intro k m d us ts h0 hk h8 hs hu
    by_cases ht : bd o < m
    · exact deep_brack (.bin a o l r) m d us ts (show top (.bin a o l r) < m from ht) (by omega) h0 hs h8 hu (fun d us ts h1 h2 h3 => low (bd o - 1) 1 d us ts (by omega) (by omega) h1 h2 h3)
    · have e1 : sk dec (.bin a o l r) m = tk dec (.bin a o l r) := by unfold sk; rw [if_neg (show ¬ top (.bin a o l r) < m from ht)]
      have e2 : sd (.bin a o l r) m = dp (.bin a o l r) := by unfold sd; rw [if_neg (show ¬ top (.bin a o l r) < m from ht)]
      rw [e1] at hu
      rw [e2] at hs
      exact low (bd o - m) m d us ts h0 (by omega) h8 hs hu
/-- What reading tells. -/
theorem told_all (hdec : ∀ t, isU t = true → (nb t).2 = 0 → isN (dec (nb t).1) = false ∧ isU (dec (nb t).1) = true ∧ nb (dec (nb t).1) = ((nb t).1, 0)) (f : Nat) :
    (∀ m d ts x r, 1 ≤ m → m ≤ 4 → d ≤ 8 → row nb en f m d ts = some (.ok (x, r)) → Wf (nb := nb) dec x ∧ sd x m + d ≤ 8) ∧
    (∀ m d y ts x r, 1 ≤ m → m ≤ 3 → d ≤ 8 → Wf (nb := nb) dec y → sd y m + d ≤ 8 → lp nb en f m d y ts = some (.ok (x, r)) → Wf (nb := nb) dec x ∧ sd x m + d ≤ 8) ∧
    (∀ d ts x r, d ≤ 8 → one nb en f d ts = some (.ok (x, r)) → Wf (nb := nb) dec x ∧ sd x 4 + d ≤ 8) := by
  induction f with
  | zero => exact ⟨fun _ _ _ _ _ _ _ _ h => by simp [row] at h, fun _ _ _ _ _ _ _ _ _ _ _ h => by simp [lp] at h, fun _ _ _ _ _ h => by simp [one] at h⟩
  | succ f ih =>
    obtain ⟨i1, i2, i3⟩ := ih
    refine ⟨?_, ?_, ?_⟩
    · intro m d ts x r h0 h4 h8 h
      by_cases hm : 3 < m
      · obtain rfl : m = 4 := by omega
        rw [row_top _ _ _ _ hm] at h
        exact i3 _ _ _ _ h8 h
      · rw [row_low _ _ _ _ hm] at h
        split at h
        · cases h
        · cases h
        · rename_i y r' hr
          obtain ⟨g1, g2⟩ := i1 _ _ _ _ _ (by omega) (by omega) h8 hr
          have := sd_mono y m (m + 1) (by omega)
          exact i2 _ _ _ _ _ _ h0 (by omega) h8 g1 (by omega) h
    · intro m d y ts x r h0 h3 h8 hy hsy h
      cases ts with
      | nil =>
        simp only [lp, Option.some.injEq, Except.ok.injEq, Prod.mk.injEq] at h
        rw [← h.1]
        exact ⟨hy, hsy⟩
      | cons t ts =>
        rw [lp] at h
        split at h
        · rename_i hb'
          split at h
          · cases h
          · cases h
          · rename_i z r' hr
            obtain ⟨g1, g2⟩ := i1 _ _ _ _ _ (by omega) (by omega) h8 hr
            refine i2 m d (.bin t.a t.t y z) _ _ _ h0 h3 h8 (show 0 < bd t.t ∧ Wf (nb := nb) dec y ∧ Wf (nb := nb) dec z from ⟨by omega, hy, g1⟩) ?_ h
            unfold sd
            rw [if_neg (by show ¬ bd t.t < m; omega), dp_bin, hb']
            omega
        · simp only [Option.some.injEq, Except.ok.injEq, Prod.mk.injEq] at h
          rw [← h.1]
          exact ⟨hy, hsy⟩
    · intro d ts x r h8 h
      cases ts with
      | nil => simp [one] at h
      | cons t ts =>
        rw [one] at h
        split at h
        · rename_i hN
          split at h
          · simp at h
          · simp at h; rw [← h.1]
            exact ⟨⟨hN, by omega⟩, by unfold sd; rw [if_neg (by show ¬ 4 < 4; omega), dp]; omega⟩
        · split at h
          · rename_i hU
            split at h
            · rename_i h0
              simp at h; rw [← h.1]
              exact ⟨hdec _ hU h0, by unfold sd; rw [if_neg (by show ¬ 4 < 4; omega), dp]; omega⟩
            · simp at h
          · split at h
            · split at h
              · simp at h
              · rename_i hd8
                split at h
                · cases h
                · cases h
                · rename_i z r' hr
                  obtain ⟨g1, g2⟩ := i1 _ _ _ _ _ (by omega) (by omega) (by omega) hr
                  split at h
                  · simp at h; rw [← h.1]
                    refine ⟨g1, ?_⟩
                    unfold sd at g2 ⊢
                    split at g2 <;> split <;> omega
                  · simp at h
            · simp at h
end
end Go.Proofs.YtpanodaecjlgaaaGreatDoor.ex
