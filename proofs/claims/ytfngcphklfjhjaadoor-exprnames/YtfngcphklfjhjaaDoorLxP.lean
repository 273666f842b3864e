/- Texts, cut into tokens (pure). -/
import Derived.Test.YtfngcphklfjhjaaDoorMem
namespace Go.Proofs.YtfngcphklfjhjaaDoor.lx
set_option linter.unusedVariables false

/-- Letters, digits. -/
def lt (x : Int) : Bool := decide (97 ≤ x) && decide (x ≤ 122) || decide (65 ≤ x) && decide (x ≤ 90) || decide (x = 95)
def dg (x : Int) : Bool := decide (48 ≤ x) && decide (x ≤ 57)
def isL (c : UInt8) : Bool := lt (c.toNat : Int)
def isD (c : UInt8) : Bool := dg (c.toNat : Int)
def isW (c : UInt8) : Bool := isL c || isD c
/-- A blank, a line feed, a tab. -/
def isB (c : UInt8) : Bool := c == 32 || c == 10 || c == 9
/-- Marks of one byte. -/
def singles : List UInt8 := [123, 125, 91, 93, 40, 41, 59, 44, 61, 43, 45, 42, 38, 124, 60, 62]
def isM (c : UInt8) : Bool := singles.contains c
/-- How many bytes are gone over at a time. -/
def rl (l : List UInt8) : Nat := (l.takeWhile (· != 10)).length
def gap : List UInt8 → Nat
  | [] => 0
  | c :: r => if isB c then 1 else if c == 35 then rl (c :: r) else 0
theorem gap_cons (c : UInt8) (r : List UInt8) : gap (c :: r) = if isB c then 1 else if c == 35 then rl (c :: r) else 0 := rfl
/-- The mark that a text begins with: how long it is. -/
def mk : List UInt8 → Nat
  | [] => 0
  | c :: r => if (c == 61 || c == 33) && r.head? == some 61 then 2 else if isM c then 1 else 0
theorem mk_cons (c : UInt8) (r : List UInt8) : mk (c :: r) = if (c == 61 || c == 33) && r.head? == some 61 then 2 else if isM c then 1 else 0 := rfl
/-- The word that a text begins with: how long it is. -/
def wl (l : List UInt8) : Nat := (l.takeWhile isW).length
/-- The token. -/
def tl (l : List UInt8) : Nat := if wl l = 0 then mk l else wl l
/-- A token. -/
structure Tk where
  t : List UInt8
  a : Nat
deriving DecidableEq, Inhabited
/-- All tokens; where none begins. -/
def lxn : Nat → List UInt8 → Nat → List Tk × Option Nat
  | 0, _, _ => ([], none)
  | _ + 1, [], _ => ([], none)
  | n + 1, c :: r, a =>
    if 0 < gap (c :: r) then lxn n ((c :: r).drop (gap (c :: r))) (a + gap (c :: r))
    else if 0 < tl (c :: r) then (⟨(c :: r).take (tl (c :: r)), a⟩ :: (lxn n ((c :: r).drop (tl (c :: r))) (a + tl (c :: r))).1, (lxn n ((c :: r).drop (tl (c :: r))) (a + tl (c :: r))).2)
    else ([], some a)
def lx (l : List UInt8) (a : Nat) : List Tk × Option Nat := lxn (l.length + 1) l a
theorem tw_le {α : Type} (p : α → Bool) (l : List α) : (l.takeWhile p).length ≤ l.length := (List.takeWhile_prefix p).length_le
theorem gap_le (l : List UInt8) : gap l ≤ l.length := by
  cases l with
  | nil => exact Nat.le_refl _
  | cons c r =>
    rw [gap_cons]
    split
    · simp
    · split
      · exact tw_le _ _
      · exact Nat.zero_le _
theorem mk_le (l : List UInt8) : mk l ≤ l.length := by
  cases l with
  | nil => exact Nat.le_refl _
  | cons c r =>
    rw [mk_cons]
    split
    · rename_i h
      cases r with
      | nil => simp at h
      | cons d r => simp
    · split <;> simp
theorem wl_le (l : List UInt8) : wl l ≤ l.length := tw_le _ _
theorem tl_le (l : List UInt8) : tl l ≤ l.length := by
  unfold tl
  split
  · exact mk_le l
  · exact wl_le l
theorem lxn_more (n : Nat) : ∀ (l : List UInt8) (a m : Nat), l.length < n → l.length < m → lxn n l a = lxn m l a := by
  induction n with
  | zero => intro l a m h; omega
  | succ n ih =>
    intro l a m hn hm
    cases m with
    | zero => omega
    | succ m =>
      cases l with
      | nil => rfl
      | cons c r =>
        simp only [lxn]
        by_cases hg : 0 < gap (c :: r)
        · rw [if_pos hg, if_pos hg]
          exact ih _ _ _ (by rw [List.length_drop]; simp only [List.length_cons] at *; omega) (by rw [List.length_drop]; simp only [List.length_cons] at *; omega)
        · rw [if_neg hg, if_neg hg]
          by_cases ht : 0 < tl (c :: r)
          · rw [if_pos ht, if_pos ht]
            rw [ih _ _ m (by rw [List.length_drop]; simp only [List.length_cons] at *; omega) (by rw [List.length_drop]; simp only [List.length_cons] at *; omega)]
          · rw [if_neg ht, if_neg ht]
theorem lx_nil (a : Nat) : lx [] a = ([], none) := rfl
theorem lx_gap (l : List UInt8) (a : Nat) (h : 0 < gap l) : lx l a = lx (l.drop (gap l)) (a + gap l) := by
  cases l with
  | nil => exact absurd h (Nat.lt_irrefl _)
  | cons c r =>
    have e : lx (c :: r) a = lxn (r.length + 1) ((c :: r).drop (gap (c :: r))) (a + gap (c :: r)) := by
      show lxn (r.length + 1 + 1) (c :: r) a = _
      simp only [lxn]
      rw [if_pos h]
    rw [e]
    exact lxn_more _ _ _ _ (by rw [List.length_drop]; simp; omega) (by omega)
theorem lx_tok (l : List UInt8) (a : Nat) (hg : gap l = 0) (h : 0 < tl l) : lx l a = (⟨l.take (tl l), a⟩ :: (lx (l.drop (tl l)) (a + tl l)).1, (lx (l.drop (tl l)) (a + tl l)).2) := by
  cases l with
  | nil => exact absurd h (Nat.lt_irrefl _)
  | cons c r =>
    have e : lxn (r.length + 1) ((c :: r).drop (tl (c :: r))) (a + tl (c :: r)) = lx ((c :: r).drop (tl (c :: r))) (a + tl (c :: r)) :=
      lxn_more _ _ _ _ (by rw [List.length_drop]; simp; omega) (by omega)
    show lxn (r.length + 1 + 1) (c :: r) a = _
    simp only [lxn]
    rw [if_neg (by omega), if_pos h, e]
theorem lx_bad (l : List UInt8) (a : Nat) (hl : l ≠ []) (hg : gap l = 0) (h : tl l = 0) : lx l a = ([], some a) := by
  cases l with
  | nil => exact absurd rfl hl
  | cons c r =>
    show lxn (r.length + 1 + 1) (c :: r) a = _
    simp only [lxn]
    rw [if_neg (by omega), if_neg (by omega)]
/-- What is a token. -/
def IsT (x : List UInt8) : Prop := (x ≠ [] ∧ ∀ c ∈ x, isW c = true) ∨ (∃ c, x = [c] ∧ isM c = true) ∨ x = [61, 61] ∨ x = [33, 61]
set_option maxRecDepth 100000 in
theorem isW_not (c : UInt8) (h : isW c = true) : isB c = false ∧ (c == 35) = false ∧ isM c = false ∧ (c == 61 || c == 33) = false := by
  have key : ∀ c : Fin 256, isW (UInt8.ofNat c.1) = true → isB (UInt8.ofNat c.1) = false ∧ (UInt8.ofNat c.1 == 35) = false ∧ isM (UInt8.ofNat c.1) = false ∧ (UInt8.ofNat c.1 == 61 || UInt8.ofNat c.1 == 33) = false := by decide
  have := key ⟨c.toNat, c.toNat_lt⟩
  simp only [UInt8.ofNat_toNat] at this
  exact this h
set_option maxRecDepth 100000 in
theorem isM_not (c : UInt8) (h : isM c = true ∨ (c == 61 || c == 33) = true) : isB c = false ∧ (c == 35) = false ∧ isW c = false := by
  have key : ∀ c : Fin 256, isM (UInt8.ofNat c.1) = true ∨ (UInt8.ofNat c.1 == 61 || UInt8.ofNat c.1 == 33) = true → isB (UInt8.ofNat c.1) = false ∧ (UInt8.ofNat c.1 == 35) = false ∧ isW (UInt8.ofNat c.1) = false := by decide
  have := key ⟨c.toNat, c.toNat_lt⟩
  simp only [UInt8.ofNat_toNat] at this
  exact this h
theorem tw_mem {p : UInt8 → Bool} {l : List UInt8} {c : UInt8} (h : c ∈ l.takeWhile p) : p c = true := by
  induction l with
  | nil => simp at h
  | cons d l ih =>
    by_cases hd : p d = true
    · rw [List.takeWhile_cons_of_pos hd, List.mem_cons] at h
      rcases h with rfl | h
      · exact hd
      · exact ih h
    · rw [List.takeWhile_cons_of_neg hd] at h
      simp at h
theorem tl_isT (l : List UInt8) (h : 0 < tl l) : IsT (l.take (tl l)) := by
  unfold tl at h ⊢
  by_cases hw : wl l = 0
  · rw [if_pos hw] at h ⊢
    cases l with
    | nil => exact absurd h (Nat.lt_irrefl _)
    | cons c r =>
      rw [mk_cons] at h ⊢
      by_cases h2 : ((c == 61 || c == 33) && r.head? == some 61) = true
      · rw [if_pos h2]
        simp only [Bool.and_eq_true, Bool.or_eq_true, beq_iff_eq] at h2
        cases r with
        | nil => simp at h2
        | cons d r =>
          simp at h2
          obtain ⟨h3, rfl⟩ := h2
          rcases h3 with rfl | rfl
          · exact Or.inr (Or.inr (Or.inl rfl))
          · exact Or.inr (Or.inr (Or.inr rfl))
      · rw [if_neg h2] at h ⊢
        by_cases h1 : isM c = true
        · rw [if_pos h1]
          exact Or.inr (Or.inl ⟨c, rfl, h1⟩)
        · rw [if_neg h1] at h
          exact absurd h (Nat.lt_irrefl _)
  · rw [if_neg hw]
    have e : l.take (wl l) = l.takeWhile isW := by
      unfold wl
      exact (List.prefix_iff_eq_take.1 (List.takeWhile_prefix isW)).symm
    rw [e]
    refine Or.inl ⟨?_, ?_⟩
    · intro e2
      unfold wl at hw
      rw [e2] at hw
      exact hw rfl
    · intro c hc
      exact tw_mem hc
theorem wl_app (x y : List UInt8) (hx : ∀ c ∈ x, isW c = true) (hy : ∀ c, y.head? = some c → isW c = false) : wl (x ++ y) = x.length := by
  unfold wl
  rw [List.takeWhile_append_of_pos hx, List.length_append]
  cases y with
  | nil => rfl
  | cons c y => rw [List.takeWhile_cons_of_neg (by rw [hy c rfl]; decide)]; rfl
/-- A token, and what may stand right behind it. -/
theorem tok_app (x y : List UInt8) (hx : IsT x) (h1 : (∀ c ∈ x, isW c = true) → ∀ c, y.head? = some c → isW c = false) (h2 : x = [61] → y.head? ≠ some 61) : gap (x ++ y) = 0 ∧ tl (x ++ y) = x.length ∧ 0 < x.length := by
  rcases hx with ⟨hx0, hx⟩ | ⟨c, rfl, hc⟩ | rfl | rfl
  · cases x with
    | nil => exact absurd rfl hx0
    | cons c x =>
      obtain ⟨g1, g2, g3, g4⟩ := isW_not c (hx c (by simp))
      have hw := wl_app _ _ hx (h1 hx)
      refine ⟨?_, ?_, by simp⟩
      · show gap (c :: (x ++ y)) = 0
        rw [gap_cons]
        rw [if_neg (by rw [g1]; decide), if_neg (by rw [g2]; decide)]
      · unfold tl
        rw [hw, if_neg (by simp)]
  · obtain ⟨g1, g2, g3⟩ := isM_not c (Or.inl hc)
    refine ⟨?_, ?_, by simp⟩
    · show gap (c :: y) = 0
      rw [gap_cons]
      rw [if_neg (by rw [g1]; decide), if_neg (by rw [g2]; decide)]
    · show tl (c :: y) = 1
      have hw : wl (c :: y) = 0 := by unfold wl; rw [List.takeWhile_cons_of_neg (by rw [g3]; decide)]; rfl
      unfold tl
      rw [if_pos hw]
      rw [mk_cons]
      rw [if_neg, if_pos hc]
      intro h
      simp only [Bool.and_eq_true, Bool.or_eq_true, beq_iff_eq] at h
      rcases h with ⟨rfl | rfl, h⟩
      · exact h2 rfl h
      · revert hc; decide
  · exact ⟨rfl, rfl, by simp⟩
  · exact ⟨rfl, rfl, by simp⟩
theorem lx_app (x y : List UInt8) (a : Nat) (hx : IsT x) (h1 : (∀ c ∈ x, isW c = true) → ∀ c, y.head? = some c → isW c = false) (h2 : x = [61] → y.head? ≠ some 61) :
    lx (x ++ y) a = (⟨x, a⟩ :: (lx y (a + x.length)).1, (lx y (a + x.length)).2) := by
  obtain ⟨g1, g2, g3⟩ := tok_app x y hx h1 h2
  have := lx_tok (x ++ y) a g1 (by omega)
  rw [g2] at this
  rw [this]
  simp
theorem lx_blank (c : UInt8) (y : List UInt8) (a : Nat) (h : isB c = true) : lx (c :: y) a = lx y (a + 1) := by
  have e : gap (c :: y) = 1 := by rw [gap_cons]; rw [if_pos h]
  rw [lx_gap _ _ (by omega), e]
  rfl
end Go.Proofs.YtfngcphklfjhjaaDoor.lx
