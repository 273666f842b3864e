/- Texts laid together: LxP, LxQ, LxV, Lx1, LayI. -/
import Derived.Test.YtococaecjecjgaaGreatDoorXLayoutReads1
import Derived.Deep.QuietTactic
import Derived.WalkSpells
import Derived.Laws.AppendOwn
import Derived.Lib.AppendZeros
import Derived.Maps.OwnSet
import Derived.Test.YtococaecjecjgaaGreatDoorChecked
import Derived.WalkLawsBesides
import Derived.Shelf.Small.Strs
namespace Go.Proofs.YtococaecjecjgaaGreatDoor.lx
set_option linter.unusedVariables false

def lt (x : Int) : Bool := decide (97 ≤ x) && decide (x ≤ 122) || decide (65 ≤ x) && decide (x ≤ 90) || decide (x = 95)
def dg (x : Int) : Bool := decide (48 ≤ x) && decide (x ≤ 57)
def isL (c : UInt8) : Bool := lt (c.toNat : Int)
def isD (c : UInt8) : Bool := dg (c.toNat : Int)
def isW (c : UInt8) : Bool := isL c || isD c
def isB (c : UInt8) : Bool := c == 32 || c == 10 || c == 9
def singles : List UInt8 := [123, 125, 91, 93, 40, 41, 59, 44, 61, 43, 45, 42, 38, 124, 60, 62]
def isM (c : UInt8) : Bool := singles.contains c
def rl (l : List UInt8) : Nat := (l.takeWhile (· != 10)).length
def gap : List UInt8 → Nat
  | [] => 0
  | c :: r => if isB c then 1 else if c == 35 then rl (c :: r) else 0
theorem gap_cons (c : UInt8) (r : List UInt8) : gap (c :: r) = if isB c then 1 else if c == 35 then rl (c :: r) else 0 := rfl
def mk : List UInt8 → Nat
  | [] => 0
  | c :: r => if (c == 61 || c == 33) && r.head? == some 61 then 2 else if isM c then 1 else 0
theorem mk_cons (c : UInt8) (r : List UInt8) : mk (c :: r) = if (c == 61 || c == 33) && r.head? == some 61 then 2 else if isM c then 1 else 0 := rfl
def wl (l : List UInt8) : Nat := (l.takeWhile isW).length
def tl (l : List UInt8) : Nat := if wl l = 0 then mk l else wl l
structure Tk where
  t : List UInt8
  a : Nat
deriving DecidableEq, Inhabited
def lxn : Nat → List UInt8 → Nat → List Tk × Option Nat
  | 0, _, _ => ([], none)
  | _ + 1, [], _ => ([], none)
  | n + 1, c :: r, a =>
    if 0 < gap (c :: r) then lxn n ((c :: r).drop (gap (c :: r))) (a + gap (c :: r))
    else if 0 < tl (c :: r) then (⟨(c :: r).take (tl (c :: r)), a⟩ :: (lxn n ((c :: r).drop (tl (c :: r))) (a + tl (c :: r))).1, (lxn n ((c :: r).drop (tl (c :: r))) (a + tl (c :: r))).2)
    else ([], some a)
def lx (l : List UInt8) (a : Nat) : List Tk × Option Nat := lxn (l.length + 1) l a
theorem tw_le {α : Type} (p : α → Bool) (l : List α) : (l.takeWhile p).length ≤ l.length := (List.takeWhile_prefix p).length_le
theorem gap_le (l : List UInt8) : gap l ≤ l.length := by
  cases l with
  | nil => exact Nat.le_refl _
  | cons c r =>
    rw [gap_cons]
    split
    · simp
    · split
      · exact tw_le _ _
      · exact Nat.zero_le _
theorem mk_le (l : List UInt8) : mk l ≤ l.length := by
  cases l with
  | nil => exact Nat.le_refl _
  | cons c r =>
    rw [mk_cons]
    split
    · rename_i h
      cases r with
      | nil => simp at h
      | cons d r => simp
    · split <;> simp
theorem wl_le (l : List UInt8) : wl l ≤ l.length := tw_le _ _
theorem tl_le (l : List UInt8) : tl l ≤ l.length := by
  unfold tl
  split
  · exact mk_le l
  · exact wl_le l
theorem lxn_more (n : Nat) : ∀ (l : List UInt8) (a m : Nat), l.length < n → l.length < m → lxn n l a = lxn m l a := by
  induction n with
  | zero => intro l a m h; omega
  | succ n ih =>
    intro l a m hn hm
    cases m with
    | zero => omega
    | succ m =>
      cases l with
      | nil => rfl
      | cons c r =>
        simp only [lxn]
        by_cases hg : 0 < gap (c :: r)
        · rw [if_pos hg, if_pos hg]
          exact ih _ _ _ (by rw [List.length_drop]; simp only [List.length_cons] at *; omega) (by rw [List.length_drop]; simp only [List.length_cons] at *; omega)
        · rw [if_neg hg, if_neg hg]
          by_cases ht : 0 < tl (c :: r)
          · rw [if_pos ht, if_pos ht]
            rw [ih _ _ m (by rw [List.length_drop]; simp only [List.length_cons] at *; omega) (by rw [List.length_drop]; simp only [List.length_cons] at *; omega)]
          · rw [if_neg ht, if_neg ht]
theorem lx_nil (a : Nat) : lx [] a = ([], none) := rfl
theorem lx_gap (l : List UInt8) (a : Nat) (h : 0 < gap l) : lx l a = lx (l.drop (gap l)) (a + gap l) := by
  cases l with
  | nil => exact absurd h (Nat.lt_irrefl _)
  | cons c r =>
    have e : lx (c :: r) a = lxn (r.length + 1) ((c :: r).drop (gap (c :: r))) (a + gap (c :: r)) := by
      show lxn (r.length + 1 + 1) (c :: r) a = _
      simp only [lxn]
      rw [if_pos h]
    rw [e]
    exact lxn_more _ _ _ _ (by rw [List.length_drop]; simp; omega) (by omega)
theorem lx_tok (l : List UInt8) (a : Nat) (hg : gap l = 0) (h : 0 < tl l) : lx l a = (⟨l.take (tl l), a⟩ :: (lx (l.drop (tl l)) (a + tl l)).1, (lx (l.drop (tl l)) (a + tl l)).2) := by
  cases l with
  | nil => exact absurd h (Nat.lt_irrefl _)
  | cons c r =>
    have e : lxn (r.length + 1) ((c :: r).drop (tl (c :: r))) (a + tl (c :: r)) = lx ((c :: r).drop (tl (c :: r))) (a + tl (c :: r)) :=
      lxn_more _ _ _ _ (by rw [List.length_drop]; simp; omega) (by omega)
    show lxn (r.length + 1 + 1) (c :: r) a = _
    simp only [lxn]
    rw [if_neg (by omega), if_pos h, e]
theorem lx_bad (l : List UInt8) (a : Nat) (hl : l ≠ []) (hg : gap l = 0) (h : tl l = 0) : lx l a = ([], some a) := by
  cases l with
  | nil => exact absurd rfl hl
  | cons c r =>
    show lxn (r.length + 1 + 1) (c :: r) a = _
    simp only [lxn]
    rw [if_neg (by omega), if_neg (by omega)]
def IsT (x : List UInt8) : Prop := (x ≠ [] ∧ ∀ c ∈ x, isW c = true) ∨ (∃ c, x = [c] ∧ isM c = true) ∨ x = [61, 61] ∨ x = [33, 61]
set_option maxRecDepth 100000 in
theorem isW_not (c : UInt8) (h : isW c = true) : isB c = false ∧ (c == 35) = false ∧ isM c = false ∧ (c == 61 || c == 33) = false := by
  have key : ∀ c : Fin 256, isW (UInt8.ofNat c.1) = true → isB (UInt8.ofNat c.1) = false ∧ (UInt8.ofNat c.1 == 35) = false ∧ isM (UInt8.ofNat c.1) = false ∧ (UInt8.ofNat c.1 == 61 || UInt8.ofNat c.1 == 33) = false := by decide
  have := key ⟨c.toNat, c.toNat_lt⟩
  simp only [UInt8.ofNat_toNat] at this
  exact this h
set_option maxRecDepth 100000 in
theorem isM_not (c : UInt8) (h : isM c = true ∨ (c == 61 || c == 33) = true) : isB c = false ∧ (c == 35) = false ∧ isW c = false := by
  have key : ∀ c : Fin 256, isM (UInt8.ofNat c.1) = true ∨ (UInt8.ofNat c.1 == 61 || UInt8.ofNat c.1 == 33) = true → isB (UInt8.ofNat c.1) = false ∧ (UInt8.ofNat c.1 == 35) = false ∧ isW (UInt8.ofNat c.1) = false := by decide
  have := key ⟨c.toNat, c.toNat_lt⟩
  simp only [UInt8.ofNat_toNat] at this
  exact this h
theorem tw_mem {p : UInt8 → Bool} {l : List UInt8} {c : UInt8} (h : c ∈ l.takeWhile p) : p c = true := by
  induction l with
  | nil => simp at h
  | cons d l ih =>
    by_cases hd : p d = true
    · rw [List.takeWhile_cons_of_pos hd, List.mem_cons] at h
      rcases h with rfl | h
      · exact hd
      · exact ih h
    · rw [List.takeWhile_cons_of_neg hd] at h
      simp at h
theorem tl_isT (l : List UInt8) (h : 0 < tl l) : IsT (l.take (tl l)) := by
  unfold tl at h ⊢
  by_cases hw : wl l = 0
  · rw [if_pos hw] at h ⊢
    cases l with
    | nil => exact absurd h (Nat.lt_irrefl _)
    | cons c r =>
      rw [mk_cons] at h ⊢
      by_cases h2 : ((c == 61 || c == 33) && r.head? == some 61) = true
      · rw [if_pos h2]
        simp only [Bool.and_eq_true, Bool.or_eq_true, beq_iff_eq] at h2
        cases r with
        | nil => simp at h2
        | cons d r =>
          simp at h2
          obtain ⟨h3, rfl⟩ := h2
          rcases h3 with rfl | rfl
          · exact Or.inr (Or.inr (Or.inl rfl))
          · exact Or.inr (Or.inr (Or.inr rfl))
      · rw [if_neg h2] at h ⊢
        by_cases h1 : isM c = true
        · rw [if_pos h1]
          exact Or.inr (Or.inl ⟨c, rfl, h1⟩)
        · rw [if_neg h1] at h
          exact absurd h (Nat.lt_irrefl _)
  · rw [if_neg hw]
    have e : l.take (wl l) = l.takeWhile isW := by
      unfold wl
      exact (List.prefix_iff_eq_take.1 (List.takeWhile_prefix isW)).symm
    rw [e]
    refine Or.inl ⟨?_, ?_⟩
    · intro e2
      unfold wl at hw
      rw [e2] at hw
      exact hw rfl
    · intro c hc
      exact tw_mem hc
theorem wl_app (x y : List UInt8) (hx : ∀ c ∈ x, isW c = true) (hy : ∀ c, y.head? = some c → isW c = false) : wl (x ++ y) = x.length := by
  unfold wl
  rw [List.takeWhile_append_of_pos hx, List.length_append]
  cases y with
  | nil => rfl
  | cons c y => rw [List.takeWhile_cons_of_neg (by rw [hy c rfl]; decide)]; rfl
theorem tok_app (x y : List UInt8) (hx : IsT x) (h1 : (∀ c ∈ x, isW c = true) → ∀ c, y.head? = some c → isW c = false) (h2 : x = [61] → y.head? ≠ some 61) : gap (x ++ y) = 0 ∧ tl (x ++ y) = x.length ∧ 0 < x.length := by
  rcases hx with ⟨hx0, hx⟩ | ⟨c, rfl, hc⟩ | rfl | rfl
  · cases x with
    | nil => exact absurd rfl hx0
    | cons c x =>
      obtain ⟨g1, g2, g3, g4⟩ := isW_not c (hx c (by simp))
      have hw := wl_app _ _ hx (h1 hx)
      refine ⟨?_, ?_, by simp⟩
      · show gap (c :: (x ++ y)) = 0
        rw [gap_cons]
        rw [if_neg (by rw [g1]; decide), if_neg (by rw [g2]; decide)]
      · unfold tl
        rw [hw, if_neg (by simp)]
  · obtain ⟨g1, g2, g3⟩ := isM_not c (Or.inl hc)
    refine ⟨?_, ?_, by simp⟩
    · show gap (c :: y) = 0
      rw [gap_cons]
      rw [if_neg (by rw [g1]; decide), if_neg (by rw [g2]; decide)]
    · show tl (c :: y) = 1
      have hw : wl (c :: y) = 0 := by unfold wl; rw [List.takeWhile_cons_of_neg (by rw [g3]; decide)]; rfl
      unfold tl
      rw [if_pos hw]
      rw [mk_cons]
      rw [if_neg, if_pos hc]
      intro h
      simp only [Bool.and_eq_true, Bool.or_eq_true, beq_iff_eq] at h
      rcases h with ⟨rfl | rfl, h⟩
      · exact h2 rfl h
      · revert hc; decide
  · exact ⟨rfl, rfl, by simp⟩
  · exact ⟨rfl, rfl, by simp⟩
theorem lx_app (x y : List UInt8) (a : Nat) (hx : IsT x) (h1 : (∀ c ∈ x, isW c = true) → ∀ c, y.head? = some c → isW c = false) (h2 : x = [61] → y.head? ≠ some 61) :
    lx (x ++ y) a = (⟨x, a⟩ :: (lx y (a + x.length)).1, (lx y (a + x.length)).2) := by
  obtain ⟨g1, g2, g3⟩ := tok_app x y hx h1 h2
  have := lx_tok (x ++ y) a g1 (by omega)
  rw [g2] at this
  rw [this]
  simp
theorem lx_blank (c : UInt8) (y : List UInt8) (a : Nat) (h : isB c = true) : lx (c :: y) a = lx y (a + 1) := by
  have e : gap (c :: y) = 1 := by rw [gap_cons]; rw [if_pos h]
  rw [lx_gap _ _ (by omega), e]
  rfl
end Go.Proofs.YtococaecjecjgaaGreatDoor.lx
namespace Go.Proofs.YtococaecjecjgaaGreatDoor.lx
set_option linter.unusedVariables false

def Ch (s : List UInt8) : Nat → List Tk → Prop
  | _, [] => True
  | p, t :: r => p ≤ t.a ∧ t.a + t.t.length ≤ s.length ∧ (s.drop t.a).take t.t.length = t.t ∧ IsT t.t ∧ Ch s (t.a + t.t.length) r
theorem Ch.low {s : List UInt8} {p q : Nat} {l : List Tk} (h : Ch s q l) (hp : p ≤ q) : Ch s p l := by
  cases l with
  | nil => trivial
  | cons t r => exact ⟨by have := h.1; omega, h.2⟩
theorem lx_ch (s : List UInt8) (n : Nat) : ∀ a, s.length - a ≤ n → a ≤ s.length → Ch s a (lx (s.drop a) a).1 := by
  induction n with
  | zero =>
    intro a h1 h2
    rw [List.drop_of_length_le (by omega), lx_nil]
    trivial
  | succ n ih =>
    intro a h1 h2
    by_cases h0 : s.drop a = []
    · rw [h0, lx_nil]; trivial
    have hl : (s.drop a).length = s.length - a := List.length_drop
    by_cases hg : 0 < gap (s.drop a)
    · have hgl := gap_le (s.drop a)
      rw [lx_gap _ _ hg, List.drop_drop]
      exact (ih (a + gap (s.drop a)) (by omega) (by omega)).low (by omega)
    · by_cases ht : 0 < tl (s.drop a)
      · have htl := tl_le (s.drop a)
        rw [lx_tok _ _ (by omega) ht, List.drop_drop]
        have e : ((s.drop a).take (tl (s.drop a))).length = tl (s.drop a) := by rw [List.length_take]; omega
        refine ⟨Nat.le_refl _, ?_, ?_, tl_isT _ ht, ?_⟩
        · dsimp only; rw [e]; omega
        · dsimp only; rw [e]
        · dsimp only; rw [e]
          exact ih (a + tl (s.drop a)) (by omega) (by omega)
      · rw [lx_bad _ _ h0 (by omega) (by omega)]
        trivial
theorem lx_len (l : List UInt8) : ∀ (n a : Nat), l.length ≤ n → (lx l a).1.length ≤ l.length := by
  intro n
  induction n generalizing l with
  | zero =>
    intro a h
    obtain rfl : l = [] := List.eq_nil_of_length_eq_zero (by omega)
    simp [lx_nil]
  | succ n ih =>
    intro a h
    by_cases h0 : l = []
    · subst h0; simp [lx_nil]
    by_cases hg : 0 < gap l
    · have := gap_le l
      rw [lx_gap _ _ hg]
      have := ih (l.drop (gap l)) (a + gap l) (by rw [List.length_drop]; omega)
      rw [List.length_drop] at this
      omega
    · by_cases ht : 0 < tl l
      · have := tl_le l
        rw [lx_tok _ _ (by omega) ht]
        have := ih (l.drop (tl l)) (a + tl l) (by rw [List.length_drop]; omega)
        rw [List.length_drop] at this
        simp only [List.length_cons]
        omega
      · rw [lx_bad _ _ h0 (by omega) (by omega)]
        simp
theorem word_end (s : List UInt8) (p i : Nat) (hp : p < i) (hi : i ≤ s.length) (hw : ∀ j, p ≤ j → (h : j < i) → isW (s[j]'(by omega)) = true) (he : ∀ c, s[i]? = some c → isW c = false) :
    lx (s.drop p) p = (⟨(s.take i).drop p, p⟩ :: (lx (s.drop i) i).1, (lx (s.drop i) i).2) := by
  have e : s.drop p = (s.take i).drop p ++ s.drop i := by
    have := List.take_append_drop (i - p) (s.drop p)
    rw [List.drop_drop, show p + (i - p) = i by omega] at this
    rw [List.drop_take, this]
  have hl : ((s.take i).drop p).length = i - p := by rw [List.length_drop, List.length_take]; omega
  have hall : ∀ c ∈ (s.take i).drop p, isW c = true := by
    intro c hc
    obtain ⟨k, hk, rfl⟩ := List.mem_iff_getElem.1 hc
    rw [hl] at hk
    rw [List.getElem_drop, List.getElem_take]
    exact hw (p + k) (by omega) (by omega)
  have h := lx_app ((s.take i).drop p) (s.drop i) p (Or.inl ⟨by intro h0; rw [h0] at hl; simp at hl; omega, hall⟩) (fun _ c hc => he c (by rw [List.head?_drop] at hc; exact hc))
    (fun h0 => by
      have := hall 61 (by rw [h0]; simp)
      exact absurd this (by decide))
  rw [hl, show p + (i - p) = i by omega] at h
  rw [← e] at h
  exact h
def Rm (s : List UInt8) (i : Nat) : List Tk × Option Nat := lx (s.drop (i + rl (s.drop i))) (i + rl (s.drop i))
theorem drop_cons (s : List UInt8) (i : Nat) (c : UInt8) (h : s[i]? = some c) : s.drop i = c :: s.drop (i + 1) := by
  obtain ⟨h1, h2⟩ := List.getElem?_eq_some_iff.1 h
  rw [List.drop_eq_getElem_cons h1, h2]
theorem rm_in (s : List UInt8) (i : Nat) (h : s[i]? = some 35) : lx (s.drop i) i = Rm s i := by
  have e := drop_cons s i 35 h
  have hg : gap (s.drop i) = rl (s.drop i) := by rw [e, gap_cons]; rfl
  have h1 : 0 < rl (s.drop i) := by
    rw [e]; unfold rl; rw [List.takeWhile_cons_of_pos (by decide)]; simp
  rw [lx_gap _ _ (by omega), hg, List.drop_drop]
  rfl
theorem rm_on (s : List UInt8) (i : Nat) (c : UInt8) (h : s[i]? = some c) (hc : c ≠ 10) : Rm s i = Rm s (i + 1) := by
  have e := drop_cons s i c h
  have h1 : rl (s.drop i) = rl (s.drop (i + 1)) + 1 := by
    rw [e]; unfold rl; rw [List.takeWhile_cons_of_pos (by simpa using hc)]; rfl
  unfold Rm
  rw [h1, show i + (rl (s.drop (i + 1)) + 1) = i + 1 + rl (s.drop (i + 1)) by omega]
theorem rm_out (s : List UInt8) (i : Nat) (h : s[i]? = some 10) : Rm s i = lx (s.drop (i + 1)) (i + 1) := by
  have e := drop_cons s i 10 h
  have h1 : rl (s.drop i) = 0 := by rw [e]; unfold rl; rw [List.takeWhile_cons_of_neg (by decide)]; rfl
  unfold Rm
  rw [h1, Nat.add_zero, e, lx_blank _ _ _ rfl]
theorem rm_end (s : List UInt8) (i : Nat) (h : s.length ≤ i) : Rm s i = ([], none) := by
  unfold Rm
  rw [List.drop_of_length_le (by omega)]
  rfl
theorem lx_over (s : List UInt8) (i : Nat) (c : UInt8) (h : s[i]? = some c) (hc : isB c = true) : lx (s.drop i) i = lx (s.drop (i + 1)) (i + 1) := by
  rw [drop_cons s i c h, lx_blank _ _ _ hc]
theorem lx_end (s : List UInt8) (i : Nat) (h : s.length ≤ i) : lx (s.drop i) i = ([], none) := by
  rw [List.drop_of_length_le h]; rfl
theorem mark_at (s : List UInt8) (i : Nat) (c : UInt8) (h : s[i]? = some c) (h1 : isB c = false) (h2 : (c == 35) = false) (h3 : isW c = false) :
    gap (s.drop i) = 0 ∧ tl (s.drop i) = (if (c == 61 || c == 33) && s[i + 1]? == some 61 then 2 else if isM c then 1 else 0) := by
  rw [drop_cons s i c h]
  refine ⟨by rw [gap_cons, if_neg (by rw [h1]; decide), if_neg (by rw [h2]; decide)], ?_⟩
  have hw : wl (c :: s.drop (i + 1)) = 0 := by unfold wl; rw [List.takeWhile_cons_of_neg (by rw [h3]; decide)]; rfl
  unfold tl
  rw [if_pos hw, mk_cons, List.head?_drop]
theorem lx_mark (s : List UInt8) (i n : Nat) (hi : i < s.length) (hg : gap (s.drop i) = 0) (hn : tl (s.drop i) = n) (h0 : 0 < n) : i + n ≤ s.length ∧ lx (s.drop i) i = (⟨(s.take (i + n)).drop i, i⟩ :: (lx (s.drop (i + n)) (i + n)).1, (lx (s.drop (i + n)) (i + n)).2) := by
  have := tl_le (s.drop i)
  rw [List.length_drop] at this
  refine ⟨by omega, ?_⟩
  rw [lx_tok _ _ hg (by omega), hn, List.drop_drop, List.drop_take, show i + n - i = n by omega]
end Go.Proofs.YtococaecjecjgaaGreatDoor.lx
namespace Go.Proofs.YtococaecjecjgaaGreatDoor.lx
set_option linter.unusedVariables false
open Go.ChangeShapes Go.WideShapes Go.ChangeAt Go.RowKit
open mem
def sb (s : ByteArray) (j : Nat) : Int := ((s.data.toList.getD j 0).toNat : Int)
theorem sb_get (s : ByteArray) (j : Nat) (h : j < s.size) : sb s j = ((s[j]'h).toNat : Int) := by
  unfold sb
  have h' : j < s.data.toList.length := by simpa using h
  rw [List.getD_eq_getElem?_getD, List.getElem?_eq_getElem h']
  rfl
theorem at_bl {w w' : World} (h : Bl w w') {a : Addr} {v : Value} (hc : w.cell? a = some v) : w'.cell? a = some v := by
  have hlt : a.block < w.heap.size := by
    rcases Nat.lt_or_ge a.block w.heap.size with h1 | h1
    · exact h1
    · simp [World.cell?, Array.getElem?_eq_none h1] at hc
  unfold World.cell? at hc ⊢
  rw [Below.block h _ hlt]
  exact hc
theorem bl_grown {w0 w w' : World} {row : Option Nat} (h : Bl w0 w) (hg : w.grownBy w' row) (hrow : ∀ k, row = some k → w0.heap.size ≤ k) : Bl w0 w' := by
  refine ⟨hg.os.trans h.os, hg.tape.trans h.tape, hg.output.trans h.output, Nat.le_trans h.size hg.size, fun k hk => ?_⟩
  rw [hg.block k (Nat.lt_of_lt_of_le hk h.size) (fun e => by have := hrow k e.symm; omega)]
  exact h.block k hk
theorem grown_set (w : World) (b i : Nat) (v : Value) : w.grownBy (w.setCell ⟨b, i, none⟩ v) (some b) :=
  ⟨rfl, rfl, rfl, by simp [World.setCell], fun k hk hne => by
    have : ¬ b = k := fun e => hne (by rw [e])
    simp [World.setCell, Array.getElem?_modify, this]⟩
theorem cell_of {w : World} {g : Nat} {cur : Array Value} {e : TypeId} {fr : Nat × Nat} (h : w.heap[g]? = some (.cells cur e fr)) (j : Nat) : w.cell? ⟨g, j, none⟩ = cur[j]? := by
  simp [World.cell?, h]
theorem lt_of_heap {w : World} {g : Nat} {o : Obj} (h : w.heap[g]? = some o) : g < w.heap.size := (Array.getElem?_eq_some_iff.1 h).1
def L (s : ByteArray) : List UInt8 := s.data.toList
def tx (l : List UInt8) : ByteArray := ⟨l.toArray⟩
theorem L_len (s : ByteArray) : (L s).length = s.size := by simp [L]
theorem L_tx (l : List UInt8) : L (tx l) = l := by simp [L, tx]
theorem tx_L (s : ByteArray) : tx (L s) = s := by simp [L, tx]
theorem L_inj {a b : ByteArray} (h : L a = L b) : a = b := by rw [← tx_L a, ← tx_L b, h]
theorem tx_size (l : List UInt8) : (tx l).size = l.length := by rw [← L_len, L_tx]
theorem L_app (a b : ByteArray) : L (a ++ b) = L a ++ L b := by simp [L]
theorem L_ext (s : ByteArray) (i j : Nat) : L (s.extract i j) = ((L s).take j).drop i := by
  simp [L, ByteArray.data_extract, List.drop_take]
end Go.Proofs.YtococaecjecjgaaGreatDoor.lx
namespace Go.Proofs.YtococaecjecjgaaGreatDoor.lx
set_option linter.unusedVariables false
open Go.ChangeShapes Go.WideShapes Go.ChangeAt Go.RowKit
open mem

theorem ret_bool {a b : Bool} (h : a = b) : Ending.returned (.bool a) = .returned (.bool b) := by rw [h]
theorem L_get (s : ByteArray) (i : Nat) (h : i < s.size) : (L s)[i]? = some (s[i]'h) := by
  have h' : i < (L s).length := by rw [L_len]; exact h
  rw [List.getElem?_eq_getElem h']
  rfl
end Go.Proofs.YtococaecjecjgaaGreatDoor.lx

