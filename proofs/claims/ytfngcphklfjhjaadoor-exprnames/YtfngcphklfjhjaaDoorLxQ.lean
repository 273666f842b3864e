/- Tokens: where they stand; written again they are the same; going on byte by byte (pure). -/
import Derived.Test.YtfngcphklfjhjaaDoorLxP
namespace Go.Proofs.YtfngcphklfjhjaaDoor.lx
set_option linter.unusedVariables false

/-- Tokens, each where it is told, from a place on. -/
def Ch (s : List UInt8) : Nat → List Tk → Prop
  | _, [] => True
  | p, t :: r => p ≤ t.a ∧ t.a + t.t.length ≤ s.length ∧ (s.drop t.a).take t.t.length = t.t ∧ IsT t.t ∧ Ch s (t.a + t.t.length) r
theorem Ch.low {s : List UInt8} {p q : Nat} {l : List Tk} (h : Ch s q l) (hp : p ≤ q) : Ch s p l := by
  cases l with
  | nil => trivial
  | cons t r => exact ⟨by have := h.1; omega, h.2⟩
theorem lx_ch (s : List UInt8) (n : Nat) : ∀ a, s.length - a ≤ n → a ≤ s.length → Ch s a (lx (s.drop a) a).1 := by
  induction n with
  | zero =>
    intro a h1 h2
    rw [List.drop_of_length_le (by omega), lx_nil]
    trivial
  | succ n ih =>
    intro a h1 h2
    by_cases h0 : s.drop a = []
    · rw [h0, lx_nil]; trivial
    have hl : (s.drop a).length = s.length - a := List.length_drop
    by_cases hg : 0 < gap (s.drop a)
    · have hgl := gap_le (s.drop a)
      rw [lx_gap _ _ hg, List.drop_drop]
      exact (ih (a + gap (s.drop a)) (by omega) (by omega)).low (by omega)
    · by_cases ht : 0 < tl (s.drop a)
      · have htl := tl_le (s.drop a)
        rw [lx_tok _ _ (by omega) ht, List.drop_drop]
        have e : ((s.drop a).take (tl (s.drop a))).length = tl (s.drop a) := by rw [List.length_take]; omega
        refine ⟨Nat.le_refl _, ?_, ?_, tl_isT _ ht, ?_⟩
        · dsimp only; rw [e]; omega
        · dsimp only; rw [e]
        · dsimp only; rw [e]
          exact ih (a + tl (s.drop a)) (by omega) (by omega)
      · rw [lx_bad _ _ h0 (by omega) (by omega)]
        trivial
theorem lx_len (l : List UInt8) : ∀ (n a : Nat), l.length ≤ n → (lx l a).1.length ≤ l.length := by
  intro n
  induction n generalizing l with
  | zero =>
    intro a h
    obtain rfl : l = [] := List.eq_nil_of_length_eq_zero (by omega)
    simp [lx_nil]
  | succ n ih =>
    intro a h
    by_cases h0 : l = []
    · subst h0; simp [lx_nil]
    by_cases hg : 0 < gap l
    · have := gap_le l
      rw [lx_gap _ _ hg]
      have := ih (l.drop (gap l)) (a + gap l) (by rw [List.length_drop]; omega)
      rw [List.length_drop] at this
      omega
    · by_cases ht : 0 < tl l
      · have := tl_le l
        rw [lx_tok _ _ (by omega) ht]
        have := ih (l.drop (tl l)) (a + tl l) (by rw [List.length_drop]; omega)
        rw [List.length_drop] at this
        simp only [List.length_cons]
        omega
      · rw [lx_bad _ _ h0 (by omega) (by omega)]
        simp
/-- What stands between tokens. -/
def seps : List (List UInt8) := [[32], [10], [9, 32], [35, 120, 61, 61, 49, 10]]
theorem sep_gone (b y : List UInt8) (a : Nat) (hb : b ∈ seps) : lx (b ++ y) a = lx y (a + b.length) ∧ ∃ c r, b = c :: r ∧ isW c = false ∧ c ≠ 61 := by
  simp only [seps, List.mem_cons, List.not_mem_nil, or_false] at hb
  rcases hb with rfl | rfl | rfl | rfl
  · exact ⟨lx_blank _ _ _ rfl, _, _, rfl, by decide, by decide⟩
  · exact ⟨lx_blank _ _ _ rfl, _, _, rfl, by decide, by decide⟩
  · refine ⟨?_, _, _, rfl, by decide, by decide⟩
    show lx (9 :: 32 :: y) a = _
    rw [lx_blank _ _ _ rfl, lx_blank _ _ _ rfl]
    rfl
  · refine ⟨?_, _, _, rfl, by decide, by decide⟩
    have e : gap ([35, 120, 61, 61, 49, 10] ++ y) = 5 := rfl
    rw [lx_gap _ _ (by omega), e]
    show lx (10 :: y) (a + 5) = _
    rw [lx_blank _ _ _ rfl]
    rfl
def jb (b : List UInt8) : List (List UInt8) → List UInt8
  | [] => []
  | x :: r => x ++ b ++ jb b r
theorem jb_app (b : List UInt8) (l m : List (List UInt8)) : jb b (l ++ m) = jb b l ++ jb b m := by
  induction l with
  | nil => rfl
  | cons x l ih => simp only [List.cons_append, jb, ih, List.append_assoc]
theorem jb_snoc (b : List UInt8) (l : List (List UInt8)) (x : List UInt8) : jb b (l ++ [x]) = jb b l ++ (x ++ b) := by
  rw [jb_app]; simp [jb]
theorem relex (b : List UInt8) (hb : b ∈ seps) (l : List (List UInt8)) (hl : ∀ x ∈ l, IsT x) : ∀ a, (lx (jb b l) a).1.map Tk.t = l ∧ (lx (jb b l) a).2 = none := by
  induction l with
  | nil => intro a; exact ⟨rfl, rfl⟩
  | cons x l ih =>
    intro a
    obtain ⟨g1, c, r, g2, g3, g4⟩ := sep_gone b (jb b l) (a + x.length) hb
    have e : lx (jb b (x :: l)) a = (⟨x, a⟩ :: (lx (b ++ jb b l) (a + x.length)).1, (lx (b ++ jb b l) (a + x.length)).2) := by
      show lx (x ++ b ++ jb b l) a = _
      rw [List.append_assoc]
      refine lx_app x (b ++ jb b l) a (hl x (by simp)) ?_ ?_
      · intro _ d hd
        rw [g2] at hd
        simp at hd
        rw [← hd]; exact g3
      · intro _ hd
        rw [g2] at hd
        simp at hd
        exact g4 hd
    rw [e, g1]
    obtain ⟨h1, h2⟩ := ih (fun y hy => hl y (by simp [hy])) (a + x.length + b.length)
    exact ⟨by simp only [List.map_cons, h1], h2⟩
/-- A word that has come to its end. -/
theorem word_end (s : List UInt8) (p i : Nat) (hp : p < i) (hi : i ≤ s.length) (hw : ∀ j, p ≤ j → (h : j < i) → isW (s[j]'(by omega)) = true) (he : ∀ c, s[i]? = some c → isW c = false) :
    lx (s.drop p) p = (⟨(s.take i).drop p, p⟩ :: (lx (s.drop i) i).1, (lx (s.drop i) i).2) := by
  have e : s.drop p = (s.take i).drop p ++ s.drop i := by
    have := List.take_append_drop (i - p) (s.drop p)
    rw [List.drop_drop, show p + (i - p) = i by omega] at this
    rw [List.drop_take, this]
  have hl : ((s.take i).drop p).length = i - p := by rw [List.length_drop, List.length_take]; omega
  have hall : ∀ c ∈ (s.take i).drop p, isW c = true := by
    intro c hc
    obtain ⟨k, hk, rfl⟩ := List.mem_iff_getElem.1 hc
    rw [hl] at hk
    rw [List.getElem_drop, List.getElem_take]
    exact hw (p + k) (by omega) (by omega)
  have h := lx_app ((s.take i).drop p) (s.drop i) p (Or.inl ⟨by intro h0; rw [h0] at hl; simp at hl; omega, hall⟩) (fun _ c hc => he c (by rw [List.head?_drop] at hc; exact hc))
    (fun h0 => by
      have := hall 61 (by rw [h0]; simp)
      exact absurd this (by decide))
  rw [hl, show p + (i - p) = i by omega] at h
  rw [← e] at h
  exact h
/-- Within a remark. -/
def Rm (s : List UInt8) (i : Nat) : List Tk × Option Nat := lx (s.drop (i + rl (s.drop i))) (i + rl (s.drop i))
theorem drop_cons (s : List UInt8) (i : Nat) (c : UInt8) (h : s[i]? = some c) : s.drop i = c :: s.drop (i + 1) := by
  obtain ⟨h1, h2⟩ := List.getElem?_eq_some_iff.1 h
  rw [List.drop_eq_getElem_cons h1, h2]
theorem rm_in (s : List UInt8) (i : Nat) (h : s[i]? = some 35) : lx (s.drop i) i = Rm s i := by
  have e := drop_cons s i 35 h
  have hg : gap (s.drop i) = rl (s.drop i) := by rw [e, gap_cons]; rfl
  have h1 : 0 < rl (s.drop i) := by
    rw [e]; unfold rl; rw [List.takeWhile_cons_of_pos (by decide)]; simp
  rw [lx_gap _ _ (by omega), hg, List.drop_drop]
  rfl
theorem rm_on (s : List UInt8) (i : Nat) (c : UInt8) (h : s[i]? = some c) (hc : c ≠ 10) : Rm s i = Rm s (i + 1) := by
  have e := drop_cons s i c h
  have h1 : rl (s.drop i) = rl (s.drop (i + 1)) + 1 := by
    rw [e]; unfold rl; rw [List.takeWhile_cons_of_pos (by simpa using hc)]; rfl
  unfold Rm
  rw [h1, show i + (rl (s.drop (i + 1)) + 1) = i + 1 + rl (s.drop (i + 1)) by omega]
theorem rm_out (s : List UInt8) (i : Nat) (h : s[i]? = some 10) : Rm s i = lx (s.drop (i + 1)) (i + 1) := by
  have e := drop_cons s i 10 h
  have h1 : rl (s.drop i) = 0 := by rw [e]; unfold rl; rw [List.takeWhile_cons_of_neg (by decide)]; rfl
  unfold Rm
  rw [h1, Nat.add_zero, e, lx_blank _ _ _ rfl]
theorem rm_end (s : List UInt8) (i : Nat) (h : s.length ≤ i) : Rm s i = ([], none) := by
  unfold Rm
  rw [List.drop_of_length_le (by omega)]
  rfl
theorem lx_over (s : List UInt8) (i : Nat) (c : UInt8) (h : s[i]? = some c) (hc : isB c = true) : lx (s.drop i) i = lx (s.drop (i + 1)) (i + 1) := by
  rw [drop_cons s i c h, lx_blank _ _ _ hc]
theorem lx_end (s : List UInt8) (i : Nat) (h : s.length ≤ i) : lx (s.drop i) i = ([], none) := by
  rw [List.drop_of_length_le h]; rfl
/-- A mark. -/
theorem mark_at (s : List UInt8) (i : Nat) (c : UInt8) (h : s[i]? = some c) (h1 : isB c = false) (h2 : (c == 35) = false) (h3 : isW c = false) :
    gap (s.drop i) = 0 ∧ tl (s.drop i) = (if (c == 61 || c == 33) && s[i + 1]? == some 61 then 2 else if isM c then 1 else 0) := by
  rw [drop_cons s i c h]
  refine ⟨by rw [gap_cons, if_neg (by rw [h1]; decide), if_neg (by rw [h2]; decide)], ?_⟩
  have hw : wl (c :: s.drop (i + 1)) = 0 := by unfold wl; rw [List.takeWhile_cons_of_neg (by rw [h3]; decide)]; rfl
  unfold tl
  rw [if_pos hw, mk_cons, List.head?_drop]
theorem lx_mark (s : List UInt8) (i n : Nat) (hi : i < s.length) (hg : gap (s.drop i) = 0) (hn : tl (s.drop i) = n) (h0 : 0 < n) : i + n ≤ s.length ∧ lx (s.drop i) i = (⟨(s.take (i + n)).drop i, i⟩ :: (lx (s.drop (i + n)) (i + n)).1, (lx (s.drop (i + n)) (i + n)).2) := by
  have := tl_le (s.drop i)
  rw [List.length_drop] at this
  refine ⟨by omega, ?_⟩
  rw [lx_tok _ _ hg (by omega), hn, List.drop_drop, List.drop_take, show i + n - i = n by omega]
end Go.Proofs.YtfngcphklfjhjaaDoor.lx
