/- Texts laid together: OrP, LxQ, TmS, LxV. -/
import Derived.Test.YtpanodaecjlgaaaZ2
import Derived.Test.YtpanodaecjlgaaaZ1
import Derived.Deep.QuietTactic
import Derived.WalkSpells
import Derived.Laws.AppendOwn
import Derived.Lib.AppendZeros
import Derived.Maps.OwnSet
import Derived.Test.YtpanodaecjlgaaaChecked
/- In which order rules are done: both ways of it (pure). -/
namespace Go.Proofs.Ytpanodaecjlgaaa.oq
set_option linter.unusedVariables false
set_option linter.unusedSimpArgs false
open lx ex tm

theorem idxs_shift (p : D → Bool) (ds : List D) : ∀ k, idxs p k ds = ((List.range ds.length).filter (fun i => (ds[i]?.map p) == some true)).map (· + k) := by
  induction ds with
  | nil => intro k; rfl
  | cons d r ih =>
    intro k
    rw [idxs, ih (k + 1), List.length_cons, List.range_succ_eq_map, List.filter_cons, List.filter_map]
    have e1 : ((fun i => (((d :: r)[i]?).map p == some true)) ∘ Nat.succ) = fun i => (r[i]?.map p) == some true := by
      funext i
      simp
    have e2 : ((fun x => x + k) ∘ Nat.succ) = fun x => x + (k + 1) := by
      funext i
      simp; omega
    rw [e1]
    cases hp : p d with
    | true =>
      simp only [List.getElem?_cons_zero, Option.map_some, hp, beq_self_eq_true, if_true, List.map_cons, List.map_map, e2]
      simp
    | false =>
      simp only [List.getElem?_cons_zero, Option.map_some, hp]
      simp
      intro a _ _ _ _
      omega
theorem idxs_is (p : D → Bool) (ds : List D) : idxs p 0 ds = (List.range ds.length).filter (fun i => (ds[i]?.map p) == some true) := by
  rw [idxs_shift]
  simp
theorem idxs_step (p : D → Bool) (ds : List D) (j : Nat) (d : D) (h : ds[j]? = some d) : idxs p 0 (ds.take (j + 1)) = idxs p 0 (ds.take j) ++ (if p d then [j] else []) := by
  have hj := (List.getElem?_eq_some_iff.1 h).1
  rw [idxs_is, idxs_is, List.length_take, List.length_take, Nat.min_eq_left (by omega), Nat.min_eq_left (by omega), List.range_succ, List.filter_append]
  congr 1
  · apply List.filter_congr
    intro k hk
    have := List.mem_range.1 hk
    rw [List.getElem?_take, List.getElem?_take, if_pos (by omega), if_pos this]
  · rw [List.filter_cons, List.filter_nil, List.getElem?_take, if_pos (show j < j + 1 from Nat.lt_succ_self j), h]
    cases hp : p d <;> simp [hp]
theorem idxs_all (p : D → Bool) (ds : List D) : idxs p 0 (ds.take ds.length) = idxs p 0 ds := by rw [List.take_length]
theorem idxs_len (p : D → Bool) (ds : List D) : (idxs p 0 ds).length ≤ ds.length := by
  rw [idxs_is]
  refine Nat.le_trans (List.length_filter_le _ _) ?_
  rw [List.length_range]; exact Nat.le_refl _
/-- The Checks that are left. -/
def lft (ds : List D) (met : List Nat) : List Nat := (List.range ds.length).filter (fun i => isC ds i && decide (i ∉ met))
theorem isC_is (ds : List D) (i : Nat) : ((ds[i]?.map (fun d : D => d.ru == 3)) == some true) = isC ds i := by
  unfold isC
  cases ds[i]? with
  | none => rfl
  | some d =>
    rw [Bool.eq_iff_iff, beq_iff_eq, beq_iff_eq, Option.map_some, Option.map_some]
    constructor
    · intro h; injection h with h; rw [beq_iff_eq] at h; rw [h]
    · intro h; injection h with h; rw [h]; rfl
theorem lft_start (ds : List D) : idxs (fun d => d.ru == 3) 0 ds = lft ds [] := by
  rw [idxs_is]
  unfold lft
  apply List.filter_congr
  intro i _
  rw [isC_is]
  simp
theorem lft_mem {ds : List D} {met : List Nat} {i : Nat} : i ∈ lft ds met ↔ isC ds i = true ∧ i ∉ met := by
  unfold lft
  rw [List.mem_filter, Bool.and_eq_true, decide_eq_true_eq, List.mem_range]
  constructor
  · rintro ⟨_, h⟩; exact h
  · rintro h
    refine ⟨?_, h⟩
    have := h.1
    unfold isC at this
    rcases Nat.lt_or_ge i ds.length with h1 | h1
    · exact h1
    · rw [List.getElem?_eq_none h1] at this; cases this
theorem lft_len (ds : List D) (met : List Nat) : (lft ds met).length ≤ ds.length := by
  refine Nat.le_trans (List.length_filter_le _ _) ?_
  rw [List.length_range]; exact Nat.le_refl _
theorem lft_erase (ds : List D) (met : List Nat) (i : Nat) : (lft ds met).erase i = lft ds (i :: met) := by
  have hn : (lft ds met).Nodup := List.nodup_range.filter _
  rw [hn.erase_eq_filter]
  unfold lft
  rw [List.filter_filter]
  apply List.filter_congr
  intro k _
  rw [Bool.eq_iff_iff]
  simp [and_assoc, and_comm, and_left_comm]
theorem lft_lt {ds : List D} {met : List Nat} {i : Nat} (h : i ∈ lft ds met) : i < ds.length := List.mem_range.1 (List.mem_filter.1 h).1
/-- What is done next. -/
def good (ds : List D) (met : List Nat) (i : Nat) : Bool := isC ds i && decide (i ∉ met) && (under ds i).all (fun j => decide (j ∈ met))
theorem under_isC' {ds : List D} {j k : Nat} (h : k ∈ under ds j) : isC ds k = true := by
  unfold under at h
  split at h
  · cases h
  · split at h
    · exact (List.mem_filter.1 h).2
    · cases h
theorem ready_is (ds : List D) (met : List Nat) (i : Nat) : ready ds (lft ds met) i = (under ds i).all (fun j => decide (j ∈ met)) := by
  unfold ready
  rw [Bool.eq_iff_iff, Bool.not_eq_true', List.any_eq_false, List.all_eq_true]
  refine forall_congr' fun j => forall_congr' fun hj => ?_
  rw [List.contains_iff_mem, lft_mem, decide_eq_true_eq]
  simp [under_isC' hj]
theorem find_is (ds : List D) (met : List Nat) : (lft ds met).find? (ready ds (lft ds met)) = (List.range ds.length).find? (good ds met) := by
  have e : ready ds (lft ds met) = fun i => (under ds i).all (fun j => decide (j ∈ met)) := funext (ready_is ds met)
  rw [e]
  unfold lft
  rw [List.find?_filter]
  congr 1
  funext a
  rw [Bool.eq_iff_iff]
  unfold good
  simp [and_assoc]
theorem find_yes {ds : List D} {met : List Nat} {i : Nat} (hi : good ds met i = true) (hl : i < ds.length) (hn : ∀ k, k < i → good ds met k = false) : (lft ds met).find? (ready ds (lft ds met)) = some i := by
  rw [find_is, List.find?_range_eq_some]
  exact ⟨hi, List.mem_range.2 hl, fun k hk => by rw [hn k hk]; rfl⟩
theorem find_no {ds : List D} {met : List Nat} (hn : ∀ k, k < ds.length → good ds met k = false) : (lft ds met).find? (ready ds (lft ds met)) = none := by
  rw [find_is, List.find?_eq_none]
  intro k hk
  rw [hn k (List.mem_range.1 hk)]
  exact Bool.false_ne_true
/-- As one has come so far. -/
theorem ordC_yes {ds : List D} {met : List Nat} {f i : Nat} (h : (lft ds met).find? (ready ds (lft ds met)) = some i) (hf : (lft ds met).length ≤ f) : ∃ f', f = f' + 1 ∧ ordC ds f (lft ds met) = i :: ordC ds f' (lft ds (i :: met)) ∧ (lft ds (i :: met)).length + 1 = (lft ds met).length ∧ i ∈ lft ds met := by
  have hm : i ∈ lft ds met := List.mem_of_find?_eq_some h
  have hp := List.length_pos_of_mem hm
  obtain ⟨f', rfl⟩ : ∃ f', f = f' + 1 := ⟨f - 1, by omega⟩
  refine ⟨f', rfl, ?_, ?_, hm⟩
  · rw [ordC, h]
    show i :: ordC ds f' ((lft ds met).erase i) = _
    rw [lft_erase]
  · rw [← lft_erase, List.length_erase_of_mem hm]; omega
theorem ordC_no {ds : List D} {met : List Nat} {f : Nat} (h : (lft ds met).find? (ready ds (lft ds met)) = none) : ordC ds f (lft ds met) = [] := by
  cases f with
  | zero => rfl
  | succ f => rw [ordC, h]
theorem ordr_is (ds : List D) : ordr ds = idxs (fun d => d.ru == 1 || d.ru == 2) 0 ds ++ ordC ds ds.length (lft ds []) := by
  unfold ordr
  rw [lft_start]
end Go.Proofs.Ytpanodaecjlgaaa.oq
/- Tokens: where they stand; written again they are the same; going on byte by byte (pure). -/
namespace Go.Proofs.Ytpanodaecjlgaaa.lx
set_option linter.unusedVariables false

/-- Tokens, each where it is told, from a place on. -/
def Ch (s : List UInt8) : Nat → List Tk → Prop
  | _, [] => True
  | p, t :: r => p ≤ t.a ∧ t.a + t.t.length ≤ s.length ∧ (s.drop t.a).take t.t.length = t.t ∧ IsT t.t ∧ Ch s (t.a + t.t.length) r
theorem Ch.low {s : List UInt8} {p q : Nat} {l : List Tk} (h : Ch s q l) (hp : p ≤ q) : Ch s p l := by
  cases l with
  | nil => trivial
  | cons t r => exact ⟨by have := h.1; omega, h.2⟩
theorem lx_ch (s : List UInt8) (n : Nat) : ∀ a, s.length - a ≤ n → a ≤ s.length → Ch s a (lx (s.drop a) a).1 := by
  induction n with
  | zero =>
    intro a h1 h2
    rw [List.drop_of_length_le (by omega), lx_nil]
    trivial
  | succ n ih =>
    intro a h1 h2
    by_cases h0 : s.drop a = []
    · rw [h0, lx_nil]; trivial
    have hl : (s.drop a).length = s.length - a := List.length_drop
    by_cases hg : 0 < gap (s.drop a)
    · have hgl := gap_le (s.drop a)
      rw [lx_gap _ _ hg, List.drop_drop]
      exact (ih (a + gap (s.drop a)) (by omega) (by omega)).low (by omega)
    · by_cases ht : 0 < tl (s.drop a)
      · have htl := tl_le (s.drop a)
        rw [lx_tok _ _ (by omega) ht, List.drop_drop]
        have e : ((s.drop a).take (tl (s.drop a))).length = tl (s.drop a) := by rw [List.length_take]; omega
        refine ⟨Nat.le_refl _, ?_, ?_, tl_isT _ ht, ?_⟩
        · dsimp only; rw [e]; omega
        · dsimp only; rw [e]
        · dsimp only; rw [e]
          exact ih (a + tl (s.drop a)) (by omega) (by omega)
      · rw [lx_bad _ _ h0 (by omega) (by omega)]
        trivial
theorem lx_len (l : List UInt8) : ∀ (n a : Nat), l.length ≤ n → (lx l a).1.length ≤ l.length := by
  intro n
  induction n generalizing l with
  | zero =>
    intro a h
    obtain rfl : l = [] := List.eq_nil_of_length_eq_zero (by omega)
    simp [lx_nil]
  | succ n ih =>
    intro a h
    by_cases h0 : l = []
    · subst h0; simp [lx_nil]
    by_cases hg : 0 < gap l
    · have := gap_le l
      rw [lx_gap _ _ hg]
      have := ih (l.drop (gap l)) (a + gap l) (by rw [List.length_drop]; omega)
      rw [List.length_drop] at this
      omega
    · by_cases ht : 0 < tl l
      · have := tl_le l
        rw [lx_tok _ _ (by omega) ht]
        have := ih (l.drop (tl l)) (a + tl l) (by rw [List.length_drop]; omega)
        rw [List.length_drop] at this
        simp only [List.length_cons]
        omega
      · rw [lx_bad _ _ h0 (by omega) (by omega)]
        simp
/-- What stands between tokens. -/
def seps : List (List UInt8) := [[32], [10], [9, 32], [35, 120, 61, 61, 49, 10]]
theorem sep_gone (b y : List UInt8) (a : Nat) (hb : b ∈ seps) : lx (b ++ y) a = lx y (a + b.length) ∧ ∃ c r, b = c :: r ∧ isW c = false ∧ c ≠ 61 := by
  simp only [seps, List.mem_cons, List.not_mem_nil, or_false] at hb
  rcases hb with rfl | rfl | rfl | rfl
  · exact ⟨lx_blank _ _ _ rfl, _, _, rfl, by decide, by decide⟩
  · exact ⟨lx_blank _ _ _ rfl, _, _, rfl, by decide, by decide⟩
  · refine ⟨?_, _, _, rfl, by decide, by decide⟩
    show lx (9 :: 32 :: y) a = _
    rw [lx_blank _ _ _ rfl, lx_blank _ _ _ rfl]
    rfl
  · refine ⟨?_, _, _, rfl, by decide, by decide⟩
    have e : gap ([35, 120, 61, 61, 49, 10] ++ y) = 5 := rfl
    rw [lx_gap _ _ (by omega), e]
    show lx (10 :: y) (a + 5) = _
    rw [lx_blank _ _ _ rfl]
    rfl
def jb (b : List UInt8) : List (List UInt8) → List UInt8
  | [] => []
  | x :: r => x ++ b ++ jb b r
theorem jb_app (b : List UInt8) (l m : List (List UInt8)) : jb b (l ++ m) = jb b l ++ jb b m := by
  induction l with
  | nil => rfl
  | cons x l ih => simp only [List.cons_append, jb, ih, List.append_assoc]
theorem jb_snoc (b : List UInt8) (l : List (List UInt8)) (x : List UInt8) : jb b (l ++ [x]) = jb b l ++ (x ++ b) := by
  rw [jb_app]; simp [jb]
theorem relex (b : List UInt8) (hb : b ∈ seps) (l : List (List UInt8)) (hl : ∀ x ∈ l, IsT x) : ∀ a, (lx (jb b l) a).1.map Tk.t = l ∧ (lx (jb b l) a).2 = none := by
  induction l with
  | nil => intro a; exact ⟨rfl, rfl⟩
  | cons x l ih =>
    intro a
    obtain ⟨g1, c, r, g2, g3, g4⟩ := sep_gone b (jb b l) (a + x.length) hb
    have e : lx (jb b (x :: l)) a = (⟨x, a⟩ :: (lx (b ++ jb b l) (a + x.length)).1, (lx (b ++ jb b l) (a + x.length)).2) := by
      show lx (x ++ b ++ jb b l) a = _
      rw [List.append_assoc]
      refine lx_app x (b ++ jb b l) a (hl x (by simp)) ?_ ?_
      · intro _ d hd
        rw [g2] at hd
        simp at hd
        rw [← hd]; exact g3
      · intro _ hd
        rw [g2] at hd
        simp at hd
        exact g4 hd
    rw [e, g1]
    obtain ⟨h1, h2⟩ := ih (fun y hy => hl y (by simp [hy])) (a + x.length + b.length)
    exact ⟨by simp only [List.map_cons, h1], h2⟩
/-- A word that has come to its end. -/
theorem word_end (s : List UInt8) (p i : Nat) (hp : p < i) (hi : i ≤ s.length) (hw : ∀ j, p ≤ j → (h : j < i) → isW (s[j]'(by omega)) = true) (he : ∀ c, s[i]? = some c → isW c = false) :
    lx (s.drop p) p = (⟨(s.take i).drop p, p⟩ :: (lx (s.drop i) i).1, (lx (s.drop i) i).2) := by
  have e : s.drop p = (s.take i).drop p ++ s.drop i := by
    have := List.take_append_drop (i - p) (s.drop p)
    rw [List.drop_drop, show p + (i - p) = i by omega] at this
    rw [List.drop_take, this]
  have hl : ((s.take i).drop p).length = i - p := by rw [List.length_drop, List.length_take]; omega
  have hall : ∀ c ∈ (s.take i).drop p, isW c = true := by
    intro c hc
    obtain ⟨k, hk, rfl⟩ := List.mem_iff_getElem.1 hc
    rw [hl] at hk
    rw [List.getElem_drop, List.getElem_take]
    exact hw (p + k) (by omega) (by omega)
  have h := lx_app ((s.take i).drop p) (s.drop i) p (Or.inl ⟨by intro h0; rw [h0] at hl; simp at hl; omega, hall⟩) (fun _ c hc => he c (by rw [List.head?_drop] at hc; exact hc))
    (fun h0 => by
      have := hall 61 (by rw [h0]; simp)
      exact absurd this (by decide))
  rw [hl, show p + (i - p) = i by omega] at h
  rw [← e] at h
  exact h
/-- Within a remark. -/
def Rm (s : List UInt8) (i : Nat) : List Tk × Option Nat := lx (s.drop (i + rl (s.drop i))) (i + rl (s.drop i))
theorem drop_cons (s : List UInt8) (i : Nat) (c : UInt8) (h : s[i]? = some c) : s.drop i = c :: s.drop (i + 1) := by
  obtain ⟨h1, h2⟩ := List.getElem?_eq_some_iff.1 h
  rw [List.drop_eq_getElem_cons h1, h2]
theorem rm_in (s : List UInt8) (i : Nat) (h : s[i]? = some 35) : lx (s.drop i) i = Rm s i := by
  have e := drop_cons s i 35 h
  have hg : gap (s.drop i) = rl (s.drop i) := by rw [e, gap_cons]; rfl
  have h1 : 0 < rl (s.drop i) := by
    rw [e]; unfold rl; rw [List.takeWhile_cons_of_pos (by decide)]; simp
  rw [lx_gap _ _ (by omega), hg, List.drop_drop]
  rfl
theorem rm_on (s : List UInt8) (i : Nat) (c : UInt8) (h : s[i]? = some c) (hc : c ≠ 10) : Rm s i = Rm s (i + 1) := by
  have e := drop_cons s i c h
  have h1 : rl (s.drop i) = rl (s.drop (i + 1)) + 1 := by
    rw [e]; unfold rl; rw [List.takeWhile_cons_of_pos (by simpa using hc)]; rfl
  unfold Rm
  rw [h1, show i + (rl (s.drop (i + 1)) + 1) = i + 1 + rl (s.drop (i + 1)) by omega]
theorem rm_out (s : List UInt8) (i : Nat) (h : s[i]? = some 10) : Rm s i = lx (s.drop (i + 1)) (i + 1) := by
  have e := drop_cons s i 10 h
  have h1 : rl (s.drop i) = 0 := by rw [e]; unfold rl; rw [List.takeWhile_cons_of_neg (by decide)]; rfl
  unfold Rm
  rw [h1, Nat.add_zero, e, lx_blank _ _ _ rfl]
theorem rm_end (s : List UInt8) (i : Nat) (h : s.length ≤ i) : Rm s i = ([], none) := by
  unfold Rm
  rw [List.drop_of_length_le (by omega)]
  rfl
theorem lx_over (s : List UInt8) (i : Nat) (c : UInt8) (h : s[i]? = some c) (hc : isB c = true) : lx (s.drop i) i = lx (s.drop (i + 1)) (i + 1) := by
  rw [drop_cons s i c h, lx_blank _ _ _ hc]
theorem lx_end (s : List UInt8) (i : Nat) (h : s.length ≤ i) : lx (s.drop i) i = ([], none) := by
  rw [List.drop_of_length_le h]; rfl
/-- A mark. -/
theorem mark_at (s : List UInt8) (i : Nat) (c : UInt8) (h : s[i]? = some c) (h1 : isB c = false) (h2 : (c == 35) = false) (h3 : isW c = false) :
    gap (s.drop i) = 0 ∧ tl (s.drop i) = (if (c == 61 || c == 33) && s[i + 1]? == some 61 then 2 else if isM c then 1 else 0) := by
  rw [drop_cons s i c h]
  refine ⟨by rw [gap_cons, if_neg (by rw [h1]; decide), if_neg (by rw [h2]; decide)], ?_⟩
  have hw : wl (c :: s.drop (i + 1)) = 0 := by unfold wl; rw [List.takeWhile_cons_of_neg (by rw [h3]; decide)]; rfl
  unfold tl
  rw [if_pos hw, mk_cons, List.head?_drop]
theorem lx_mark (s : List UInt8) (i n : Nat) (hi : i < s.length) (hg : gap (s.drop i) = 0) (hn : tl (s.drop i) = n) (h0 : 0 < n) : i + n ≤ s.length ∧ lx (s.drop i) i = (⟨(s.take (i + n)).drop i, i⟩ :: (lx (s.drop (i + n)) (i + n)).1, (lx (s.drop (i + n)) (i + n)).2) := by
  have := tl_le (s.drop i)
  rw [List.length_drop] at this
  refine ⟨by omega, ?_⟩
  rw [lx_tok _ _ hg (by omega), hn, List.drop_drop, List.drop_take, show i + n - i = n by omega]
end Go.Proofs.Ytpanodaecjlgaaa.lx
/- Tokens of a piece of a text, and of two texts; an expression up to a mark (pure). -/
namespace Go.Proofs.Ytpanodaecjlgaaa.tm
set_option linter.unusedVariables false
open lx ex

theorem tw_take (p : UInt8 → Bool) (l : List UInt8) (k : Nat) (h : (l.takeWhile p).length ≤ k) : ((l.take k).takeWhile p).length = (l.takeWhile p).length := by
  induction l generalizing k with
  | nil => simp
  | cons c l ih =>
    by_cases hc : p c = true
    · rw [List.takeWhile_cons_of_pos hc] at h ⊢
      cases k with
      | zero => simp at h
      | succ k =>
        rw [List.take_succ_cons, List.takeWhile_cons_of_pos hc, List.length_cons, List.length_cons, ih k (by simpa using h)]
    · rw [List.takeWhile_cons_of_neg hc]
      cases k with
      | zero => simp
      | succ k => rw [List.take_succ_cons, List.takeWhile_cons_of_neg hc]
theorem gap_take (l : List UInt8) (k : Nat) (hk : 0 < k) (h : gap l ≤ k) : gap (l.take k) = gap l := by
  cases l with
  | nil => simp
  | cons c r =>
    cases k with
    | zero => omega
    | succ k =>
      rw [gap_cons] at h ⊢
      rw [List.take_succ_cons, gap_cons]
      split
      · rfl
      · rename_i h1
        rw [if_neg h1] at h
        split
        · rename_i h2
          rw [if_pos h2] at h
          have := tw_take (· != 10) (c :: r) (k + 1) h
          rw [List.take_succ_cons] at this
          exact this
        · rfl
theorem tl_take (l : List UInt8) (k : Nat) (hk : 0 < k) (h : tl l ≤ k) : tl (l.take k) = tl l := by
  unfold tl at h ⊢
  by_cases hw : wl l = 0
  · rw [if_pos hw] at h ⊢
    have hw' : wl (l.take k) = 0 := by
      have := tw_take isW l k (by show wl l ≤ k; omega)
      show ((l.take k).takeWhile isW).length = 0
      rw [this]; exact hw
    rw [if_pos hw']
    cases l with
    | nil => simp
    | cons c r =>
      cases k with
      | zero => omega
      | succ k =>
        rw [mk_cons] at h ⊢
        rw [List.take_succ_cons, mk_cons]
        by_cases h2 : ((c == 61 || c == 33) && r.head? == some 61) = true
        · rw [if_pos h2] at h ⊢
          rw [if_pos]
          cases r with
          | nil => simp at h2
          | cons e r =>
            cases k with
            | zero => omega
            | succ k => simpa using h2
        · rw [if_neg h2, if_neg]
          intro h3
          apply h2
          cases r with
          | nil => simp at h3
          | cons e r =>
            cases k with
            | zero => simp at h3
            | succ k => simpa using h3
  · rw [if_neg hw] at h ⊢
    have := tw_take isW l k h
    have e : wl (l.take k) = wl l := this
    rw [e, if_neg hw]
/-- Where a token begins a text may be cut. -/
theorem lx_cut (n : Nat) : ∀ (l : List UInt8) (a : Nat) (u v : List Tk), l.length ≤ n → lx l a = (u ++ v, none) →
    a ≤ (hd (a + l.length) v).a ∧ (hd (a + l.length) v).a ≤ a + l.length ∧ lx (l.take ((hd (a + l.length) v).a - a)) a = (u, none) ∧ lx (l.drop ((hd (a + l.length) v).a - a)) (hd (a + l.length) v).a = (v, none) := by
  induction n with
  | zero =>
    intro l a u v hl h
    obtain rfl : l = [] := List.eq_nil_of_length_eq_zero (by omega)
    rw [lx_nil] at h
    injection h with h _
    obtain ⟨rfl, rfl⟩ : u = [] ∧ v = [] := by simpa using h.symm
    simp [hd, lx_nil]
  | succ n ih =>
    intro l a u v hl h
    by_cases h0 : l = []
    · subst h0
      exact ih [] a u v (by simp) h
    by_cases hg : 0 < gap l
    · have hgl := gap_le l
      rw [lx_gap _ _ hg] at h
      obtain ⟨k1, k2, k3, k4⟩ := ih (l.drop (gap l)) (a + gap l) u v (by rw [List.length_drop]; omega) h
      have e : a + gap l + (l.drop (gap l)).length = a + l.length := by rw [List.length_drop]; omega
      rw [e] at k1 k2 k3 k4
      generalize (hd (a + l.length) v).a = p at *
      refine ⟨by omega, k2, ?_, ?_⟩
      · have e2 : gap (l.take (p - a)) = gap l := gap_take l (p - a) (by omega) (by omega)
        rw [lx_gap _ _ (by rw [e2]; exact hg), e2, List.drop_take, show p - a - gap l = p - (a + gap l) by omega]
        exact k3
      · rw [List.drop_drop, show gap l + (p - (a + gap l)) = p - a by omega] at k4
        exact k4
    · by_cases ht : 0 < tl l
      · have htl := tl_le l
        have h' := h
        rw [lx_tok _ _ (by omega) ht] at h
        cases u with
        | nil =>
          injection h with h1 h2
          rw [List.nil_append] at h1
          rw [← h1]
          show a ≤ a ∧ a ≤ a + l.length ∧ lx (l.take (a - a)) a = ([], none) ∧ lx (l.drop (a - a)) a = _
          rw [Nat.sub_self, List.take_zero, List.drop_zero, lx_nil]
          refine ⟨Nat.le_refl _, by omega, rfl, ?_⟩
          rw [h', List.nil_append, h1]
        | cons t u =>
          injection h with h1 h2
          rw [List.cons_append] at h1
          injection h1 with h1 h3
          have h4 : lx (l.drop (tl l)) (a + tl l) = (u ++ v, none) := by
            rw [← h3, ← h2]
          obtain ⟨k1, k2, k3, k4⟩ := ih (l.drop (tl l)) (a + tl l) u v (by rw [List.length_drop]; omega) h4
          have e : a + tl l + (l.drop (tl l)).length = a + l.length := by rw [List.length_drop]; omega
          rw [e] at k1 k2 k3 k4
          generalize (hd (a + l.length) v).a = p at *
          refine ⟨by omega, k2, ?_, ?_⟩
          · have e1 : gap (l.take (p - a)) = 0 := by rw [gap_take l (p - a) (by omega) (by omega)]; omega
            have e2 : tl (l.take (p - a)) = tl l := tl_take l (p - a) (by omega) (by omega)
            rw [lx_tok _ _ e1 (by rw [e2]; exact ht), e2, List.drop_take, show p - a - tl l = p - (a + tl l) by omega, k3]
            rw [List.take_take, Nat.min_eq_left (by omega), h1]
          · rw [List.drop_drop, show tl l + (p - (a + tl l)) = p - a by omega] at k4
            exact k4
      · rw [lx_bad _ _ h0 (by omega) (by omega)] at h
        injection h with _ h
        cases h
theorem lx_pad (k : Nat) : ∀ (x : List UInt8) (a : Nat), lx (List.replicate k 32 ++ x) a = lx x (a + k) := by
  induction k with
  | zero => intro x a; rfl
  | succ k ih =>
    intro x a
    rw [List.replicate_succ, List.cons_append, lx_blank _ _ _ (by decide), ih]
    congr 1
    omega
/-- What stands ahead of a mark, blanks ahead of it. -/
theorem lx_seg {l : List UInt8} {pre u v : List Tk} (h : lx l 0 = (pre ++ (u ++ v), none)) :
    (hd l.length (u ++ v)).a ≤ (hd l.length v).a ∧ (hd l.length v).a ≤ l.length ∧ lx (List.replicate (hd l.length (u ++ v)).a 32 ++ (l.drop (hd l.length (u ++ v)).a).take ((hd l.length v).a - (hd l.length (u ++ v)).a)) 0 = (u, none) := by
  obtain ⟨k1, k2, k3, k4⟩ := lx_cut _ l 0 pre (u ++ v) (Nat.le_refl _) h
  rw [Nat.zero_add, Nat.sub_zero] at k4
  rw [Nat.zero_add] at k2
  generalize (hd l.length (u ++ v)).a = q at *
  obtain ⟨j1, j2, j3, j4⟩ := lx_cut _ (l.drop q) q u v (Nat.le_refl _) k4
  have e : q + (l.drop q).length = l.length := by rw [List.length_drop]; omega
  rw [e] at j1 j2 j3 j4
  refine ⟨j1, j2, ?_⟩
  rw [lx_pad, Nat.zero_add]
  exact j3
/-- A text behind a line feed. -/
theorem lx_join (n : Nat) : ∀ (l : List UInt8) (a : Nat) (u : List Tk) (y : List UInt8), l.length ≤ n → lx l a = (u, none) →
    lx (l ++ 10 :: y) a = (u ++ (lx y (a + l.length + 1)).1, (lx y (a + l.length + 1)).2) := by
  induction n with
  | zero =>
    intro l a u y hl h
    obtain rfl : l = [] := List.eq_nil_of_length_eq_zero (by omega)
    rw [lx_nil] at h
    injection h with h _
    subst h
    rw [List.nil_append, lx_blank _ _ _ (by decide)]
    rfl
  | succ n ih =>
    intro l a u y hl h
    by_cases h0 : l = []
    · subst h0
      exact ih [] a u y (by simp) h
    have tw : ∀ (p : UInt8 → Bool), p 10 = false → ((l ++ 10 :: y).takeWhile p).length = (l.takeWhile p).length := by
      intro p hp
      clear h hl h0 ih
      induction l with
      | nil => rw [List.nil_append, List.takeWhile_cons_of_neg (by rw [hp]; decide)]; rfl
      | cons c l ih =>
        by_cases hc : p c = true
        · rw [List.cons_append, List.takeWhile_cons_of_pos hc, List.takeWhile_cons_of_pos hc, List.length_cons, List.length_cons, ih]
        · rw [List.cons_append, List.takeWhile_cons_of_neg hc, List.takeWhile_cons_of_neg hc]
    have eg : gap (l ++ 10 :: y) = gap l := by
      cases l with
      | nil => exact absurd rfl h0
      | cons c r =>
        rw [List.cons_append, gap_cons, gap_cons]
        have : rl (c :: (r ++ 10 :: y)) = rl (c :: r) := tw _ (by decide)
        rw [this]
    have et : tl (l ++ 10 :: y) = tl l := by
      have ew : wl (l ++ 10 :: y) = wl l := tw _ (by decide)
      unfold tl
      rw [ew]
      split
      · cases l with
        | nil => exact absurd rfl h0
        | cons c r =>
          rw [List.cons_append, mk_cons, mk_cons]
          cases r with
          | nil => simp
          | cons e r => simp
      · rfl
    by_cases hg : 0 < gap l
    · have hgl := gap_le l
      rw [lx_gap _ _ hg] at h
      rw [lx_gap _ _ (by rw [eg]; exact hg), eg]
      rw [List.drop_append_of_le_length hgl]
      rw [ih (l.drop (gap l)) (a + gap l) u y (by rw [List.length_drop]; omega) h]
      have e : a + gap l + (l.drop (gap l)).length + 1 = a + l.length + 1 := by rw [List.length_drop]; omega
      rw [e]
    · by_cases ht : 0 < tl l
      · have htl := tl_le l
        rw [lx_tok _ _ (by omega) ht] at h
        rw [lx_tok _ _ (by rw [eg]; omega) (by rw [et]; exact ht), et]
        injection h with h1 h2
        cases u with
        | nil => cases h1
        | cons t u =>
          injection h1 with h1 h3
          rw [List.drop_append_of_le_length htl, List.take_append_of_le_length htl]
          have h4 : lx (l.drop (tl l)) (a + tl l) = (u, none) := by rw [← h3, ← h2]
          rw [ih (l.drop (tl l)) (a + tl l) u y (by rw [List.length_drop]; omega) h4]
          have e : a + tl l + (l.drop (tl l)).length + 1 = a + l.length + 1 := by rw [List.length_drop]; omega
          rw [e, h1]
          rfl
      · rw [lx_bad _ _ h0 (by omega) (by omega)] at h
        injection h with _ h
        cases h
/-- Tokens elsewhere. -/
theorem lx_else (n : Nat) : ∀ (l : List UInt8) (a b : Nat), l.length ≤ n → (lx l a).1.map Tk.t = (lx l b).1.map Tk.t ∧ ((lx l a).2 = none → (lx l b).2 = none) := by
  induction n with
  | zero =>
    intro l a b hl
    obtain rfl : l = [] := List.eq_nil_of_length_eq_zero (by omega)
    exact ⟨rfl, fun h => h⟩
  | succ n ih =>
    intro l a b hl
    by_cases h0 : l = []
    · subst h0; exact ⟨rfl, fun h => h⟩
    by_cases hg : 0 < gap l
    · rw [lx_gap _ _ hg, lx_gap _ _ hg]
      exact ih _ _ _ (by rw [List.length_drop]; omega)
    · by_cases ht : 0 < tl l
      · rw [lx_tok _ _ (by omega) ht, lx_tok _ _ (by omega) ht]
        obtain ⟨h1, h2⟩ := ih (l.drop (tl l)) (a + tl l) (b + tl l) (by rw [List.length_drop]; omega)
        exact ⟨by simp only [List.map_cons, h1], h2⟩
      · rw [lx_bad _ _ h0 (by omega) (by omega), lx_bad _ _ h0 (by omega) (by omega)]
        exact ⟨rfl, fun h => by cases h⟩
theorem gd_id (t : List UInt8) : Gd id t := ⟨fun _ => rfl, fun h1 h2 => ⟨h1, h2, fun h => h⟩⟩
theorem rf_map {ρ : List UInt8 → List UInt8} {ts : List Tk} (hg : ∀ t ∈ ts, Gd ρ t.t) : ∀ {ts' : List Tk}, ts'.map Tk.t = ts.map (fun t => ρ t.t) → RF ρ ts ts' := by
  induction ts with
  | nil =>
    intro ts' h
    obtain rfl : ts' = [] := by simpa using h
    exact F2.nil
  | cons t ts ih =>
    intro ts' h
    cases ts' with
    | nil => simp at h
    | cons t' ts' =>
      simp only [List.map_cons, List.cons.injEq] at h
      exact F2.cons ⟨h.1, hg t (by simp)⟩ (ih (fun t ht => hg t (by simp [ht])) h.2)
theorem rf_id {ts ts' : List Tk} (h : ts'.map Tk.t = ts.map Tk.t) : RF id ts ts' := rf_map (fun _ _ => gd_id _) h
section
variable {nb : List UInt8 → Int × Int} {en : Nat}
/-- A mark that ends an expression. -/
def Em (m : List UInt8) : Prop := m ≠ [] ∧ isN m = false ∧ isU m = false ∧ m ≠ [40] ∧ m ≠ [41] ∧ bd m = 0
theorem em_cb : Em [93] := by unfold Em; decide
theorem em_ob : Em [123] := by unfold Em; decide
/-- Reading ahead of the mark, and with it. -/
def ext (v : List Tk) : Res → Res
  | .ok (x, r) => .ok (x, r ++ v)
  | .error e => .error e
theorem row_upto {m : List UInt8} (hm : Em m) (v : List Tk) (hv : v = [] ∨ (hd en v).t = m) (f : Nat) :
    (∀ k d u q, 1 ≤ k → row nb (hd en v).a f k d u = some q → row nb en f k d (u ++ v) = some (ext v q)) ∧
    (∀ k d y u q, 1 ≤ k → lp nb (hd en v).a f k d y u = some q → lp nb en f k d y (u ++ v) = some (ext v q)) ∧
    (∀ d u q, one nb (hd en v).a f d u = some q → one nb en f d (u ++ v) = some (ext v q)) := by
  obtain ⟨m0, m1, m2, m3, m4, m5⟩ := hm
  obtain ⟨p, hp⟩ : ∃ p, p = (hd en v).a := ⟨_, rfl⟩
  rw [← hp]
  induction f with
  | zero => exact ⟨fun _ _ _ _ _ h => by simp [row] at h, fun _ _ _ _ _ _ h => by simp [lp] at h, fun _ _ _ h => by simp [one] at h⟩
  | succ f ih =>
    obtain ⟨i1, i2, i3⟩ := ih
    refine ⟨?_, ?_, ?_⟩
    · intro k d u q h0 h
      by_cases hk : 3 < k
      · rw [row_top _ _ _ _ hk] at h
        rw [row_top _ _ _ _ hk]
        exact i3 _ _ _ h
      · rw [row_low _ _ _ _ hk] at h
        rw [row_low _ _ _ _ hk]
        split at h
        · cases h
        · rename_i e hr
          injection h with h
          rw [i1 _ _ _ _ (by omega) hr, ← h]
          rfl
        · rename_i x r hr
          rw [i1 _ _ _ _ (by omega) hr]
          exact i2 _ _ _ _ _ h0 h
    · intro k d y u q h0 h
      cases u with
      | nil =>
        rw [lp] at h
        injection h with h
        subst h
        rw [List.nil_append]
        cases v with
        | nil => rw [lp]; rfl
        | cons t v =>
          have : t.t = m := by
            rcases hv with h | h
            · cases h
            · exact h
          rw [lp, if_neg (by rw [this, m5]; omega)]
          rfl
      | cons t u =>
        rw [lp] at h
        rw [List.cons_append, lp]
        split at h
        · rename_i hb
          rw [if_pos hb]
          split at h
          · cases h
          · rename_i e hr
            injection h with h
            rw [i1 _ _ _ _ (by omega) hr, ← h]
            rfl
          · rename_i x r hr
            rw [i1 _ _ _ _ (by omega) hr]
            exact i2 _ _ _ _ _ h0 h
        · rename_i hb
          rw [if_neg hb]
          injection h with h
          subst h
          rfl
    · intro d u q h
      cases u with
      | nil =>
        rw [one] at h
        injection h with h
        subst h
        rw [List.nil_append]
        cases v with
        | nil => rw [one, hp]; rfl
        | cons t v =>
          have : t.t = m := by
            rcases hv with h | h
            · cases h
            · exact h
          rw [one, if_neg (by rw [this, m1]; decide), if_neg (by rw [this, m2]; decide), if_neg (by rw [this]; exact m3), hp]
          rfl
      | cons t u =>
        rw [one] at h
        rw [List.cons_append, one]
        split at h
        · rename_i c1
          rw [if_pos c1]
          split at h
          · rename_i c2
            rw [if_pos c2]
            injection h with h
            rw [← h]; rfl
          · rename_i c2
            rw [if_neg c2]
            injection h with h
            rw [← h]; rfl
        · rename_i c1
          rw [if_neg c1]
          split at h
          · rename_i c2
            rw [if_pos c2]
            split at h
            · rename_i c3
              rw [if_pos c3]
              injection h with h
              rw [← h]; rfl
            · rename_i c3
              rw [if_neg c3]
              injection h with h
              rw [← h]; rfl
          · rename_i c2
            rw [if_neg c2]
            split at h
            · rename_i c3
              rw [if_pos c3]
              split at h
              · rename_i c4
                rw [if_pos c4]
                injection h with h
                rw [← h]; rfl
              · rename_i c4
                rw [if_neg c4]
                split at h
                · cases h
                · rename_i e hr
                  injection h with h
                  rw [i1 _ _ _ _ (by omega) hr, ← h]; rfl
                · rename_i x r hr
                  rw [i1 _ _ _ _ (by omega) hr]
                  dsimp only [ext]
                  cases r with
                  | nil =>
                    rw [if_neg (show ¬ (hd p ([] : List Tk)).t = [41] by show ¬ ([] : List UInt8) = [41]; decide)] at h
                    injection h with h
                    rw [List.nil_append, ← h]
                    have e1 : ¬ (hd en v).t = [41] := by
                      rcases hv with h | h
                      · rw [h]; show ¬ ([] : List UInt8) = [41]; decide
                      · rw [h]; exact m4
                    rw [if_neg e1, ← hp]
                    rfl
                  | cons t' r =>
                    rw [show hd p (t' :: r) = t' from rfl] at h
                    rw [List.cons_append, show hd en (t' :: (r ++ v)) = t' from rfl]
                    split at h
                    · rename_i c5
                      rw [if_pos c5]
                      injection h with h
                      rw [← h]; rfl
                    · rename_i c5
                      rw [if_neg c5]
                      injection h with h
                      rw [← h]
            · rename_i c3
              rw [if_neg c3]
              injection h with h
              rw [← h]; rfl
/-- Up to a mark, and from it on. -/
def upto (m : List UInt8) (ts : List Tk) : List Tk := ts.takeWhile (fun t => t.t != m)
def from_ (m : List UInt8) (ts : List Tk) : List Tk := ts.dropWhile (fun t => t.t != m)
theorem upto_from (m : List UInt8) (ts : List Tk) : upto m ts ++ from_ m ts = ts := List.takeWhile_append_dropWhile
theorem from_hd (m : List UInt8) (ts : List Tk) : from_ m ts = [] ∨ (hd en (from_ m ts)).t = m := by
  unfold from_
  induction ts with
  | nil => exact Or.inl rfl
  | cons t ts ih =>
    by_cases h : (t.t != m) = true
    · rw [List.dropWhile_cons_of_pos (p := fun t : Tk => t.t != m) h]; exact ih
    · rw [List.dropWhile_cons_of_neg (p := fun t : Tk => t.t != m) h]
      right
      show t.t = m
      simpa using h
theorem upto_not {m : List UInt8} {ts : List Tk} {t : Tk} (h : t ∈ upto m ts) : t.t ≠ m := by
  unfold upto at h
  induction ts with
  | nil => simp at h
  | cons u ts ih =>
    by_cases hu : (u.t != m) = true
    · rw [List.takeWhile_cons_of_pos (p := fun t : Tk => t.t != m) hu, List.mem_cons] at h
      rcases h with rfl | h
      · simpa using hu
      · exact ih h
    · rw [List.takeWhile_cons_of_neg (p := fun t : Tk => t.t != m) hu] at h
      simp at h
/-- What reading ahead of the mark comes to. -/
def rxq (en : Nat) (v : List Tk) : Res → Rs Ex
  | .ok (x, []) => if v = [] then .error (3, en) else .ok (x, v)
  | .ok (_, t :: _) => .error (3, t.a)
  | .error e => .error e
/-- What a piece's reading tells of the whole's. -/
theorem rx_upto {m : List UInt8} (hm : Em m) {ts : List Tk} {q : Res} {f : Nat} (h : row nb (hd en (from_ m ts)).a f 1 0 (upto m ts) = some q) (hmem : ∀ x r, q = .ok (x, r) → ∀ t ∈ r, t ∈ upto m ts) :
    rx nb en m ts = rxq en (from_ m ts) q := by
  have hv := from_hd (en := en) m ts
  have h1 := (row_upto hm (from_ m ts) hv f).1 _ _ _ _ (Nat.le_refl _) h
  rw [upto_from] at h1
  unfold rx
  cases hh : row nb en (10 * ts.length + 10) 1 0 ts with
  | none => exact absurd hh ((some_all _).1 1 0 ts (by omega) (by omega))
  | some q' =>
    have := row_one hh h1
    subst this
    cases q with
    | error e => rfl
    | ok xr =>
      obtain ⟨x, r⟩ := xr
      cases r with
      | nil =>
        dsimp only [ext, List.nil_append, rxq]
        rcases hv with h | h
        · rw [h, if_pos rfl, if_neg (show ¬ (hd en ([] : List Tk)).t = m from fun e => hm.1 e.symm)]
          rfl
        · rw [if_pos h, if_neg]
          intro e
          rw [e] at h
          exact hm.1 h.symm
      | cons t r =>
        dsimp only [ext, List.cons_append, rxq]
        rw [show hd en (t :: (r ++ from_ m ts)) = t from rfl, if_neg (upto_not (hmem x _ rfl t (by simp)))]
end
end Go.Proofs.Ytpanodaecjlgaaa.tm
/- Bytes of a text; blocks that stay as they were. -/
namespace Go.Proofs.Ytpanodaecjlgaaa.lx
set_option linter.unusedVariables false
open Go.ChangeShapes Go.WideShapes Go.ChangeAt Go.RowKit
open mem
/-- Byte j of a text. -/
def sb (s : ByteArray) (j : Nat) : Int := ((s.data.toList.getD j 0).toNat : Int)
theorem sb_bd (s : ByteArray) (j : Nat) : 0 ≤ sb s j ∧ sb s j < 256 := by
  unfold sb
  have := (s.data.toList.getD j 0).toNat_lt
  omega
theorem sb_get (s : ByteArray) (j : Nat) (h : j < s.size) : sb s j = ((s[j]'h).toNat : Int) := by
  unfold sb
  have h' : j < s.data.toList.length := by simpa using h
  rw [List.getD_eq_getElem?_getD, List.getElem?_eq_getElem h']
  rfl
theorem at_bl {w w' : World} (h : Bl w w') {a : Addr} {v : Value} (hc : w.cell? a = some v) : w'.cell? a = some v := by
  have hlt : a.block < w.heap.size := by
    rcases Nat.lt_or_ge a.block w.heap.size with h1 | h1
    · exact h1
    · simp [World.cell?, Array.getElem?_eq_none h1] at hc
  unfold World.cell? at hc ⊢
  rw [Below.block h _ hlt]
  exact hc
theorem bl_grown {w0 w w' : World} {row : Option Nat} (h : Bl w0 w) (hg : w.grownBy w' row) (hrow : ∀ k, row = some k → w0.heap.size ≤ k) : Bl w0 w' := by
  refine ⟨hg.os.trans h.os, hg.tape.trans h.tape, hg.output.trans h.output, Nat.le_trans h.size hg.size, fun k hk => ?_⟩
  rw [hg.block k (Nat.lt_of_lt_of_le hk h.size) (fun e => by have := hrow k e.symm; omega)]
  exact h.block k hk
theorem grown_set (w : World) (b i : Nat) (v : Value) : w.grownBy (w.setCell ⟨b, i, none⟩ v) (some b) :=
  ⟨rfl, rfl, rfl, by simp [World.setCell], fun k hk hne => by
    have : ¬ b = k := fun e => hne (by rw [e])
    simp [World.setCell, Array.getElem?_modify, this]⟩
theorem cell_of {w : World} {g : Nat} {cur : Array Value} {e : TypeId} {fr : Nat × Nat} (h : w.heap[g]? = some (.cells cur e fr)) (j : Nat) : w.cell? ⟨g, j, none⟩ = cur[j]? := by
  simp [World.cell?, h]
theorem lt_of_heap {w : World} {g : Nat} {o : Obj} (h : w.heap[g]? = some o) : g < w.heap.size := (Array.getElem?_eq_some_iff.1 h).1
/-- A text's bytes. -/
def L (s : ByteArray) : List UInt8 := s.data.toList
/-- The text of bytes. -/
def tx (l : List UInt8) : ByteArray := ⟨l.toArray⟩
theorem L_len (s : ByteArray) : (L s).length = s.size := by simp [L]
theorem L_tx (l : List UInt8) : L (tx l) = l := by simp [L, tx]
theorem tx_L (s : ByteArray) : tx (L s) = s := by simp [L, tx]
theorem L_inj {a b : ByteArray} (h : L a = L b) : a = b := by rw [← tx_L a, ← tx_L b, h]
theorem tx_size (l : List UInt8) : (tx l).size = l.length := by rw [← L_len, L_tx]
theorem L_app (a b : ByteArray) : L (a ++ b) = L a ++ L b := by simp [L]
theorem tx_app (a b : List UInt8) : tx a ++ tx b = tx (a ++ b) := L_inj (by rw [L_app, L_tx, L_tx, L_tx])
theorem L_ext (s : ByteArray) (i j : Nat) : L (s.extract i j) = ((L s).take j).drop i := by
  simp [L, ByteArray.data_extract, List.drop_take]
end Go.Proofs.Ytpanodaecjlgaaa.lx
