/- Texts laid together: TmQ, TmC, LxQ, TmS, LxV. -/
import Derived.Test.YtpanodaecjlgaaaGreatDoorXTypesFinds2
import Derived.Deep.QuietTactic
import Derived.WalkSpells
import Derived.Laws.AppendOwn
import Derived.Lib.AppendZeros
import Derived.Maps.OwnSet
import Derived.Test.YtpanodaecjlgaaaGreatDoorChecked
/- Templates: read with other names, at other places, with more behind them (pure). -/
namespace Go.Proofs.YtpanodaecjlgaaaGreatDoor.tm
set_option linter.unusedVariables false
open lx ex

/-- What stands for a token. -/
def Gd (ρ : List UInt8 → List UInt8) (t : List UInt8) : Prop :=
  (isN t = false ∨ resv t = true → ρ t = t) ∧ (isN t = true → resv t = false → isN (ρ t) = true ∧ resv (ρ t) = false ∧ (t.length ≤ 12 → (ρ t).length ≤ 12))
inductive Rx (ρ : List UInt8 → List UInt8) : Ex → Ex → Prop
  | num (a b : Nat) (k : Int) : Rx ρ (.num a k) (.num b k)
  | nam (a b : Nat) (t : List UInt8) : Rx ρ (.nam a t) (.nam b (ρ t))
  | bin (a b : Nat) (o : List UInt8) (l l' r r' : Ex) : Rx ρ l l' → Rx ρ r r' → Rx ρ (.bin a o l r) (.bin b o l' r')
inductive RO (ρ : List UInt8 → List UInt8) : Option Ex → Option Ex → Prop
  | none : RO ρ none none
  | some {x y : Ex} : Rx ρ x y → RO ρ (some x) (some y)
structure RD (ρ : List UInt8 → List UInt8) (d d' : D) : Prop where
  kd : d'.kd = d.kd
  nm : d'.nm = ρ d.nm
  ty : d'.ty = ρ d.ty
  wd : d'.wd = d.wd
  od : d'.od = d.od
  sg : d'.sg = d.sg
  mn : d'.mn = d.mn
  ct : RO ρ d.ct d'.ct
  ru : d'.ru = d.ru
  f1 : d'.f1 = ρ d.f1
  l1 : d'.l1 = ρ d.l1
inductive RI (ρ : List UInt8 → List UInt8) : Its → Its → Prop
  | nil : RI ρ .nil .nil
  | cons {d d' : D} {s s' t t' : Its} : RD ρ d d' → RI ρ s s' → RI ρ t t' → RI ρ (.cons d s t) (.cons d' s' t')
inductive RT (ρ : List UInt8 → List UInt8) : List Ty → List Ty → Prop
  | nil : RT ρ [] []
  | cons {t t' : Ty} {l l' : List Ty} : t'.nm = ρ t.nm → RI ρ t.l t'.l → RT ρ l l' → RT ρ (t :: l) (t' :: l')
theorem RT.len {ρ : List UInt8 → List UInt8} {l l' : List Ty} (h : RT ρ l l') : l'.length = l.length := by
  induction h with
  | nil => rfl
  | cons _ _ _ ih => simp [ih]
/-- Words that are no names. -/
def Sp (m : List UInt8) : Prop := m ≠ [] ∧ (isN m = false ∨ resv m = true)
theorem bd_name {t : List UInt8} (h : isN t = true) : bd t = 0 := by
  have key : ∀ o : List UInt8, isN o = true → ¬ (o = [61, 61] ∨ o = [33, 61] ∨ o = [60] ∨ o = [62]) ∧ ¬ (o = [43] ∨ o = [45] ∨ o = [124]) ∧ ¬ (o = [42] ∨ o = [38]) := by
    intro o ho
    refine ⟨?_, ?_, ?_⟩ <;> intro hc
    · rcases hc with rfl | rfl | rfl | rfl <;> revert ho <;> decide
    · rcases hc with rfl | rfl | rfl <;> revert ho <;> decide
    · rcases hc with rfl | rfl <;> revert ho <;> decide
  obtain ⟨h1, h2, h3⟩ := key t h
  unfold bd
  rw [if_neg h1, if_neg h2, if_neg h3]
section
variable {ρ : List UInt8 → List UInt8} {nb : List UInt8 → Int × Int} {en en' : Nat}
theorem Gd.cls {t : List UInt8} (h : Gd ρ t) : (isN t = false ∧ ρ t = t) ∨ (isN t = true ∧ isN (ρ t) = true ∧ (t.length ≤ 12 → (ρ t).length ≤ 12)) := by
  cases hn : isN t with
  | false => exact Or.inl ⟨rfl, h.1 (Or.inl hn)⟩
  | true =>
    refine Or.inr ⟨rfl, ?_⟩
    cases hr : resv t with
    | true => rw [h.1 (Or.inr hr)]; exact ⟨hn, fun h => h⟩
    | false => exact ⟨(h.2 hn hr).1, (h.2 hn hr).2.2⟩
theorem Gd.bd {t : List UInt8} (h : Gd ρ t) : bd (ρ t) = bd t := by
  rcases h.cls with ⟨_, h2⟩ | ⟨h1, h2, _⟩
  · rw [h2]
  · rw [bd_name h1, bd_name h2]
theorem Gd.sp {t m : List UInt8} (h : Gd ρ t) (hm : Sp m) : (ρ t = m) ↔ t = m := by
  constructor
  · intro e
    by_cases hc : isN t = false ∨ resv t = true
    · rw [h.1 hc] at e; exact e
    · have h1 : isN t = true := by
        cases hn : isN t with
        | true => rfl
        | false => exact absurd (Or.inl hn) hc
      have h2 : resv t = false := by
        cases hr : resv t with
        | false => rfl
        | true => exact absurd (Or.inr hr) hc
      obtain ⟨g1, g2, _⟩ := h.2 h1 h2
      rw [e] at g1 g2
      rcases hm.2 with k | k
      · rw [k] at g1; cases g1
      · rw [k] at g2; cases g2
  · intro e
    have := h.1 (by rw [e]; exact hm.2)
    rw [this]; exact e
theorem Gd.resv {t : List UInt8} (h : Gd ρ t) : resv (ρ t) = resv t ∧ isN (ρ t) = isN t := by
  by_cases hc : isN t = false ∨ tm.resv t = true
  · rw [h.1 hc]; exact ⟨rfl, rfl⟩
  · have h1 : isN t = true := by
      cases hn : isN t with
      | true => rfl
      | false => exact absurd (Or.inl hn) hc
    have h2 : tm.resv t = false := by
      cases hr : tm.resv t with
      | false => rfl
      | true => exact absurd (Or.inr hr) hc
    obtain ⟨g1, g2, _⟩ := h.2 h1 h2
    exact ⟨by rw [g2, h2], by rw [g1, h1]⟩
theorem rx_is {m : List UInt8} {ts : List Tk} {x : Ex} {r : List Tk} (h : rx nb en m ts = .ok (x, r)) : row nb en (10 * ts.length + 10) 1 0 ts = some (.ok (x, r)) ∧ (hd en r).t = m := by
  unfold rx at h
  split at h
  · rename_i x' r' hr
    split at h
    · rename_i hm
      injection h with h
      injection h with h1 h2
      subst h1 h2
      exact ⟨hr, hm⟩
    · cases h
  · cases h
  · cases h
theorem numOf_resv {t : List UInt8} (h : numOf t ≠ none) : resv t = true := by
  unfold resv
  have : (numOf t).isSome = true := by
    cases hn : numOf t with
    | none => exact absurd hn h
    | some _ => rfl
  rw [this, Bool.or_true]
theorem Gd.num {t : List UInt8} (h : Gd ρ t) : numOf (ρ t) = numOf t := by
  by_cases hr : tm.resv t = true
  · rw [h.1 (Or.inr hr)]
  · have h1 : numOf t = none := by
      cases hn : numOf t with
      | none => rfl
      | some _ => exact absurd (numOf_resv (by rw [hn]; simp)) hr
    have h2 : tm.resv (ρ t) = false := by rw [h.resv.1]; simpa using hr
    rw [h1]
    cases hn : numOf (ρ t) with
    | none => rfl
    | some _ => have := numOf_resv (t := ρ t) (by rw [hn]; simp); rw [h2] at this; cases this
theorem RD.at {d d' : D} (h : RD ρ d d') (a b : Nat) : RD ρ { d with at_ := a } { d' with at_ := b } := ⟨h.kd, h.nm, h.ty, h.wd, h.od, h.sg, h.mn, h.ct, h.ru, h.f1, h.l1⟩
end
end Go.Proofs.YtpanodaecjlgaaaGreatDoor.tm
/- Templates: what is wrong with them; in which order rules are done (pure). -/
namespace Go.Proofs.YtpanodaecjlgaaaGreatDoor.tm
set_option linter.unusedVariables false
open lx ex

/-- Where a name stands that isn't seen. -/
def mis (seen : List (List UInt8)) : Ex → Option Nat
  | .num _ _ => none
  | .nam a t => if t ∈ seen then none else some a
  | .bin _ _ l r => match mis seen l with
    | some p => some p
    | none => mis seen r
def misO (seen : List (List UInt8)) : Option Ex → Option Nat
  | none => none
  | some x => mis seen x
def Its.ds : Its → List D
  | .nil => []
  | .cons d _ t => d :: t.ds
theorem Its.ds_len (l : Its) : l.ds.length = l.len := by
  induction l with
  | nil => rfl
  | cons d s t _ ih => show t.ds.length + 1 = t.len + 1; rw [ih]
/-- The item that is called so. -/
def nmd (ds : List D) (t : List UInt8) : Option Nat := ds.findIdx? (fun d => d.nm == t)
/-- The first and the last one on which a rule hangs. -/
def ends (ds : List D) (d : D) : Option Nat × Option Nat := (nmd ds d.f1, if d.ru = 3 then nmd ds d.l1 else nmd ds d.f1)
/-- A rule that is wrong. -/
def ruleW (ds : List D) (i : Nat) (d : D) : Option (Int × Nat) :=
  if d.ru = 0 then none
  else match ends ds d with
    | (some a, some b) =>
      if d.ru = 2 ∧ (ds[a]?.map (·.mn)) ≠ some true then some (13, d.at_)
      else if d.ru = 3 ∧ (d.wd ≠ 4 ∨ d.sg = true) then some (13, d.at_)
      else if b < a then some (10, d.at_)
      else if a ≤ i ∧ i ≤ b then some (6, d.at_)
      else none
    | _ => some (7, d.at_)
def isC (ds : List D) (k : Nat) : Bool := ds[k]?.map (·.ru) == some 3
/-- From one number to another one. -/
def upTo (a b : Nat) : List Nat := (List.range (b + 1)).drop a
/-- The Checks over which a Check's sum is taken. -/
def under (ds : List D) (i : Nat) : List Nat :=
  match ds[i]? with
  | none => []
  | some d => match ends ds d with
    | (some a, some b) => (upTo a b).filter (isC ds)
    | _ => []
/-- Whether one comes to one of them. -/
def bfs (ds : List D) (to : Nat) : Nat → List Nat → List Nat → Option Bool
  | 0, _, _ => none
  | _ + 1, _, [] => some false
  | f + 1, met, j :: r => if j = to then some true else if j ∈ met then bfs ds to f met r else bfs ds to f (j :: met) (r ++ under ds j)
def rnd (ds : List D) (i : Nat) : Bool := (bfs ds i ((ds.length + 1) * (ds.length + 1) + ds.length + 2) [] (under ds i)) == some true
/-- The first wrong one. -/
def firstW (g : Nat → D → Option (Int × Nat)) : Nat → List D → Option (Int × Nat)
  | _, [] => none
  | i, d :: r => match g i d with
    | some e => some e
    | none => firstW g (i + 1) r
def cycW (ds : List D) (i : Nat) (d : D) : Option (Int × Nat) := if d.ru = 3 ∧ rnd ds i = true then some (11, d.at_) else none
def rulesW (ds : List D) : Option (Int × Nat) :=
  match firstW (ruleW ds) 0 ds with
  | some e => some e
  | none => firstW (cycW ds) 0 ds
/-- A part that has a name. -/
def itemW (earl names seen : List (List UInt8)) (d : D) : Option (Int × Nat) :=
  if d.nm ∈ names then some (9, d.at_)
  else if d.kd = 3 ∧ d.ty ∉ earl then some (7, d.at_)
  else (misO seen d.ct).map fun p => (5, p)
/-- Parts, one behind the other: what is called so, behind them. -/
def chkI (earl : List (List UInt8)) : Its → List (List UInt8) → List (List UInt8) → Except (Int × Nat) (List (List UInt8))
  | .nil, names, _ => .ok names
  | .cons d s t, names, seen =>
    if d.kd = 4 then
      match misO seen d.ct with
      | some p => .error (5, p)
      | none => match chkI earl s names seen with
        | .error e => .error e
        | .ok names' => match rulesW s.ds with
          | some e => .error e
          | none => chkI earl t names' seen
    else match itemW earl names seen d with
      | some e => .error e
      | none => chkI earl t (d.nm :: names) (if d.kd = 1 ∧ d.mn = false then d.nm :: seen else seen)
def chkB (earl : List (List UInt8)) (l : Its) (names seen : List (List UInt8)) : Except (Int × Nat) (List (List UInt8)) :=
  match chkI earl l names seen with
  | .error e => .error e
  | .ok names' => match rulesW l.ds with
    | some e => .error e
    | none => .ok names'
/-- Structs. -/
def chkT : List (List UInt8) → List Ty → Option (Int × Nat)
  | _, [] => none
  | earl, t :: r =>
    if t.nm ∈ earl then some (9, t.at_)
    else match chkB earl t.l [] [] with
      | .error e => some e
      | .ok _ => chkT (t.nm :: earl) r
def chk (l : List Ty) : Option (Int × Nat) := chkT [] l
/-- The order of rules. -/
def ready (ds : List D) (checks : List Nat) (i : Nat) : Bool := !((under ds i).any (fun j => checks.contains j))
/- With other names. -/
section
variable {ρ : List UInt8 → List UInt8}
/-- What is told, but for where. -/
def code (o : Option (Int × Nat)) : Option Int := o.map (·.1)
/-- Parts' data. -/
inductive RL (ρ : List UInt8 → List UInt8) : List D → List D → Prop
  | nil : RL ρ [] []
  | cons {d d' : D} {l l' : List D} : RD ρ d d' → RL ρ l l' → RL ρ (d :: l) (d' :: l')
theorem RI.ds {l l' : Its} (h : RI ρ l l') : RL ρ l.ds l'.ds := by
  induction h with
  | nil => exact RL.nil
  | cons hd _ _ _ ih => exact RL.cons hd ih
theorem RL.len {l l' : List D} (h : RL ρ l l') : l'.length = l.length := by
  induction h with
  | nil => rfl
  | cons _ _ ih => simp [ih]
end
end Go.Proofs.YtpanodaecjlgaaaGreatDoor.tm
/- Tokens: where they stand; written again they are the same; going on byte by byte (pure). -/
namespace Go.Proofs.YtpanodaecjlgaaaGreatDoor.lx
set_option linter.unusedVariables false

/-- Tokens, each where it is told, from a place on. -/
def Ch (s : List UInt8) : Nat → List Tk → Prop
  | _, [] => True
  | p, t :: r => p ≤ t.a ∧ t.a + t.t.length ≤ s.length ∧ (s.drop t.a).take t.t.length = t.t ∧ IsT t.t ∧ Ch s (t.a + t.t.length) r
theorem Ch.low {s : List UInt8} {p q : Nat} {l : List Tk} (h : Ch s q l) (hp : p ≤ q) : Ch s p l := by
  cases l with
  | nil => trivial
  | cons t r => exact ⟨by have := h.1; omega, h.2⟩
theorem lx_ch (s : List UInt8) (n : Nat) : ∀ a, s.length - a ≤ n → a ≤ s.length → Ch s a (lx (s.drop a) a).1 := by
  induction n with
  | zero =>
    intro a h1 h2
    rw [List.drop_of_length_le (by omega), lx_nil]
    trivial
  | succ n ih =>
    intro a h1 h2
    by_cases h0 : s.drop a = []
    · rw [h0, lx_nil]; trivial
    have hl : (s.drop a).length = s.length - a := List.length_drop
    by_cases hg : 0 < gap (s.drop a)
    · have hgl := gap_le (s.drop a)
      rw [lx_gap _ _ hg, List.drop_drop]
      exact (ih (a + gap (s.drop a)) (by omega) (by omega)).low (by omega)
    · by_cases ht : 0 < tl (s.drop a)
      · have htl := tl_le (s.drop a)
        rw [lx_tok _ _ (by omega) ht, List.drop_drop]
        have e : ((s.drop a).take (tl (s.drop a))).length = tl (s.drop a) := by rw [List.length_take]; omega
        refine ⟨Nat.le_refl _, ?_, ?_, tl_isT _ ht, ?_⟩
        · dsimp only; rw [e]; omega
        · dsimp only; rw [e]
        · dsimp only; rw [e]
          exact ih (a + tl (s.drop a)) (by omega) (by omega)
      · rw [lx_bad _ _ h0 (by omega) (by omega)]
        trivial
theorem lx_len (l : List UInt8) : ∀ (n a : Nat), l.length ≤ n → (lx l a).1.length ≤ l.length := by
  intro n
  induction n generalizing l with
  | zero =>
    intro a h
    obtain rfl : l = [] := List.eq_nil_of_length_eq_zero (by omega)
    simp [lx_nil]
  | succ n ih =>
    intro a h
    by_cases h0 : l = []
    · subst h0; simp [lx_nil]
    by_cases hg : 0 < gap l
    · have := gap_le l
      rw [lx_gap _ _ hg]
      have := ih (l.drop (gap l)) (a + gap l) (by rw [List.length_drop]; omega)
      rw [List.length_drop] at this
      omega
    · by_cases ht : 0 < tl l
      · have := tl_le l
        rw [lx_tok _ _ (by omega) ht]
        have := ih (l.drop (tl l)) (a + tl l) (by rw [List.length_drop]; omega)
        rw [List.length_drop] at this
        simp only [List.length_cons]
        omega
      · rw [lx_bad _ _ h0 (by omega) (by omega)]
        simp
/-- A word that has come to its end. -/
theorem word_end (s : List UInt8) (p i : Nat) (hp : p < i) (hi : i ≤ s.length) (hw : ∀ j, p ≤ j → (h : j < i) → isW (s[j]'(by omega)) = true) (he : ∀ c, s[i]? = some c → isW c = false) :
    lx (s.drop p) p = (⟨(s.take i).drop p, p⟩ :: (lx (s.drop i) i).1, (lx (s.drop i) i).2) := by
  have e : s.drop p = (s.take i).drop p ++ s.drop i := by
    have := List.take_append_drop (i - p) (s.drop p)
    rw [List.drop_drop, show p + (i - p) = i by omega] at this
    rw [List.drop_take, this]
  have hl : ((s.take i).drop p).length = i - p := by rw [List.length_drop, List.length_take]; omega
  have hall : ∀ c ∈ (s.take i).drop p, isW c = true := by
    intro c hc
    obtain ⟨k, hk, rfl⟩ := List.mem_iff_getElem.1 hc
    rw [hl] at hk
    rw [List.getElem_drop, List.getElem_take]
    exact hw (p + k) (by omega) (by omega)
  have h := lx_app ((s.take i).drop p) (s.drop i) p (Or.inl ⟨by intro h0; rw [h0] at hl; simp at hl; omega, hall⟩) (fun _ c hc => he c (by rw [List.head?_drop] at hc; exact hc))
    (fun h0 => by
      have := hall 61 (by rw [h0]; simp)
      exact absurd this (by decide))
  rw [hl, show p + (i - p) = i by omega] at h
  rw [← e] at h
  exact h
/-- Within a remark. -/
def Rm (s : List UInt8) (i : Nat) : List Tk × Option Nat := lx (s.drop (i + rl (s.drop i))) (i + rl (s.drop i))
theorem drop_cons (s : List UInt8) (i : Nat) (c : UInt8) (h : s[i]? = some c) : s.drop i = c :: s.drop (i + 1) := by
  obtain ⟨h1, h2⟩ := List.getElem?_eq_some_iff.1 h
  rw [List.drop_eq_getElem_cons h1, h2]
theorem rm_in (s : List UInt8) (i : Nat) (h : s[i]? = some 35) : lx (s.drop i) i = Rm s i := by
  have e := drop_cons s i 35 h
  have hg : gap (s.drop i) = rl (s.drop i) := by rw [e, gap_cons]; rfl
  have h1 : 0 < rl (s.drop i) := by
    rw [e]; unfold rl; rw [List.takeWhile_cons_of_pos (by decide)]; simp
  rw [lx_gap _ _ (by omega), hg, List.drop_drop]
  rfl
theorem rm_on (s : List UInt8) (i : Nat) (c : UInt8) (h : s[i]? = some c) (hc : c ≠ 10) : Rm s i = Rm s (i + 1) := by
  have e := drop_cons s i c h
  have h1 : rl (s.drop i) = rl (s.drop (i + 1)) + 1 := by
    rw [e]; unfold rl; rw [List.takeWhile_cons_of_pos (by simpa using hc)]; rfl
  unfold Rm
  rw [h1, show i + (rl (s.drop (i + 1)) + 1) = i + 1 + rl (s.drop (i + 1)) by omega]
theorem rm_out (s : List UInt8) (i : Nat) (h : s[i]? = some 10) : Rm s i = lx (s.drop (i + 1)) (i + 1) := by
  have e := drop_cons s i 10 h
  have h1 : rl (s.drop i) = 0 := by rw [e]; unfold rl; rw [List.takeWhile_cons_of_neg (by decide)]; rfl
  unfold Rm
  rw [h1, Nat.add_zero, e, lx_blank _ _ _ rfl]
theorem rm_end (s : List UInt8) (i : Nat) (h : s.length ≤ i) : Rm s i = ([], none) := by
  unfold Rm
  rw [List.drop_of_length_le (by omega)]
  rfl
theorem lx_over (s : List UInt8) (i : Nat) (c : UInt8) (h : s[i]? = some c) (hc : isB c = true) : lx (s.drop i) i = lx (s.drop (i + 1)) (i + 1) := by
  rw [drop_cons s i c h, lx_blank _ _ _ hc]
theorem lx_end (s : List UInt8) (i : Nat) (h : s.length ≤ i) : lx (s.drop i) i = ([], none) := by
  rw [List.drop_of_length_le h]; rfl
/-- A mark. -/
theorem mark_at (s : List UInt8) (i : Nat) (c : UInt8) (h : s[i]? = some c) (h1 : isB c = false) (h2 : (c == 35) = false) (h3 : isW c = false) :
    gap (s.drop i) = 0 ∧ tl (s.drop i) = (if (c == 61 || c == 33) && s[i + 1]? == some 61 then 2 else if isM c then 1 else 0) := by
  rw [drop_cons s i c h]
  refine ⟨by rw [gap_cons, if_neg (by rw [h1]; decide), if_neg (by rw [h2]; decide)], ?_⟩
  have hw : wl (c :: s.drop (i + 1)) = 0 := by unfold wl; rw [List.takeWhile_cons_of_neg (by rw [h3]; decide)]; rfl
  unfold tl
  rw [if_pos hw, mk_cons, List.head?_drop]
theorem lx_mark (s : List UInt8) (i n : Nat) (hi : i < s.length) (hg : gap (s.drop i) = 0) (hn : tl (s.drop i) = n) (h0 : 0 < n) : i + n ≤ s.length ∧ lx (s.drop i) i = (⟨(s.take (i + n)).drop i, i⟩ :: (lx (s.drop (i + n)) (i + n)).1, (lx (s.drop (i + n)) (i + n)).2) := by
  have := tl_le (s.drop i)
  rw [List.length_drop] at this
  refine ⟨by omega, ?_⟩
  rw [lx_tok _ _ hg (by omega), hn, List.drop_drop, List.drop_take, show i + n - i = n by omega]
end Go.Proofs.YtpanodaecjlgaaaGreatDoor.lx
/- Tokens of a piece of a text, and of two texts; an expression up to a mark (pure). -/
namespace Go.Proofs.YtpanodaecjlgaaaGreatDoor.tm
set_option linter.unusedVariables false
open lx ex

theorem tw_take (p : UInt8 → Bool) (l : List UInt8) (k : Nat) (h : (l.takeWhile p).length ≤ k) : ((l.take k).takeWhile p).length = (l.takeWhile p).length := by
  induction l generalizing k with
  | nil => simp
  | cons c l ih =>
    by_cases hc : p c = true
    · rw [List.takeWhile_cons_of_pos hc] at h ⊢
      cases k with
      | zero => simp at h
      | succ k =>
        rw [List.take_succ_cons, List.takeWhile_cons_of_pos hc, List.length_cons, List.length_cons, ih k (by simpa using h)]
    · rw [List.takeWhile_cons_of_neg hc]
      cases k with
      | zero => simp
      | succ k => rw [List.take_succ_cons, List.takeWhile_cons_of_neg hc]
theorem gap_take (l : List UInt8) (k : Nat) (hk : 0 < k) (h : gap l ≤ k) : gap (l.take k) = gap l := by
  cases l with
  | nil => simp
  | cons c r =>
    cases k with
    | zero => omega
    | succ k =>
      rw [gap_cons] at h ⊢
      rw [List.take_succ_cons, gap_cons]
      split
      · rfl
      · rename_i h1
        rw [if_neg h1] at h
        split
        · rename_i h2
          rw [if_pos h2] at h
          have := tw_take (· != 10) (c :: r) (k + 1) h
          rw [List.take_succ_cons] at this
          exact this
        · rfl
theorem tl_take (l : List UInt8) (k : Nat) (hk : 0 < k) (h : tl l ≤ k) : tl (l.take k) = tl l := by
  unfold tl at h ⊢
  by_cases hw : wl l = 0
  · rw [if_pos hw] at h ⊢
    have hw' : wl (l.take k) = 0 := by
      have := tw_take isW l k (by show wl l ≤ k; omega)
      show ((l.take k).takeWhile isW).length = 0
      rw [this]; exact hw
    rw [if_pos hw']
    cases l with
    | nil => simp
    | cons c r =>
      cases k with
      | zero => omega
      | succ k =>
        rw [mk_cons] at h ⊢
        rw [List.take_succ_cons, mk_cons]
        by_cases h2 : ((c == 61 || c == 33) && r.head? == some 61) = true
        · rw [if_pos h2] at h ⊢
          rw [if_pos]
          cases r with
          | nil => simp at h2
          | cons e r =>
            cases k with
            | zero => omega
            | succ k => simpa using h2
        · rw [if_neg h2, if_neg]
          intro h3
          apply h2
          cases r with
          | nil => simp at h3
          | cons e r =>
            cases k with
            | zero => simp at h3
            | succ k => simpa using h3
  · rw [if_neg hw] at h ⊢
    have := tw_take isW l k h
    have e : wl (l.take k) = wl l := this
    rw [e, if_neg hw]
/-- Where a token begins a text may be cut. -/
theorem lx_cut (n : Nat) : ∀ (l : List UInt8) (a : Nat) (u v : List Tk), l.length ≤ n → lx l a = (u ++ v, none) →
    a ≤ (hd (a + l.length) v).a ∧ (hd (a + l.length) v).a ≤ a + l.length ∧ lx (l.take ((hd (a + l.length) v).a - a)) a = (u, none) ∧ lx (l.drop ((hd (a + l.length) v).a - a)) (hd (a + l.length) v).a = (v, none) := by
  induction n with
  | zero =>
    intro l a u v hl h
    obtain rfl : l = [] := List.eq_nil_of_length_eq_zero (by omega)
    rw [lx_nil] at h
    injection h with h _
    obtain ⟨rfl, rfl⟩ : u = [] ∧ v = [] := by simpa using h.symm
    simp [hd, lx_nil]
  | succ n ih =>
    intro l a u v hl h
    by_cases h0 : l = []
    · subst h0
      exact ih [] a u v (by simp) h
    by_cases hg : 0 < gap l
    · have hgl := gap_le l
      rw [lx_gap _ _ hg] at h
      obtain ⟨k1, k2, k3, k4⟩ := ih (l.drop (gap l)) (a + gap l) u v (by rw [List.length_drop]; omega) h
      have e : a + gap l + (l.drop (gap l)).length = a + l.length := by rw [List.length_drop]; omega
      rw [e] at k1 k2 k3 k4
      generalize (hd (a + l.length) v).a = p at *
      refine ⟨by omega, k2, ?_, ?_⟩
      · have e2 : gap (l.take (p - a)) = gap l := gap_take l (p - a) (by omega) (by omega)
        rw [lx_gap _ _ (by rw [e2]; exact hg), e2, List.drop_take, show p - a - gap l = p - (a + gap l) by omega]
        exact k3
      · rw [List.drop_drop, show gap l + (p - (a + gap l)) = p - a by omega] at k4
        exact k4
    · by_cases ht : 0 < tl l
      · have htl := tl_le l
        have h' := h
        rw [lx_tok _ _ (by omega) ht] at h
        cases u with
        | nil =>
          injection h with h1 h2
          rw [List.nil_append] at h1
          rw [← h1]
          show a ≤ a ∧ a ≤ a + l.length ∧ lx (l.take (a - a)) a = ([], none) ∧ lx (l.drop (a - a)) a = _
          rw [Nat.sub_self, List.take_zero, List.drop_zero, lx_nil]
          refine ⟨Nat.le_refl _, by omega, rfl, ?_⟩
          rw [h', List.nil_append, h1]
        | cons t u =>
          injection h with h1 h2
          rw [List.cons_append] at h1
          injection h1 with h1 h3
          have h4 : lx (l.drop (tl l)) (a + tl l) = (u ++ v, none) := by
            rw [← h3, ← h2]
          obtain ⟨k1, k2, k3, k4⟩ := ih (l.drop (tl l)) (a + tl l) u v (by rw [List.length_drop]; omega) h4
          have e : a + tl l + (l.drop (tl l)).length = a + l.length := by rw [List.length_drop]; omega
          rw [e] at k1 k2 k3 k4
          generalize (hd (a + l.length) v).a = p at *
          refine ⟨by omega, k2, ?_, ?_⟩
          · have e1 : gap (l.take (p - a)) = 0 := by rw [gap_take l (p - a) (by omega) (by omega)]; omega
            have e2 : tl (l.take (p - a)) = tl l := tl_take l (p - a) (by omega) (by omega)
            rw [lx_tok _ _ e1 (by rw [e2]; exact ht), e2, List.drop_take, show p - a - tl l = p - (a + tl l) by omega, k3]
            rw [List.take_take, Nat.min_eq_left (by omega), h1]
          · rw [List.drop_drop, show tl l + (p - (a + tl l)) = p - a by omega] at k4
            exact k4
      · rw [lx_bad _ _ h0 (by omega) (by omega)] at h
        injection h with _ h
        cases h
theorem lx_pad (k : Nat) : ∀ (x : List UInt8) (a : Nat), lx (List.replicate k 32 ++ x) a = lx x (a + k) := by
  induction k with
  | zero => intro x a; rfl
  | succ k ih =>
    intro x a
    rw [List.replicate_succ, List.cons_append, lx_blank _ _ _ (by decide), ih]
    congr 1
    omega
/-- What stands ahead of a mark, blanks ahead of it. -/
theorem lx_seg {l : List UInt8} {pre u v : List Tk} (h : lx l 0 = (pre ++ (u ++ v), none)) :
    (hd l.length (u ++ v)).a ≤ (hd l.length v).a ∧ (hd l.length v).a ≤ l.length ∧ lx (List.replicate (hd l.length (u ++ v)).a 32 ++ (l.drop (hd l.length (u ++ v)).a).take ((hd l.length v).a - (hd l.length (u ++ v)).a)) 0 = (u, none) := by
  obtain ⟨k1, k2, k3, k4⟩ := lx_cut _ l 0 pre (u ++ v) (Nat.le_refl _) h
  rw [Nat.zero_add, Nat.sub_zero] at k4
  rw [Nat.zero_add] at k2
  generalize (hd l.length (u ++ v)).a = q at *
  obtain ⟨j1, j2, j3, j4⟩ := lx_cut _ (l.drop q) q u v (Nat.le_refl _) k4
  have e : q + (l.drop q).length = l.length := by rw [List.length_drop]; omega
  rw [e] at j1 j2 j3 j4
  refine ⟨j1, j2, ?_⟩
  rw [lx_pad, Nat.zero_add]
  exact j3
section
variable {nb : List UInt8 → Int × Int} {en : Nat}
/-- A mark that ends an expression. -/
def Em (m : List UInt8) : Prop := m ≠ [] ∧ isN m = false ∧ isU m = false ∧ m ≠ [40] ∧ m ≠ [41] ∧ bd m = 0
theorem em_cb : Em [93] := by unfold Em; decide
theorem em_ob : Em [123] := by unfold Em; decide
/-- Reading ahead of the mark, and with it. -/
def ext (v : List Tk) : Res → Res
  | .ok (x, r) => .ok (x, r ++ v)
  | .error e => .error e
theorem row_upto {m : List UInt8} (hm : Em m) (v : List Tk) (hv : v = [] ∨ (hd en v).t = m) (f : Nat) :
    (∀ k d u q, 1 ≤ k → row nb (hd en v).a f k d u = some q → row nb en f k d (u ++ v) = some (ext v q)) ∧
    (∀ k d y u q, 1 ≤ k → lp nb (hd en v).a f k d y u = some q → lp nb en f k d y (u ++ v) = some (ext v q)) ∧
    (∀ d u q, one nb (hd en v).a f d u = some q → one nb en f d (u ++ v) = some (ext v q)) := by
  obtain ⟨m0, m1, m2, m3, m4, m5⟩ := hm
  obtain ⟨p, hp⟩ : ∃ p, p = (hd en v).a := ⟨_, rfl⟩
  rw [← hp]
  induction f with
  | zero => exact ⟨fun _ _ _ _ _ h => by simp [row] at h, fun _ _ _ _ _ _ h => by simp [lp] at h, fun _ _ _ h => by simp [one] at h⟩
  | succ f ih =>
    obtain ⟨i1, i2, i3⟩ := ih
    refine ⟨?_, ?_, ?_⟩
    · intro k d u q h0 h
      by_cases hk : 3 < k
      · rw [row_top _ _ _ _ hk] at h
        rw [row_top _ _ _ _ hk]
        exact i3 _ _ _ h
      · rw [row_low _ _ _ _ hk] at h
        rw [row_low _ _ _ _ hk]
        split at h
        · cases h
        · rename_i e hr
          injection h with h
          rw [i1 _ _ _ _ (by omega) hr, ← h]
          rfl
        · rename_i x r hr
          rw [i1 _ _ _ _ (by omega) hr]
          exact i2 _ _ _ _ _ h0 h
    · intro k d y u q h0 h
      cases u with
      | nil =>
        rw [lp] at h
        injection h with h
        subst h
        rw [List.nil_append]
        cases v with
        | nil => rw [lp]; rfl
        | cons t v =>
          have : t.t = m := by
            rcases hv with h | h
            · cases h
            · exact h
          rw [lp, if_neg (by rw [this, m5]; omega)]
          rfl
      | cons t u =>
        rw [lp] at h
        rw [List.cons_append, lp]
        split at h
        · rename_i hb
          rw [if_pos hb]
          split at h
          · cases h
          · rename_i e hr
            injection h with h
            rw [i1 _ _ _ _ (by omega) hr, ← h]
            rfl
          · rename_i x r hr
            rw [i1 _ _ _ _ (by omega) hr]
            exact i2 _ _ _ _ _ h0 h
        · rename_i hb
          rw [if_neg hb]
          injection h with h
          subst h
          rfl
    · intro d u q h
      cases u with
      | nil =>
        rw [one] at h
        injection h with h
        subst h
        rw [List.nil_append]
        cases v with
        | nil => rw [one, hp]; rfl
        | cons t v =>
          have : t.t = m := by
            rcases hv with h | h
            · cases h
            · exact h
          rw [one, if_neg (by rw [this, m1]; decide), if_neg (by rw [this, m2]; decide), if_neg (by rw [this]; exact m3), hp]
          rfl
      | cons t u =>
        rw [one] at h
        rw [List.cons_append, one]
        split at h
        · rename_i c1
          rw [if_pos c1]
          split at h
          · rename_i c2
            rw [if_pos c2]
            injection h with h
            rw [← h]; rfl
          · rename_i c2
            rw [if_neg c2]
            injection h with h
            rw [← h]; rfl
        · rename_i c1
          rw [if_neg c1]
          split at h
          · rename_i c2
            rw [if_pos c2]
            split at h
            · rename_i c3
              rw [if_pos c3]
              injection h with h
              rw [← h]; rfl
            · rename_i c3
              rw [if_neg c3]
              injection h with h
              rw [← h]; rfl
          · rename_i c2
            rw [if_neg c2]
            split at h
            · rename_i c3
              rw [if_pos c3]
              split at h
              · rename_i c4
                rw [if_pos c4]
                injection h with h
                rw [← h]; rfl
              · rename_i c4
                rw [if_neg c4]
                split at h
                · cases h
                · rename_i e hr
                  injection h with h
                  rw [i1 _ _ _ _ (by omega) hr, ← h]; rfl
                · rename_i x r hr
                  rw [i1 _ _ _ _ (by omega) hr]
                  dsimp only [ext]
                  cases r with
                  | nil =>
                    rw [if_neg (show ¬ (hd p ([] : List Tk)).t = [41] by show ¬ ([] : List UInt8) = [41]; decide)] at h
                    injection h with h
                    rw [List.nil_append, ← h]
                    have e1 : ¬ (hd en v).t = [41] := by
                      rcases hv with h | h
                      · rw [h]; show ¬ ([] : List UInt8) = [41]; decide
                      · rw [h]; exact m4
                    rw [if_neg e1, ← hp]
                    rfl
                  | cons t' r =>
                    rw [show hd p (t' :: r) = t' from rfl] at h
                    rw [List.cons_append, show hd en (t' :: (r ++ v)) = t' from rfl]
                    split at h
                    · rename_i c5
                      rw [if_pos c5]
                      injection h with h
                      rw [← h]; rfl
                    · rename_i c5
                      rw [if_neg c5]
                      injection h with h
                      rw [← h]
            · rename_i c3
              rw [if_neg c3]
              injection h with h
              rw [← h]; rfl
/-- Up to a mark, and from it on. -/
def upto (m : List UInt8) (ts : List Tk) : List Tk := ts.takeWhile (fun t => t.t != m)
def from_ (m : List UInt8) (ts : List Tk) : List Tk := ts.dropWhile (fun t => t.t != m)
theorem upto_from (m : List UInt8) (ts : List Tk) : upto m ts ++ from_ m ts = ts := List.takeWhile_append_dropWhile
theorem from_hd (m : List UInt8) (ts : List Tk) : from_ m ts = [] ∨ (hd en (from_ m ts)).t = m := by
  unfold from_
  induction ts with
  | nil => exact Or.inl rfl
  | cons t ts ih =>
    by_cases h : (t.t != m) = true
    · rw [List.dropWhile_cons_of_pos (p := fun t : Tk => t.t != m) h]; exact ih
    · rw [List.dropWhile_cons_of_neg (p := fun t : Tk => t.t != m) h]
      right
      show t.t = m
      simpa using h
theorem upto_not {m : List UInt8} {ts : List Tk} {t : Tk} (h : t ∈ upto m ts) : t.t ≠ m := by
  unfold upto at h
  induction ts with
  | nil => simp at h
  | cons u ts ih =>
    by_cases hu : (u.t != m) = true
    · rw [List.takeWhile_cons_of_pos (p := fun t : Tk => t.t != m) hu, List.mem_cons] at h
      rcases h with rfl | h
      · simpa using hu
      · exact ih h
    · rw [List.takeWhile_cons_of_neg (p := fun t : Tk => t.t != m) hu] at h
      simp at h
/-- What reading ahead of the mark comes to. -/
def rxq (en : Nat) (v : List Tk) : Res → Rs Ex
  | .ok (x, []) => if v = [] then .error (3, en) else .ok (x, v)
  | .ok (_, t :: _) => .error (3, t.a)
  | .error e => .error e
/-- What a piece's reading tells of the whole's. -/
theorem rx_upto {m : List UInt8} (hm : Em m) {ts : List Tk} {q : Res} {f : Nat} (h : row nb (hd en (from_ m ts)).a f 1 0 (upto m ts) = some q) (hmem : ∀ x r, q = .ok (x, r) → ∀ t ∈ r, t ∈ upto m ts) :
    rx nb en m ts = rxq en (from_ m ts) q := by
  have hv := from_hd (en := en) m ts
  have h1 := (row_upto hm (from_ m ts) hv f).1 _ _ _ _ (Nat.le_refl _) h
  rw [upto_from] at h1
  unfold rx
  cases hh : row nb en (10 * ts.length + 10) 1 0 ts with
  | none => exact absurd hh ((some_all _).1 1 0 ts (by omega) (by omega))
  | some q' =>
    have := row_one hh h1
    subst this
    cases q with
    | error e => rfl
    | ok xr =>
      obtain ⟨x, r⟩ := xr
      cases r with
      | nil =>
        dsimp only [ext, List.nil_append, rxq]
        rcases hv with h | h
        · rw [h, if_pos rfl, if_neg (show ¬ (hd en ([] : List Tk)).t = m from fun e => hm.1 e.symm)]
          rfl
        · rw [if_pos h, if_neg]
          intro e
          rw [e] at h
          exact hm.1 h.symm
      | cons t r =>
        dsimp only [ext, List.cons_append, rxq]
        rw [show hd en (t :: (r ++ from_ m ts)) = t from rfl, if_neg (upto_not (hmem x _ rfl t (by simp)))]
end
end Go.Proofs.YtpanodaecjlgaaaGreatDoor.tm
/- Bytes of a text; blocks that stay as they were. -/
namespace Go.Proofs.YtpanodaecjlgaaaGreatDoor.lx
set_option linter.unusedVariables false
open Go.ChangeShapes Go.WideShapes Go.ChangeAt Go.RowKit
open mem
/-- Byte j of a text. -/
def sb (s : ByteArray) (j : Nat) : Int := ((s.data.toList.getD j 0).toNat : Int)
theorem sb_bd (s : ByteArray) (j : Nat) : 0 ≤ sb s j ∧ sb s j < 256 := by
  unfold sb
  have := (s.data.toList.getD j 0).toNat_lt
  omega
theorem sb_get (s : ByteArray) (j : Nat) (h : j < s.size) : sb s j = ((s[j]'h).toNat : Int) := by
  unfold sb
  have h' : j < s.data.toList.length := by simpa using h
  rw [List.getD_eq_getElem?_getD, List.getElem?_eq_getElem h']
  rfl
theorem at_bl {w w' : World} (h : Bl w w') {a : Addr} {v : Value} (hc : w.cell? a = some v) : w'.cell? a = some v := by
  have hlt : a.block < w.heap.size := by
    rcases Nat.lt_or_ge a.block w.heap.size with h1 | h1
    · exact h1
    · simp [World.cell?, Array.getElem?_eq_none h1] at hc
  unfold World.cell? at hc ⊢
  rw [Below.block h _ hlt]
  exact hc
theorem bl_grown {w0 w w' : World} {row : Option Nat} (h : Bl w0 w) (hg : w.grownBy w' row) (hrow : ∀ k, row = some k → w0.heap.size ≤ k) : Bl w0 w' := by
  refine ⟨hg.os.trans h.os, hg.tape.trans h.tape, hg.output.trans h.output, Nat.le_trans h.size hg.size, fun k hk => ?_⟩
  rw [hg.block k (Nat.lt_of_lt_of_le hk h.size) (fun e => by have := hrow k e.symm; omega)]
  exact h.block k hk
theorem grown_set (w : World) (b i : Nat) (v : Value) : w.grownBy (w.setCell ⟨b, i, none⟩ v) (some b) :=
  ⟨rfl, rfl, rfl, by simp [World.setCell], fun k hk hne => by
    have : ¬ b = k := fun e => hne (by rw [e])
    simp [World.setCell, Array.getElem?_modify, this]⟩
theorem cell_of {w : World} {g : Nat} {cur : Array Value} {e : TypeId} {fr : Nat × Nat} (h : w.heap[g]? = some (.cells cur e fr)) (j : Nat) : w.cell? ⟨g, j, none⟩ = cur[j]? := by
  simp [World.cell?, h]
theorem lt_of_heap {w : World} {g : Nat} {o : Obj} (h : w.heap[g]? = some o) : g < w.heap.size := (Array.getElem?_eq_some_iff.1 h).1
/-- A text's bytes. -/
def L (s : ByteArray) : List UInt8 := s.data.toList
/-- The text of bytes. -/
def tx (l : List UInt8) : ByteArray := ⟨l.toArray⟩
theorem L_len (s : ByteArray) : (L s).length = s.size := by simp [L]
theorem L_tx (l : List UInt8) : L (tx l) = l := by simp [L, tx]
theorem tx_L (s : ByteArray) : tx (L s) = s := by simp [L, tx]
theorem L_inj {a b : ByteArray} (h : L a = L b) : a = b := by rw [← tx_L a, ← tx_L b, h]
theorem tx_size (l : List UInt8) : (tx l).size = l.length := by rw [← L_len, L_tx]
theorem L_app (a b : ByteArray) : L (a ++ b) = L a ++ L b := by simp [L]
theorem L_ext (s : ByteArray) (i j : Nat) : L (s.extract i j) = ((L s).take j).drop i := by
  simp [L, ByteArray.data_extract, List.drop_take]
end Go.Proofs.YtpanodaecjlgaaaGreatDoor.lx
