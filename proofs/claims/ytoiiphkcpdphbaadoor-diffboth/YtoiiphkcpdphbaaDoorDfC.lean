/- What edits change, what two have changed together, and the text that comes of it (pure). -/
import Derived.Test.YtoiiphkcpdphbaaDoorDfE
namespace Go.Proofs.YtoiiphkcpdphbaaDoor.df
set_option linter.unusedVariables false
/-- What edits change, with one change under way: from where, to where, what is put there. -/
def cgo : Option Ed → Int → List Ed → List Ed
  | c, _, [] => c.toList
  | c, at', e :: r => if e.w = 1 then c.toList ++ cgo none (at' + e.n) r else cgo (some ⟨(c.map Ed.w).getD at', at' + e.n, (c.map Ed.t).getD [] ++ e.t⟩) (at' + e.n) r
def chg (l : List Ed) : List Ed := cgo none 0 l
/-- All that each has changed. -/
def jn : List Ed → List Ed → Option (List Ed)
  | [], b => some b
  | x :: a, [] => some (x :: a)
  | x :: a, y :: b => if x = y then (jn a b).map (x :: ·) else if x.n < y.w then (jn a (y :: b)).map (x :: ·) else if y.n < x.w then (jn (x :: a) b).map (y :: ·) else none
termination_by a b => a.length + b.length
/-- The old text, so changed. -/
def pat (old : List UInt8) : Nat → List Ed → List UInt8
  | at', [] => old.drop at'
  | at', c :: r => ((old.take c.w.toNat).drop at') ++ (c.t ++ pat old c.n.toNat r)
/-- Changes in order, with something kept between them; from lo on, up to n. -/
def Sep (n : Int) : Int → List Ed → Prop
  | lo, [] => lo ≤ n
  | lo, c :: r => lo ≤ c.w ∧ c.w ≤ c.n ∧ c.n ≤ n ∧ (r = [] ∨ Sep n (c.n + 1) r)
theorem jn_nil (a : List Ed) : jn a [] = some a := by cases a <;> simp [jn]
theorem nil_jn (a : List Ed) : jn [] a = some a := by simp [jn]
theorem jn_self (a : List Ed) : jn a a = some a := by
  induction a with
  | nil => simp [jn]
  | cons x a ih => rw [jn, if_pos rfl, ih]; rfl
/-- Each ends no sooner than it begins. -/
def Fw (l : List Ed) : Prop := ∀ c ∈ l, c.w ≤ c.n
theorem jn_comm (a b : List Ed) (ha : Fw a) (hb : Fw b) : jn a b = jn b a := by
  fun_induction jn a b with
  | case1 b => rw [jn_nil]
  | case2 x a => rw [nil_jn]
  | case3 a y b ih =>
    rw [ih (fun c hc => ha c (List.mem_cons_of_mem _ hc)) (fun c hc => hb c (List.mem_cons_of_mem _ hc)), jn, if_pos rfl]
  | case4 x a y b h1 h2 ih =>
    rw [ih (fun c hc => ha c (List.mem_cons_of_mem _ hc)) hb]
    have hx := ha x (List.mem_cons_self ..)
    have hy := hb y (List.mem_cons_self ..)
    conv => rhs; rw [jn]
    rw [if_neg (fun e => h1 e.symm), if_neg (by omega), if_pos h2]
  | case5 x a y b h1 h2 h3 ih =>
    rw [ih ha (fun c hc => hb c (List.mem_cons_of_mem _ hc))]
    conv => rhs; rw [jn]
    rw [if_neg (fun e => h1 e.symm), if_pos h3]
  | case6 x a y b h1 h2 h3 =>
    rw [jn, if_neg (fun e => h1 e.symm), if_neg h3, if_neg h2]
theorem sep_fw {n lo : Int} {l : List Ed} (h : Sep n lo l) : Fw l := by
  induction l generalizing lo with
  | nil => intro c hc; cases hc
  | cons x l ih =>
    obtain ⟨h1, h2, h3, h4⟩ := h
    intro c hc
    rcases List.mem_cons.1 hc with rfl | hc
    · exact h2
    · rcases h4 with rfl | h4
      · cases hc
      · exact ih h4 c hc
theorem sep_le {n lo lo' : Int} {l : List Ed} (h : Sep n lo l) (h' : lo' ≤ lo) : Sep n lo' l := by
  cases l with
  | nil => simp only [Sep] at h ⊢; omega
  | cons x l => obtain ⟨h1, h2⟩ := h; exact ⟨by omega, h2⟩
/-- What is joined stands in order, too, and no nearer than it did. -/
theorem jn_sep {n lo : Int} {a b l : List Ed} (ha : a = [] ∨ Sep n lo a) (hb : b = [] ∨ Sep n lo b) (h : jn a b = some l) : l = [] ∨ Sep n lo l := by
  fun_induction jn a b generalizing lo l with
  | case1 b => injection h with h; subst h; exact hb
  | case2 x a => injection h with h; subst h; exact ha
  | case3 a y b ih =>
    rcases ha with ha | ⟨a1, a2, a3, a4⟩
    · cases ha
    rcases hb with hb | ⟨b1, b2, b3, b4⟩
    · cases hb
    obtain ⟨k, hk, rfl⟩ := Option.map_eq_some_iff.1 h
    exact Or.inr ⟨a1, a2, a3, ih a4 b4 hk⟩
  | case4 x a y b h1 h2 ih =>
    rcases ha with ha | ⟨a1, a2, a3, a4⟩
    · cases ha
    rcases hb with hb | ⟨b1, b2, b3, b4⟩
    · cases hb
    obtain ⟨k, hk, rfl⟩ := Option.map_eq_some_iff.1 h
    exact Or.inr ⟨a1, a2, a3, ih a4 (Or.inr ⟨by omega, b2, b3, b4⟩) hk⟩
  | case5 x a y b h1 h2 h3 ih =>
    rcases ha with ha | ⟨a1, a2, a3, a4⟩
    · cases ha
    rcases hb with hb | ⟨b1, b2, b3, b4⟩
    · cases hb
    obtain ⟨k, hk, rfl⟩ := Option.map_eq_some_iff.1 h
    exact Or.inr ⟨b1, b2, b3, ih (Or.inr ⟨by omega, a2, a3, a4⟩) b4 hk⟩
  | case6 x a y b h1 h2 h3 => cases h
/-- The changes of edits stand in order, and make the new text of the old one. -/
theorem cgo_is (l : List Ed) : ∀ (pre a b : List UInt8) (c : Option Ed), Rn l a b → (∀ x, c = some x → x.w ≤ x.n ∧ x.n = pre.length ∧ 0 ≤ x.w) →
    (cgo c pre.length l = [] ∨ Sep (pre ++ a).length ((c.map Ed.w).getD pre.length) (cgo c pre.length l)) ∧
    pat (pre ++ a) ((c.map fun x => x.w.toNat).getD pre.length) (cgo c pre.length l) = (c.map Ed.t).getD [] ++ b := by
  induction l with
  | nil =>
    intro pre a b c h hc
    obtain ⟨rfl, rfl⟩ := h
    cases c with
    | none => simp [cgo, pat]
    | some x =>
      obtain ⟨h1, h2, h3⟩ := hc x rfl
      refine ⟨Or.inr ?_, ?_⟩
      · simp only [cgo, Option.toList, Sep, Option.map, Option.getD]
        refine ⟨Int.le_refl _, h1, by simp; omega, Or.inl trivial⟩
      · simp only [cgo, Option.toList, pat, Option.map, Option.getD]
        rw [show x.n.toNat = pre.length by omega]
        simp
  | cons e r ih =>
    intro pre a b c h hc
    rcases h with ⟨h1, h2, k, a', b', h3, h4, h5, h6, h7⟩ | ⟨h1, h2, k, a', h3, h4, h5⟩ | ⟨h1, h2, b', h3, h4⟩
    · subst h3; subst h4
      have ih' := ih (pre ++ k) a' b' none h7 (fun x hx => by cases hx)
      rw [cgo, if_pos h1]
      have e1 : ((pre ++ k).length : Int) = pre.length + e.n := by rw [h5]; simp
      rw [e1, List.append_assoc] at ih'
      obtain ⟨i1, i2⟩ := ih'
      have hpat : ∀ q : Nat, q = pre.length → pat (pre ++ (k ++ a')) q (cgo none (pre.length + e.n) r) = k ++ b' := by
        rintro q rfl
        have i2' : pat (pre ++ (k ++ a')) (pre ++ k).length (cgo none (pre.length + e.n) r) = b' := by simpa using i2
        cases hg : cgo none (pre.length + e.n) r with
        | nil =>
          rw [hg] at i2'
          simp only [pat] at i2' ⊢
          rw [← List.append_assoc, List.drop_left'] at i2'
          · rw [List.drop_left' rfl, i2']
          · rfl
        | cons x q =>
          rw [hg] at i2' i1
          rcases i1 with i1 | ⟨j1, j2, j3, j4⟩
          · cases i1
          simp only [Option.map, Option.getD] at j1
          simp only [pat] at i2' ⊢
          rw [← i2', ← List.append_assoc k]
          congr 1
          have hle : (pre ++ k).length ≤ x.w.toNat := by simp at j1 ⊢; omega
          rw [← List.append_assoc pre k a', List.take_append, List.take_of_length_le hle, List.drop_append_of_le_length (by simp), List.drop_append_of_le_length (by simp), List.drop_left' rfl]
          simp
      cases c with
      | none =>
        simp only [Option.toList, List.nil_append, Option.map, Option.getD] at i1 i2 ⊢
        refine ⟨?_, hpat _ rfl⟩
        rcases i1 with i1 | i1
        · exact Or.inl i1
        · exact Or.inr (sep_le i1 (by omega))
      | some x =>
        obtain ⟨q1, q2, q3⟩ := hc x rfl
        simp only [Option.toList, List.singleton_append, Option.map, Option.getD] at i1 i2 ⊢
        refine ⟨Or.inr ⟨Int.le_refl _, q1, by simp; omega, ?_⟩, ?_⟩
        · rcases i1 with i1 | i1
          · exact Or.inl i1
          · exact Or.inr (sep_le i1 (by omega))
        · simp only [pat]
          rw [hpat _ (by omega)]
          have e2 : ((pre ++ (k ++ a')).take x.w.toNat).drop x.w.toNat = [] := List.drop_of_length_le (by simp; omega)
          rw [e2, List.nil_append]
    · subst h3
      rw [cgo, if_neg (by omega)]
      have ih' := ih (pre ++ k) a' b (some ⟨(c.map Ed.w).getD pre.length, pre.length + e.n, (c.map Ed.t).getD [] ++ e.t⟩) h5 (fun x hx => by
        injection hx with hx; subst hx
        cases c with
        | none => simp; omega
        | some y => have := hc y rfl; simp; omega)
      have e1 : ((pre ++ k).length : Int) = pre.length + e.n := by rw [h4]; simp
      rw [e1, List.append_assoc] at ih'
      obtain ⟨i1, i2⟩ := ih'
      rw [h2, List.append_nil] at i1 i2 ⊢
      cases c with
      | none => (have hh := And.intro i1 i2; simpa using hh)
      | some y => (have hh := And.intro i1 i2; simpa using hh)
    · subst h3
      rw [cgo, if_neg (by omega)]
      have ih' := ih pre a b' (some ⟨(c.map Ed.w).getD pre.length, pre.length + e.n, (c.map Ed.t).getD [] ++ e.t⟩) h4 (fun x hx => by
        injection hx with hx; subst hx
        cases c with
        | none => simp; omega
        | some y => have := hc y rfl; simp; omega)
      rw [h2, Int.add_zero] at ih' ⊢
      obtain ⟨i1, i2⟩ := ih'
      cases c with
      | none => (have hh := And.intro i1 i2; simpa using hh)
      | some y => (have hh := And.intro i1 i2; simpa using hh)
theorem chg_is (l : List Ed) (a b : List UInt8) (h : Rn l a b) : (chg l = [] ∨ Sep a.length 0 (chg l)) ∧ pat a 0 (chg l) = b := by
  have := cgo_is l [] a b none h (fun x hx => by cases hx)
  simpa [chg] using this
end Go.Proofs.YtoiiphkcpdphbaaDoor.df
