/- Edits: byte by byte, together, what they cost and make (pure). -/
import Derived.Test.YtoiiphkcpdphbaaDoorDfP
namespace Go.Proofs.YtoiiphkcpdphbaaDoor.df
set_option linter.unusedVariables false
/-- One Edit: what, how many, which bytes. -/
structure Ed where
  w : Int
  n : Int
  t : List UInt8
deriving DecidableEq, Inhabited
/-- Byte by byte. -/
def st : List UInt8 → List UInt8 → List Ed
  | [], [] => []
  | [], y :: ys => ⟨3, 0, [y]⟩ :: st [] ys
  | _ :: xs, [] => ⟨2, 1, []⟩ :: st xs []
  | x :: xs, y :: ys => if x = y then ⟨1, 1, []⟩ :: st xs ys else if lcs (x :: xs) ys ≤ lcs xs (y :: ys) then ⟨2, 1, []⟩ :: st xs (y :: ys) else ⟨3, 0, [y]⟩ :: st (x :: xs) ys
termination_by a b => a.length + b.length
def mrg (e f : Ed) : Ed := ⟨e.w, e.n + f.n, e.t ++ f.t⟩
theorem mrg_assoc (e f g : Ed) : mrg (mrg e f) g = mrg e (mrg f g) := by simp [mrg, Int.add_assoc]
/-- Those of one kind that stand together are one. -/
def grp : List Ed → List Ed
  | [] => []
  | e :: r => match grp r with
    | [] => [e]
    | f :: k => if e.w = f.w then mrg e f :: k else e :: f :: k
def edits (a b : List UInt8) : List Ed := grp (st a b)
theorem grp_cons (e : Ed) (r : List Ed) : grp (e :: r) = (match grp r with
    | [] => [e]
    | f :: k => if e.w = f.w then mrg e f :: k else e :: f :: k) := rfl
theorem grp_one (e : Ed) : grp [e] = [e] := rfl
theorem grp_head (e : Ed) (r : List Ed) : ∃ f k, grp (e :: r) = f :: k ∧ f.w = e.w := by
  rw [grp_cons]
  cases h : grp r with
  | nil => exact ⟨e, [], rfl, rfl⟩
  | cons f k =>
    by_cases hw : e.w = f.w
    · exact ⟨mrg e f, k, by dsimp only; rw [if_pos hw], rfl⟩
    · exact ⟨e, f :: k, by dsimp only; rw [if_neg hw], rfl⟩
theorem grp_merge (e f : Ed) (r : List Ed) (h : e.w = f.w) : grp (e :: f :: r) = grp (mrg e f :: r) := by
  rw [grp_cons e, grp_cons f, grp_cons (mrg e f)]
  cases hr : grp r with
  | nil => dsimp only; rw [if_pos h]
  | cons g k =>
    dsimp only
    have e1 : (mrg e f).w = e.w := rfl
    rw [e1]
    by_cases hw : f.w = g.w
    · have e2 : e.w = (mrg f g).w := h
      have e3 : e.w = g.w := h.trans hw
      rw [if_pos hw, if_pos e3]
      dsimp only
      rw [if_pos e2, mrg_assoc]
    · rw [if_neg hw]
      dsimp only
      rw [if_pos h, if_neg (fun e4 => hw (h.symm.trans e4))]
theorem grp_apart (e f : Ed) (r : List Ed) (h : e.w ≠ f.w) : grp (e :: f :: r) = e :: grp (f :: r) := by
  obtain ⟨g, k, h1, h2⟩ := grp_head f r
  rw [grp_cons e, h1]
  dsimp only
  rw [if_neg (by rw [h2]; exact h)]
/-- What is done with the next byte. -/
def nx (l : List Ed) : Int := match l with | [] => 0 | e :: _ => e.w
theorem grp_stop (e : Ed) (r : List Ed) (h : nx r ≠ e.w) : grp (e :: r) = e :: grp r := by
  cases r with
  | nil => rfl
  | cons f r => exact grp_apart e f r (fun h' => h h'.symm)

/-- These edits make the one the other. -/
def Rn : List Ed → List UInt8 → List UInt8 → Prop
  | [], a, b => a = [] ∧ b = []
  | e :: r, a, b => (e.w = 1 ∧ e.t = [] ∧ ∃ c a' b', a = c ++ a' ∧ b = c ++ b' ∧ e.n = c.length ∧ 0 < c.length ∧ Rn r a' b') ∨
    (e.w = 2 ∧ e.t = [] ∧ ∃ c a', a = c ++ a' ∧ e.n = c.length ∧ Rn r a' b) ∨
    (e.w = 3 ∧ e.n = 0 ∧ ∃ b', b = e.t ++ b' ∧ Rn r a b')
theorem rn_st (a b : List UInt8) : Rn (st a b) a b := by
  fun_induction st a b with
  | case1 => exact ⟨rfl, rfl⟩
  | case2 y ys ih => exact Or.inr (Or.inr ⟨rfl, rfl, ys, rfl, ih⟩)
  | case3 x xs ih => exact Or.inr (Or.inl ⟨rfl, rfl, [x], xs, rfl, rfl, ih⟩)
  | case4 xs y ys ih => exact Or.inl ⟨rfl, rfl, [y], xs, ys, rfl, rfl, rfl, Nat.one_pos, ih⟩
  | case5 x xs y ys h1 h2 ih => exact Or.inr (Or.inl ⟨rfl, rfl, [x], xs, rfl, rfl, ih⟩)
  | case6 x xs y ys h1 h2 ih => exact Or.inr (Or.inr ⟨rfl, rfl, ys, rfl, ih⟩)
theorem rn_mrg (e f : Ed) (k : List Ed) (a b : List UInt8) (h : e.w = f.w) (hr : Rn (e :: f :: k) a b) : Rn (mrg e f :: k) a b := by
  rcases hr with ⟨h1, h2, c, a', b', h3, h4, h5, h6, h7⟩ | ⟨h1, h2, c, a', h3, h4, h5⟩ | ⟨h1, h2, b', h3, h4⟩
  · rcases h7 with ⟨g1, g2, c', a'', b'', g3, g4, g5, g6, g7⟩ | ⟨g1, _⟩ | ⟨g1, _⟩
    · refine Or.inl ⟨h1, by simp [mrg, h2, g2], c ++ c', a'', b'', by rw [h3, g3, List.append_assoc], by rw [h4, g4, List.append_assoc], by simp [mrg, h5, g5], by simp; omega, g7⟩
    · omega
    · omega
  · rcases h5 with ⟨g1, _⟩ | ⟨g1, g2, c', a'', g3, g4, g5⟩ | ⟨g1, _⟩
    · omega
    · exact Or.inr (Or.inl ⟨h1, by simp [mrg, h2, g2], c ++ c', a'', by rw [h3, g3, List.append_assoc], by simp [mrg, h4, g4], g5⟩)
    · omega
  · rcases h4 with ⟨g1, _⟩ | ⟨g1, _⟩ | ⟨g1, g2, b'', g3, g4⟩
    · omega
    · omega
    · exact Or.inr (Or.inr ⟨h1, by simp [mrg, h2, g2], b'', by rw [h3, g3]; simp [mrg], g4⟩)
theorem rn_cons (e : Ed) (r k : List Ed) (hrk : ∀ a b, Rn r a b → Rn k a b) (a b : List UInt8) (h : Rn (e :: r) a b) : Rn (e :: k) a b := by
  rcases h with ⟨h1, h2, c, a', b', h3, h4, h5, h6, h7⟩ | ⟨h1, h2, c, a', h3, h4, h5⟩ | ⟨h1, h2, b', h3, h4⟩
  · exact Or.inl ⟨h1, h2, c, a', b', h3, h4, h5, h6, hrk _ _ h7⟩
  · exact Or.inr (Or.inl ⟨h1, h2, c, a', h3, h4, hrk _ _ h5⟩)
  · exact Or.inr (Or.inr ⟨h1, h2, b', h3, hrk _ _ h4⟩)
theorem rn_grp (l : List Ed) : ∀ a b, Rn l a b → Rn (grp l) a b := by
  induction l with
  | nil => intro a b h; exact h
  | cons e r ih =>
    intro a b h
    have h' := rn_cons e r (grp r) ih a b h
    rw [grp_cons]
    cases hg : grp r with
    | nil => rw [hg] at h'; exact h'
    | cons f k =>
      rw [hg] at h'
      dsimp only
      by_cases hw : e.w = f.w
      · rw [if_pos hw]; exact rn_mrg e f k a b hw h'
      · rw [if_neg hw]; exact h'
theorem rn_edits (a b : List UInt8) : Rn (edits a b) a b := rn_grp _ _ _ (rn_st a b)
/-- How many bytes are taken out, and put in. -/
def cost : List Ed → Int
  | [] => 0
  | e :: r => e.t.length + (if e.w = 2 then e.n else 0) + cost r
theorem cost_grp (l : List Ed) : cost (grp l) = cost l := by
  induction l with
  | nil => rfl
  | cons e r ih =>
    rw [grp_cons]
    cases hg : grp r with
    | nil => rw [hg] at ih; simp only [cost] at ih ⊢; omega
    | cons f k =>
      rw [hg] at ih
      dsimp only
      by_cases hw : e.w = f.w
      · rw [if_pos hw]
        simp only [cost, mrg, List.length_append] at ih ⊢
        rw [← hw] at ih
        split at ih <;> (simp only [*] at *) <;> omega
      · rw [if_neg hw]; simp only [cost] at ih ⊢; omega
theorem far_cons_same (x : UInt8) (a b : List UInt8) : far (x :: a) (x :: b) = far a b := by
  have h1 := far_eq (x :: a) (x :: b)
  have h2 := far_eq a b
  rw [lcs_cons, if_pos rfl] at h1
  simp only [List.length_cons] at h1
  omega
theorem cost_st (a b : List UInt8) : cost (st a b) = far a b := by
  fun_induction st a b with
  | case1 => simp [cost, far, nil_lcs]
  | case2 y ys ih =>
    have h1 := far_eq [] (y :: ys)
    have h2 := far_eq [] ys
    rw [nil_lcs] at h1 h2
    simp [cost, ih] at h1 h2 ⊢
    omega
  | case3 x xs ih =>
    have h1 := far_eq (x :: xs) []
    have h2 := far_eq xs []
    rw [lcs_nil] at h1 h2
    simp [cost, ih] at h1 h2 ⊢
    omega
  | case4 xs y ys ih => simp [cost, ih, far_cons_same]
  | case5 x xs y ys h1 h2 ih =>
    have g1 := far_eq (x :: xs) (y :: ys)
    have g2 := far_eq xs (y :: ys)
    rw [lcs_cons, if_neg h1, Nat.max_eq_left h2] at g1
    simp [cost, ih] at g1 g2 ⊢
    omega
  | case6 x xs y ys h1 h2 ih =>
    have g1 := far_eq (x :: xs) (y :: ys)
    have g2 := far_eq (x :: xs) ys
    rw [lcs_cons, if_neg h1, Nat.max_eq_right (by omega)] at g1
    simp [cost, ih] at g1 g2 ⊢
    omega
theorem cost_edits (a b : List UInt8) : cost (edits a b) = far a b := by unfold edits; rw [cost_grp, cost_st]

/-- What is wrong with edits (0: nothing; 1: ErrArg; 2: ErrRange; 3: ErrLimit): so many bytes are left, so many are made. -/
def fitE : Int → Int → List Ed → Int
  | left, made, [] => if 0 < left then 2 else if 4000 < made then 3 else 0
  | left, made, e :: r => if e.w < 1 ∨ 3 < e.w ∨ e.n < 0 then 1 else if e.w = 3 then fitE left (min (made + e.t.length) 4001) r
    else if left < e.n then 2 else if e.w = 1 then fitE (left - e.n) (min (made + e.n) 4001) r else fitE (left - e.n) made r
/-- What is made. -/
def outE : List UInt8 → List Ed → List UInt8
  | _, [] => []
  | a, e :: r => if e.w = 1 then a.take e.n.toNat ++ outE (a.drop e.n.toNat) r else if e.w = 2 then outE (a.drop e.n.toNat) r else e.t ++ outE a r
/-- What undoes it. -/
def bckE : List UInt8 → List Ed → List Ed
  | _, [] => []
  | a, e :: r => if e.w = 1 then ⟨1, e.n, []⟩ :: bckE (a.drop e.n.toNat) r else if e.w = 2 then ⟨3, 0, a.take e.n.toNat⟩ :: bckE (a.drop e.n.toNat) r else ⟨2, e.t.length, []⟩ :: bckE a r
theorem rn_fit (l : List Ed) : ∀ (a b : List UInt8) (m : Int), Rn l a b → 0 ≤ m → m + b.length ≤ 4000 → fitE a.length m l = 0 := by
  induction l with
  | nil => intro a b m h _ hm; obtain ⟨rfl, rfl⟩ := h; simp [fitE] at hm ⊢; omega
  | cons e r ih =>
    intro a b m h h0 hm
    rcases h with ⟨h1, h2, c, a', b', h3, h4, h5, h6, h7⟩ | ⟨h1, h2, c, a', h3, h4, h5⟩ | ⟨h1, h2, b', h3, h4⟩
    · subst h3; subst h4
      simp only [List.length_append] at hm
      unfold fitE
      rw [if_neg (by omega), if_neg (by omega), if_neg (by rw [h5]; simp; omega), if_pos h1, Int.min_eq_left (by omega)]
      have := ih a' b' (m + e.n) h7 (by omega) (by omega)
      rw [show (((c ++ a').length : Nat) : Int) - e.n = a'.length by rw [h5]; simp; omega]
      exact this
    · subst h3
      unfold fitE
      rw [if_neg (by omega), if_neg (by omega), if_neg (by rw [h4]; simp; omega), if_neg (by omega)]
      have := ih a' b m h5 (by omega) (by omega)
      rw [show (((c ++ a').length : Nat) : Int) - e.n = a'.length by rw [h4]; simp; omega]
      exact this
    · subst h3
      simp only [List.length_append] at hm
      unfold fitE
      rw [if_neg (by omega), if_pos h1, Int.min_eq_left (by omega)]
      exact ih a b' (m + e.t.length) h4 (by omega) (by omega)
theorem rn_out (l : List Ed) : ∀ (a b : List UInt8), Rn l a b → outE a l = b := by
  induction l with
  | nil => intro a b h; exact h.2.symm
  | cons e r ih =>
    intro a b h
    rcases h with ⟨h1, h2, c, a', b', h3, h4, h5, h6, h7⟩ | ⟨h1, h2, c, a', h3, h4, h5⟩ | ⟨h1, h2, b', h3, h4⟩
    · subst h3; subst h4
      have := ih a' b' h7
      unfold outE
      rw [if_pos h1, h5]; simp [this]
    · subst h3
      have := ih a' b h5
      unfold outE
      rw [if_neg (by omega), if_pos h1, h4]; simp [this]
    · subst h3
      have := ih a b' h4
      unfold outE
      rw [if_neg (by omega), if_neg (by omega), this]
theorem rn_bck (l : List Ed) : ∀ (a b : List UInt8), Rn l a b → Rn (bckE a l) b a := by
  induction l with
  | nil => intro a b h; exact ⟨h.2, h.1⟩
  | cons e r ih =>
    intro a b h
    rcases h with ⟨h1, h2, c, a', b', h3, h4, h5, h6, h7⟩ | ⟨h1, h2, c, a', h3, h4, h5⟩ | ⟨h1, h2, b', h3, h4⟩
    · subst h3; subst h4
      have := ih a' b' h7
      unfold bckE
      rw [if_pos h1]
      refine Or.inl ⟨rfl, rfl, c, b', a', rfl, rfl, h5, h6, ?_⟩
      rw [h5]; simpa using this
    · subst h3
      have := ih a' b h5
      unfold bckE
      rw [if_neg (by omega), if_pos h1]
      refine Or.inr (Or.inr ⟨rfl, rfl, a', ?_, ?_⟩)
      · rw [h4]; simp
      · rw [h4]; simpa using this
    · subst h3
      have := ih a b' h4
      unfold bckE
      rw [if_neg (by omega), if_neg (by omega)]
      exact Or.inr (Or.inl ⟨rfl, rfl, e.t, b', rfl, rfl, this⟩)
end Go.Proofs.YtoiiphkcpdphbaaDoor.df
