/- Plain facts on spans: sets of places, told in just one way; how many places there are; no program. -/
namespace Go.Proofs.Ytfblmfjgbbeheaa.span

/-- A place is one of some spans'. -/
def has (l : List (Int × Int)) (p : Int) : Prop := ∃ x ∈ l, x.1 ≤ p ∧ p < x.2
/-- Each span has a place, and begins above the end of the one ahead (the first one: above m). -/
def rightFrom : Int → List (Int × Int) → Prop
  | _, [] => True
  | m, x :: l => m < x.1 ∧ x.1 < x.2 ∧ rightFrom x.2 l
def right (l : List (Int × Int)) : Prop := rightFrom (-1) l
theorem has_nil (p : Int) : ¬ has [] p := by rintro ⟨x, hx, _⟩; cases hx
theorem has_cons (x : Int × Int) (l : List (Int × Int)) (p : Int) : has (x :: l) p ↔ (x.1 ≤ p ∧ p < x.2) ∨ has l p := by
  constructor
  · rintro ⟨y, hy, h⟩
    rcases List.mem_cons.1 hy with rfl | hy
    · exact Or.inl h
    · exact Or.inr ⟨y, hy, h⟩
  · rintro (h | ⟨y, hy, h⟩)
    · exact ⟨x, List.mem_cons_self .., h⟩
    · exact ⟨y, List.mem_cons_of_mem _ hy, h⟩
theorem has_append (a b : List (Int × Int)) (p : Int) : has (a ++ b) p ↔ has a p ∨ has b p := by
  constructor
  · rintro ⟨y, hy, h⟩
    rcases List.mem_append.1 hy with hy | hy
    · exact Or.inl ⟨y, hy, h⟩
    · exact Or.inr ⟨y, hy, h⟩
  · rintro (⟨y, hy, h⟩ | ⟨y, hy, h⟩)
    · exact ⟨y, List.mem_append_left _ hy, h⟩
    · exact ⟨y, List.mem_append_right _ hy, h⟩
theorem has_one (a b p : Int) : has [(a, b)] p ↔ a ≤ p ∧ p < b := by
  rw [has_cons]
  exact ⟨fun h => h.elim id fun h => absurd h (has_nil p), Or.inl⟩
theorem has_gt {m : Int} {l : List (Int × Int)} (h : rightFrom m l) {p : Int} (hp : has l p) : m < p := by
  induction l generalizing m with
  | nil => exact absurd hp (has_nil p)
  | cons x l ih =>
    obtain ⟨h1, h2, h3⟩ := h
    rcases (has_cons x l p).1 hp with h' | h'
    · omega
    · have := ih h3 h'; omega
theorem rightFrom.mono {m m' : Int} {l : List (Int × Int)} (h : rightFrom m l) (hm : m' ≤ m) : rightFrom m' l := by
  cases l with
  | nil => trivial
  | cons x l => exact ⟨by have := h.1; omega, h.2⟩
/-- JUST ONE WAY: right spans that have the same places are the same. -/
theorem unique {m m' : Int} {a b : List (Int × Int)} (ha : rightFrom m a) (hb : rightFrom m' b) (h : ∀ p, has a p ↔ has b p) : a = b := by
  induction a generalizing b m m' with
  | nil =>
    cases b with
    | nil => rfl
    | cons y b => exact absurd ((h y.1).2 ((has_cons y b y.1).2 (Or.inl ⟨Int.le_refl _, hb.2.1⟩))) (has_nil _)
  | cons x a ih =>
    cases b with
    | nil => exact absurd ((h x.1).1 ((has_cons x a x.1).2 (Or.inl ⟨Int.le_refl _, ha.2.1⟩))) (has_nil _)
    | cons y b =>
      obtain ⟨_, hx, ha'⟩ := ha
      obtain ⟨_, hy, hb'⟩ := hb
      have hxa : ∀ p, has a p → x.2 < p := fun p hp => has_gt ha' hp
      have hyb : ∀ p, has b p → y.2 < p := fun p hp => has_gt hb' hp
      have h1 : y.1 ≤ x.1 := by
        rcases (has_cons y b x.1).1 ((h x.1).1 ((has_cons x a x.1).2 (Or.inl ⟨Int.le_refl _, hx⟩))) with h' | h'
        · exact h'.1
        · have := hyb _ h'; omega
      have h2 : x.1 ≤ y.1 := by
        rcases (has_cons x a y.1).1 ((h y.1).2 ((has_cons y b y.1).2 (Or.inl ⟨Int.le_refl _, hy⟩))) with h' | h'
        · exact h'.1
        · have := hxa _ h'; omega
      have h3 : y.2 ≤ x.2 := by
        rcases Int.lt_or_le x.2 y.2 with h' | h'
        · rcases (has_cons x a x.2).1 ((h x.2).2 ((has_cons y b x.2).2 (Or.inl ⟨by omega, h'⟩))) with h'' | h''
          · omega
          · have := hxa _ h''; omega
        · exact h'
      have h4 : x.2 ≤ y.2 := by
        rcases Int.lt_or_le y.2 x.2 with h' | h'
        · rcases (has_cons y b y.2).1 ((h y.2).1 ((has_cons x a y.2).2 (Or.inl ⟨by omega, h'⟩))) with h'' | h''
          · omega
          · have := hyb _ h''; omega
        · exact h'
      have e : x = y := Prod.ext (by omega) (by omega)
      subst e
      congr 1
      refine ih ha' hb' fun p => ?_
      have hp := h p
      rw [has_cons, has_cons] at hp
      constructor
      · intro ha1
        have := hxa p ha1
        rcases hp.1 (Or.inr ha1) with h' | h'
        · omega
        · exact h'
      · intro hb1
        have := hyb p hb1
        rcases hp.2 (Or.inr hb1) with h' | h'
        · omega
        · exact h'
/-- One span more at the end, apart from the last one. -/
theorem right_snoc {m : Int} {pre : List (Int × Int)} {a b : Int} (h : rightFrom m pre) (hm : m < a) (hl : ∀ x, pre.getLast? = some x → x.2 < a) (hab : a < b) : rightFrom m (pre ++ [(a, b)]) := by
  induction pre generalizing m with
  | nil => exact ⟨hm, hab, trivial⟩
  | cons x pre ih =>
    obtain ⟨h1, h2, h3⟩ := h
    refine ⟨h1, h2, ?_⟩
    cases pre with
    | nil => exact ⟨hl x rfl, hab, trivial⟩
    | cons y pre =>
      refine ih h3 ?_ (fun z hz => hl z (by rw [List.getLast?_cons_cons]; exact hz))
      have : ∀ (l : List (Int × Int)) (m : Int) (x : Int × Int), rightFrom m (x :: l) → ∀ z, (x :: l).getLast? = some z → m < z.2 := by
        intro l
        induction l with
        | nil => intro m x h z hz; simp at hz; subst hz; have := h.1; have := h.2.1; omega
        | cons w l ih' =>
          intro m x h z hz
          rw [List.getLast?_cons_cons] at hz
          have := ih' x.2 w h.2.2 z hz
          have := h.1; have := h.2.1
          omega
      obtain ⟨z, hz⟩ : ∃ z, (y :: pre).getLast? = some z := by
        cases hq : (y :: pre).getLast? with
        | none => simp at hq
        | some z => exact ⟨z, rfl⟩
      have h5 := this pre x.2 y h3 z hz
      have h6 := hl z (by rw [List.getLast?_cons_cons]; exact hz)
      omega
/-- The last span goes on. -/
theorem right_last {m : Int} {pre : List (Int × Int)} {c d e : Int} (h : rightFrom m (pre ++ [(c, d)])) (hde : d ≤ e) : rightFrom m (pre ++ [(c, e)]) := by
  induction pre generalizing m with
  | nil => exact ⟨h.1, by have := h.2.1; simp only at *; omega, trivial⟩
  | cons x pre ih => exact ⟨h.1, h.2.1, ih h.2.2⟩
theorem right_ends {m : Int} {pre : List (Int × Int)} {c d : Int} (h : rightFrom m (pre ++ [(c, d)])) : m < c ∧ c < d := by
  induction pre generalizing m with
  | nil => exact ⟨h.1, h.2.1⟩
  | cons x pre ih =>
    have := ih h.2.2
    have h1 := h.1
    have h2 := h.2.1
    omega
/-- What is put in behind: it goes on with the last one where it touches it, else it stands alone. -/
theorem put_on {m : Int} {pre : List (Int × Int)} {c d a b : Int} (h : rightFrom m (pre ++ [(c, d)])) (hc : c ≤ a) (had : a ≤ d) : rightFrom m (pre ++ [(c, max d b)]) ∧ ∀ p, has (pre ++ [(c, max d b)]) p ↔ has (pre ++ [(c, d)]) p ∨ (a ≤ p ∧ p < b) := by
  refine ⟨right_last h (by omega), fun p => ?_⟩
  have hcd := right_ends h
  rw [has_append, has_append, has_one, has_one]
  constructor
  · rintro (h' | h')
    · exact Or.inl (Or.inl h')
    · by_cases hp : p < d
      · exact Or.inl (Or.inr ⟨h'.1, hp⟩)
      · exact Or.inr ⟨by omega, by omega⟩
  · rintro ((h' | h') | h')
    · exact Or.inl h'
    · exact Or.inr ⟨h'.1, by omega⟩
    · exact Or.inr ⟨by omega, by omega⟩
theorem put_new {m : Int} {pre : List (Int × Int)} {c d a b : Int} (h : rightFrom m (pre ++ [(c, d)])) (hda : d < a) (hab : a < b) : rightFrom m (pre ++ [(c, d)] ++ [(a, b)]) ∧ ∀ p, has (pre ++ [(c, d)] ++ [(a, b)]) p ↔ has (pre ++ [(c, d)]) p ∨ (a ≤ p ∧ p < b) := by
  have hcd := right_ends h
  refine ⟨right_snoc h (by omega) (fun x hx => ?_) hab, fun p => ?_⟩
  · rw [List.getLast?_append] at hx
    simp at hx
    subst hx
    exact hda
  · rw [has_append (pre ++ [(c, d)]), has_one]
theorem put_first {m a b : Int} (hm : m < a) (hab : a < b) : rightFrom m [(a, b)] ∧ ∀ p, has [(a, b)] p ↔ has [] p ∨ (a ≤ p ∧ p < b) := by
  refine ⟨⟨hm, hab, trivial⟩, fun p => ?_⟩
  rw [has_one]
  exact ⟨Or.inr, fun h => h.elim (fun h => absurd h (has_nil p)) id⟩

/-! How many places there are. -/
/-- How many of the first n places are so. -/
def cnt (f : Nat → Bool) : Nat → Nat
  | 0 => 0
  | n + 1 => cnt f n + (f n).toNat
theorem cnt_congr (f g : Nat → Bool) (n : Nat) (h : ∀ k, k < n → f k = g k) : cnt f n = cnt g n := by
  induction n with
  | zero => rfl
  | succ n ih => rw [cnt, cnt, ih (fun k hk => h k (by omega)), h n (by omega)]
theorem bool_both (a b : Bool) : (a || b).toNat + (a && b).toNat = a.toNat + b.toNat := by cases a <;> cases b <;> rfl
theorem cnt_both (f g : Nat → Bool) (n : Nat) : cnt (fun k => f k || g k) n + cnt (fun k => f k && g k) n = cnt f n + cnt g n := by
  induction n with
  | zero => rfl
  | succ n ih =>
    have := bool_both (f n) (g n)
    simp only [cnt]
    omega
theorem bool_not (a : Bool) : a.toNat + (!a).toNat = 1 := by cases a <;> rfl
theorem cnt_not (f : Nat → Bool) (n : Nat) : cnt f n + cnt (fun k => !f k) n = n := by
  induction n with
  | zero => rfl
  | succ n ih =>
    have := bool_not (f n)
    simp only [cnt]
    omega
theorem cnt_none (n : Nat) : cnt (fun _ => false) n = 0 := by
  induction n with
  | zero => rfl
  | succ n ih => simp [cnt, ih]
theorem cnt_from (a b n : Nat) (hab : a ≤ b) (hbn : b ≤ n) : cnt (fun k => decide (a ≤ k ∧ k < b)) n = b - a := by
  induction n generalizing b with
  | zero => show 0 = b - a; omega
  | succ n ih =>
    rw [cnt]
    by_cases h : b ≤ n
    · rw [ih b hab h, decide_eq_false (by omega)]
      rfl
    · obtain rfl : b = n + 1 := by omega
      by_cases ha : a = n + 1
      · subst ha
        rw [cnt_congr _ (fun _ => false) n (fun k hk => decide_eq_false (by omega)), cnt_none, decide_eq_false (by omega), Nat.sub_self]
        rfl
      · rw [cnt_congr _ (fun k => decide (a ≤ k ∧ k < n)) n (fun k hk => decide_eq_decide.2 ⟨fun h => ⟨h.1, by omega⟩, fun h => ⟨h.1, by omega⟩⟩), ih n (by omega) (Nat.le_refl _), decide_eq_true (by omega)]
        show n - a + 1 = n + 1 - a
        omega
/-- How many places spans have, one by one. -/
def size (l : List (Int × Int)) : Int := (l.map fun x => x.2 - x.1).sum
theorem size_cnt {m : Int} {l : List (Int × Int)} (h : rightFrom m l) (hm : -1 ≤ m) (n : Nat) (hn : ∀ x ∈ l, x.2 ≤ (n : Int)) (g : Nat → Bool) (hg : ∀ k, k < n → (g k = true ↔ has l (k : Int))) : size l = (cnt g n : Nat) := by
  induction l generalizing m g with
  | nil =>
    rw [cnt_congr _ (fun _ => false) n (fun k hk => by
      cases e : g k with
      | false => rfl
      | true => exact absurd ((hg k hk).1 e) (has_nil _)), cnt_none]
    rfl
  | cons x l ih =>
    obtain ⟨h1, h2, h3⟩ := h
    have hx := hn x (List.mem_cons_self ..)
    obtain ⟨a, ha⟩ := Int.eq_ofNat_of_zero_le (show 0 ≤ x.1 by omega)
    obtain ⟨b, hb⟩ := Int.eq_ofNat_of_zero_le (show 0 ≤ x.2 by omega)
    have ih' := ih h3 (by omega) (fun y hy => hn y (List.mem_cons_of_mem _ hy)) (fun k => g k && !decide (a ≤ k ∧ k < b)) (fun k hk => by
      have := hg k hk
      rw [has_cons] at this
      constructor
      · intro hh
        rw [Bool.and_eq_true, Bool.not_eq_true', decide_eq_false_iff_not] at hh
        rcases this.1 hh.1 with h' | h'
        · exact absurd ⟨by omega, by omega⟩ hh.2
        · exact h'
      · intro hh
        have hgt := has_gt h3 hh
        rw [Bool.and_eq_true, Bool.not_eq_true', decide_eq_false_iff_not]
        exact ⟨this.2 (Or.inr hh), by omega⟩)
    have hc := cnt_from a b n (by omega) (by omega)
    have hboth := cnt_both (fun k => decide (a ≤ k ∧ k < b)) (fun k => g k && !decide (a ≤ k ∧ k < b)) n
    rw [cnt_congr (fun k => decide (a ≤ k ∧ k < b) && (g k && !decide (a ≤ k ∧ k < b))) (fun _ => false) n (fun k _ => by cases decide (a ≤ k ∧ k < b) <;> cases g k <;> rfl), cnt_none] at hboth
    rw [cnt_congr (fun k => decide (a ≤ k ∧ k < b) || (g k && !decide (a ≤ k ∧ k < b))) g n (fun k hk => by
      by_cases hk2 : a ≤ k ∧ k < b
      · have : g k = true := (hg k hk).2 ((has_cons x l k).2 (Or.inl ⟨by omega, by omega⟩))
        rw [this, decide_eq_true hk2]; rfl
      · rw [decide_eq_false hk2]; cases g k <;> rfl)] at hboth
    have e : size (x :: l) = (x.2 - x.1) + size l := by unfold size; rw [List.map_cons, List.sum_cons]
    rw [e, ih']
    omega
end Go.Proofs.Ytfblmfjgbbeheaa.span
