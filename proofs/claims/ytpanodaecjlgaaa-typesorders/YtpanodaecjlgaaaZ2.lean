/- Texts laid together: ExQ, ExR, TmQ, TmC. -/
import Derived.Test.YtpanodaecjlgaaaZ1
/- Expressions: as they are written, they are read (pure). -/
namespace Go.Proofs.Ytpanodaecjlgaaa.ex
set_option linter.unusedVariables false
open lx
section
variable {nb : List UInt8 → Int × Int} {en : Nat}
theorem upr_all (f : Nat) : (∀ m d ts q, row nb en f m d ts = some q → row nb en (f + 1) m d ts = some q) ∧ (∀ m d y ts q, lp nb en f m d y ts = some q → lp nb en (f + 1) m d y ts = some q) ∧ (∀ d ts q, one nb en f d ts = some q → one nb en (f + 1) d ts = some q) := by
  induction f with
  | zero => exact ⟨fun _ _ _ _ h => by simp [row] at h, fun _ _ _ _ _ h => by simp [lp] at h, fun _ _ _ h => by simp [one] at h⟩
  | succ f ih =>
    obtain ⟨i1, i2, i3⟩ := ih
    refine ⟨?_, ?_, ?_⟩
    · intro m d ts q h
      by_cases hm : 3 < m
      · rw [row_top _ _ _ _ hm] at h ⊢
        exact i3 _ _ _ h
      · rw [row_low _ _ _ _ hm] at h
        rw [row_low _ _ _ _ hm]
        split at h
        · cases h
        · rename_i e hr
          rw [i1 _ _ _ _ hr]
          exact h
        · rename_i x r hr
          rw [i1 _ _ _ _ hr]
          exact i2 _ _ _ _ _ h
    · intro m d y ts q h
      cases ts with
      | nil => simpa [lp] using h
      | cons t ts =>
        rw [lp] at h ⊢
        split at h
        · rename_i hc
          rw [if_pos hc]
          split at h
          · cases h
          · rename_i e hr
            rw [i1 _ _ _ _ hr]
            exact h
          · rename_i x r hr
            rw [i1 _ _ _ _ hr]
            exact i2 _ _ _ _ _ h
        · rename_i hc
          rw [if_neg hc]
          exact h
    · intro d ts q h
      cases ts with
      | nil => simpa [one] using h
      | cons t ts =>
        rw [one] at h ⊢
        split at h
        · rename_i h1
          rw [if_pos h1]; exact h
        · rename_i h1
          rw [if_neg h1]
          split at h
          · rename_i h2
            rw [if_pos h2]; exact h
          · rename_i h2
            rw [if_neg h2]
            split at h
            · rename_i h3
              rw [if_pos h3]
              split at h
              · rename_i h4
                rw [if_pos h4]; exact h
              · rename_i h4
                rw [if_neg h4]
                split at h
                · cases h
                · rename_i e hr
                  rw [i1 _ _ _ _ hr]; exact h
                · rename_i x r hr
                  rw [i1 _ _ _ _ hr]; exact h
            · rename_i h3
              rw [if_neg h3]; exact h
theorem up_row {f g m d : Nat} {ts : List Tk} {q : Res} (h : row nb en f m d ts = some q) (hg : f ≤ g) : row nb en g m d ts = some q := by
  induction g with
  | zero => obtain rfl : f = 0 := by omega
            exact h
  | succ g ih =>
    rcases Nat.lt_or_ge g f with h1 | h1
    · obtain rfl : f = g + 1 := by omega
      exact h
    · exact (upr_all g).1 _ _ _ _ (ih h1)
theorem up_lp {f g m d : Nat} {y : Ex} {ts : List Tk} {q : Res} (h : lp nb en f m d y ts = some q) (hg : f ≤ g) : lp nb en g m d y ts = some q := by
  induction g with
  | zero => obtain rfl : f = 0 := by omega
            exact h
  | succ g ih =>
    rcases Nat.lt_or_ge g f with h1 | h1
    · obtain rfl : f = g + 1 := by omega
      exact h
    · exact (upr_all g).2.1 _ _ _ _ _ (ih h1)
theorem row_one {f g m d : Nat} {ts : List Tk} {p q : Res} (h : row nb en f m d ts = some p) (h' : row nb en g m d ts = some q) : p = q := by
  have h1 := up_row h (Nat.le_max_left f g)
  have h2 := up_row h' (Nat.le_max_right f g)
  rw [h1] at h2
  injection h2
/-- Nothing joins here. -/
theorem lp_stop (f m d : Nat) (x : Ex) (ts : List Tk) (h : hb ts < m) : lp nb en (f + 1) m d x ts = some (.ok (x, ts)) := by
  cases ts with
  | nil => rw [lp]
  | cons t r =>
    have : bd t.t < m := h
    rw [lp, if_neg (by omega)]
/-- What is one thing, as a row. -/
theorem climb (k : Nat) : ∀ (m d f g : Nat) (us ts : List Tk) (x : Ex) (q : Res), m + k = 4 → hb ts ≤ m → one nb en f d us = some (.ok (x, ts)) → lp nb en g m d x ts = some q → ∃ f', row nb en f' m d us = some q := by
  induction k with
  | zero =>
    intro m d f g us ts x q hm hh h1 h2
    obtain rfl : m = 4 := by omega
    refine ⟨f + 1, ?_⟩
    rw [row_top _ _ _ _ (by omega), h1]
    have h3 : hb ts < 4 := by
      cases ts with
      | nil => exact Nat.zero_lt_succ _
      | cons t r => have := bd_le t.t; show bd t.t < 4; omega
    cases g with
    | zero => simp [lp] at h2
    | succ g => rw [lp_stop _ _ _ _ _ h3] at h2; exact h2
  | succ k ih =>
    intro m d f g us ts x q hm hh h1 h2
    obtain ⟨f', hf⟩ := ih (m + 1) d f 1 us ts x (.ok (x, ts)) (by omega) (by omega) h1 (lp_stop _ _ _ _ _ (by omega))
    refine ⟨max f' g + 1, ?_⟩
    rw [row_low _ _ _ _ (by omega), up_row hf (Nat.le_max_left _ _)]
    exact up_lp h2 (Nat.le_max_right _ _)
/-- The same expression, wherever it stands; with a number in a name's place. -/
inductive Sb (nm : List UInt8) (n : Int) : Ex → Ex → Prop
  | num (a b : Nat) (k : Int) : Sb nm n (.num a k) (.num b k)
  | nam (a b : Nat) (t : List UInt8) : t ≠ nm → Sb nm n (.nam a t) (.nam b t)
  | put (a b : Nat) : Sb nm n (.nam a nm) (.num b n)
  | bin (a b : Nat) (o : List UInt8) (l l' r r' : Ex) : Sb nm n l l' → Sb nm n r r' → Sb nm n (.bin a o l r) (.bin b o l' r')
inductive Sm : Ex → Ex → Prop
  | num (a b : Nat) (k : Int) : Sm (.num a k) (.num b k)
  | nam (a b : Nat) (t : List UInt8) : Sm (.nam a t) (.nam b t)
  | bin (a b : Nat) (o : List UInt8) (l l' r r' : Ex) : Sm l l' → Sm r r' → Sm (.bin a o l r) (.bin b o l' r')
/-- What is one, in brackets, or not: of an expression that must bind so much. -/
def top (x : Ex) : Nat := match x with | .bin _ o _ _ => bd o | _ => 4
variable (dec : Int → List UInt8)
def tk : Ex → List (List UInt8)
  | .num _ n => [dec n]
  | .nam _ t => [t]
  | .bin _ o l r => (if top l < bd o then [40] :: tk l ++ [[41]] else tk l) ++ o :: (if top r < bd o + 1 then [40] :: tk r ++ [[41]] else tk r)
def sk (x : Ex) (m : Nat) : List (List UInt8) := if top x < m then [40] :: tk dec x ++ [[41]] else tk dec x
theorem tk_bin (a : Nat) (o : List UInt8) (l r : Ex) : tk dec (.bin a o l r) = sk dec l (bd o) ++ o :: sk dec r (bd o + 1) := by rw [tk]; rfl
/-- How deep brackets lie. -/
def dp : Ex → Nat
  | .num _ _ => 0
  | .nam _ _ => 0
  | .bin _ o l r => max (if top l < bd o then dp l + 1 else dp l) (if top r < bd o + 1 then dp r + 1 else dp r)
def sd (x : Ex) (m : Nat) : Nat := if top x < m then dp x + 1 else dp x
theorem dp_bin (a : Nat) (o : List UInt8) (l r : Ex) : dp (.bin a o l r) = max (sd l (bd o)) (sd r (bd o + 1)) := by rw [dp]; rfl
theorem sd_mono (x : Ex) (m k : Nat) (h : m ≤ k) : sd x m ≤ sd x k := by
  unfold sd
  split <;> split <;> omega
/-- What reading tells. -/
def Wf : Ex → Prop
  | .num _ n => isN (dec n) = false ∧ isU (dec n) = true ∧ nb (dec n) = (n, 0)
  | .nam _ t => isN t = true ∧ t.length ≤ 12
  | .bin _ o l r => 0 < bd o ∧ Wf l ∧ Wf r
theorem hd_cons (t : Tk) (r : List Tk) : hd en (t :: r) = t := rfl
variable {dec}
/-- What is in brackets, as one. -/
theorem in_brackets {f d p q' : Nat} {us ts : List Tk} {x : Ex} (hd8 : d ≠ 8) (h : row nb en f 1 (d + 1) (us ++ ⟨[41], q'⟩ :: ts) = some (.ok (x, ⟨[41], q'⟩ :: ts))) :
    one nb en (f + 1) d (⟨[40], p⟩ :: (us ++ ⟨[41], q'⟩ :: ts)) = some (.ok (x, ts)) := by
  rw [one, if_neg (by show ¬ isN [40] = true; decide), if_neg (by show ¬ isU [40] = true; decide), if_pos rfl, if_neg hd8, h]
  dsimp only
  rw [hd_cons, if_pos rfl]
  rfl
theorem map_cut {us : List Tk} {a b : List (List UInt8)} (h : us.map Tk.t = a ++ b) : ∃ u v, us = u ++ v ∧ u.map Tk.t = a ∧ v.map Tk.t = b :=
  List.map_eq_append_iff.1 h
theorem map_cons {us : List Tk} {a : List UInt8} {b : List (List UInt8)} (h : us.map Tk.t = a :: b) : ∃ p v, us = ⟨a, p⟩ :: v ∧ v.map Tk.t = b := by
  obtain ⟨u, v, h1, h2, h3⟩ := List.map_eq_cons_iff.1 h
  obtain ⟨t, p⟩ := u
  exact ⟨p, v, by rw [h1]; simp at h2; rw [h2], h3⟩
theorem map_nil {us : List Tk} (h : us.map Tk.t = []) : us = [] := List.map_eq_nil_iff.1 h
/-- What brackets do: from within. -/
theorem brack (x : Ex) (m d : Nat) (us ts : List Tk) (h0 : 1 ≤ m) (h4 : m ≤ 4) (htop : top x < m) (hs : sd x m + d ≤ 8) (hu : us.map Tk.t = sk dec x m) (hh : hb ts ≤ m)
    (C1 : ∀ (d : Nat) (us ts : List Tk), dp x + d ≤ 8 → us.map Tk.t = tk dec x → hb ts ≤ 1 → ∃ x', Sm x x' ∧ ∀ g q, lp nb en g 1 d x' ts = some q → ∃ f, row nb en f 1 d (us ++ ts) = some q) :
    ∃ x', Sm x x' ∧ ∀ g q, lp nb en g m d x' ts = some q → ∃ f, row nb en f m d (us ++ ts) = some q := by
  unfold sk at hu
  rw [if_pos htop] at hu
  obtain ⟨p, v, rfl, hv⟩ := map_cons hu
  obtain ⟨v1, v2, rfl, h1, h2⟩ := map_cut hv
  obtain ⟨p', v3, rfl, h3⟩ := map_cons h2
  obtain rfl := map_nil h3
  unfold sd at hs
  rw [if_pos htop] at hs
  obtain ⟨x', hx, hr⟩ := C1 (d + 1) v1 (⟨[41], p'⟩ :: ts) (by omega) h1 (by show bd [41] ≤ 1; decide)
  obtain ⟨f, hf⟩ := hr 1 _ (lp_stop 0 1 (d + 1) x' (⟨[41], p'⟩ :: ts) (by show bd [41] < 1; decide))
  refine ⟨x', hx, fun g q hg => ?_⟩
  have e := in_brackets (p := p) (show d ≠ 8 by omega) hf
  have e2 : ⟨[40], p⟩ :: (v1 ++ [⟨[41], p'⟩]) ++ ts = (⟨[40], p⟩ : Tk) :: (v1 ++ ⟨[41], p'⟩ :: ts) := by simp
  rw [e2]
  exact climb (4 - m) m d _ g _ ts x' q (by omega) hh e hg
/-- AS IT IS WRITTEN IT IS READ. -/
theorem reads (x : Ex) : ∀ (_ : Wf (nb := nb) dec x) (k m d : Nat) (us ts : List Tk), 1 ≤ m → m + k = 4 → sd x m + d ≤ 8 → us.map Tk.t = sk dec x m → hb ts ≤ m →
    ∃ x', Sm x x' ∧ ∀ g q, lp nb en g m d x' ts = some q → ∃ f, row nb en f m d (us ++ ts) = some q := by
  induction x with
  | num a n =>
    intro hw k m d us ts h0 hk hs hu hh
    have e : sk dec (.num a n) m = [dec n] := by unfold sk; rw [if_neg (by show ¬ 4 < m; omega)]; rfl
    rw [e] at hu
    obtain ⟨p, v, rfl, hv⟩ := map_cons hu
    obtain rfl := map_nil hv
    obtain ⟨w1, w2, w3⟩ := hw
    refine ⟨.num p n, Sm.num _ _ _, fun g q hg => climb k m d 1 g _ ts _ q (by omega) hh ?_ hg⟩
    show one nb en 1 d (⟨dec n, p⟩ :: ts) = _
    rw [one, if_neg (by rw [w1]; decide), if_pos w2, w3, if_pos rfl]
  | nam a t =>
    intro hw k m d us ts h0 hk hs hu hh
    have e : sk dec (.nam a t) m = [t] := by unfold sk; rw [if_neg (by show ¬ 4 < m; omega)]; rfl
    rw [e] at hu
    obtain ⟨p, v, rfl, hv⟩ := map_cons hu
    obtain rfl := map_nil hv
    obtain ⟨w1, w2⟩ := hw
    refine ⟨.nam p t, Sm.nam _ _ _, fun g q hg => climb k m d 1 g _ ts _ q (by omega) hh ?_ hg⟩
    show one nb en 1 d (⟨t, p⟩ :: ts) = _
    rw [one, if_pos w1, if_neg (by show ¬ 12 < t.length; omega)]
  | bin a o l r il ir =>
    intro hw
    obtain ⟨hb0, wl', wr⟩ := hw
    have hb3 := bd_le o
    -- what binds as much, or more, first
    have low : ∀ (j m d : Nat) (us ts : List Tk), 1 ≤ m → m + j = bd o → dp (.bin a o l r) + d ≤ 8 → us.map Tk.t = tk dec (.bin a o l r) → hb ts ≤ m →
        ∃ x', Sm (.bin a o l r) x' ∧ ∀ g q, lp nb en g m d x' ts = some q → ∃ f, row nb en f m d (us ++ ts) = some q := by
      intro j
      induction j with
      | zero =>
        intro m d us ts h0 hj hd hu hh
        obtain rfl : m = bd o := by omega
        rw [dp_bin] at hd
        rw [tk_bin] at hu
        obtain ⟨u, v, rfl, hu1, hv⟩ := map_cut hu
        obtain ⟨p, v', rfl, hv1⟩ := map_cons hv
        obtain ⟨l', sl, cl'⟩ := il wl' (4 - bd o) (bd o) d u ((⟨o, p⟩ : Tk) :: (v' ++ ts)) h0 (by omega) (by omega) hu1 (by show bd o ≤ bd o; omega)
        obtain ⟨r', sr, cr⟩ := ir wr (4 - (bd o + 1)) (bd o + 1) d v' ts (by omega) (by omega) (by omega) hv1 (by omega)
        obtain ⟨f1, hf1⟩ := cr 1 _ (lp_stop 0 (bd o + 1) d r' ts (by omega))
        refine ⟨.bin p o l' r', Sm.bin _ _ _ _ _ _ _ sl sr, fun g q hg => ?_⟩
        have e : u ++ (⟨o, p⟩ :: v') ++ ts = u ++ (⟨o, p⟩ : Tk) :: (v' ++ ts) := by simp
        rw [e]
        refine cl' (max f1 g + 1) q ?_
        rw [lp, if_pos rfl, up_row hf1 (Nat.le_max_left _ _)]
        exact up_lp hg (Nat.le_max_right _ _)
      | succ j ih =>
        intro m d us ts h0 hj hd hu hh
        obtain ⟨x', hx, hc⟩ := ih (m + 1) d us ts (by omega) (by omega) hd hu (by omega)
        refine ⟨x', hx, fun g q hg => ?_⟩
        obtain ⟨f, hf⟩ := hc 1 _ (lp_stop 0 (m + 1) d x' ts (by omega))
        refine ⟨max f g + 1, ?_⟩
        rw [row_low _ _ _ _ (by omega), up_row hf (Nat.le_max_left _ _)]
        exact up_lp hg (Nat.le_max_right _ _)
    intro k m d us ts h0 hk hs hu hh
    by_cases ht : bd o < m
    · exact brack _ m d us ts h0 (by omega) ht hs hu hh (fun d us ts h1 h2 h3 => low (bd o - 1) 1 d us ts (by omega) (by omega) h1 h2 h3)
    · have e1 : sk dec (.bin a o l r) m = tk dec (.bin a o l r) := by unfold sk; rw [if_neg (show ¬ top (.bin a o l r) < m from ht)]
      have e2 : sd (.bin a o l r) m = dp (.bin a o l r) := by unfold sd; rw [if_neg (show ¬ top (.bin a o l r) < m from ht)]
      rw [e1] at hu
      rw [e2] at hs
      exact low (bd o - m) m d us ts h0 (by omega) hs hu hh
end
end Go.Proofs.Ytpanodaecjlgaaa.ex
/- Expressions: what reading tells; brackets too deep; names as numbers; what they come to (pure). -/
namespace Go.Proofs.Ytpanodaecjlgaaa.ex
set_option linter.unusedVariables false
open lx
section
variable {nb : List UInt8 → Int × Int} {en : Nat} {dec : Int → List UInt8}
/-- Brackets that lie too deep are told. -/
theorem deep_brack (x : Ex) (m d : Nat) (us ts : List Tk) (htop : top x < m) (h4 : m ≤ 4) (h1 : 1 ≤ m) (hs : 8 < sd x m + d) (hd : d ≤ 8) (hu : us.map Tk.t = sk dec x m)
    (C1 : ∀ (d : Nat) (us ts : List Tk), d ≤ 8 → 8 < dp x + d → us.map Tk.t = tk dec x → ∃ f p, row nb en f 1 d (us ++ ts) = some (.error (4, p))) : ∃ f p, row nb en f m d (us ++ ts) = some (.error (4, p)) := by
  have up : ∀ (k m : Nat) (us : List Tk) (f p : Nat), m + k = 4 → one nb en f d us = some (.error (4, p)) → ∃ f, row nb en f m d us = some (.error (4, p)) := by
    intro k
    induction k with
    | zero =>
      intro m us f p hm h
      exact ⟨f + 1, by rw [row_top _ _ _ _ (by omega)]; exact h⟩
    | succ k ih =>
      intro m us f p hm h
      obtain ⟨f', hf⟩ := ih (m + 1) us f p (by omega) h
      exact ⟨f' + 1, by rw [row_low _ _ _ _ (by omega), hf]⟩
  unfold sk at hu
  rw [if_pos htop] at hu
  obtain ⟨p, v, rfl, hv⟩ := map_cons hu
  obtain ⟨v1, v2, rfl, g1, g2⟩ := map_cut hv
  unfold sd at hs
  rw [if_pos htop] at hs
  have e2 : ⟨[40], p⟩ :: (v1 ++ v2) ++ ts = (⟨[40], p⟩ : Tk) :: (v1 ++ (v2 ++ ts)) := by simp
  rw [e2]
  by_cases h8 : d = 8
  · obtain ⟨f, hf⟩ := up (4 - m) m ((⟨[40], p⟩ : Tk) :: (v1 ++ (v2 ++ ts))) 1 p (by omega) (by rw [one, if_neg (by show ¬ isN [40] = true; decide), if_neg (by show ¬ isU [40] = true; decide), if_pos rfl, if_pos h8])
    exact ⟨f, p, hf⟩
  · obtain ⟨f, p', hf⟩ := C1 (d + 1) v1 (v2 ++ ts) (by omega) (by omega) g1
    obtain ⟨f', hf'⟩ := up (4 - m) m ((⟨[40], p⟩ : Tk) :: (v1 ++ (v2 ++ ts))) (f + 1) p' (by omega) (by rw [one, if_neg (by show ¬ isN [40] = true; decide), if_neg (by show ¬ isU [40] = true; decide), if_pos rfl, if_neg h8, hf])
    exact ⟨f', p', hf'⟩
theorem too_deep (x : Ex) : ∀ (_ : Wf (nb := nb) dec x) (k m d : Nat) (us ts : List Tk), 1 ≤ m → m + k = 4 → d ≤ 8 → 8 < sd x m + d → us.map Tk.t = sk dec x m → ∃ f p, row nb en f m d (us ++ ts) = some (.error (4, p)) := by
  induction x with
  | num a n =>
    intro hw k m d us ts h0 hk h8 hs hu
    exfalso
    unfold sd at hs
    rw [if_neg (by show ¬ 4 < m; omega)] at hs
    have : dp (.num a n) = 0 := by rw [dp]
    omega
  | nam a t =>
    intro hw k m d us ts h0 hk h8 hs hu
    exfalso
    unfold sd at hs
    rw [if_neg (by show ¬ 4 < m; omega)] at hs
    have : dp (.nam a t) = 0 := by rw [dp]
    omega
  | bin a o l r il ir =>
    intro hw
    obtain ⟨hb0, wl', wr⟩ := hw
    have hb3 := bd_le o
    have low : ∀ (j m d : Nat) (us ts : List Tk), 1 ≤ m → m + j = bd o → d ≤ 8 → 8 < dp (.bin a o l r) + d → us.map Tk.t = tk dec (.bin a o l r) → ∃ f p, row nb en f m d (us ++ ts) = some (.error (4, p)) := by
      intro j
      induction j with
      | zero =>
        intro m d us ts h0 hj h8 hd hu
        obtain rfl : m = bd o := by omega
        rw [dp_bin] at hd
        rw [tk_bin] at hu
        obtain ⟨u, v, rfl, hu1, hv⟩ := map_cut hu
        obtain ⟨p, v', rfl, hv1⟩ := map_cons hv
        have e : u ++ (⟨o, p⟩ :: v') ++ ts = u ++ (⟨o, p⟩ : Tk) :: (v' ++ ts) := by simp
        rw [e]
        by_cases hl : 8 < sd l (bd o) + d
        · exact il wl' (4 - bd o) (bd o) d u _ h0 (by omega) h8 hl hu1
        · obtain ⟨l', sl, cl'⟩ := reads l wl' (4 - bd o) (bd o) d u ((⟨o, p⟩ : Tk) :: (v' ++ ts)) h0 (by omega) (by omega) hu1 (by show bd o ≤ bd o; omega)
          obtain ⟨f1, p', hf1⟩ := ir wr (4 - (bd o + 1)) (bd o + 1) d v' ts (by omega) (by omega) h8 (by omega) hv1
          obtain ⟨f, hf⟩ := cl' (f1 + 1) (.error (4, p')) (by rw [lp, if_pos rfl, hf1])
          exact ⟨f, p', hf⟩
      | succ j ih =>
        intro m d us ts h0 hj h8 hd hu
        obtain ⟨f, p, hf⟩ := ih (m + 1) d us ts (by omega) (by omega) h8 hd hu
        exact ⟨f + 1, p, by rw [row_low _ _ _ _ (by omega), hf]⟩
    intro k m d us ts h0 hk h8 hs hu
    by_cases ht : bd o < m
    · exact deep_brack (.bin a o l r) m d us ts (show top (.bin a o l r) < m from ht) (by omega) h0 hs h8 hu (fun d us ts h1 h2 h3 => low (bd o - 1) 1 d us ts (by omega) (by omega) h1 h2 h3)
    · have e1 : sk dec (.bin a o l r) m = tk dec (.bin a o l r) := by unfold sk; rw [if_neg (show ¬ top (.bin a o l r) < m from ht)]
      have e2 : sd (.bin a o l r) m = dp (.bin a o l r) := by unfold sd; rw [if_neg (show ¬ top (.bin a o l r) < m from ht)]
      rw [e1] at hu
      rw [e2] at hs
      exact low (bd o - m) m d us ts h0 (by omega) h8 hs hu
/-- What reading tells. -/
theorem told_all (hdec : ∀ t, isU t = true → (nb t).2 = 0 → isN (dec (nb t).1) = false ∧ isU (dec (nb t).1) = true ∧ nb (dec (nb t).1) = ((nb t).1, 0)) (f : Nat) :
    (∀ m d ts x r, 1 ≤ m → m ≤ 4 → d ≤ 8 → row nb en f m d ts = some (.ok (x, r)) → Wf (nb := nb) dec x ∧ sd x m + d ≤ 8) ∧
    (∀ m d y ts x r, 1 ≤ m → m ≤ 3 → d ≤ 8 → Wf (nb := nb) dec y → sd y m + d ≤ 8 → lp nb en f m d y ts = some (.ok (x, r)) → Wf (nb := nb) dec x ∧ sd x m + d ≤ 8) ∧
    (∀ d ts x r, d ≤ 8 → one nb en f d ts = some (.ok (x, r)) → Wf (nb := nb) dec x ∧ sd x 4 + d ≤ 8) := by
  induction f with
  | zero => exact ⟨fun _ _ _ _ _ _ _ _ h => by simp [row] at h, fun _ _ _ _ _ _ _ _ _ _ _ h => by simp [lp] at h, fun _ _ _ _ _ h => by simp [one] at h⟩
  | succ f ih =>
    obtain ⟨i1, i2, i3⟩ := ih
    refine ⟨?_, ?_, ?_⟩
    · intro m d ts x r h0 h4 h8 h
      by_cases hm : 3 < m
      · obtain rfl : m = 4 := by omega
        rw [row_top _ _ _ _ hm] at h
        exact i3 _ _ _ _ h8 h
      · rw [row_low _ _ _ _ hm] at h
        split at h
        · cases h
        · cases h
        · rename_i y r' hr
          obtain ⟨g1, g2⟩ := i1 _ _ _ _ _ (by omega) (by omega) h8 hr
          have := sd_mono y m (m + 1) (by omega)
          exact i2 _ _ _ _ _ _ h0 (by omega) h8 g1 (by omega) h
    · intro m d y ts x r h0 h3 h8 hy hsy h
      cases ts with
      | nil =>
        simp only [lp, Option.some.injEq, Except.ok.injEq, Prod.mk.injEq] at h
        rw [← h.1]
        exact ⟨hy, hsy⟩
      | cons t ts =>
        rw [lp] at h
        split at h
        · rename_i hb'
          split at h
          · cases h
          · cases h
          · rename_i z r' hr
            obtain ⟨g1, g2⟩ := i1 _ _ _ _ _ (by omega) (by omega) h8 hr
            refine i2 m d (.bin t.a t.t y z) _ _ _ h0 h3 h8 (show 0 < bd t.t ∧ Wf (nb := nb) dec y ∧ Wf (nb := nb) dec z from ⟨by omega, hy, g1⟩) ?_ h
            unfold sd
            rw [if_neg (by show ¬ bd t.t < m; omega), dp_bin, hb']
            omega
        · simp only [Option.some.injEq, Except.ok.injEq, Prod.mk.injEq] at h
          rw [← h.1]
          exact ⟨hy, hsy⟩
    · intro d ts x r h8 h
      cases ts with
      | nil => simp [one] at h
      | cons t ts =>
        rw [one] at h
        split at h
        · rename_i hN
          split at h
          · simp at h
          · simp at h; rw [← h.1]
            exact ⟨⟨hN, by omega⟩, by unfold sd; rw [if_neg (by show ¬ 4 < 4; omega), dp]; omega⟩
        · split at h
          · rename_i hU
            split at h
            · rename_i h0
              simp at h; rw [← h.1]
              exact ⟨hdec _ hU h0, by unfold sd; rw [if_neg (by show ¬ 4 < 4; omega), dp]; omega⟩
            · simp at h
          · split at h
            · split at h
              · simp at h
              · rename_i hd8
                split at h
                · cases h
                · cases h
                · rename_i z r' hr
                  obtain ⟨g1, g2⟩ := i1 _ _ _ _ _ (by omega) (by omega) (by omega) hr
                  split at h
                  · simp at h; rw [← h.1]
                    refine ⟨g1, ?_⟩
                    unfold sd at g2 ⊢
                    split at g2 <;> split <;> omega
                  · simp at h
            · simp at h
inductive F2 (R : Tk → Tk → Prop) : List Tk → List Tk → Prop
  | nil : F2 R [] []
  | cons {t t' : Tk} {l l' : List Tk} : R t t' → F2 R l l' → F2 R (t :: l) (t' :: l')
/-- Names as numbers. -/
theorem put_all (nm : List UInt8) (n : Int) (hn : isN nm = true) (dn : List UInt8) (h1 : isN dn = false) (h2 : isU dn = true) (h3 : nb dn = (n, 0)) (en' : Nat) (hbn : bd nm = 0) (hbd : bd dn = 0) (f : Nat) :
    let S := fun (ts ts' : List Tk) => F2 (fun (t t' : Tk) => t'.t = if t.t = nm then dn else t.t) ts ts'
    (∀ m d ts ts' x r, 1 ≤ m → S ts ts' → row nb en f m d ts = some (.ok (x, r)) → ∃ x' r', row nb en' f m d ts' = some (.ok (x', r')) ∧ Sb nm n x x' ∧ S r r') ∧
    (∀ m d y y' ts ts' x r, 1 ≤ m → Sb nm n y y' → S ts ts' → lp nb en f m d y ts = some (.ok (x, r)) → ∃ x' r', lp nb en' f m d y' ts' = some (.ok (x', r')) ∧ Sb nm n x x' ∧ S r r') ∧
    (∀ d ts ts' x r, S ts ts' → one nb en f d ts = some (.ok (x, r)) → ∃ x' r', one nb en' f d ts' = some (.ok (x', r')) ∧ Sb nm n x x' ∧ S r r') := by
  intro S
  induction f with
  | zero => exact ⟨fun _ _ _ _ _ _ _ _ h => by simp [row] at h, fun _ _ _ _ _ _ _ _ _ _ _ h => by simp [lp] at h, fun _ _ _ _ _ _ h => by simp [one] at h⟩
  | succ f ih =>
    obtain ⟨i1, i2, i3⟩ := ih
    refine ⟨?_, ?_, ?_⟩
    · intro m d ts ts' x r h0 hS h
      by_cases hm : 3 < m
      · rw [row_top _ _ _ _ hm] at h
        rw [row_top _ _ _ _ hm]
        exact i3 _ _ _ _ _ hS h
      · rw [row_low _ _ _ _ hm] at h
        split at h
        · cases h
        · cases h
        · rename_i y r' hr
          obtain ⟨y', s', g1, g2, g3⟩ := i1 _ _ _ _ _ _ (by omega) hS hr
          rw [row_low _ _ _ _ hm, g1]
          exact i2 _ _ _ _ _ _ _ _ h0 g2 g3 h
    · intro m d y y' ts ts' x r h0 hy hS h
      cases hS with
      | nil =>
        simp only [lp, Option.some.injEq, Except.ok.injEq, Prod.mk.injEq] at h
        obtain ⟨rfl, rfl⟩ := h
        exact ⟨y', [], by rw [lp], hy, F2.nil⟩
      | @cons t t' ts ts' ht hS =>
        have hbt : bd t'.t = bd t.t := by
          rw [ht]
          split
          · rename_i e; rw [e, hbn, hbd]
          · rfl
        rw [lp] at h
        rw [lp, hbt]
        split at h
        · rename_i hb'
          rw [if_pos hb']
          split at h
          · cases h
          · cases h
          · rename_i z r' hr
            obtain ⟨z', s', g1, g2, g3⟩ := i1 _ _ _ _ _ _ (by omega) hS hr
            rw [g1]
            have et : t'.t = t.t := by
              rw [ht, if_neg]
              intro e
              rw [e, hbn] at hb'
              omega
            refine i2 _ _ _ _ _ _ _ _ h0 ?_ g3 h
            rw [et]
            exact Sb.bin _ _ _ _ _ _ _ hy g2
        · rename_i hb'
          rw [if_neg hb']
          simp only [Option.some.injEq, Except.ok.injEq, Prod.mk.injEq] at h
          obtain ⟨rfl, rfl⟩ := h
          exact ⟨y', _, rfl, hy, F2.cons ht hS⟩
    · intro d ts ts' x r hS h
      cases hS with
      | nil => simp [one] at h
      | @cons t t' ts ts' ht hS =>
        by_cases e : t.t = nm
        · rw [if_pos e] at ht
          rw [one, if_pos (by rw [e]; exact hn)] at h
          split at h
          · simp at h
          · simp at h
            obtain ⟨rfl, rfl⟩ := h
            refine ⟨.num t'.a n, ts', ?_, ?_, hS⟩
            · rw [one, if_neg (by rw [ht, h1]; decide), if_pos (by rw [ht]; exact h2), ht, h3, if_pos rfl]
            · rw [e]; exact Sb.put _ _
        · rw [if_neg e] at ht
          rw [one] at h
          rw [one, ht]
          split at h
          · rename_i c1
            rw [if_pos c1]
            split at h
            · simp at h
            · rename_i c2
              rw [if_neg c2]
              simp at h
              obtain ⟨rfl, rfl⟩ := h
              exact ⟨_, _, rfl, Sb.nam _ _ _ e, hS⟩
          · rename_i c1
            rw [if_neg c1]
            split at h
            · rename_i c2
              rw [if_pos c2]
              split at h
              · rename_i c3
                rw [if_pos c3]
                simp at h
                obtain ⟨rfl, rfl⟩ := h
                exact ⟨_, _, rfl, Sb.num _ _ _, hS⟩
              · simp at h
            · rename_i c2
              rw [if_neg c2]
              split at h
              · rename_i c3
                rw [if_pos c3]
                split at h
                · simp at h
                · rename_i c4
                  rw [if_neg c4]
                  split at h
                  · cases h
                  · cases h
                  · rename_i z r' hr
                    obtain ⟨z', s', g1, g2, g3⟩ := i1 _ _ _ _ _ _ (by omega) hS hr
                    rw [g1]
                    dsimp only
                    split at h
                    · rename_i c5
                      simp at h
                      obtain ⟨rfl, rfl⟩ := h
                      cases g3 with
                      | nil => exact absurd c5 (by show ¬ ([] : List UInt8) = [41]; decide)
                      | @cons u u' us us' hu hus =>
                        have c6 : u.t = [41] := c5
                        have eu : u'.t = [41] := by
                          rw [hu, c6, if_neg]
                          intro e2
                          rw [← e2] at hn
                          revert hn; decide
                        rw [if_pos (show (hd en' (u' :: us')).t = [41] from eu)]
                        exact ⟨_, _, rfl, g2, hus⟩
                    · simp at h
              · simp at h
end
end Go.Proofs.Ytpanodaecjlgaaa.ex
/- Templates: read with other names, at other places, with more behind them (pure). -/
namespace Go.Proofs.Ytpanodaecjlgaaa.tm
set_option linter.unusedVariables false
open lx ex

/-- What stands for a token. -/
def Gd (ρ : List UInt8 → List UInt8) (t : List UInt8) : Prop :=
  (isN t = false ∨ resv t = true → ρ t = t) ∧ (isN t = true → resv t = false → isN (ρ t) = true ∧ resv (ρ t) = false ∧ (t.length ≤ 12 → (ρ t).length ≤ 12))
abbrev RF (ρ : List UInt8 → List UInt8) := F2 (fun t t' : Tk => t'.t = ρ t.t ∧ Gd ρ t.t)
inductive Rx (ρ : List UInt8 → List UInt8) : Ex → Ex → Prop
  | num (a b : Nat) (k : Int) : Rx ρ (.num a k) (.num b k)
  | nam (a b : Nat) (t : List UInt8) : Rx ρ (.nam a t) (.nam b (ρ t))
  | bin (a b : Nat) (o : List UInt8) (l l' r r' : Ex) : Rx ρ l l' → Rx ρ r r' → Rx ρ (.bin a o l r) (.bin b o l' r')
inductive RO (ρ : List UInt8 → List UInt8) : Option Ex → Option Ex → Prop
  | none : RO ρ none none
  | some {x y : Ex} : Rx ρ x y → RO ρ (some x) (some y)
structure RD (ρ : List UInt8 → List UInt8) (d d' : D) : Prop where
  kd : d'.kd = d.kd
  nm : d'.nm = ρ d.nm
  ty : d'.ty = ρ d.ty
  wd : d'.wd = d.wd
  od : d'.od = d.od
  sg : d'.sg = d.sg
  mn : d'.mn = d.mn
  ct : RO ρ d.ct d'.ct
  ru : d'.ru = d.ru
  f1 : d'.f1 = ρ d.f1
  l1 : d'.l1 = ρ d.l1
inductive RI (ρ : List UInt8 → List UInt8) : Its → Its → Prop
  | nil : RI ρ .nil .nil
  | cons {d d' : D} {s s' t t' : Its} : RD ρ d d' → RI ρ s s' → RI ρ t t' → RI ρ (.cons d s t) (.cons d' s' t')
inductive RT (ρ : List UInt8 → List UInt8) : List Ty → List Ty → Prop
  | nil : RT ρ [] []
  | cons {t t' : Ty} {l l' : List Ty} : t'.nm = ρ t.nm → RI ρ t.l t'.l → RT ρ l l' → RT ρ (t :: l) (t' :: l')
theorem RT.len {ρ : List UInt8 → List UInt8} {l l' : List Ty} (h : RT ρ l l') : l'.length = l.length := by
  induction h with
  | nil => rfl
  | cons _ _ _ ih => simp [ih]
/-- Words that are no names. -/
def Sp (m : List UInt8) : Prop := m ≠ [] ∧ (isN m = false ∨ resv m = true)
theorem bd_name {t : List UInt8} (h : isN t = true) : bd t = 0 := by
  have key : ∀ o : List UInt8, isN o = true → ¬ (o = [61, 61] ∨ o = [33, 61] ∨ o = [60] ∨ o = [62]) ∧ ¬ (o = [43] ∨ o = [45] ∨ o = [124]) ∧ ¬ (o = [42] ∨ o = [38]) := by
    intro o ho
    refine ⟨?_, ?_, ?_⟩ <;> intro hc
    · rcases hc with rfl | rfl | rfl | rfl <;> revert ho <;> decide
    · rcases hc with rfl | rfl | rfl <;> revert ho <;> decide
    · rcases hc with rfl | rfl <;> revert ho <;> decide
  obtain ⟨h1, h2, h3⟩ := key t h
  unfold bd
  rw [if_neg h1, if_neg h2, if_neg h3]
set_option maxRecDepth 100000 in
theorem isU_name {t : List UInt8} (h : isN t = true) : isU t = false := by
  unfold isN at h
  unfold isU
  cases ht : t.head? with
  | none => rfl
  | some c =>
    rw [ht] at h
    dsimp only at h ⊢
    have key : ∀ c : Fin 256, isL (UInt8.ofNat c.1) = true → isD (UInt8.ofNat c.1) = false := by decide
    have := key ⟨c.toNat, c.toNat_lt⟩
    simp only [UInt8.ofNat_toNat] at this
    exact this h
section
variable {ρ : List UInt8 → List UInt8} {nb : List UInt8 → Int × Int} {en en' : Nat}
theorem Gd.cls {t : List UInt8} (h : Gd ρ t) : (isN t = false ∧ ρ t = t) ∨ (isN t = true ∧ isN (ρ t) = true ∧ (t.length ≤ 12 → (ρ t).length ≤ 12)) := by
  cases hn : isN t with
  | false => exact Or.inl ⟨rfl, h.1 (Or.inl hn)⟩
  | true =>
    refine Or.inr ⟨rfl, ?_⟩
    cases hr : resv t with
    | true => rw [h.1 (Or.inr hr)]; exact ⟨hn, fun h => h⟩
    | false => exact ⟨(h.2 hn hr).1, (h.2 hn hr).2.2⟩
theorem Gd.bd {t : List UInt8} (h : Gd ρ t) : bd (ρ t) = bd t := by
  rcases h.cls with ⟨_, h2⟩ | ⟨h1, h2, _⟩
  · rw [h2]
  · rw [bd_name h1, bd_name h2]
theorem Gd.sp {t m : List UInt8} (h : Gd ρ t) (hm : Sp m) : (ρ t = m) ↔ t = m := by
  constructor
  · intro e
    by_cases hc : isN t = false ∨ resv t = true
    · rw [h.1 hc] at e; exact e
    · have h1 : isN t = true := by
        cases hn : isN t with
        | true => rfl
        | false => exact absurd (Or.inl hn) hc
      have h2 : resv t = false := by
        cases hr : resv t with
        | false => rfl
        | true => exact absurd (Or.inr hr) hc
      obtain ⟨g1, g2, _⟩ := h.2 h1 h2
      rw [e] at g1 g2
      rcases hm.2 with k | k
      · rw [k] at g1; cases g1
      · rw [k] at g2; cases g2
  · intro e
    have := h.1 (by rw [e]; exact hm.2)
    rw [this]; exact e
theorem Gd.resv {t : List UInt8} (h : Gd ρ t) : resv (ρ t) = resv t ∧ isN (ρ t) = isN t := by
  by_cases hc : isN t = false ∨ tm.resv t = true
  · rw [h.1 hc]; exact ⟨rfl, rfl⟩
  · have h1 : isN t = true := by
      cases hn : isN t with
      | true => rfl
      | false => exact absurd (Or.inl hn) hc
    have h2 : tm.resv t = false := by
      cases hr : tm.resv t with
      | false => rfl
      | true => exact absurd (Or.inr hr) hc
    obtain ⟨g1, g2, _⟩ := h.2 h1 h2
    exact ⟨by rw [g2, h2], by rw [g1, h1]⟩
/-- Expressions. -/
theorem row_ren (us : List Tk) (f : Nat) :
    (∀ m d ts ts' x r, 1 ≤ m → RF ρ ts ts' → row nb en f m d ts = some (.ok (x, r)) → (r ≠ [] ∨ us = []) → ∃ x' r', row nb en' f m d (ts' ++ us) = some (.ok (x', r' ++ us)) ∧ Rx ρ x x' ∧ RF ρ r r') ∧
    (∀ m d y y' ts ts' x r, 1 ≤ m → Rx ρ y y' → RF ρ ts ts' → lp nb en f m d y ts = some (.ok (x, r)) → (r ≠ [] ∨ us = []) → ∃ x' r', lp nb en' f m d y' (ts' ++ us) = some (.ok (x', r' ++ us)) ∧ Rx ρ x x' ∧ RF ρ r r') ∧
    (∀ d ts ts' x r, RF ρ ts ts' → one nb en f d ts = some (.ok (x, r)) → (r ≠ [] ∨ us = []) → ∃ x' r', one nb en' f d (ts' ++ us) = some (.ok (x', r' ++ us)) ∧ Rx ρ x x' ∧ RF ρ r r') := by
  have hlen := fun f => len_all (nb := nb) (en := en) f
  induction f with
  | zero => exact ⟨fun _ _ _ _ _ _ _ _ h => by simp [row] at h, fun _ _ _ _ _ _ _ _ _ _ _ h => by simp [lp] at h, fun _ _ _ _ _ _ h => by simp [one] at h⟩
  | succ f ih =>
    obtain ⟨i1, i2, i3⟩ := ih
    obtain ⟨l1, l2, l3⟩ := hlen f
    have low : ∀ (r r' : List Tk), r'.length ≤ r.length → (r' ≠ [] ∨ us = []) → (r ≠ [] ∨ us = []) := by
      intro r r' hl h
      rcases h with h | h
      · left; intro e; rw [e] at hl; simp at hl; exact h hl
      · exact Or.inr h
    refine ⟨?_, ?_, ?_⟩
    · intro m d ts ts' x r h0 hS h hr0
      by_cases hm : 3 < m
      · rw [row_top _ _ _ _ hm] at h
        rw [row_top _ _ _ _ hm]
        exact i3 _ _ _ _ _ hS h hr0
      · rw [row_low _ _ _ _ hm] at h
        split at h
        · cases h
        · cases h
        · rename_i y r' hr
          have hle := l2 _ _ _ _ _ _ h
          obtain ⟨y', s', g1, g2, g3⟩ := i1 _ _ _ _ _ _ (by omega) hS hr (low _ _ hle hr0)
          rw [row_low _ _ _ _ hm, g1]
          exact i2 _ _ _ _ _ _ _ _ h0 g2 g3 h hr0
    · intro m d y y' ts ts' x r h0 hy hS h hr0
      cases hS with
      | nil =>
        simp only [lp, Option.some.injEq, Except.ok.injEq, Prod.mk.injEq] at h
        obtain ⟨rfl, rfl⟩ := h
        rcases hr0 with h | h
        · exact absurd rfl h
        · subst h
          exact ⟨y', [], by rw [List.append_nil, lp], hy, F2.nil⟩
      | @cons t t' ts ts' ht hS =>
        obtain ⟨ht, hg⟩ := ht
        have hbt : bd t'.t = bd t.t := by rw [ht]; exact hg.bd
        rw [lp] at h
        rw [List.cons_append, lp, hbt]
        split at h
        · rename_i hb'
          rw [if_pos hb']
          split at h
          · cases h
          · cases h
          · rename_i z r' hr
            have hle := l2 _ _ _ _ _ _ h
            obtain ⟨z', s', g1, g2, g3⟩ := i1 _ _ _ _ _ _ (by omega) hS hr (low _ _ hle hr0)
            rw [g1]
            have et : t'.t = t.t := by
              rw [ht]
              rcases hg.cls with ⟨_, e⟩ | ⟨e, _⟩
              · exact e
              · have := bd_name e; omega
            refine i2 _ _ _ _ _ _ _ _ h0 ?_ g3 h hr0
            rw [et]
            exact Rx.bin _ _ _ _ _ _ _ hy g2
        · rename_i hb'
          rw [if_neg hb']
          simp only [Option.some.injEq, Except.ok.injEq, Prod.mk.injEq] at h
          obtain ⟨rfl, rfl⟩ := h
          exact ⟨y', t' :: ts', rfl, hy, F2.cons ⟨ht, hg⟩ hS⟩
    · intro d ts ts' x r hS h hr0
      cases hS with
      | nil => simp [one] at h
      | @cons t t' ts ts' ht hS =>
        obtain ⟨ht, hg⟩ := ht
        rw [List.cons_append]
        rw [one] at h
        rw [one]
        split at h
        · rename_i c1
          rcases hg.cls with ⟨e, _⟩ | ⟨_, e1, e2⟩
          · rw [e] at c1; cases c1
          · rw [if_pos (by rw [ht]; exact e1)]
            split at h
            · simp at h
            · rename_i c2
              rw [if_neg (by rw [ht]; have := e2 (by omega); omega)]
              simp at h
              obtain ⟨rfl, rfl⟩ := h
              refine ⟨_, ts', rfl, ?_, hS⟩
              rw [ht]
              exact Rx.nam _ _ _
        · rename_i c1
          have e : t'.t = t.t := by
            rw [ht]
            rcases hg.cls with ⟨_, e⟩ | ⟨e, _⟩
            · exact e
            · exact absurd e c1
          rw [e, if_neg c1]
          split at h
          · rename_i c2
            rw [if_pos c2]
            split at h
            · rename_i c3
              rw [if_pos c3]
              simp at h
              obtain ⟨rfl, rfl⟩ := h
              exact ⟨_, ts', rfl, Rx.num _ _ _, hS⟩
            · simp at h
          · rename_i c2
            rw [if_neg c2]
            split at h
            · rename_i c3
              rw [if_pos c3]
              split at h
              · simp at h
              · rename_i c4
                rw [if_neg c4]
                split at h
                · cases h
                · cases h
                · rename_i z r' hr
                  split at h
                  · rename_i c5
                    simp at h
                    obtain ⟨rfl, rfl⟩ := h
                    cases r' with
                    | nil => exact absurd c5 (by show ¬ ([] : List UInt8) = [41]; decide)
                    | cons u us1 =>
                      obtain ⟨z', s', g1, g2, g3⟩ := i1 _ _ _ _ _ _ (by omega) hS hr (Or.inl (by simp))
                      rw [g1]
                      dsimp only
                      cases g3 with
                      | @cons u u' us1 us1' hu hus =>
                        have c6 : u.t = [41] := c5
                        have eu : u'.t = [41] := by
                          rw [hu.1]
                          exact (hu.2.sp ⟨by simp, Or.inl (by decide)⟩).2 c6
                        rw [List.cons_append, if_pos (show (hd en' (u' :: (us1' ++ us))).t = [41] from eu)]
                        exact ⟨_, us1', rfl, g2, hus⟩
                  · simp at h
            · simp at h
theorem rx_is {m : List UInt8} {ts : List Tk} {x : Ex} {r : List Tk} (h : rx nb en m ts = .ok (x, r)) : row nb en (10 * ts.length + 10) 1 0 ts = some (.ok (x, r)) ∧ (hd en r).t = m := by
  unfold rx at h
  split at h
  · rename_i x' r' hr
    split at h
    · rename_i hm
      injection h with h
      injection h with h1 h2
      subst h1 h2
      exact ⟨hr, hm⟩
    · cases h
  · cases h
  · cases h
theorem rx_of {m : List UInt8} {ts : List Tk} {x : Ex} {r : List Tk} {f : Nat} (h : row nb en f 1 0 ts = some (.ok (x, r))) (hm : (hd en r).t = m) : rx nb en m ts = .ok (x, r) := by
  unfold rx
  cases hh : row nb en (10 * ts.length + 10) 1 0 ts with
  | none => exact absurd hh ((some_all _).1 1 0 ts (by omega) (by omega))
  | some q =>
    have := row_one hh h
    subst this
    dsimp only
    rw [if_pos hm]
/-- A word that must stand there. -/
theorem hd_sp {m : List UInt8} (hm : Sp m) {ts ts' us : List Tk} (hS : RF ρ ts ts') (h : (hd en ts).t = m) : ∃ t t' r r', ts = t :: r ∧ ts' = t' :: r' ∧ t'.t = m ∧ RF ρ r r' ∧ (hd en' (ts' ++ us)).t = m ∧ (ts' ++ us).tail = r' ++ us := by
  cases hS with
  | nil => exact absurd h.symm (by intro e; exact hm.1 (by rw [e]; rfl))
  | @cons t t' r r' ht hS =>
    have e : t'.t = m := by rw [ht.1]; exact (ht.2.sp hm).2 h
    exact ⟨t, t', r, r', rfl, rfl, e, hS, e, rfl⟩
theorem hd_not {m : List UInt8} (hm : Sp m) {ts ts' us : List Tk} (hS : RF ρ ts ts') (h0 : ts ≠ []) (h : ¬ (hd en ts).t = m) : ¬ (hd en' (ts' ++ us)).t = m := by
  cases hS with
  | nil => exact absurd rfl h0
  | @cons t t' r r' ht hS =>
    intro e
    have e' : t'.t = m := e
    rw [ht.1] at e'
    exact h ((ht.2.sp hm).1 e')
theorem rx_ren {m : List UInt8} (hm : Sp m) (us : List Tk) {ts ts' r : List Tk} {x : Ex} (hS : RF ρ ts ts') (h : rx nb en m ts = .ok (x, r)) : ∃ x' r', rx nb en' m (ts' ++ us) = .ok (x', r' ++ us) ∧ Rx ρ x x' ∧ RF ρ r r' := by
  obtain ⟨h1, h2⟩ := rx_is h
  have hr : r ≠ [] := by intro e; rw [e] at h2; exact hm.1 h2.symm
  obtain ⟨x', r', g1, g2, g3⟩ := (row_ren (en' := en') us _).1 _ _ _ _ _ _ (by omega) hS h1 (Or.inl hr)
  obtain ⟨_, _, _, _, _, _, _, _, e, _⟩ := hd_sp (en' := en') (us := us) hm g3 h2
  exact ⟨x', r', rx_of g1 e, g2, g3⟩
theorem want_ren {m : List UInt8} (hm : Sp m) (us : List Tk) {ts ts' r : List Tk} (hS : RF ρ ts ts') (h : want en m ts = .ok r) : ∃ r', want en' m (ts' ++ us) = .ok (r' ++ us) ∧ RF ρ r r' := by
  unfold want at h
  split at h
  · rename_i h1
    injection h with h
    obtain ⟨t, t', r0, r', e1, e2, e3, e4, e5, e6⟩ := hd_sp (en' := en') (us := us) hm hS h1
    subst e1
    have : r = r0 := h.symm
    subst this
    exact ⟨r', by unfold want; rw [if_pos e5, e6], e4⟩
  · cases h
theorem name_ren (us : List Tk) {ts ts' r : List Tk} {t : List UInt8} (hS : RF ρ ts ts') (h : name en ts = .ok (t, r)) : ∃ r', name en' (ts' ++ us) = .ok (ρ t, r' ++ us) ∧ RF ρ r r' := by
  unfold name at h
  split at h
  · cases h
  · rename_i h1
    split at h
    · cases h
    · rename_i h2
      injection h with h
      injection h with h3 h4
      cases hS with
      | nil => exact absurd (Or.inr (by show isN [] = false; decide)) h1
      | @cons u u' r0 r0' hu hS =>
        have e1 : (hd en (u :: r0)).t = u.t := rfl
        rw [e1] at h1 h2 h3
        subst h3
        have : r = r0 := h4.symm
        subst this
        have n1 : isN u.t = true := by
          cases hn : isN u.t with
          | true => rfl
          | false => exact absurd (Or.inr hn) h1
        have n2 : resv u.t = false := by
          cases hr : resv u.t with
          | false => rfl
          | true => exact absurd (Or.inl hr) h1
        obtain ⟨k1, k2, k3⟩ := hu.2.2 n1 n2
        refine ⟨r0', ?_, hS⟩
        unfold name
        rw [show (hd en' ((u' :: r0') ++ us)).t = ρ u.t from hu.1, if_neg (by rw [k1, k2]; simp), if_neg (by have := k3 (by omega); omega)]
        rfl
  done
theorem many_ren (us : List Tk) {ts ts' r : List Tk} {x : Ex} (hS : RF ρ ts ts') (h : many nb en ts = .ok (x, r)) : ∃ x' r', many nb en' (ts' ++ us) = .ok (x', r' ++ us) ∧ Rx ρ x x' ∧ RF ρ r r' := by
  unfold many at h
  split at h
  · cases h
  · rename_i r1 h1
    split at h
    · cases h
    · rename_i x1 r2 h2
      injection h with h
      injection h with h3 h4
      subst h3 h4
      obtain ⟨r1', k1, k2⟩ := want_ren (en' := en') ⟨by simp, Or.inl (by decide)⟩ us hS h1
      have s93 : Sp [93] := ⟨by simp, Or.inl (by decide)⟩
      obtain ⟨x', r2', k3, k4, k5⟩ := rx_ren (en' := en') s93 us k2 h2
      obtain ⟨t, t', r0, r0', e1, e2, e3, e4, e5, e6⟩ := hd_sp (en' := en') (us := us) s93 k5 (rx_is h2).2
      refine ⟨x', r0', ?_, k4, by rw [e1]; exact e4⟩
      unfold many
      rw [k1]
      dsimp only
      rw [k3]
      dsimp only
      rw [e6]
theorem ruleOf_w {t : List UInt8} (h : ruleOf t ≠ 0) : resv t = true := by
  unfold ruleOf at h
  split at h
  · rename_i e; rw [e]; decide
  · split at h
    · rename_i e; rw [e]; decide
    · split at h
      · rename_i e; rw [e]; decide
      · exact absurd rfl h
theorem rule_ren (h0 : ρ [] = []) (us : List Tk) {ts ts' r : List Tk} {d d' e : D} (hd' : RD ρ d d') (hS : RF ρ ts ts') (h : rule en d ts = .ok (e, r)) : ∃ e' r', rule en' d' (ts' ++ us) = .ok (e', r' ++ us) ∧ RD ρ e e' ∧ RF ρ r r' := by
  unfold rule at h
  split at h
  · cases h
  · rename_i h1
    have hsp : Sp (hd en ts).t := by
      have := ruleOf_w h1
      refine ⟨?_, Or.inr this⟩
      intro e0; rw [e0] at this; revert this; decide
    obtain ⟨t, t', r0, r0', e1, e2, e3, e4, e5, e6⟩ := hd_sp (en' := en') (us := us) hsp hS rfl
    have et : ts.tail = r0 := by rw [e1]; rfl
    rw [et] at h
    unfold rule
    rw [e5, if_neg h1, e6]
    split at h
    · cases h
    · rename_i a r1 h2
      obtain ⟨r1', k1, k2⟩ := name_ren (en' := en') us e4 h2
      rw [k1]
      dsimp only
      split at h
      · rename_i h3
        rw [if_pos h3]
        split at h
        · rename_i h4
          obtain ⟨_, _, _, _, _, _, _, _, q, _⟩ := hd_sp (en' := en') (us := us) ⟨by simp, Or.inl (by decide)⟩ k2 h4
          rw [if_pos q]
          injection h with h
          injection h with h5 h6
          subst h5 h6
          exact ⟨_, r1', rfl, ⟨hd'.kd, hd'.nm, hd'.ty, hd'.wd, hd'.od, hd'.sg, hd'.mn, hd'.ct, rfl, rfl, rfl⟩, k2⟩
        · rename_i h4
          split at h
          · cases h
          · rename_i b r2 h5
            have hr1 : r1 ≠ [] := by
              intro e0
              rw [e0] at h5
              have : name en ([] : List Tk) = .error (3, en) := rfl
              rw [this] at h5
              cases h5
            rw [if_neg (hd_not (en := en) ⟨by simp, Or.inl (by decide)⟩ k2 hr1 h4)]
            obtain ⟨r2', k3, k4⟩ := name_ren (en' := en') us k2 h5
            rw [k3]
            injection h with h
            injection h with h6 h7
            subst h6 h7
            exact ⟨_, r2', rfl, ⟨hd'.kd, hd'.nm, hd'.ty, hd'.wd, hd'.od, hd'.sg, hd'.mn, hd'.ct, rfl, rfl, rfl⟩, k4⟩
      · rename_i h3
        rw [if_neg h3]
        injection h with h
        injection h with h5 h6
        subst h5 h6
        exact ⟨_, r1', rfl, ⟨hd'.kd, hd'.nm, hd'.ty, hd'.wd, hd'.od, hd'.sg, hd'.mn, hd'.ct, rfl, rfl, hd'.l1⟩, k2⟩
theorem RD0 (h0 : ρ [] = []) : RD ρ D0 D0 := ⟨rfl, h0.symm, h0.symm, rfl, rfl, rfl, rfl, RO.none, rfl, h0.symm, h0.symm⟩
theorem numOf_resv {t : List UInt8} (h : numOf t ≠ none) : resv t = true := by
  unfold resv
  have : (numOf t).isSome = true := by
    cases hn : numOf t with
    | none => exact absurd hn h
    | some _ => rfl
  rw [this, Bool.or_true]
theorem Gd.num {t : List UInt8} (h : Gd ρ t) : numOf (ρ t) = numOf t := by
  by_cases hr : tm.resv t = true
  · rw [h.1 (Or.inr hr)]
  · have h1 : numOf t = none := by
      cases hn : numOf t with
      | none => rfl
      | some _ => exact absurd (numOf_resv (by rw [hn]; simp)) hr
    have h2 : tm.resv (ρ t) = false := by rw [h.resv.1]; simpa using hr
    rw [h1]
    cases hn : numOf (ρ t) with
    | none => rfl
    | some _ => have := numOf_resv (t := ρ t) (by rw [hn]; simp); rw [h2] at this; cases this
theorem kind_ren (h0 : ρ [] = []) (us : List Tk) {ts ts' r : List Tk} {e : D} (hS : RF ρ ts ts') (h : kind en ts = .ok (e, r)) : ∃ e' r', kind en' (ts' ++ us) = .ok (e', r' ++ us) ∧ RD ρ e e' ∧ RF ρ r r' := by
  unfold kind at h
  have hz := RD0 h0
  cases hS with
  | nil =>
    exfalso
    rw [show numOf (hd en ([] : List Tk)).t = none from (show numOf [] = none by decide)] at h
    dsimp only at h
    rw [show name en ([] : List Tk) = .error (3, en) from rfl] at h
    cases h
  | @cons t t' ts ts' ht hS =>
    rw [show (hd en (t :: ts)).t = t.t from rfl] at h
    unfold kind
    rw [show (hd en' ((t' :: ts') ++ us)).t = t'.t from rfl, ht.1, ht.2.num]
    split at h
    · rename_i w o s hn
      injection h with h
      injection h with h5 h6
      subst h5
      have : r = ts := h6.symm
      subst this
      exact ⟨_, ts', rfl, ⟨rfl, hz.nm, hz.ty, rfl, rfl, rfl, rfl, RO.none, rfl, hz.f1, hz.l1⟩, hS⟩
    · rename_i hn
      split at h
      · cases h
      · rename_i u r1 h2
        obtain ⟨r1', k1, k2⟩ := name_ren (en' := en') us (F2.cons ht hS) h2
        rw [k1]
        injection h with h
        injection h with h5 h6
        subst h5 h6
        exact ⟨_, r1', rfl, ⟨rfl, hz.nm, rfl, rfl, rfl, rfl, rfl, RO.none, rfl, hz.f1, hz.l1⟩, k2⟩
theorem part_ren (h0 : ρ [] = []) (us : List Tk) {ts ts' r : List Tk} {e : D} (hS : RF ρ ts ts') (h : part nb en ts = .ok (e, r)) : ∃ e' r', part nb en' (ts' ++ us) = .ok (e', r' ++ us) ∧ RD ρ e e' ∧ RF ρ r r' := by
  unfold part at h
  split at h
  · cases h
  · rename_i d1 r1 h1
    obtain ⟨d1', r1', k1, g1, s1⟩ := kind_ren (en' := en') h0 us hS h1
    unfold part
    rw [k1]
    dsimp only
    split at h
    · cases h
    · rename_i t r2 h2
      obtain ⟨r2', k2, s2⟩ := name_ren (en' := en') us s1 h2
      rw [k2]
      dsimp only
      split at h
      · cases h
      · rename_i d3 r3 h3
        split at h
        · cases h
        · rename_i r4 h4
          injection h with h
          injection h with h5 h6
          subst h5 h6
          have g2 : RD ρ { d1 with nm := t } { d1' with nm := ρ t } := ⟨g1.kd, rfl, g1.ty, g1.wd, g1.od, g1.sg, g1.mn, g1.ct, g1.ru, g1.f1, g1.l1⟩
          have hr2 : r2 ≠ [] := by
            intro e0
            subst e0
            have : mark nb en { d1 with nm := t } [] = .ok ({ d1 with nm := t }, []) := by
              unfold mark
              rw [if_neg (show ¬ (hd en ([] : List Tk)).t = [91] by show ¬ ([] : List UInt8) = [91]; decide), if_neg (show ¬ ((hd en ([] : List Tk)).t = [61] ∧ _) from fun h => absurd h.1 (by show ¬ ([] : List UInt8) = [61]; decide))]
            rw [this] at h3
            injection h3 with h3
            injection h3 with _ h3
            subst h3
            cases h4
          have hm : ∃ d3' r3', mark nb en' { d1' with nm := ρ t } (r2' ++ us) = .ok (d3', r3' ++ us) ∧ RD ρ d3 d3' ∧ RF ρ r3 r3' := by
            unfold mark at h3 ⊢
            by_cases c1 : (hd en r2).t = [91]
            · rw [if_pos c1] at h3
              obtain ⟨_, _, _, _, _, _, _, _, q, _⟩ := hd_sp (en' := en') (us := us) ⟨by simp, Or.inl (by decide)⟩ s2 c1
              rw [if_pos q]
              split at h3
              · cases h3
              · rename_i x r5 h5
                injection h3 with h3
                injection h3 with h6 h7
                subst h6 h7
                obtain ⟨x', r5', k5, g5, s5⟩ := many_ren (en' := en') us s2 h5
                rw [k5]
                exact ⟨_, r5', rfl, ⟨g2.kd, g2.nm, g2.ty, g2.wd, g2.od, g2.sg, rfl, RO.some g5, g2.ru, g2.f1, g2.l1⟩, s5⟩
            · rw [if_neg c1] at h3
              rw [if_neg (hd_not (en := en) ⟨by simp, Or.inl (by decide)⟩ s2 hr2 c1)]
              by_cases c2 : (hd en r2).t = [61] ∧ d1.kd = 1
              · rw [if_pos c2] at h3
                obtain ⟨u, u', q0, q0', e1, e2, e3, e4, e5, e6⟩ := hd_sp (en' := en') (us := us) ⟨by simp, Or.inl (by decide)⟩ s2 c2.1
                rw [if_pos ⟨e5, by show d1'.kd = 1; rw [g1.kd]; exact c2.2⟩, e6]
                rw [show r2.tail = q0 by rw [e1]; rfl] at h3
                exact rule_ren h0 us g2 e4 h3
              · rw [if_neg c2] at h3
                injection h3 with h3
                injection h3 with h6 h7
                subst h6 h7
                refine ⟨{ d1' with nm := ρ t }, r2', ?_, g2, s2⟩
                by_cases c3 : (hd en r2).t = [61]
                · rw [if_neg (fun hc => c2 ⟨c3, by rw [← g1.kd]; exact hc.2⟩)]
                · rw [if_neg (fun hc => hd_not (en := en) ⟨by simp, Or.inl (by decide)⟩ s2 hr2 c3 hc.1)]
          obtain ⟨d3', r3', k3, g3, s3⟩ := hm
          rw [k3]
          dsimp only
          obtain ⟨r4', k4, s4⟩ := want_ren (en' := en') ⟨by simp, Or.inl (by decide)⟩ us s3 h4
          rw [k4]
          exact ⟨_, r4', rfl, g3, s4⟩
theorem byts_ren (h0 : ρ [] = []) (us : List Tk) {ts ts' r : List Tk} {e : D} (hS : RF ρ ts ts') (h : byts nb en ts = .ok (e, r)) : ∃ e' r', byts nb en' (ts' ++ us) = .ok (e', r' ++ us) ∧ RD ρ e e' ∧ RF ρ r r' := by
  have hz := RD0 h0
  unfold byts at h
  split at h
  · cases h
  · rename_i t r1 h1
    obtain ⟨r1', k1, s1⟩ := name_ren (en' := en') us hS h1
    unfold byts
    rw [k1]
    dsimp only
    split at h
    · cases h
    · rename_i x r2 h2
      obtain ⟨x', r2', k2, g2, s2⟩ := many_ren (en' := en') us s1 h2
      rw [k2]
      dsimp only
      split at h
      · cases h
      · rename_i r3 h3
        obtain ⟨r3', k3, s3⟩ := want_ren (en' := en') ⟨by simp, Or.inl (by decide)⟩ us s2 h3
        rw [k3]
        injection h with h
        injection h with h6 h7
        subst h6 h7
        exact ⟨_, r3', rfl, ⟨rfl, rfl, hz.ty, rfl, rfl, rfl, rfl, RO.some g2, rfl, hz.f1, hz.l1⟩, s3⟩
/-- What stands within. -/
def InR (ρ : List UInt8 → List UInt8) (us : List Tk) (en en' : Nat) (i1 i2 : List Tk → Rs Its) : Prop := ∀ ts ts' l r, RF ρ ts ts' → i1 ts = .ok (l, r) → ∃ l' r', i2 (ts' ++ us) = .ok (l', r' ++ us) ∧ RI ρ l l' ∧ RF ρ r r'
theorem RD.at {d d' : D} (h : RD ρ d d') (a b : Nat) : RD ρ { d with at_ := a } { d' with at_ := b } := ⟨h.kd, h.nm, h.ty, h.wd, h.od, h.sg, h.mn, h.ct, h.ru, h.f1, h.l1⟩
theorem part_ne {ts r : List Tk} {e : D} (h : part nb en ts = .ok (e, r)) : ts ≠ [] := by
  intro e0
  subst e0
  have : part nb en ([] : List Tk) = .error (3, en) := by
    unfold part kind
    rw [show numOf (hd en ([] : List Tk)).t = none from (show numOf [] = none by decide)]
    dsimp only
    rw [show name en ([] : List Tk) = .error (3, en) from rfl]
  rw [this] at h
  cases h
theorem item_ren (h0 : ρ [] = []) (us : List Tk) {i1 i2 : List Tk → Rs Its} (hi : InR ρ us en en' i1 i2) {ts ts' r : List Tk} {e : D × Its} (hS : RF ρ ts ts') (h : item nb en i1 ts = .ok (e, r)) : ∃ e' r', item nb en' i2 (ts' ++ us) = .ok (e', r' ++ us) ∧ RD ρ e.1 e'.1 ∧ RI ρ e.2 e'.2 ∧ RF ρ r r' := by
  have hz := RD0 h0
  have s1 : Sp wWhen := ⟨by decide, Or.inr (by decide)⟩
  have s2 : Sp wBytes := ⟨by decide, Or.inr (by decide)⟩
  unfold item at h
  by_cases c1 : (hd en ts).t = wWhen
  · rw [if_pos c1] at h
    obtain ⟨t, t', q, q', e1, e2, e3, e4, e5, e6⟩ := hd_sp (en' := en') (us := us) s1 hS c1
    rw [show ts.tail = q by rw [e1]; rfl] at h
    unfold item
    rw [if_pos e5, e6]
    split at h
    · cases h
    · rename_i x r1 h1
      obtain ⟨x', r1', k1, g1, f1⟩ := rx_ren (en' := en') ⟨by simp, Or.inl (by decide)⟩ us e4 h1
      rw [k1]
      dsimp only
      split at h
      · cases h
      · rename_i l r2 h2
        obtain ⟨l', r2', k2, g2, f2⟩ := hi _ _ _ _ f1 h2
        rw [k2]
        injection h with h
        injection h with h6 h7
        subst h6 h7
        exact ⟨_, r2', rfl, ⟨rfl, hz.nm, hz.ty, rfl, rfl, rfl, rfl, RO.some g1, rfl, hz.f1, hz.l1⟩, g2, f2⟩
  · rw [if_neg c1] at h
    by_cases c2 : (hd en ts).t = wBytes
    · rw [if_pos c2] at h
      obtain ⟨t, t', q, q', e1, e2, e3, e4, e5, e6⟩ := hd_sp (en' := en') (us := us) s2 hS c2
      rw [show ts.tail = q by rw [e1]; rfl] at h
      unfold item
      rw [if_neg (by rw [e5]; decide), if_pos e5, e6]
      split at h
      · cases h
      · rename_i d r1 h1
        obtain ⟨d', r1', k1, g1, f1⟩ := byts_ren (en' := en') h0 us e4 h1
        rw [k1]
        injection h with h
        injection h with h6 h7
        subst h6 h7
        exact ⟨_, r1', rfl, g1.at _ _, RI.nil, f1⟩
    · rw [if_neg c2] at h
      split at h
      · cases h
      · rename_i d r1 h1
        have hne := part_ne h1
        obtain ⟨d', r1', k1, g1, f1⟩ := part_ren (en' := en') h0 us hS h1
        unfold item
        rw [if_neg (hd_not (en := en) s1 hS hne c1), if_neg (hd_not (en := en) s2 hS hne c2), k1]
        injection h with h
        injection h with h6 h7
        subst h6 h7
        exact ⟨_, r1', rfl, g1.at _ _, RI.nil, f1⟩
theorem loop_ren (h0 : ρ [] = []) (us : List Tk) {i1 i2 : List Tk → Rs Its} (hi : InR ρ us en en' i1 i2) (n : Nat) : InR ρ us en en' (loop nb en i1 n) (loop nb en' i2 n) := by
  have s1 : Sp [125] := ⟨by simp, Or.inl (by decide)⟩
  induction n with
  | zero =>
    intro ts ts' l r hS h
    rw [loop] at h
    split at h
    · rename_i c
      obtain ⟨t, t', q, q', e1, e2, e3, e4, e5, e6⟩ := hd_sp (en' := en') (us := us) s1 hS c
      injection h with h
      injection h with h6 h7
      subst h6
      rw [e1] at h7
      have : r = q := h7.symm
      subst this
      exact ⟨.nil, q', by rw [loop, if_pos e5, e6], RI.nil, e4⟩
    · cases h
  | succ n ih =>
    intro ts ts' l r hS h
    rw [loop] at h
    split at h
    · rename_i c
      obtain ⟨t, t', q, q', e1, e2, e3, e4, e5, e6⟩ := hd_sp (en' := en') (us := us) s1 hS c
      injection h with h
      injection h with h6 h7
      subst h6
      rw [e1] at h7
      have : r = q := h7.symm
      subst this
      exact ⟨.nil, q', by rw [loop, if_pos e5, e6], RI.nil, e4⟩
    · rename_i c
      split at h
      · cases h
      · rename_i d s r1 h1
        split at h
        · cases h
        · rename_i l1 r2 h2
          injection h with h
          injection h with h6 h7
          subst h6 h7
          have hne : ts ≠ [] := by
            intro e0
            subst e0
            unfold item at h1
            rw [if_neg (show ¬ (hd en ([] : List Tk)).t = wWhen by show ¬ ([] : List UInt8) = wWhen; decide), if_neg (show ¬ (hd en ([] : List Tk)).t = wBytes by show ¬ ([] : List UInt8) = wBytes; decide)] at h1
            split at h1
            · cases h1
            · rename_i hp; exact part_ne hp rfl
          obtain ⟨⟨d', s'⟩, r1', k1, g1, g2, f1⟩ := item_ren (en' := en') h0 us hi hS h1
          obtain ⟨l1', r2', k2, g3, f2⟩ := ih _ _ _ _ f1 h2
          refine ⟨.cons d' s' l1', r2', ?_, RI.cons g1 g2 g3, f2⟩
          rw [loop, if_neg (hd_not (en := en) s1 hS hne c), k1]
          dsimp only
          rw [k2]
theorem blk_ren (h0 : ρ [] = []) (us : List Tk) (k : Nat) : InR ρ us en en' (blk nb en k) (blk nb en' k) := by
  have s1 : Sp [123] := ⟨by simp, Or.inl (by decide)⟩
  induction k with
  | zero =>
    intro ts ts' l r hS h
    rw [blk] at h
    split at h <;> cases h
  | succ k ih =>
    intro ts ts' l r hS h
    rw [blk] at h
    split at h
    · rename_i c
      obtain ⟨t, t', q, q', e1, e2, e3, e4, e5, e6⟩ := hd_sp (en' := en') (us := us) s1 hS c
      rw [show ts.tail = q by rw [e1]; rfl] at h
      obtain ⟨l', r', k1, k2, k3⟩ := loop_ren (en' := en') h0 us ih 16 _ _ _ _ e4 h
      exact ⟨l', r', by rw [blk, if_pos e5, e6]; exact k1, k2, k3⟩
    · cases h
/-- Structs, and others behind them. -/
theorem typs_ren (h0 : ρ [] = []) (us : List Tk) (k : Nat) (y : List Ty) (hy : typs nb en' k us = .ok y) (n : Nat) : ∀ (ts ts' : List Tk) (x : List Ty), RF ρ ts ts' → typs nb en n ts = .ok x → ∃ x', typs nb en' (x.length + k) (ts' ++ us) = .ok (x' ++ y) ∧ RT ρ x x' := by
  have s1 : Sp wStruct := ⟨by decide, Or.inr (by decide)⟩
  induction n with
  | zero =>
    intro ts ts' x hS h
    cases hS with
    | nil =>
      have : x = [] := by cases h; rfl
      subst this
      exact ⟨[], by simpa using hy, RT.nil⟩
    | cons ht hS =>
      rw [typs] at h
      split at h <;> cases h
  | succ n ih =>
    intro ts ts' x hS h
    cases hS with
    | nil =>
      have : x = [] := by cases h; rfl
      subst this
      exact ⟨[], by simpa using hy, RT.nil⟩
    | @cons t t' ts ts' ht hS =>
      rw [typs] at h
      split at h
      · rename_i c
        split at h
        · cases h
        · rename_i m r1 h1
          split at h
          · cases h
          · rename_i l r2 h2
            split at h
            · cases h
            · rename_i q h3
              injection h with h
              subst h
              obtain ⟨r1', k1, f1⟩ := name_ren (en' := en') us hS h1
              obtain ⟨l', r2', k2, g2, f2⟩ := blk_ren (en' := en') h0 us 8 _ _ _ _ f1 h2
              obtain ⟨q', k3, g3⟩ := ih _ _ _ f2 h3
              have e1 : t'.t = wStruct := by rw [ht.1]; exact (ht.2.sp s1).2 c
              refine ⟨⟨ρ m, (hd en' (ts' ++ us)).a, l'⟩ :: q', ?_, RT.cons rfl g2 g3⟩
              rw [List.length_cons, show q.length + 1 + k = q.length + k + 1 by omega, List.cons_append, typs, if_pos e1, k1]
              dsimp only
              rw [k2]
              dsimp only
              rw [k3]
              rfl
      · cases h
theorem typs_more {k n : Nat} (hk : k ≤ n) : ∀ {ts : List Tk} {x : List Ty}, typs nb en k ts = .ok x → typs nb en n ts = .ok x := by
  induction k generalizing n with
  | zero =>
    intro ts x h
    cases ts with
    | nil => cases n <;> exact h
    | cons t ts => rw [typs] at h; split at h <;> cases h
  | succ k ih =>
    intro ts x h
    cases ts with
    | nil => cases n <;> exact h
    | cons t ts =>
      cases n with
      | zero => omega
      | succ n =>
        rw [typs] at h ⊢
        split at h
        · rename_i c
          rw [if_pos c]
          split at h
          · cases h
          · rename_i m r1 h1
            split at h
            · cases h
            · rename_i l r2 h2
              split at h
              · cases h
              · rename_i q h3
                rw [ih (by omega) h3]
                exact h
        · cases h
theorem typs_just (n : Nat) : ∀ {ts : List Tk} {x : List Ty}, typs nb en n ts = .ok x → x.length ≤ n ∧ typs nb en x.length ts = .ok x := by
  induction n with
  | zero =>
    intro ts x h
    cases ts with
    | nil => cases h; exact ⟨Nat.le_refl _, rfl⟩
    | cons t ts => rw [typs] at h; split at h <;> cases h
  | succ n ih =>
    intro ts x h
    cases ts with
    | nil => cases h; exact ⟨Nat.zero_le _, rfl⟩
    | cons t ts =>
      rw [typs] at h
      split at h
      · rename_i c
        split at h
        · cases h
        · rename_i m r1 h1
          split at h
          · cases h
          · rename_i l r2 h2
            split at h
            · cases h
            · rename_i q h3
              injection h with h
              subst h
              obtain ⟨g1, g2⟩ := ih h3
              refine ⟨by simp; omega, ?_⟩
              rw [List.length_cons, typs, if_pos c, h1]
              dsimp only
              rw [h2]
              dsimp only
              rw [g2]
      · cases h
end
end Go.Proofs.Ytpanodaecjlgaaa.tm
/- Templates: what is wrong with them; in which order rules are done (pure). -/
namespace Go.Proofs.Ytpanodaecjlgaaa.tm
set_option linter.unusedVariables false
open lx ex

/-- Where a name stands that isn't seen. -/
def mis (seen : List (List UInt8)) : Ex → Option Nat
  | .num _ _ => none
  | .nam a t => if t ∈ seen then none else some a
  | .bin _ _ l r => match mis seen l with
    | some p => some p
    | none => mis seen r
def misO (seen : List (List UInt8)) : Option Ex → Option Nat
  | none => none
  | some x => mis seen x
def Its.ds : Its → List D
  | .nil => []
  | .cons d _ t => d :: t.ds
theorem Its.ds_len (l : Its) : l.ds.length = l.len := by
  induction l with
  | nil => rfl
  | cons d s t _ ih => show t.ds.length + 1 = t.len + 1; rw [ih]
/-- The item that is called so. -/
def nmd (ds : List D) (t : List UInt8) : Option Nat := ds.findIdx? (fun d => d.nm == t)
/-- The first and the last one on which a rule hangs. -/
def ends (ds : List D) (d : D) : Option Nat × Option Nat := (nmd ds d.f1, if d.ru = 3 then nmd ds d.l1 else nmd ds d.f1)
/-- A rule that is wrong. -/
def ruleW (ds : List D) (i : Nat) (d : D) : Option (Int × Nat) :=
  if d.ru = 0 then none
  else match ends ds d with
    | (some a, some b) =>
      if d.ru = 2 ∧ (ds[a]?.map (·.mn)) ≠ some true then some (13, d.at_)
      else if d.ru = 3 ∧ (d.wd ≠ 4 ∨ d.sg = true) then some (13, d.at_)
      else if b < a then some (10, d.at_)
      else if a ≤ i ∧ i ≤ b then some (6, d.at_)
      else none
    | _ => some (7, d.at_)
def isC (ds : List D) (k : Nat) : Bool := ds[k]?.map (·.ru) == some 3
/-- From one number to another one. -/
def upTo (a b : Nat) : List Nat := (List.range (b + 1)).drop a
/-- The Checks over which a Check's sum is taken. -/
def under (ds : List D) (i : Nat) : List Nat :=
  match ds[i]? with
  | none => []
  | some d => match ends ds d with
    | (some a, some b) => (upTo a b).filter (isC ds)
    | _ => []
/-- Whether one comes to one of them. -/
def bfs (ds : List D) (to : Nat) : Nat → List Nat → List Nat → Option Bool
  | 0, _, _ => none
  | _ + 1, _, [] => some false
  | f + 1, met, j :: r => if j = to then some true else if j ∈ met then bfs ds to f met r else bfs ds to f (j :: met) (r ++ under ds j)
def rnd (ds : List D) (i : Nat) : Bool := (bfs ds i ((ds.length + 1) * (ds.length + 1) + ds.length + 2) [] (under ds i)) == some true
/-- The first wrong one. -/
def firstW (g : Nat → D → Option (Int × Nat)) : Nat → List D → Option (Int × Nat)
  | _, [] => none
  | i, d :: r => match g i d with
    | some e => some e
    | none => firstW g (i + 1) r
def cycW (ds : List D) (i : Nat) (d : D) : Option (Int × Nat) := if d.ru = 3 ∧ rnd ds i = true then some (11, d.at_) else none
def rulesW (ds : List D) : Option (Int × Nat) :=
  match firstW (ruleW ds) 0 ds with
  | some e => some e
  | none => firstW (cycW ds) 0 ds
/-- A part that has a name. -/
def itemW (earl names seen : List (List UInt8)) (d : D) : Option (Int × Nat) :=
  if d.nm ∈ names then some (9, d.at_)
  else if d.kd = 3 ∧ d.ty ∉ earl then some (7, d.at_)
  else (misO seen d.ct).map fun p => (5, p)
/-- Parts, one behind the other: what is called so, behind them. -/
def chkI (earl : List (List UInt8)) : Its → List (List UInt8) → List (List UInt8) → Except (Int × Nat) (List (List UInt8))
  | .nil, names, _ => .ok names
  | .cons d s t, names, seen =>
    if d.kd = 4 then
      match misO seen d.ct with
      | some p => .error (5, p)
      | none => match chkI earl s names seen with
        | .error e => .error e
        | .ok names' => match rulesW s.ds with
          | some e => .error e
          | none => chkI earl t names' seen
    else match itemW earl names seen d with
      | some e => .error e
      | none => chkI earl t (d.nm :: names) (if d.kd = 1 ∧ d.mn = false then d.nm :: seen else seen)
def chkB (earl : List (List UInt8)) (l : Its) (names seen : List (List UInt8)) : Except (Int × Nat) (List (List UInt8)) :=
  match chkI earl l names seen with
  | .error e => .error e
  | .ok names' => match rulesW l.ds with
    | some e => .error e
    | none => .ok names'
/-- Structs. -/
def chkT : List (List UInt8) → List Ty → Option (Int × Nat)
  | _, [] => none
  | earl, t :: r =>
    if t.nm ∈ earl then some (9, t.at_)
    else match chkB earl t.l [] [] with
      | .error e => some e
      | .ok _ => chkT (t.nm :: earl) r
def chk (l : List Ty) : Option (Int × Nat) := chkT [] l
/-- The order of rules. -/
def ready (ds : List D) (checks : List Nat) (i : Nat) : Bool := !((under ds i).any (fun j => checks.contains j))
def ordC (ds : List D) : Nat → List Nat → List Nat
  | 0, _ => []
  | f + 1, checks => match checks.find? (ready ds checks) with
    | none => []
    | some i => i :: ordC ds f (checks.erase i)
def idxs (p : D → Bool) : Nat → List D → List Nat
  | _, [] => []
  | i, d :: r => if p d then i :: idxs p (i + 1) r else idxs p (i + 1) r
def ordr (ds : List D) : List Nat := idxs (fun d => d.ru == 1 || d.ru == 2) 0 ds ++ ordC ds ds.length (idxs (fun d => d.ru == 3) 0 ds)

/- With other names. -/
section
variable {ρ : List UInt8 → List UInt8}
/-- What is told, but for where. -/
def code (o : Option (Int × Nat)) : Option Int := o.map (·.1)
def codeE {α : Type} (o : Except (Int × Nat) α) : Option Int := match o with | .error e => some e.1 | .ok _ => none
/-- Unlike names are unlike. -/
def Inj (ρ : List UInt8 → List UInt8) : Prop := ∀ a b, ρ a = ρ b → a = b
theorem mem_ren (h : Inj ρ) (t : List UInt8) (l : List (List UInt8)) : ρ t ∈ l.map ρ ↔ t ∈ l := by
  constructor
  · intro hm
    obtain ⟨u, h1, h2⟩ := List.mem_map.1 hm
    rw [← h _ _ h2]; exact h1
  · exact List.mem_map_of_mem
theorem mis_ren (h : Inj ρ) (seen : List (List UInt8)) {x y : Ex} (hx : Rx ρ x y) : (mis (seen.map ρ) y).isSome = (mis seen x).isSome := by
  induction hx with
  | num => rfl
  | nam a b t =>
    rw [mis, mis]
    by_cases hm : t ∈ seen
    · rw [if_pos hm, if_pos ((mem_ren h t seen).2 hm)]
    · rw [if_neg hm, if_neg (fun hc => hm ((mem_ren h t seen).1 hc))]; rfl
  | bin a b o l l' r r' hl hr il ir =>
    rw [mis, mis]
    cases e1 : mis seen l with
    | some p =>
      rw [e1] at il
      cases e2 : mis (seen.map ρ) l' with
      | some q => rfl
      | none => rw [e2] at il; cases il
    | none =>
      rw [e1] at il
      cases e2 : mis (seen.map ρ) l' with
      | some q => rw [e2] at il; cases il
      | none => exact ir
theorem misO_ren (h : Inj ρ) (seen : List (List UInt8)) {x y : Option Ex} (hx : RO ρ x y) : (misO (seen.map ρ) y).isSome = (misO seen x).isSome := by
  cases hx with
  | none => rfl
  | some hx => exact mis_ren h seen hx
/-- Parts' data. -/
inductive RL (ρ : List UInt8 → List UInt8) : List D → List D → Prop
  | nil : RL ρ [] []
  | cons {d d' : D} {l l' : List D} : RD ρ d d' → RL ρ l l' → RL ρ (d :: l) (d' :: l')
theorem RI.ds {l l' : Its} (h : RI ρ l l') : RL ρ l.ds l'.ds := by
  induction h with
  | nil => exact RL.nil
  | cons hd _ _ _ ih => exact RL.cons hd ih
theorem RL.len {l l' : List D} (h : RL ρ l l') : l'.length = l.length := by
  induction h with
  | nil => rfl
  | cons _ _ ih => simp [ih]
theorem RL.get {l l' : List D} (h : RL ρ l l') (k : Nat) : (l[k]? = none ∧ l'[k]? = none) ∨ ∃ d d', l[k]? = some d ∧ l'[k]? = some d' ∧ RD ρ d d' := by
  induction h generalizing k with
  | nil => exact Or.inl ⟨by simp, by simp⟩
  | cons hd hl ih =>
    cases k with
    | zero => exact Or.inr ⟨_, _, rfl, rfl, hd⟩
    | succ k => simpa using ih k
theorem nmd_ren (h : Inj ρ) {l l' : List D} (hl : RL ρ l l') (t : List UInt8) : nmd l' (ρ t) = nmd l t := by
  unfold nmd
  induction hl with
  | nil => rfl
  | cons hd _ ih =>
    rename_i d d' l l' _
    rw [List.findIdx?_cons, List.findIdx?_cons, ih]
    have e : (d'.nm == ρ t) = (d.nm == t) := by
      rw [hd.nm, Bool.eq_iff_iff, beq_iff_eq, beq_iff_eq]
      exact ⟨fun e => h _ _ e, fun e => by rw [e]⟩
    rw [e]
theorem ends_ren (h : Inj ρ) {l l' : List D} (hl : RL ρ l l') {d d' : D} (hd : RD ρ d d') : ends l' d' = ends l d := by
  unfold ends
  rw [hd.f1, hd.l1, hd.ru, nmd_ren h hl, nmd_ren h hl]
theorem isC_ren {l l' : List D} (hl : RL ρ l l') (k : Nat) : isC l' k = isC l k := by
  unfold isC
  rcases hl.get k with ⟨h1, h2⟩ | ⟨d, d', h1, h2, hd⟩
  · rw [h1, h2]
  · rw [h1, h2]
    show (some d'.ru == some 3) = (some d.ru == some 3)
    rw [hd.ru]
theorem under_ren (h : Inj ρ) {l l' : List D} (hl : RL ρ l l') (i : Nat) : under l' i = under l i := by
  unfold under
  have e : isC l' = isC l := funext (isC_ren hl)
  rcases hl.get i with ⟨h1, h2⟩ | ⟨d, d', h1, h2, hd⟩
  · rw [h1, h2]
  · rw [h1, h2]
    dsimp only
    rw [ends_ren h hl hd, e]
theorem bfs_ren (h : Inj ρ) {l l' : List D} (hl : RL ρ l l') (to f : Nat) : ∀ met todo, bfs l' to f met todo = bfs l to f met todo := by
  induction f with
  | zero => intro met todo; rfl
  | succ f ih =>
    intro met todo
    cases todo with
    | nil => rfl
    | cons j r =>
      rw [bfs, bfs, under_ren h hl]
      split
      · rfl
      · split
        · exact ih _ _
        · exact ih _ _
theorem rnd_ren (h : Inj ρ) {l l' : List D} (hl : RL ρ l l') (i : Nat) : rnd l' i = rnd l i := by
  unfold rnd
  rw [under_ren h hl, hl.len, bfs_ren h hl]
theorem code_if {c c' : Prop} [Decidable c] [Decidable c'] (hc : c ↔ c') {k : Int} {p q : Nat} {x y : Option (Int × Nat)} (h : code x = code y) : code (if c then some (k, p) else x) = code (if c' then some (k, q) else y) := by
  by_cases h1 : c
  · rw [if_pos h1, if_pos (hc.1 h1)]; rfl
  · rw [if_neg h1, if_neg (fun h2 => h1 (hc.2 h2))]; exact h
theorem ruleW_ren (h : Inj ρ) {l l' : List D} (hl : RL ρ l l') (i : Nat) {d d' : D} (hd : RD ρ d d') : code (ruleW l' i d') = code (ruleW l i d) := by
  unfold ruleW
  rw [hd.ru, ends_ren h hl hd]
  by_cases h0 : d.ru = 0
  · rw [if_pos h0, if_pos h0]
  · rw [if_neg h0, if_neg h0]
    split
    · rename_i a b hab
      have e : (l'[a]?.map (·.mn)) = (l[a]?.map (·.mn)) := by
        rcases hl.get a with ⟨h1, h2⟩ | ⟨x, x', h1, h2, hx⟩
        · rw [h1, h2]
        · rw [h1, h2]
          show some x'.mn = some x.mn
          rw [hx.mn]
      rw [e, hd.wd, hd.sg]
      refine code_if Iff.rfl (code_if Iff.rfl (code_if Iff.rfl (code_if Iff.rfl rfl)))
    · rfl
theorem firstW_ren {g g' : Nat → D → Option (Int × Nat)} (hg : ∀ i d d', RD ρ d d' → code (g' i d') = code (g i d)) {l l' : List D} (hl : RL ρ l l') : ∀ i, code (firstW g' i l') = code (firstW g i l) := by
  induction hl with
  | nil => intro i; rfl
  | cons hd _ ih =>
    rename_i d d' l l' _
    intro i
    have e := hg i _ _ hd
    rw [firstW, firstW]
    cases h1 : g i d with
    | some x =>
      rw [h1] at e
      cases h2 : g' i d' with
      | some y => rw [h2] at e; exact e
      | none => rw [h2] at e; cases e
    | none =>
      rw [h1] at e
      cases h2 : g' i d' with
      | some y => rw [h2] at e; cases e
      | none => exact ih _
theorem code_none {o o' : Option (Int × Nat)} (h : code o' = code o) : (o = none ↔ o' = none) := by
  cases o <;> cases o' <;> simp_all [code]
theorem rulesW_ren (h : Inj ρ) {l l' : List D} (hl : RL ρ l l') : code (rulesW l') = code (rulesW l) := by
  have e1 := firstW_ren (g := ruleW l) (g' := ruleW l') (fun i d d' hd => ruleW_ren h hl i hd) hl 0
  have e2 := firstW_ren (g := cycW l) (g' := cycW l') (fun i d d' hd => by
    unfold cycW
    rw [hd.ru, rnd_ren h hl]
    exact code_if Iff.rfl rfl) hl 0
  unfold rulesW
  cases h1 : firstW (ruleW l) 0 l with
  | some x =>
    rw [h1] at e1
    cases h2 : firstW (ruleW l') 0 l' with
    | some y => rw [h2] at e1; exact e1
    | none => rw [h2] at e1; cases e1
  | none =>
    rw [h1] at e1
    cases h2 : firstW (ruleW l') 0 l' with
    | some y => rw [h2] at e1; cases e1
    | none => exact e2
theorem itemW_ren (h : Inj ρ) (earl names seen : List (List UInt8)) {d d' : D} (hd : RD ρ d d') : code (itemW (earl.map ρ) (names.map ρ) (seen.map ρ) d') = code (itemW earl names seen d) := by
  unfold itemW
  rw [hd.nm, hd.ty, hd.kd]
  refine code_if (mem_ren h _ _) (code_if ?_ ?_)
  · rw [mem_ren h]
  · have := misO_ren h seen hd.ct
    cases h1 : misO seen d.ct <;> cases h2 : misO (seen.map ρ) d'.ct <;> rw [h1, h2] at this <;> first | rfl | cases this
/-- Both are as right. -/
def SameE (a b : Except (Int × Nat) (List (List UInt8))) (ρ : List UInt8 → List UInt8) : Prop :=
  (∃ e e', a = .error e ∧ b = .error e' ∧ e'.1 = e.1) ∨ ∃ n, a = .ok n ∧ b = .ok (n.map ρ)
theorem chkI_ren (h : Inj ρ) (earl : List (List UInt8)) {l l' : Its} (hl : RI ρ l l') : ∀ names seen, SameE (chkI earl l names seen) (chkI (earl.map ρ) l' (names.map ρ) (seen.map ρ)) ρ := by
  induction hl with
  | nil => intro names seen; exact Or.inr ⟨names, rfl, rfl⟩
  | cons hd hs ht is it =>
    rename_i d d' s s' t t'
    intro names seen
    rw [chkI, chkI, hd.kd]
    by_cases h4 : d.kd = 4
    · rw [if_pos h4, if_pos h4]
      have em := misO_ren h seen hd.ct
      cases h1 : misO seen d.ct with
      | some p =>
        rw [h1] at em
        cases h2 : misO (seen.map ρ) d'.ct with
        | some q => exact Or.inl ⟨_, _, rfl, rfl, rfl⟩
        | none => rw [h2] at em; cases em
      | none =>
        rw [h1] at em
        cases h2 : misO (seen.map ρ) d'.ct with
        | some q => rw [h2] at em; cases em
        | none =>
          dsimp only
          rcases is names seen with ⟨e, e', g1, g2, g3⟩ | ⟨n, g1, g2⟩
          · rw [g1, g2]; exact Or.inl ⟨_, _, rfl, rfl, g3⟩
          · rw [g1, g2]
            dsimp only
            have er := rulesW_ren h hs.ds
            cases h3 : rulesW s.ds with
            | some x =>
              rw [h3] at er
              cases h5 : rulesW s'.ds with
              | some y =>
                rw [h5] at er
                simp only [code, Option.map_some, Option.some.injEq] at er
                exact Or.inl ⟨_, _, rfl, rfl, er⟩
              | none => rw [h5] at er; cases er
            | none =>
              rw [h3] at er
              cases h5 : rulesW s'.ds with
              | some y => rw [h5] at er; cases er
              | none => exact it n seen
    · rw [if_neg h4, if_neg h4]
      have ei := itemW_ren h earl names seen hd
      cases h1 : itemW earl names seen d with
      | some x =>
        rw [h1] at ei
        cases h2 : itemW (earl.map ρ) (names.map ρ) (seen.map ρ) d' with
        | some y =>
          rw [h2] at ei
          simp only [code, Option.map_some, Option.some.injEq] at ei
          exact Or.inl ⟨_, _, rfl, rfl, ei⟩
        | none => rw [h2] at ei; cases ei
      | none =>
        rw [h1] at ei
        cases h2 : itemW (earl.map ρ) (names.map ρ) (seen.map ρ) d' with
        | some y => rw [h2] at ei; cases ei
        | none =>
          dsimp only
          have := it (d.nm :: names) (if d.kd = 1 ∧ d.mn = false then d.nm :: seen else seen)
          rw [List.map_cons, ← hd.nm] at this
          have e2 : (if d.kd = 1 ∧ d.mn = false then d.nm :: seen else seen).map ρ = (if d.kd = 1 ∧ d'.mn = false then d'.nm :: seen.map ρ else seen.map ρ) := by
            rw [hd.mn, hd.nm]
            split <;> rfl
          rw [e2] at this
          exact this
theorem chkB_ren (h : Inj ρ) (earl : List (List UInt8)) {l l' : Its} (hl : RI ρ l l') : codeE (chkB (earl.map ρ) l' [] []) = codeE (chkB earl l [] []) := by
  unfold chkB
  have hI := chkI_ren h earl hl [] []
  rw [List.map_nil] at hI
  rcases hI with ⟨e, e', g1, g2, g3⟩ | ⟨n, g1, g2⟩
  · rw [g1, g2]; simp [codeE, g3]
  · rw [g1, g2]
    dsimp only
    have er := rulesW_ren h hl.ds
    cases h3 : rulesW l.ds <;> cases h5 : rulesW l'.ds <;> rw [h3, h5] at er
    · rfl
    · cases er
    · cases er
    · simpa [code, codeE] using er
/-- NAMES ARE BUT NAMES. -/
theorem chkT_ren (h : Inj ρ) {l l' : List Ty} (hl : RT ρ l l') : ∀ earl, code (chkT (earl.map ρ) l') = code (chkT earl l) := by
  induction hl with
  | nil => intro earl; rfl
  | cons hn hi _ ih =>
    rename_i t t' l l' _
    intro earl
    rw [chkT, chkT, hn]
    refine code_if (mem_ren h _ _) ?_
    have eb := chkB_ren h earl hi
    cases h1 : chkB earl t.l [] [] with
    | error e =>
      rw [h1] at eb
      cases h2 : chkB (earl.map ρ) t'.l [] [] with
      | error e' => rw [h2] at eb; simpa [code, codeE] using eb
      | ok _ => rw [h2] at eb; cases eb
    | ok n =>
      rw [h1] at eb
      cases h2 : chkB (earl.map ρ) t'.l [] [] with
      | error e' => rw [h2] at eb; cases eb
      | ok _ => exact ih (t.nm :: earl)
theorem chk_ren (h : Inj ρ) {l l' : List Ty} (hl : RT ρ l l') : code (chk l') = code (chk l) := chkT_ren h hl []
end
/-- WHAT STANDS BEHIND CHANGES NOTHING. -/
theorem chkT_app (l : List Ty) (z : Ty) : ∀ earl, chkT earl (l ++ [z]) = match chkT earl l with
    | some e => some e
    | none => chkT ((l.map (·.nm)).reverse ++ earl) [z] := by
  induction l with
  | nil => intro earl; rfl
  | cons t l ih =>
    intro earl
    rw [List.cons_append, chkT, chkT]
    split
    · rfl
    · split
      · rfl
      · rw [ih]
        simp
end Go.Proofs.Ytpanodaecjlgaaa.tm
