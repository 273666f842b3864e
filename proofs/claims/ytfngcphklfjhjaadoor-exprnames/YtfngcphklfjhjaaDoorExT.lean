/- Expressions, written, are read: the whole way. -/
import Derived.Test.YtfngcphklfjhjaaDoorEx9
namespace Go.Proofs.YtfngcphklfjhjaaDoor.ex
set_option linter.unusedVariables false
open Go.RowKit
open mem lx

theorem told_hdec : ∀ t, isU t = true → (nb t).2 = 0 → isN (Lib.itoa (nb t).1) = false ∧ isU (Lib.itoa (nb t).1) = true ∧ nb (Lib.itoa (nb t).1) = ((nb t).1, 0) := fun t h h0 => by
  obtain ⟨h1, h2⟩ := nb_range t h h0
  obtain ⟨a, b, c, _⟩ := nb_itoa _ h1 h2
  exact ⟨a, b, c⟩
/-- What reading tells, besides: names are words, numbers are from 0 on; how many parts there are. -/
def Nw : Ex → Prop
  | .num _ n => 0 ≤ n ∧ n < 9223372036854775808
  | .nam _ t => (∀ c ∈ t, isW c = true) ∧ t ≠ [] ∧ t.length ≤ 12
  | .bin _ _ l r => Nw l ∧ Nw r
def sz : Ex → Nat
  | .num _ _ => 1
  | .nam _ _ => 1
  | .bin _ _ l r => sz l + sz r + 1
theorem word_of {t : List UInt8} (h : IsT t) (hn : isN t = true) : (∀ c ∈ t, isW c = true) ∧ t ≠ [] := by
  rcases h with ⟨h1, h2⟩ | ⟨c, rfl, hc⟩ | rfl | rfl
  · exact ⟨h2, h1⟩
  · exfalso
    have h3 := (isM_not c (Or.inl hc)).2.2
    have h4 : isL c = true := hn
    unfold isW at h3
    rw [h4] at h3
    cases h3
  · revert hn; decide
  · revert hn; decide
theorem nw_all {en : Nat} (f : Nat) :
    (∀ m d ts x r, (∀ t ∈ ts, IsT t.t) → row nb en f m d ts = some (.ok (x, r)) → Nw x ∧ sz x + r.length ≤ ts.length) ∧
    (∀ m d y ts x r, (∀ t ∈ ts, IsT t.t) → Nw y → lp nb en f m d y ts = some (.ok (x, r)) → Nw x ∧ sz x + r.length ≤ sz y + ts.length) ∧
    (∀ d ts x r, (∀ t ∈ ts, IsT t.t) → one nb en f d ts = some (.ok (x, r)) → Nw x ∧ sz x + r.length ≤ ts.length) := by
  induction f with
  | zero => exact ⟨fun _ _ _ _ _ _ h => by simp [row] at h, fun _ _ _ _ _ _ _ _ h => by simp [lp] at h, fun _ _ _ _ _ h => by simp [one] at h⟩
  | succ f ih =>
    obtain ⟨i1, i2, i3⟩ := ih
    obtain ⟨m1, m2, m3⟩ := mem_all (en := en) f
    refine ⟨?_, ?_, ?_⟩
    · intro m d ts x r hT h
      by_cases hm : 3 < m
      · rw [row_top _ _ _ _ hm] at h
        exact i3 _ _ _ _ hT h
      · rw [row_low _ _ _ _ hm] at h
        split at h
        · cases h
        · cases h
        · rename_i y r' hr
          obtain ⟨g1, g2⟩ := i1 _ _ _ _ _ hT hr
          obtain ⟨g3, g4⟩ := i2 _ _ _ _ _ _ (fun t ht => hT t (m1 _ _ _ _ _ hr t ht)) g1 h
          exact ⟨g3, by omega⟩
    · intro m d y ts x r hT hy h
      cases ts with
      | nil =>
        simp only [lp, Option.some.injEq, Except.ok.injEq, Prod.mk.injEq] at h
        obtain ⟨rfl, rfl⟩ := h
        exact ⟨hy, Nat.le_refl _⟩
      | cons t ts =>
        rw [lp] at h
        split at h
        · split at h
          · cases h
          · cases h
          · rename_i z r' hr
            have hT' : ∀ t ∈ ts, IsT t.t := fun u hu => hT u (List.mem_cons_of_mem _ hu)
            obtain ⟨g1, g2⟩ := i1 _ _ _ _ _ hT' hr
            obtain ⟨g3, g4⟩ := i2 _ _ _ _ _ _ (fun u hu => hT' u (m1 _ _ _ _ _ hr u hu)) (show Nw (.bin t.a t.t y z) from ⟨hy, g1⟩) h
            refine ⟨g3, ?_⟩
            have : sz (.bin t.a t.t y z) = sz y + sz z + 1 := by rw [sz]
            simp only [List.length_cons]
            omega
        · simp only [Option.some.injEq, Except.ok.injEq, Prod.mk.injEq] at h
          obtain ⟨rfl, rfl⟩ := h
          exact ⟨hy, Nat.le_refl _⟩
    · intro d ts x r hT h
      cases ts with
      | nil => simp [one] at h
      | cons t ts =>
        have hT' : ∀ t ∈ ts, IsT t.t := fun u hu => hT u (List.mem_cons_of_mem _ hu)
        rw [one] at h
        split at h
        · rename_i hN
          split at h
          · simp at h
          · rename_i h12
            simp at h
            obtain ⟨rfl, rfl⟩ := h
            obtain ⟨w1, w2⟩ := word_of (hT t (by simp)) hN
            exact ⟨⟨w1, w2, by omega⟩, by rw [sz]; simp; omega⟩
        · split at h
          · rename_i hU
            split at h
            · rename_i h0
              simp at h
              obtain ⟨rfl, rfl⟩ := h
              exact ⟨nb_range _ hU h0, by rw [sz]; simp; omega⟩
            · simp at h
          · split at h
            · split at h
              · simp at h
              · split at h
                · cases h
                · cases h
                · rename_i z r' hr
                  obtain ⟨g1, g2⟩ := i1 _ _ _ _ _ hT' hr
                  split at h
                  · simp at h
                    obtain ⟨rfl, rfl⟩ := h
                    refine ⟨g1, ?_⟩
                    rw [List.length_tail]
                    simp only [List.length_cons]
                    omega
                  · simp at h
            · simp at h
theorem dd_len (u k : Nat) (h : u < 10 ^ (k + 1)) : (Lib.decDigits u).length ≤ k + 1 := by
  induction k generalizing u with
  | zero =>
    have : u < 10 := by simpa using h
    rw [Lib.decDigits, dif_pos this]
    simp
  | succ k ih =>
    by_cases h10 : u < 10
    · rw [Lib.decDigits, dif_pos h10]; simp
    · rw [Lib.decDigits, dif_neg h10, List.length_append]
      have := ih (u / 10) (by rw [Nat.div_lt_iff_lt_mul (by omega)]; rw [Nat.pow_succ] at h; exact h)
      simp
      omega
theorem bd_cases {o : List UInt8} (h : 0 < bd o) : o = [61, 61] ∨ o = [33, 61] ∨ o = [60] ∨ o = [62] ∨ o = [43] ∨ o = [45] ∨ o = [124] ∨ o = [42] ∨ o = [38] := by
  unfold bd at h
  split at h
  · rename_i h1; rcases h1 with h1 | h1 | h1 | h1 <;> simp [h1]
  · split at h
    · rename_i h1; rcases h1 with h1 | h1 | h1 <;> simp [h1]
    · split at h
      · rename_i h1; rcases h1 with h1 | h1 <;> simp [h1]
      · omega
theorem bd_len {o : List UInt8} (h : 0 < bd o) : o.length ≤ 2 := by
  rcases bd_cases h with rfl | rfl | rfl | rfl | rfl | rfl | rfl | rfl | rfl <;> simp
theorem mark_tok (c : UInt8) (h1 : isM c = true) (h2 : isW c = false) (h3 : c ≠ 61) : IsT [c] ∧ ¬ (∀ d ∈ [c], isW d = true) ∧ [c] ≠ [61] := by
  refine ⟨Or.inr (Or.inl ⟨c, rfl, h1⟩), fun h => ?_, by simpa using h3⟩
  have := h c (by simp)
  rw [h2] at this
  cases this
theorem bd_tok {o : List UInt8} (h : 0 < bd o) : IsT o ∧ ¬ (∀ c ∈ o, isW c = true) ∧ o ≠ [61] := by
  rcases bd_cases h with rfl | rfl | rfl | rfl | rfl | rfl | rfl | rfl | rfl
  · exact ⟨Or.inr (Or.inr (Or.inl rfl)), by decide, by decide⟩
  · exact ⟨Or.inr (Or.inr (Or.inr rfl)), by decide, by decide⟩
  all_goals exact mark_tok _ (by decide) (by decide) (by decide)
theorem txt_len {x : Ex} (h : Nw x) (ho : Okb x) : (txt x).length + 10 ≤ 40 * sz x := by
  induction x with
  | num a n =>
    rw [txt, itoa_pos n h.1, show sz (.num a n) = 1 by rw [sz]]
    have := dd_len n.toNat 19 (by have := h.2; omega)
    omega
  | nam a t =>
    rw [txt, show sz (.nam a t) = 1 by rw [sz]]
    have := h.2.2
    omega
  | bin a o l r il ir =>
    have h1 := il h.1 ho.2.1
    have h2 := ir h.2 ho.2.2
    have h5 := bd_len ho.1
    rw [txt_bin, show sz (.bin a o l r) = sz l + sz r + 1 by rw [sz]]
    have hs : ∀ (x : Ex) (m : Nat), (sdt x m).length ≤ (txt x).length + 2 := fun x m => by unfold sdt; split <;> simp
    have h3 := hs l (bd o)
    have h4 := hs r (bd o + 1)
    simp only [List.length_append, List.length_cons, List.length_nil]
    omega
/-- The same, wherever it stands. -/
theorem Sm.txt {x y : Ex} (h : Sm x y) : txt y = txt x ∧ top y = top x := by
  induction h with
  | num a b k => exact ⟨by rw [ex.txt, ex.txt], rfl⟩
  | nam a b t => exact ⟨by rw [ex.txt, ex.txt], rfl⟩
  | bin a b o l l' r r' _ _ il ir =>
    refine ⟨?_, rfl⟩
    rw [txt_bin, txt_bin]
    unfold sdt
    rw [il.1, il.2, ir.1, ir.2]
theorem Sm.okb {x y : Ex} (h : Sm x y) (hx : Okb x) : Okb y := by
  induction h with
  | num a b k => trivial
  | nam a b t => exact hx
  | bin a b o l l' r r' _ _ il ir => exact ⟨hx.1, il hx.2.1, ir hx.2.2⟩
theorem Sm.nw {x y : Ex} (h : Sm x y) (hx : Nw x) : Nw y := by
  induction h with
  | num a b k => exact hx
  | nam a b t => exact hx
  | bin a b o l l' r r' _ _ il ir => exact ⟨il hx.1, ir hx.2⟩
/-- Alike, but for the place. -/
def Eqv (p q : Except Nat Int) : Prop := (∃ n, p = .ok n ∧ q = .ok n) ∨ ∃ a b, p = .error a ∧ q = .error b
theorem Sm.ev {env : List UInt8 → Option Int} {x y : Ex} (h : Sm x y) : Eqv (ev env x) (ev env y) := by
  induction h with
  | num a b k => exact Or.inl ⟨k, by rw [ex.ev], by rw [ex.ev]⟩
  | nam a b t =>
    rw [ex.ev, ex.ev]
    cases env t with
    | some n => exact Or.inl ⟨n, rfl, rfl⟩
    | none => exact Or.inr ⟨a, b, rfl, rfl⟩
  | bin a b o l l' r r' _ _ il ir =>
    rw [ex.ev, ex.ev]
    rcases il with ⟨n, h1, h2⟩ | ⟨p, q, h1, h2⟩
    · rw [h1, h2]
      rcases ir with ⟨k, g1, g2⟩ | ⟨p, q, g1, g2⟩
      · rw [g1, g2]; exact Or.inl ⟨_, rfl, rfl⟩
      · rw [g1, g2]; exact Or.inr ⟨_, _, rfl, rfl⟩
    · rw [h1, h2]; exact Or.inr ⟨_, _, rfl, rfl⟩
theorem Wf.okb {x : Ex} (h : Wf (nb := nb) Lib.itoa x) : Okb x := by
  induction x with
  | num a n => trivial
  | nam a t => have := h.2; show t.length ≤ 3000; omega
  | bin a o l r il ir => exact ⟨h.1, il h.2.1, ir h.2.2⟩
/-- THE TOKENS OF WHAT IS WRITTEN. -/
def Cut (t : List UInt8) (l : List (List UInt8)) : Prop := ∀ (y : List UInt8) (a : Nat), (∀ c, y.head? = some c → isW c = false) → ∃ us : List Tk, us.map Tk.t = l ∧ lx (t ++ y) a = (us ++ (lx y (a + t.length)).1, (lx y (a + t.length)).2)
theorem Cut.side {x : Ex} (h : Cut (txt x) (tk Lib.itoa x)) (m : Nat) : Cut (sdt x m) (sk Lib.itoa x m) := by
  unfold sdt sk
  by_cases ht : top x < m
  · rw [if_pos ht, if_pos ht]
    intro y a hy
    obtain ⟨us, h1, h2⟩ := h ([41] ++ y) (a + 1) (fun c hc => by simp at hc; rw [← hc]; decide)
    have e1 : [40] ++ txt x ++ [41] ++ y = [40] ++ (txt x ++ ([41] ++ y)) := by simp
    have e2 := lx_app [40] (txt x ++ ([41] ++ y)) a (Or.inr (Or.inl ⟨40, rfl, by decide⟩)) (fun h => absurd h (by decide)) (fun h => absurd h (by decide))
    have e3 := lx_app [41] y (a + 1 + (txt x).length) (Or.inr (Or.inl ⟨41, rfl, by decide⟩)) (fun h => absurd h (by decide)) (fun h => absurd h (by decide))
    refine ⟨⟨[40], a⟩ :: us ++ [⟨[41], a + 1 + (txt x).length⟩], by simp [h1], ?_⟩
    rw [e1, e2]
    rw [show ([40] : List UInt8).length = 1 from rfl, h2, e3]
    have e4 : a + 1 + (txt x).length + ([41] : List UInt8).length = a + ([40] ++ txt x ++ [41]).length := by simp; omega
    rw [e4]
    simp
  · rw [if_neg ht, if_neg ht]
    exact h
theorem cut_word {t : List UInt8} (h1 : ∀ c ∈ t, isW c = true) (h2 : t ≠ []) : Cut t [t] := by
  intro y a hy
  refine ⟨[⟨t, a⟩], rfl, ?_⟩
  rw [lx_app t y a (Or.inl ⟨h2, h1⟩) (fun _ => hy) (fun e => by
    subst e
    exact absurd (h1 61 (by simp)) (by decide))]
  rfl
theorem cut_txt {x : Ex} (h : Nw x) (ho : Okb x) : Cut (txt x) (tk Lib.itoa x) := by
  induction x with
  | num a n =>
    obtain ⟨_, _, _, w1, w2⟩ := nb_itoa n h.1 h.2
    rw [ex.txt, tk]
    exact cut_word w1 w2
  | nam a t =>
    rw [ex.txt, tk]
    exact cut_word h.1 h.2.1
  | bin a o l r il ir =>
    have cl := (il h.1 ho.2.1).side (bd o)
    have cr := (ir h.2 ho.2.2).side (bd o + 1)
    obtain ⟨b1, b2, b3⟩ := bd_tok ho.1
    rw [txt_bin, tk_bin]
    intro y p hy
    obtain ⟨us, u1, u2⟩ := cl ([32] ++ (o ++ ([32] ++ (sdt r (bd o + 1) ++ y)))) p (fun c hc => by simp at hc; rw [← hc]; decide)
    obtain ⟨vs, v1, v2⟩ := cr y (p + (sdt l (bd o)).length + 1 + o.length + 1) hy
    have e1 : sdt l (bd o) ++ ([32] ++ o ++ [32]) ++ sdt r (bd o + 1) ++ y = sdt l (bd o) ++ ([32] ++ (o ++ ([32] ++ (sdt r (bd o + 1) ++ y)))) := by simp
    have e2 : lx ([32] ++ (o ++ ([32] ++ (sdt r (bd o + 1) ++ y)))) (p + (sdt l (bd o)).length) = lx (o ++ ([32] ++ (sdt r (bd o + 1) ++ y))) (p + (sdt l (bd o)).length + 1) := lx_blank 32 _ _ rfl
    have e3 := lx_app o ([32] ++ (sdt r (bd o + 1) ++ y)) (p + (sdt l (bd o)).length + 1) b1 (fun h => absurd h b2) (fun h => absurd h b3)
    have e4 : lx ([32] ++ (sdt r (bd o + 1) ++ y)) (p + (sdt l (bd o)).length + 1 + o.length) = lx (sdt r (bd o + 1) ++ y) (p + (sdt l (bd o)).length + 1 + o.length + 1) := lx_blank 32 _ _ rfl
    refine ⟨us ++ ⟨o, p + (sdt l (bd o)).length + 1⟩ :: vs, by simp [u1, v1], ?_⟩
    rw [e1, u2, e2, e3, e4, v2]
    have e5 : p + (sdt l (bd o)).length + 1 + o.length + 1 + (sdt r (bd o + 1)).length = p + (sdt l (bd o) ++ ([32] ++ o ++ [32]) ++ sdt r (bd o + 1)).length := by simp; omega
    rw [e5]
    simp
end Go.Proofs.YtfngcphklfjhjaaDoor.ex
