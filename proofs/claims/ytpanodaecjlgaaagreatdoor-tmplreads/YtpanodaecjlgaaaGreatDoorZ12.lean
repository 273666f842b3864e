/- Texts laid together: TmQ, TmC, TmS, TmW. -/
import Derived.Test.YtpanodaecjlgaaaGreatDoorZ11
import Derived.Test.YtpanodaecjlgaaaGreatDoorZ9
import Derived.Test.YtpanodaecjlgaaaGreatDoorZ2
/- Templates: read with other names, at other places, with more behind them (pure). -/
namespace Go.Proofs.YtpanodaecjlgaaaGreatDoor.tm
set_option linter.unusedVariables false
open lx ex

/-- What stands for a token. -/
def Gd (ρ : List UInt8 → List UInt8) (t : List UInt8) : Prop :=
  (isN t = false ∨ resv t = true → ρ t = t) ∧ (isN t = true → resv t = false → isN (ρ t) = true ∧ resv (ρ t) = false ∧ (t.length ≤ 12 → (ρ t).length ≤ 12))
abbrev RF (ρ : List UInt8 → List UInt8) := F2 (fun t t' : Tk => t'.t = ρ t.t ∧ Gd ρ t.t)
inductive Rx (ρ : List UInt8 → List UInt8) : Ex → Ex → Prop
  | num (a b : Nat) (k : Int) : Rx ρ (.num a k) (.num b k)
  | nam (a b : Nat) (t : List UInt8) : Rx ρ (.nam a t) (.nam b (ρ t))
  | bin (a b : Nat) (o : List UInt8) (l l' r r' : Ex) : Rx ρ l l' → Rx ρ r r' → Rx ρ (.bin a o l r) (.bin b o l' r')
inductive RO (ρ : List UInt8 → List UInt8) : Option Ex → Option Ex → Prop
  | none : RO ρ none none
  | some {x y : Ex} : Rx ρ x y → RO ρ (some x) (some y)
structure RD (ρ : List UInt8 → List UInt8) (d d' : D) : Prop where
  kd : d'.kd = d.kd
  nm : d'.nm = ρ d.nm
  ty : d'.ty = ρ d.ty
  wd : d'.wd = d.wd
  od : d'.od = d.od
  sg : d'.sg = d.sg
  mn : d'.mn = d.mn
  ct : RO ρ d.ct d'.ct
  ru : d'.ru = d.ru
  f1 : d'.f1 = ρ d.f1
  l1 : d'.l1 = ρ d.l1
inductive RI (ρ : List UInt8 → List UInt8) : Its → Its → Prop
  | nil : RI ρ .nil .nil
  | cons {d d' : D} {s s' t t' : Its} : RD ρ d d' → RI ρ s s' → RI ρ t t' → RI ρ (.cons d s t) (.cons d' s' t')
inductive RT (ρ : List UInt8 → List UInt8) : List Ty → List Ty → Prop
  | nil : RT ρ [] []
  | cons {t t' : Ty} {l l' : List Ty} : t'.nm = ρ t.nm → RI ρ t.l t'.l → RT ρ l l' → RT ρ (t :: l) (t' :: l')
theorem RT.len {ρ : List UInt8 → List UInt8} {l l' : List Ty} (h : RT ρ l l') : l'.length = l.length := by
  induction h with
  | nil => rfl
  | cons _ _ _ ih => simp [ih]
/-- Words that are no names. -/
def Sp (m : List UInt8) : Prop := m ≠ [] ∧ (isN m = false ∨ resv m = true)
theorem bd_name {t : List UInt8} (h : isN t = true) : bd t = 0 := by
  have key : ∀ o : List UInt8, isN o = true → ¬ (o = [61, 61] ∨ o = [33, 61] ∨ o = [60] ∨ o = [62]) ∧ ¬ (o = [43] ∨ o = [45] ∨ o = [124]) ∧ ¬ (o = [42] ∨ o = [38]) := by
    intro o ho
    refine ⟨?_, ?_, ?_⟩ <;> intro hc
    · rcases hc with rfl | rfl | rfl | rfl <;> revert ho <;> decide
    · rcases hc with rfl | rfl | rfl <;> revert ho <;> decide
    · rcases hc with rfl | rfl <;> revert ho <;> decide
  obtain ⟨h1, h2, h3⟩ := key t h
  unfold bd
  rw [if_neg h1, if_neg h2, if_neg h3]
set_option maxRecDepth 100000 in
theorem isU_name {t : List UInt8} (h : isN t = true) : isU t = false := by
  unfold isN at h
  unfold isU
  cases ht : t.head? with
  | none => rfl
  | some c =>
    rw [ht] at h
    dsimp only at h ⊢
    have key : ∀ c : Fin 256, isL (UInt8.ofNat c.1) = true → isD (UInt8.ofNat c.1) = false := by decide
    have := key ⟨c.toNat, c.toNat_lt⟩
    simp only [UInt8.ofNat_toNat] at this
    exact this h
section
variable {ρ : List UInt8 → List UInt8} {nb : List UInt8 → Int × Int} {en en' : Nat}
theorem Gd.cls {t : List UInt8} (h : Gd ρ t) : (isN t = false ∧ ρ t = t) ∨ (isN t = true ∧ isN (ρ t) = true ∧ (t.length ≤ 12 → (ρ t).length ≤ 12)) := by
  cases hn : isN t with
  | false => exact Or.inl ⟨rfl, h.1 (Or.inl hn)⟩
  | true =>
    refine Or.inr ⟨rfl, ?_⟩
    cases hr : resv t with
    | true => rw [h.1 (Or.inr hr)]; exact ⟨hn, fun h => h⟩
    | false => exact ⟨(h.2 hn hr).1, (h.2 hn hr).2.2⟩
theorem Gd.bd {t : List UInt8} (h : Gd ρ t) : bd (ρ t) = bd t := by
  rcases h.cls with ⟨_, h2⟩ | ⟨h1, h2, _⟩
  · rw [h2]
  · rw [bd_name h1, bd_name h2]
theorem Gd.sp {t m : List UInt8} (h : Gd ρ t) (hm : Sp m) : (ρ t = m) ↔ t = m := by
  constructor
  · intro e
    by_cases hc : isN t = false ∨ resv t = true
    · rw [h.1 hc] at e; exact e
    · have h1 : isN t = true := by
        cases hn : isN t with
        | true => rfl
        | false => exact absurd (Or.inl hn) hc
      have h2 : resv t = false := by
        cases hr : resv t with
        | false => rfl
        | true => exact absurd (Or.inr hr) hc
      obtain ⟨g1, g2, _⟩ := h.2 h1 h2
      rw [e] at g1 g2
      rcases hm.2 with k | k
      · rw [k] at g1; cases g1
      · rw [k] at g2; cases g2
  · intro e
    have := h.1 (by rw [e]; exact hm.2)
    rw [this]; exact e
theorem Gd.resv {t : List UInt8} (h : Gd ρ t) : resv (ρ t) = resv t ∧ isN (ρ t) = isN t := by
  by_cases hc : isN t = false ∨ tm.resv t = true
  · rw [h.1 hc]; exact ⟨rfl, rfl⟩
  · have h1 : isN t = true := by
      cases hn : isN t with
      | true => rfl
      | false => exact absurd (Or.inl hn) hc
    have h2 : tm.resv t = false := by
      cases hr : tm.resv t with
      | false => rfl
      | true => exact absurd (Or.inr hr) hc
    obtain ⟨g1, g2, _⟩ := h.2 h1 h2
    exact ⟨by rw [g2, h2], by rw [g1, h1]⟩
/-- Expressions. -/
theorem row_ren (us : List Tk) (f : Nat) :
    (∀ m d ts ts' x r, 1 ≤ m → RF ρ ts ts' → row nb en f m d ts = some (.ok (x, r)) → (r ≠ [] ∨ us = []) → ∃ x' r', row nb en' f m d (ts' ++ us) = some (.ok (x', r' ++ us)) ∧ Rx ρ x x' ∧ RF ρ r r') ∧
    (∀ m d y y' ts ts' x r, 1 ≤ m → Rx ρ y y' → RF ρ ts ts' → lp nb en f m d y ts = some (.ok (x, r)) → (r ≠ [] ∨ us = []) → ∃ x' r', lp nb en' f m d y' (ts' ++ us) = some (.ok (x', r' ++ us)) ∧ Rx ρ x x' ∧ RF ρ r r') ∧
    (∀ d ts ts' x r, RF ρ ts ts' → one nb en f d ts = some (.ok (x, r)) → (r ≠ [] ∨ us = []) → ∃ x' r', one nb en' f d (ts' ++ us) = some (.ok (x', r' ++ us)) ∧ Rx ρ x x' ∧ RF ρ r r') := by
  have hlen := fun f => len_all (nb := nb) (en := en) f
  induction f with
  | zero => exact ⟨fun _ _ _ _ _ _ _ _ h => by simp [row] at h, fun _ _ _ _ _ _ _ _ _ _ _ h => by simp [lp] at h, fun _ _ _ _ _ _ h => by simp [one] at h⟩
  | succ f ih =>
    obtain ⟨i1, i2, i3⟩ := ih
    obtain ⟨l1, l2, l3⟩ := hlen f
    have low : ∀ (r r' : List Tk), r'.length ≤ r.length → (r' ≠ [] ∨ us = []) → (r ≠ [] ∨ us = []) := by
      intro r r' hl h
      rcases h with h | h
      · left; intro e; rw [e] at hl; simp at hl; exact h hl
      · exact Or.inr h
    refine ⟨?_, ?_, ?_⟩
    · intro m d ts ts' x r h0 hS h hr0
      by_cases hm : 3 < m
      · rw [row_top _ _ _ _ hm] at h
        rw [row_top _ _ _ _ hm]
        exact i3 _ _ _ _ _ hS h hr0
      · rw [row_low _ _ _ _ hm] at h
        split at h
        · cases h
        · cases h
        · rename_i y r' hr
          have hle := l2 _ _ _ _ _ _ h
          obtain ⟨y', s', g1, g2, g3⟩ := i1 _ _ _ _ _ _ (by omega) hS hr (low _ _ hle hr0)
          rw [row_low _ _ _ _ hm, g1]
          exact i2 _ _ _ _ _ _ _ _ h0 g2 g3 h hr0
    · intro m d y y' ts ts' x r h0 hy hS h hr0
      cases hS with
      | nil =>
        simp only [lp, Option.some.injEq, Except.ok.injEq, Prod.mk.injEq] at h
        obtain ⟨rfl, rfl⟩ := h
        rcases hr0 with h | h
        · exact absurd rfl h
        · subst h
          exact ⟨y', [], by rw [List.append_nil, lp], hy, F2.nil⟩
      | @cons t t' ts ts' ht hS =>
        obtain ⟨ht, hg⟩ := ht
        have hbt : bd t'.t = bd t.t := by rw [ht]; exact hg.bd
        rw [lp] at h
        rw [List.cons_append, lp, hbt]
        split at h
        · rename_i hb'
          rw [if_pos hb']
          split at h
          · cases h
          · cases h
          · rename_i z r' hr
            have hle := l2 _ _ _ _ _ _ h
            obtain ⟨z', s', g1, g2, g3⟩ := i1 _ _ _ _ _ _ (by omega) hS hr (low _ _ hle hr0)
            rw [g1]
            have et : t'.t = t.t := by
              rw [ht]
              rcases hg.cls with ⟨_, e⟩ | ⟨e, _⟩
              · exact e
              · have := bd_name e; omega
            refine i2 _ _ _ _ _ _ _ _ h0 ?_ g3 h hr0
            rw [et]
            exact Rx.bin _ _ _ _ _ _ _ hy g2
        · rename_i hb'
          rw [if_neg hb']
          simp only [Option.some.injEq, Except.ok.injEq, Prod.mk.injEq] at h
          obtain ⟨rfl, rfl⟩ := h
          exact ⟨y', t' :: ts', rfl, hy, F2.cons ⟨ht, hg⟩ hS⟩
    · intro d ts ts' x r hS h hr0
      cases hS with
      | nil => simp [one] at h
      | @cons t t' ts ts' ht hS =>
        obtain ⟨ht, hg⟩ := ht
        rw [List.cons_append]
        rw [one] at h
        rw [one]
        split at h
        · rename_i c1
          rcases hg.cls with ⟨e, _⟩ | ⟨_, e1, e2⟩
          · rw [e] at c1; cases c1
          · rw [if_pos (by rw [ht]; exact e1)]
            split at h
            · simp at h
            · rename_i c2
              rw [if_neg (by rw [ht]; have := e2 (by omega); omega)]
              simp at h
              obtain ⟨rfl, rfl⟩ := h
              refine ⟨_, ts', rfl, ?_, hS⟩
              rw [ht]
              exact Rx.nam _ _ _
        · rename_i c1
          have e : t'.t = t.t := by
            rw [ht]
            rcases hg.cls with ⟨_, e⟩ | ⟨e, _⟩
            · exact e
            · exact absurd e c1
          rw [e, if_neg c1]
          split at h
          · rename_i c2
            rw [if_pos c2]
            split at h
            · rename_i c3
              rw [if_pos c3]
              simp at h
              obtain ⟨rfl, rfl⟩ := h
              exact ⟨_, ts', rfl, Rx.num _ _ _, hS⟩
            · simp at h
          · rename_i c2
            rw [if_neg c2]
            split at h
            · rename_i c3
              rw [if_pos c3]
              split at h
              · simp at h
              · rename_i c4
                rw [if_neg c4]
                split at h
                · cases h
                · cases h
                · rename_i z r' hr
                  split at h
                  · rename_i c5
                    simp at h
                    obtain ⟨rfl, rfl⟩ := h
                    cases r' with
                    | nil => exact absurd c5 (by show ¬ ([] : List UInt8) = [41]; decide)
                    | cons u us1 =>
                      obtain ⟨z', s', g1, g2, g3⟩ := i1 _ _ _ _ _ _ (by omega) hS hr (Or.inl (by simp))
                      rw [g1]
                      dsimp only
                      cases g3 with
                      | @cons u u' us1 us1' hu hus =>
                        have c6 : u.t = [41] := c5
                        have eu : u'.t = [41] := by
                          rw [hu.1]
                          exact (hu.2.sp ⟨by simp, Or.inl (by decide)⟩).2 c6
                        rw [List.cons_append, if_pos (show (hd en' (u' :: (us1' ++ us))).t = [41] from eu)]
                        exact ⟨_, us1', rfl, g2, hus⟩
                  · simp at h
            · simp at h
theorem rx_is {m : List UInt8} {ts : List Tk} {x : Ex} {r : List Tk} (h : rx nb en m ts = .ok (x, r)) : row nb en (10 * ts.length + 10) 1 0 ts = some (.ok (x, r)) ∧ (hd en r).t = m := by
  unfold rx at h
  split at h
  · rename_i x' r' hr
    split at h
    · rename_i hm
      injection h with h
      injection h with h1 h2
      subst h1 h2
      exact ⟨hr, hm⟩
    · cases h
  · cases h
  · cases h
theorem rx_of {m : List UInt8} {ts : List Tk} {x : Ex} {r : List Tk} {f : Nat} (h : row nb en f 1 0 ts = some (.ok (x, r))) (hm : (hd en r).t = m) : rx nb en m ts = .ok (x, r) := by
  unfold rx
  cases hh : row nb en (10 * ts.length + 10) 1 0 ts with
  | none => exact absurd hh ((some_all _).1 1 0 ts (by omega) (by omega))
  | some q =>
    have := row_one hh h
    subst this
    dsimp only
    rw [if_pos hm]
/-- A word that must stand there. -/
theorem hd_sp {m : List UInt8} (hm : Sp m) {ts ts' us : List Tk} (hS : RF ρ ts ts') (h : (hd en ts).t = m) : ∃ t t' r r', ts = t :: r ∧ ts' = t' :: r' ∧ t'.t = m ∧ RF ρ r r' ∧ (hd en' (ts' ++ us)).t = m ∧ (ts' ++ us).tail = r' ++ us := by
  cases hS with
  | nil => exact absurd h.symm (by intro e; exact hm.1 (by rw [e]; rfl))
  | @cons t t' r r' ht hS =>
    have e : t'.t = m := by rw [ht.1]; exact (ht.2.sp hm).2 h
    exact ⟨t, t', r, r', rfl, rfl, e, hS, e, rfl⟩
theorem hd_not {m : List UInt8} (hm : Sp m) {ts ts' us : List Tk} (hS : RF ρ ts ts') (h0 : ts ≠ []) (h : ¬ (hd en ts).t = m) : ¬ (hd en' (ts' ++ us)).t = m := by
  cases hS with
  | nil => exact absurd rfl h0
  | @cons t t' r r' ht hS =>
    intro e
    have e' : t'.t = m := e
    rw [ht.1] at e'
    exact h ((ht.2.sp hm).1 e')
theorem rx_ren {m : List UInt8} (hm : Sp m) (us : List Tk) {ts ts' r : List Tk} {x : Ex} (hS : RF ρ ts ts') (h : rx nb en m ts = .ok (x, r)) : ∃ x' r', rx nb en' m (ts' ++ us) = .ok (x', r' ++ us) ∧ Rx ρ x x' ∧ RF ρ r r' := by
  obtain ⟨h1, h2⟩ := rx_is h
  have hr : r ≠ [] := by intro e; rw [e] at h2; exact hm.1 h2.symm
  obtain ⟨x', r', g1, g2, g3⟩ := (row_ren (en' := en') us _).1 _ _ _ _ _ _ (by omega) hS h1 (Or.inl hr)
  obtain ⟨_, _, _, _, _, _, _, _, e, _⟩ := hd_sp (en' := en') (us := us) hm g3 h2
  exact ⟨x', r', rx_of g1 e, g2, g3⟩
theorem want_ren {m : List UInt8} (hm : Sp m) (us : List Tk) {ts ts' r : List Tk} (hS : RF ρ ts ts') (h : want en m ts = .ok r) : ∃ r', want en' m (ts' ++ us) = .ok (r' ++ us) ∧ RF ρ r r' := by
  unfold want at h
  split at h
  · rename_i h1
    injection h with h
    obtain ⟨t, t', r0, r', e1, e2, e3, e4, e5, e6⟩ := hd_sp (en' := en') (us := us) hm hS h1
    subst e1
    have : r = r0 := h.symm
    subst this
    exact ⟨r', by unfold want; rw [if_pos e5, e6], e4⟩
  · cases h
theorem name_ren (us : List Tk) {ts ts' r : List Tk} {t : List UInt8} (hS : RF ρ ts ts') (h : name en ts = .ok (t, r)) : ∃ r', name en' (ts' ++ us) = .ok (ρ t, r' ++ us) ∧ RF ρ r r' := by
  unfold name at h
  split at h
  · cases h
  · rename_i h1
    split at h
    · cases h
    · rename_i h2
      injection h with h
      injection h with h3 h4
      cases hS with
      | nil => exact absurd (Or.inr (by show isN [] = false; decide)) h1
      | @cons u u' r0 r0' hu hS =>
        have e1 : (hd en (u :: r0)).t = u.t := rfl
        rw [e1] at h1 h2 h3
        subst h3
        have : r = r0 := h4.symm
        subst this
        have n1 : isN u.t = true := by
          cases hn : isN u.t with
          | true => rfl
          | false => exact absurd (Or.inr hn) h1
        have n2 : resv u.t = false := by
          cases hr : resv u.t with
          | false => rfl
          | true => exact absurd (Or.inl hr) h1
        obtain ⟨k1, k2, k3⟩ := hu.2.2 n1 n2
        refine ⟨r0', ?_, hS⟩
        unfold name
        rw [show (hd en' ((u' :: r0') ++ us)).t = ρ u.t from hu.1, if_neg (by rw [k1, k2]; simp), if_neg (by have := k3 (by omega); omega)]
        rfl
  done
theorem many_ren (us : List Tk) {ts ts' r : List Tk} {x : Ex} (hS : RF ρ ts ts') (h : many nb en ts = .ok (x, r)) : ∃ x' r', many nb en' (ts' ++ us) = .ok (x', r' ++ us) ∧ Rx ρ x x' ∧ RF ρ r r' := by
  unfold many at h
  split at h
  · cases h
  · rename_i r1 h1
    split at h
    · cases h
    · rename_i x1 r2 h2
      injection h with h
      injection h with h3 h4
      subst h3 h4
      obtain ⟨r1', k1, k2⟩ := want_ren (en' := en') ⟨by simp, Or.inl (by decide)⟩ us hS h1
      have s93 : Sp [93] := ⟨by simp, Or.inl (by decide)⟩
      obtain ⟨x', r2', k3, k4, k5⟩ := rx_ren (en' := en') s93 us k2 h2
      obtain ⟨t, t', r0, r0', e1, e2, e3, e4, e5, e6⟩ := hd_sp (en' := en') (us := us) s93 k5 (rx_is h2).2
      refine ⟨x', r0', ?_, k4, by rw [e1]; exact e4⟩
      unfold many
      rw [k1]
      dsimp only
      rw [k3]
      dsimp only
      rw [e6]
theorem ruleOf_w {t : List UInt8} (h : ruleOf t ≠ 0) : resv t = true := by
  unfold ruleOf at h
  split at h
  · rename_i e; rw [e]; decide
  · split at h
    · rename_i e; rw [e]; decide
    · split at h
      · rename_i e; rw [e]; decide
      · exact absurd rfl h
theorem rule_ren (h0 : ρ [] = []) (us : List Tk) {ts ts' r : List Tk} {d d' e : D} (hd' : RD ρ d d') (hS : RF ρ ts ts') (h : rule en d ts = .ok (e, r)) : ∃ e' r', rule en' d' (ts' ++ us) = .ok (e', r' ++ us) ∧ RD ρ e e' ∧ RF ρ r r' := by
  unfold rule at h
  split at h
  · cases h
  · rename_i h1
    have hsp : Sp (hd en ts).t := by
      have := ruleOf_w h1
      refine ⟨?_, Or.inr this⟩
      intro e0; rw [e0] at this; revert this; decide
    obtain ⟨t, t', r0, r0', e1, e2, e3, e4, e5, e6⟩ := hd_sp (en' := en') (us := us) hsp hS rfl
    have et : ts.tail = r0 := by rw [e1]; rfl
    rw [et] at h
    unfold rule
    rw [e5, if_neg h1, e6]
    split at h
    · cases h
    · rename_i a r1 h2
      obtain ⟨r1', k1, k2⟩ := name_ren (en' := en') us e4 h2
      rw [k1]
      dsimp only
      split at h
      · rename_i h3
        rw [if_pos h3]
        split at h
        · rename_i h4
          obtain ⟨_, _, _, _, _, _, _, _, q, _⟩ := hd_sp (en' := en') (us := us) ⟨by simp, Or.inl (by decide)⟩ k2 h4
          rw [if_pos q]
          injection h with h
          injection h with h5 h6
          subst h5 h6
          exact ⟨_, r1', rfl, ⟨hd'.kd, hd'.nm, hd'.ty, hd'.wd, hd'.od, hd'.sg, hd'.mn, hd'.ct, rfl, rfl, rfl⟩, k2⟩
        · rename_i h4
          split at h
          · cases h
          · rename_i b r2 h5
            have hr1 : r1 ≠ [] := by
              intro e0
              rw [e0] at h5
              have : name en ([] : List Tk) = .error (3, en) := rfl
              rw [this] at h5
              cases h5
            rw [if_neg (hd_not (en := en) ⟨by simp, Or.inl (by decide)⟩ k2 hr1 h4)]
            obtain ⟨r2', k3, k4⟩ := name_ren (en' := en') us k2 h5
            rw [k3]
            injection h with h
            injection h with h6 h7
            subst h6 h7
            exact ⟨_, r2', rfl, ⟨hd'.kd, hd'.nm, hd'.ty, hd'.wd, hd'.od, hd'.sg, hd'.mn, hd'.ct, rfl, rfl, rfl⟩, k4⟩
      · rename_i h3
        rw [if_neg h3]
        injection h with h
        injection h with h5 h6
        subst h5 h6
        exact ⟨_, r1', rfl, ⟨hd'.kd, hd'.nm, hd'.ty, hd'.wd, hd'.od, hd'.sg, hd'.mn, hd'.ct, rfl, rfl, hd'.l1⟩, k2⟩
theorem RD0 (h0 : ρ [] = []) : RD ρ D0 D0 := ⟨rfl, h0.symm, h0.symm, rfl, rfl, rfl, rfl, RO.none, rfl, h0.symm, h0.symm⟩
theorem numOf_resv {t : List UInt8} (h : numOf t ≠ none) : resv t = true := by
  unfold resv
  have : (numOf t).isSome = true := by
    cases hn : numOf t with
    | none => exact absurd hn h
    | some _ => rfl
  rw [this, Bool.or_true]
theorem Gd.num {t : List UInt8} (h : Gd ρ t) : numOf (ρ t) = numOf t := by
  by_cases hr : tm.resv t = true
  · rw [h.1 (Or.inr hr)]
  · have h1 : numOf t = none := by
      cases hn : numOf t with
      | none => rfl
      | some _ => exact absurd (numOf_resv (by rw [hn]; simp)) hr
    have h2 : tm.resv (ρ t) = false := by rw [h.resv.1]; simpa using hr
    rw [h1]
    cases hn : numOf (ρ t) with
    | none => rfl
    | some _ => have := numOf_resv (t := ρ t) (by rw [hn]; simp); rw [h2] at this; cases this
theorem kind_ren (h0 : ρ [] = []) (us : List Tk) {ts ts' r : List Tk} {e : D} (hS : RF ρ ts ts') (h : kind en ts = .ok (e, r)) : ∃ e' r', kind en' (ts' ++ us) = .ok (e', r' ++ us) ∧ RD ρ e e' ∧ RF ρ r r' := by
  unfold kind at h
  have hz := RD0 h0
  cases hS with
  | nil =>
    exfalso
    rw [show numOf (hd en ([] : List Tk)).t = none from (show numOf [] = none by decide)] at h
    dsimp only at h
    rw [show name en ([] : List Tk) = .error (3, en) from rfl] at h
    cases h
  | @cons t t' ts ts' ht hS =>
    rw [show (hd en (t :: ts)).t = t.t from rfl] at h
    unfold kind
    rw [show (hd en' ((t' :: ts') ++ us)).t = t'.t from rfl, ht.1, ht.2.num]
    split at h
    · rename_i w o s hn
      injection h with h
      injection h with h5 h6
      subst h5
      have : r = ts := h6.symm
      subst this
      exact ⟨_, ts', rfl, ⟨rfl, hz.nm, hz.ty, rfl, rfl, rfl, rfl, RO.none, rfl, hz.f1, hz.l1⟩, hS⟩
    · rename_i hn
      split at h
      · cases h
      · rename_i u r1 h2
        obtain ⟨r1', k1, k2⟩ := name_ren (en' := en') us (F2.cons ht hS) h2
        rw [k1]
        injection h with h
        injection h with h5 h6
        subst h5 h6
        exact ⟨_, r1', rfl, ⟨rfl, hz.nm, rfl, rfl, rfl, rfl, rfl, RO.none, rfl, hz.f1, hz.l1⟩, k2⟩
theorem part_ren (h0 : ρ [] = []) (us : List Tk) {ts ts' r : List Tk} {e : D} (hS : RF ρ ts ts') (h : part nb en ts = .ok (e, r)) : ∃ e' r', part nb en' (ts' ++ us) = .ok (e', r' ++ us) ∧ RD ρ e e' ∧ RF ρ r r' := by
  unfold part at h
  split at h
  · cases h
  · rename_i d1 r1 h1
    obtain ⟨d1', r1', k1, g1, s1⟩ := kind_ren (en' := en') h0 us hS h1
    unfold part
    rw [k1]
    dsimp only
    split at h
    · cases h
    · rename_i t r2 h2
      obtain ⟨r2', k2, s2⟩ := name_ren (en' := en') us s1 h2
      rw [k2]
      dsimp only
      split at h
      · cases h
      · rename_i d3 r3 h3
        split at h
        · cases h
        · rename_i r4 h4
          injection h with h
          injection h with h5 h6
          subst h5 h6
          have g2 : RD ρ { d1 with nm := t } { d1' with nm := ρ t } := ⟨g1.kd, rfl, g1.ty, g1.wd, g1.od, g1.sg, g1.mn, g1.ct, g1.ru, g1.f1, g1.l1⟩
          have hr2 : r2 ≠ [] := by
            intro e0
            subst e0
            have : mark nb en { d1 with nm := t } [] = .ok ({ d1 with nm := t }, []) := by
              unfold mark
              rw [if_neg (show ¬ (hd en ([] : List Tk)).t = [91] by show ¬ ([] : List UInt8) = [91]; decide), if_neg (show ¬ ((hd en ([] : List Tk)).t = [61] ∧ _) from fun h => absurd h.1 (by show ¬ ([] : List UInt8) = [61]; decide))]
            rw [this] at h3
            injection h3 with h3
            injection h3 with _ h3
            subst h3
            cases h4
          have hm : ∃ d3' r3', mark nb en' { d1' with nm := ρ t } (r2' ++ us) = .ok (d3', r3' ++ us) ∧ RD ρ d3 d3' ∧ RF ρ r3 r3' := by
            unfold mark at h3 ⊢
            by_cases c1 : (hd en r2).t = [91]
            · rw [if_pos c1] at h3
              obtain ⟨_, _, _, _, _, _, _, _, q, _⟩ := hd_sp (en' := en') (us := us) ⟨by simp, Or.inl (by decide)⟩ s2 c1
              rw [if_pos q]
              split at h3
              · cases h3
              · rename_i x r5 h5
                injection h3 with h3
                injection h3 with h6 h7
                subst h6 h7
                obtain ⟨x', r5', k5, g5, s5⟩ := many_ren (en' := en') us s2 h5
                rw [k5]
                exact ⟨_, r5', rfl, ⟨g2.kd, g2.nm, g2.ty, g2.wd, g2.od, g2.sg, rfl, RO.some g5, g2.ru, g2.f1, g2.l1⟩, s5⟩
            · rw [if_neg c1] at h3
              rw [if_neg (hd_not (en := en) ⟨by simp, Or.inl (by decide)⟩ s2 hr2 c1)]
              by_cases c2 : (hd en r2).t = [61] ∧ d1.kd = 1
              · rw [if_pos c2] at h3
                obtain ⟨u, u', q0, q0', e1, e2, e3, e4, e5, e6⟩ := hd_sp (en' := en') (us := us) ⟨by simp, Or.inl (by decide)⟩ s2 c2.1
                rw [if_pos ⟨e5, by show d1'.kd = 1; rw [g1.kd]; exact c2.2⟩, e6]
                rw [show r2.tail = q0 by rw [e1]; rfl] at h3
                exact rule_ren h0 us g2 e4 h3
              · rw [if_neg c2] at h3
                injection h3 with h3
                injection h3 with h6 h7
                subst h6 h7
                refine ⟨{ d1' with nm := ρ t }, r2', ?_, g2, s2⟩
                by_cases c3 : (hd en r2).t = [61]
                · rw [if_neg (fun hc => c2 ⟨c3, by rw [← g1.kd]; exact hc.2⟩)]
                · rw [if_neg (fun hc => hd_not (en := en) ⟨by simp, Or.inl (by decide)⟩ s2 hr2 c3 hc.1)]
          obtain ⟨d3', r3', k3, g3, s3⟩ := hm
          rw [k3]
          dsimp only
          obtain ⟨r4', k4, s4⟩ := want_ren (en' := en') ⟨by simp, Or.inl (by decide)⟩ us s3 h4
          rw [k4]
          exact ⟨_, r4', rfl, g3, s4⟩
theorem byts_ren (h0 : ρ [] = []) (us : List Tk) {ts ts' r : List Tk} {e : D} (hS : RF ρ ts ts') (h : byts nb en ts = .ok (e, r)) : ∃ e' r', byts nb en' (ts' ++ us) = .ok (e', r' ++ us) ∧ RD ρ e e' ∧ RF ρ r r' := by
  have hz := RD0 h0
  unfold byts at h
  split at h
  · cases h
  · rename_i t r1 h1
    obtain ⟨r1', k1, s1⟩ := name_ren (en' := en') us hS h1
    unfold byts
    rw [k1]
    dsimp only
    split at h
    · cases h
    · rename_i x r2 h2
      obtain ⟨x', r2', k2, g2, s2⟩ := many_ren (en' := en') us s1 h2
      rw [k2]
      dsimp only
      split at h
      · cases h
      · rename_i r3 h3
        obtain ⟨r3', k3, s3⟩ := want_ren (en' := en') ⟨by simp, Or.inl (by decide)⟩ us s2 h3
        rw [k3]
        injection h with h
        injection h with h6 h7
        subst h6 h7
        exact ⟨_, r3', rfl, ⟨rfl, rfl, hz.ty, rfl, rfl, rfl, rfl, RO.some g2, rfl, hz.f1, hz.l1⟩, s3⟩
/-- What stands within. -/
def InR (ρ : List UInt8 → List UInt8) (us : List Tk) (en en' : Nat) (i1 i2 : List Tk → Rs Its) : Prop := ∀ ts ts' l r, RF ρ ts ts' → i1 ts = .ok (l, r) → ∃ l' r', i2 (ts' ++ us) = .ok (l', r' ++ us) ∧ RI ρ l l' ∧ RF ρ r r'
theorem RD.at {d d' : D} (h : RD ρ d d') (a b : Nat) : RD ρ { d with at_ := a } { d' with at_ := b } := ⟨h.kd, h.nm, h.ty, h.wd, h.od, h.sg, h.mn, h.ct, h.ru, h.f1, h.l1⟩
theorem part_ne {ts r : List Tk} {e : D} (h : part nb en ts = .ok (e, r)) : ts ≠ [] := by
  intro e0
  subst e0
  have : part nb en ([] : List Tk) = .error (3, en) := by
    unfold part kind
    rw [show numOf (hd en ([] : List Tk)).t = none from (show numOf [] = none by decide)]
    dsimp only
    rw [show name en ([] : List Tk) = .error (3, en) from rfl]
  rw [this] at h
  cases h
theorem item_ren (h0 : ρ [] = []) (us : List Tk) {i1 i2 : List Tk → Rs Its} (hi : InR ρ us en en' i1 i2) {ts ts' r : List Tk} {e : D × Its} (hS : RF ρ ts ts') (h : item nb en i1 ts = .ok (e, r)) : ∃ e' r', item nb en' i2 (ts' ++ us) = .ok (e', r' ++ us) ∧ RD ρ e.1 e'.1 ∧ RI ρ e.2 e'.2 ∧ RF ρ r r' := by
  have hz := RD0 h0
  have s1 : Sp wWhen := ⟨by decide, Or.inr (by decide)⟩
  have s2 : Sp wBytes := ⟨by decide, Or.inr (by decide)⟩
  unfold item at h
  by_cases c1 : (hd en ts).t = wWhen
  · rw [if_pos c1] at h
    obtain ⟨t, t', q, q', e1, e2, e3, e4, e5, e6⟩ := hd_sp (en' := en') (us := us) s1 hS c1
    rw [show ts.tail = q by rw [e1]; rfl] at h
    unfold item
    rw [if_pos e5, e6]
    split at h
    · cases h
    · rename_i x r1 h1
      obtain ⟨x', r1', k1, g1, f1⟩ := rx_ren (en' := en') ⟨by simp, Or.inl (by decide)⟩ us e4 h1
      rw [k1]
      dsimp only
      split at h
      · cases h
      · rename_i l r2 h2
        obtain ⟨l', r2', k2, g2, f2⟩ := hi _ _ _ _ f1 h2
        rw [k2]
        injection h with h
        injection h with h6 h7
        subst h6 h7
        exact ⟨_, r2', rfl, ⟨rfl, hz.nm, hz.ty, rfl, rfl, rfl, rfl, RO.some g1, rfl, hz.f1, hz.l1⟩, g2, f2⟩
  · rw [if_neg c1] at h
    by_cases c2 : (hd en ts).t = wBytes
    · rw [if_pos c2] at h
      obtain ⟨t, t', q, q', e1, e2, e3, e4, e5, e6⟩ := hd_sp (en' := en') (us := us) s2 hS c2
      rw [show ts.tail = q by rw [e1]; rfl] at h
      unfold item
      rw [if_neg (by rw [e5]; decide), if_pos e5, e6]
      split at h
      · cases h
      · rename_i d r1 h1
        obtain ⟨d', r1', k1, g1, f1⟩ := byts_ren (en' := en') h0 us e4 h1
        rw [k1]
        injection h with h
        injection h with h6 h7
        subst h6 h7
        exact ⟨_, r1', rfl, g1.at _ _, RI.nil, f1⟩
    · rw [if_neg c2] at h
      split at h
      · cases h
      · rename_i d r1 h1
        have hne := part_ne h1
        obtain ⟨d', r1', k1, g1, f1⟩ := part_ren (en' := en') h0 us hS h1
        unfold item
        rw [if_neg (hd_not (en := en) s1 hS hne c1), if_neg (hd_not (en := en) s2 hS hne c2), k1]
        injection h with h
        injection h with h6 h7
        subst h6 h7
        exact ⟨_, r1', rfl, g1.at _ _, RI.nil, f1⟩
theorem loop_ren (h0 : ρ [] = []) (us : List Tk) {i1 i2 : List Tk → Rs Its} (hi : InR ρ us en en' i1 i2) (n : Nat) : InR ρ us en en' (loop nb en i1 n) (loop nb en' i2 n) := by
  have s1 : Sp [125] := ⟨by simp, Or.inl (by decide)⟩
  induction n with
  | zero =>
    intro ts ts' l r hS h
    rw [loop] at h
    split at h
    · rename_i c
      obtain ⟨t, t', q, q', e1, e2, e3, e4, e5, e6⟩ := hd_sp (en' := en') (us := us) s1 hS c
      injection h with h
      injection h with h6 h7
      subst h6
      rw [e1] at h7
      have : r = q := h7.symm
      subst this
      exact ⟨.nil, q', by rw [loop, if_pos e5, e6], RI.nil, e4⟩
    · cases h
  | succ n ih =>
    intro ts ts' l r hS h
    rw [loop] at h
    split at h
    · rename_i c
      obtain ⟨t, t', q, q', e1, e2, e3, e4, e5, e6⟩ := hd_sp (en' := en') (us := us) s1 hS c
      injection h with h
      injection h with h6 h7
      subst h6
      rw [e1] at h7
      have : r = q := h7.symm
      subst this
      exact ⟨.nil, q', by rw [loop, if_pos e5, e6], RI.nil, e4⟩
    · rename_i c
      split at h
      · cases h
      · rename_i d s r1 h1
        split at h
        · cases h
        · rename_i l1 r2 h2
          injection h with h
          injection h with h6 h7
          subst h6 h7
          have hne : ts ≠ [] := by
            intro e0
            subst e0
            unfold item at h1
            rw [if_neg (show ¬ (hd en ([] : List Tk)).t = wWhen by show ¬ ([] : List UInt8) = wWhen; decide), if_neg (show ¬ (hd en ([] : List Tk)).t = wBytes by show ¬ ([] : List UInt8) = wBytes; decide)] at h1
            split at h1
            · cases h1
            · rename_i hp; exact part_ne hp rfl
          obtain ⟨⟨d', s'⟩, r1', k1, g1, g2, f1⟩ := item_ren (en' := en') h0 us hi hS h1
          obtain ⟨l1', r2', k2, g3, f2⟩ := ih _ _ _ _ f1 h2
          refine ⟨.cons d' s' l1', r2', ?_, RI.cons g1 g2 g3, f2⟩
          rw [loop, if_neg (hd_not (en := en) s1 hS hne c), k1]
          dsimp only
          rw [k2]
theorem blk_ren (h0 : ρ [] = []) (us : List Tk) (k : Nat) : InR ρ us en en' (blk nb en k) (blk nb en' k) := by
  have s1 : Sp [123] := ⟨by simp, Or.inl (by decide)⟩
  induction k with
  | zero =>
    intro ts ts' l r hS h
    rw [blk] at h
    split at h <;> cases h
  | succ k ih =>
    intro ts ts' l r hS h
    rw [blk] at h
    split at h
    · rename_i c
      obtain ⟨t, t', q, q', e1, e2, e3, e4, e5, e6⟩ := hd_sp (en' := en') (us := us) s1 hS c
      rw [show ts.tail = q by rw [e1]; rfl] at h
      obtain ⟨l', r', k1, k2, k3⟩ := loop_ren (en' := en') h0 us ih 16 _ _ _ _ e4 h
      exact ⟨l', r', by rw [blk, if_pos e5, e6]; exact k1, k2, k3⟩
    · cases h
/-- Structs, and others behind them. -/
theorem typs_ren (h0 : ρ [] = []) (us : List Tk) (k : Nat) (y : List Ty) (hy : typs nb en' k us = .ok y) (n : Nat) : ∀ (ts ts' : List Tk) (x : List Ty), RF ρ ts ts' → typs nb en n ts = .ok x → ∃ x', typs nb en' (x.length + k) (ts' ++ us) = .ok (x' ++ y) ∧ RT ρ x x' := by
  have s1 : Sp wStruct := ⟨by decide, Or.inr (by decide)⟩
  induction n with
  | zero =>
    intro ts ts' x hS h
    cases hS with
    | nil =>
      have : x = [] := by cases h; rfl
      subst this
      exact ⟨[], by simpa using hy, RT.nil⟩
    | cons ht hS =>
      rw [typs] at h
      split at h <;> cases h
  | succ n ih =>
    intro ts ts' x hS h
    cases hS with
    | nil =>
      have : x = [] := by cases h; rfl
      subst this
      exact ⟨[], by simpa using hy, RT.nil⟩
    | @cons t t' ts ts' ht hS =>
      rw [typs] at h
      split at h
      · rename_i c
        split at h
        · cases h
        · rename_i m r1 h1
          split at h
          · cases h
          · rename_i l r2 h2
            split at h
            · cases h
            · rename_i q h3
              injection h with h
              subst h
              obtain ⟨r1', k1, f1⟩ := name_ren (en' := en') us hS h1
              obtain ⟨l', r2', k2, g2, f2⟩ := blk_ren (en' := en') h0 us 8 _ _ _ _ f1 h2
              obtain ⟨q', k3, g3⟩ := ih _ _ _ f2 h3
              have e1 : t'.t = wStruct := by rw [ht.1]; exact (ht.2.sp s1).2 c
              refine ⟨⟨ρ m, (hd en' (ts' ++ us)).a, l'⟩ :: q', ?_, RT.cons rfl g2 g3⟩
              rw [List.length_cons, show q.length + 1 + k = q.length + k + 1 by omega, List.cons_append, typs, if_pos e1, k1]
              dsimp only
              rw [k2]
              dsimp only
              rw [k3]
              rfl
      · cases h
theorem typs_more {k n : Nat} (hk : k ≤ n) : ∀ {ts : List Tk} {x : List Ty}, typs nb en k ts = .ok x → typs nb en n ts = .ok x := by
  induction k generalizing n with
  | zero =>
    intro ts x h
    cases ts with
    | nil => cases n <;> exact h
    | cons t ts => rw [typs] at h; split at h <;> cases h
  | succ k ih =>
    intro ts x h
    cases ts with
    | nil => cases n <;> exact h
    | cons t ts =>
      cases n with
      | zero => omega
      | succ n =>
        rw [typs] at h ⊢
        split at h
        · rename_i c
          rw [if_pos c]
          split at h
          · cases h
          · rename_i m r1 h1
            split at h
            · cases h
            · rename_i l r2 h2
              split at h
              · cases h
              · rename_i q h3
                rw [ih (by omega) h3]
                exact h
        · cases h
theorem typs_just (n : Nat) : ∀ {ts : List Tk} {x : List Ty}, typs nb en n ts = .ok x → x.length ≤ n ∧ typs nb en x.length ts = .ok x := by
  induction n with
  | zero =>
    intro ts x h
    cases ts with
    | nil => cases h; exact ⟨Nat.le_refl _, rfl⟩
    | cons t ts => rw [typs] at h; split at h <;> cases h
  | succ n ih =>
    intro ts x h
    cases ts with
    | nil => cases h; exact ⟨Nat.zero_le _, rfl⟩
    | cons t ts =>
      rw [typs] at h
      split at h
      · rename_i c
        split at h
        · cases h
        · rename_i m r1 h1
          split at h
          · cases h
          · rename_i l r2 h2
            split at h
            · cases h
            · rename_i q h3
              injection h with h
              subst h
              obtain ⟨g1, g2⟩ := ih h3
              refine ⟨by simp; omega, ?_⟩
              rw [List.length_cons, typs, if_pos c, h1]
              dsimp only
              rw [h2]
              dsimp only
              rw [g2]
      · cases h
end
end Go.Proofs.YtpanodaecjlgaaaGreatDoor.tm
/- Templates: what is wrong with them; in which order rules are done (pure). -/
namespace Go.Proofs.YtpanodaecjlgaaaGreatDoor.tm
set_option linter.unusedVariables false
open lx ex

/-- Where a name stands that isn't seen. -/
def mis (seen : List (List UInt8)) : Ex → Option Nat
  | .num _ _ => none
  | .nam a t => if t ∈ seen then none else some a
  | .bin _ _ l r => match mis seen l with
    | some p => some p
    | none => mis seen r
def misO (seen : List (List UInt8)) : Option Ex → Option Nat
  | none => none
  | some x => mis seen x
def Its.ds : Its → List D
  | .nil => []
  | .cons d _ t => d :: t.ds
theorem Its.ds_len (l : Its) : l.ds.length = l.len := by
  induction l with
  | nil => rfl
  | cons d s t _ ih => show t.ds.length + 1 = t.len + 1; rw [ih]
/-- The item that is called so. -/
def nmd (ds : List D) (t : List UInt8) : Option Nat := ds.findIdx? (fun d => d.nm == t)
/-- The first and the last one on which a rule hangs. -/
def ends (ds : List D) (d : D) : Option Nat × Option Nat := (nmd ds d.f1, if d.ru = 3 then nmd ds d.l1 else nmd ds d.f1)
/-- A rule that is wrong. -/
def ruleW (ds : List D) (i : Nat) (d : D) : Option (Int × Nat) :=
  if d.ru = 0 then none
  else match ends ds d with
    | (some a, some b) =>
      if d.ru = 2 ∧ (ds[a]?.map (·.mn)) ≠ some true then some (13, d.at_)
      else if d.ru = 3 ∧ (d.wd ≠ 4 ∨ d.sg = true) then some (13, d.at_)
      else if b < a then some (10, d.at_)
      else if a ≤ i ∧ i ≤ b then some (6, d.at_)
      else none
    | _ => some (7, d.at_)
def isC (ds : List D) (k : Nat) : Bool := ds[k]?.map (·.ru) == some 3
/-- From one number to another one. -/
def upTo (a b : Nat) : List Nat := (List.range (b + 1)).drop a
/-- The Checks over which a Check's sum is taken. -/
def under (ds : List D) (i : Nat) : List Nat :=
  match ds[i]? with
  | none => []
  | some d => match ends ds d with
    | (some a, some b) => (upTo a b).filter (isC ds)
    | _ => []
/-- Whether one comes to one of them. -/
def bfs (ds : List D) (to : Nat) : Nat → List Nat → List Nat → Option Bool
  | 0, _, _ => none
  | _ + 1, _, [] => some false
  | f + 1, met, j :: r => if j = to then some true else if j ∈ met then bfs ds to f met r else bfs ds to f (j :: met) (r ++ under ds j)
def rnd (ds : List D) (i : Nat) : Bool := (bfs ds i ((ds.length + 1) * (ds.length + 1) + ds.length + 2) [] (under ds i)) == some true
/-- The first wrong one. -/
def firstW (g : Nat → D → Option (Int × Nat)) : Nat → List D → Option (Int × Nat)
  | _, [] => none
  | i, d :: r => match g i d with
    | some e => some e
    | none => firstW g (i + 1) r
def cycW (ds : List D) (i : Nat) (d : D) : Option (Int × Nat) := if d.ru = 3 ∧ rnd ds i = true then some (11, d.at_) else none
def rulesW (ds : List D) : Option (Int × Nat) :=
  match firstW (ruleW ds) 0 ds with
  | some e => some e
  | none => firstW (cycW ds) 0 ds
/-- A part that has a name. -/
def itemW (earl names seen : List (List UInt8)) (d : D) : Option (Int × Nat) :=
  if d.nm ∈ names then some (9, d.at_)
  else if d.kd = 3 ∧ d.ty ∉ earl then some (7, d.at_)
  else (misO seen d.ct).map fun p => (5, p)
/-- Parts, one behind the other: what is called so, behind them. -/
def chkI (earl : List (List UInt8)) : Its → List (List UInt8) → List (List UInt8) → Except (Int × Nat) (List (List UInt8))
  | .nil, names, _ => .ok names
  | .cons d s t, names, seen =>
    if d.kd = 4 then
      match misO seen d.ct with
      | some p => .error (5, p)
      | none => match chkI earl s names seen with
        | .error e => .error e
        | .ok names' => match rulesW s.ds with
          | some e => .error e
          | none => chkI earl t names' seen
    else match itemW earl names seen d with
      | some e => .error e
      | none => chkI earl t (d.nm :: names) (if d.kd = 1 ∧ d.mn = false then d.nm :: seen else seen)
def chkB (earl : List (List UInt8)) (l : Its) (names seen : List (List UInt8)) : Except (Int × Nat) (List (List UInt8)) :=
  match chkI earl l names seen with
  | .error e => .error e
  | .ok names' => match rulesW l.ds with
    | some e => .error e
    | none => .ok names'
/-- Structs. -/
def chkT : List (List UInt8) → List Ty → Option (Int × Nat)
  | _, [] => none
  | earl, t :: r =>
    if t.nm ∈ earl then some (9, t.at_)
    else match chkB earl t.l [] [] with
      | .error e => some e
      | .ok _ => chkT (t.nm :: earl) r
def chk (l : List Ty) : Option (Int × Nat) := chkT [] l
/-- The order of rules. -/
def ready (ds : List D) (checks : List Nat) (i : Nat) : Bool := !((under ds i).any (fun j => checks.contains j))
def ordC (ds : List D) : Nat → List Nat → List Nat
  | 0, _ => []
  | f + 1, checks => match checks.find? (ready ds checks) with
    | none => []
    | some i => i :: ordC ds f (checks.erase i)
def idxs (p : D → Bool) : Nat → List D → List Nat
  | _, [] => []
  | i, d :: r => if p d then i :: idxs p (i + 1) r else idxs p (i + 1) r
def ordr (ds : List D) : List Nat := idxs (fun d => d.ru == 1 || d.ru == 2) 0 ds ++ ordC ds ds.length (idxs (fun d => d.ru == 3) 0 ds)

/- With other names. -/
section
variable {ρ : List UInt8 → List UInt8}
/-- What is told, but for where. -/
def code (o : Option (Int × Nat)) : Option Int := o.map (·.1)
def codeE {α : Type} (o : Except (Int × Nat) α) : Option Int := match o with | .error e => some e.1 | .ok _ => none
/-- Unlike names are unlike. -/
def Inj (ρ : List UInt8 → List UInt8) : Prop := ∀ a b, ρ a = ρ b → a = b
theorem mem_ren (h : Inj ρ) (t : List UInt8) (l : List (List UInt8)) : ρ t ∈ l.map ρ ↔ t ∈ l := by
  constructor
  · intro hm
    obtain ⟨u, h1, h2⟩ := List.mem_map.1 hm
    rw [← h _ _ h2]; exact h1
  · exact List.mem_map_of_mem
theorem mis_ren (h : Inj ρ) (seen : List (List UInt8)) {x y : Ex} (hx : Rx ρ x y) : (mis (seen.map ρ) y).isSome = (mis seen x).isSome := by
  induction hx with
  | num => rfl
  | nam a b t =>
    rw [mis, mis]
    by_cases hm : t ∈ seen
    · rw [if_pos hm, if_pos ((mem_ren h t seen).2 hm)]
    · rw [if_neg hm, if_neg (fun hc => hm ((mem_ren h t seen).1 hc))]; rfl
  | bin a b o l l' r r' hl hr il ir =>
    rw [mis, mis]
    cases e1 : mis seen l with
    | some p =>
      rw [e1] at il
      cases e2 : mis (seen.map ρ) l' with
      | some q => rfl
      | none => rw [e2] at il; cases il
    | none =>
      rw [e1] at il
      cases e2 : mis (seen.map ρ) l' with
      | some q => rw [e2] at il; cases il
      | none => exact ir
theorem misO_ren (h : Inj ρ) (seen : List (List UInt8)) {x y : Option Ex} (hx : RO ρ x y) : (misO (seen.map ρ) y).isSome = (misO seen x).isSome := by
  cases hx with
  | none => rfl
  | some hx => exact mis_ren h seen hx
/-- Parts' data. -/
inductive RL (ρ : List UInt8 → List UInt8) : List D → List D → Prop
  | nil : RL ρ [] []
  | cons {d d' : D} {l l' : List D} : RD ρ d d' → RL ρ l l' → RL ρ (d :: l) (d' :: l')
theorem RI.ds {l l' : Its} (h : RI ρ l l') : RL ρ l.ds l'.ds := by
  induction h with
  | nil => exact RL.nil
  | cons hd _ _ _ ih => exact RL.cons hd ih
theorem RL.len {l l' : List D} (h : RL ρ l l') : l'.length = l.length := by
  induction h with
  | nil => rfl
  | cons _ _ ih => simp [ih]
theorem RL.get {l l' : List D} (h : RL ρ l l') (k : Nat) : (l[k]? = none ∧ l'[k]? = none) ∨ ∃ d d', l[k]? = some d ∧ l'[k]? = some d' ∧ RD ρ d d' := by
  induction h generalizing k with
  | nil => exact Or.inl ⟨by simp, by simp⟩
  | cons hd hl ih =>
    cases k with
    | zero => exact Or.inr ⟨_, _, rfl, rfl, hd⟩
    | succ k => simpa using ih k
theorem nmd_ren (h : Inj ρ) {l l' : List D} (hl : RL ρ l l') (t : List UInt8) : nmd l' (ρ t) = nmd l t := by
  unfold nmd
  induction hl with
  | nil => rfl
  | cons hd _ ih =>
    rename_i d d' l l' _
    rw [List.findIdx?_cons, List.findIdx?_cons, ih]
    have e : (d'.nm == ρ t) = (d.nm == t) := by
      rw [hd.nm, Bool.eq_iff_iff, beq_iff_eq, beq_iff_eq]
      exact ⟨fun e => h _ _ e, fun e => by rw [e]⟩
    rw [e]
theorem ends_ren (h : Inj ρ) {l l' : List D} (hl : RL ρ l l') {d d' : D} (hd : RD ρ d d') : ends l' d' = ends l d := by
  unfold ends
  rw [hd.f1, hd.l1, hd.ru, nmd_ren h hl, nmd_ren h hl]
theorem isC_ren {l l' : List D} (hl : RL ρ l l') (k : Nat) : isC l' k = isC l k := by
  unfold isC
  rcases hl.get k with ⟨h1, h2⟩ | ⟨d, d', h1, h2, hd⟩
  · rw [h1, h2]
  · rw [h1, h2]
    show (some d'.ru == some 3) = (some d.ru == some 3)
    rw [hd.ru]
theorem under_ren (h : Inj ρ) {l l' : List D} (hl : RL ρ l l') (i : Nat) : under l' i = under l i := by
  unfold under
  have e : isC l' = isC l := funext (isC_ren hl)
  rcases hl.get i with ⟨h1, h2⟩ | ⟨d, d', h1, h2, hd⟩
  · rw [h1, h2]
  · rw [h1, h2]
    dsimp only
    rw [ends_ren h hl hd, e]
theorem bfs_ren (h : Inj ρ) {l l' : List D} (hl : RL ρ l l') (to f : Nat) : ∀ met todo, bfs l' to f met todo = bfs l to f met todo := by
  induction f with
  | zero => intro met todo; rfl
  | succ f ih =>
    intro met todo
    cases todo with
    | nil => rfl
    | cons j r =>
      rw [bfs, bfs, under_ren h hl]
      split
      · rfl
      · split
        · exact ih _ _
        · exact ih _ _
theorem rnd_ren (h : Inj ρ) {l l' : List D} (hl : RL ρ l l') (i : Nat) : rnd l' i = rnd l i := by
  unfold rnd
  rw [under_ren h hl, hl.len, bfs_ren h hl]
theorem code_if {c c' : Prop} [Decidable c] [Decidable c'] (hc : c ↔ c') {k : Int} {p q : Nat} {x y : Option (Int × Nat)} (h : code x = code y) : code (if c then some (k, p) else x) = code (if c' then some (k, q) else y) := by
  by_cases h1 : c
  · rw [if_pos h1, if_pos (hc.1 h1)]; rfl
  · rw [if_neg h1, if_neg (fun h2 => h1 (hc.2 h2))]; exact h
theorem ruleW_ren (h : Inj ρ) {l l' : List D} (hl : RL ρ l l') (i : Nat) {d d' : D} (hd : RD ρ d d') : code (ruleW l' i d') = code (ruleW l i d) := by
  unfold ruleW
  rw [hd.ru, ends_ren h hl hd]
  by_cases h0 : d.ru = 0
  · rw [if_pos h0, if_pos h0]
  · rw [if_neg h0, if_neg h0]
    split
    · rename_i a b hab
      have e : (l'[a]?.map (·.mn)) = (l[a]?.map (·.mn)) := by
        rcases hl.get a with ⟨h1, h2⟩ | ⟨x, x', h1, h2, hx⟩
        · rw [h1, h2]
        · rw [h1, h2]
          show some x'.mn = some x.mn
          rw [hx.mn]
      rw [e, hd.wd, hd.sg]
      refine code_if Iff.rfl (code_if Iff.rfl (code_if Iff.rfl (code_if Iff.rfl rfl)))
    · rfl
theorem firstW_ren {g g' : Nat → D → Option (Int × Nat)} (hg : ∀ i d d', RD ρ d d' → code (g' i d') = code (g i d)) {l l' : List D} (hl : RL ρ l l') : ∀ i, code (firstW g' i l') = code (firstW g i l) := by
  induction hl with
  | nil => intro i; rfl
  | cons hd _ ih =>
    rename_i d d' l l' _
    intro i
    have e := hg i _ _ hd
    rw [firstW, firstW]
    cases h1 : g i d with
    | some x =>
      rw [h1] at e
      cases h2 : g' i d' with
      | some y => rw [h2] at e; exact e
      | none => rw [h2] at e; cases e
    | none =>
      rw [h1] at e
      cases h2 : g' i d' with
      | some y => rw [h2] at e; cases e
      | none => exact ih _
theorem code_none {o o' : Option (Int × Nat)} (h : code o' = code o) : (o = none ↔ o' = none) := by
  cases o <;> cases o' <;> simp_all [code]
theorem rulesW_ren (h : Inj ρ) {l l' : List D} (hl : RL ρ l l') : code (rulesW l') = code (rulesW l) := by
  have e1 := firstW_ren (g := ruleW l) (g' := ruleW l') (fun i d d' hd => ruleW_ren h hl i hd) hl 0
  have e2 := firstW_ren (g := cycW l) (g' := cycW l') (fun i d d' hd => by
    unfold cycW
    rw [hd.ru, rnd_ren h hl]
    exact code_if Iff.rfl rfl) hl 0
  unfold rulesW
  cases h1 : firstW (ruleW l) 0 l with
  | some x =>
    rw [h1] at e1
    cases h2 : firstW (ruleW l') 0 l' with
    | some y => rw [h2] at e1; exact e1
    | none => rw [h2] at e1; cases e1
  | none =>
    rw [h1] at e1
    cases h2 : firstW (ruleW l') 0 l' with
    | some y => rw [h2] at e1; cases e1
    | none => exact e2
theorem itemW_ren (h : Inj ρ) (earl names seen : List (List UInt8)) {d d' : D} (hd : RD ρ d d') : code (itemW (earl.map ρ) (names.map ρ) (seen.map ρ) d') = code (itemW earl names seen d) := by
  unfold itemW
  rw [hd.nm, hd.ty, hd.kd]
  refine code_if (mem_ren h _ _) (code_if ?_ ?_)
  · rw [mem_ren h]
  · have := misO_ren h seen hd.ct
    cases h1 : misO seen d.ct <;> cases h2 : misO (seen.map ρ) d'.ct <;> rw [h1, h2] at this <;> first | rfl | cases this
/-- Both are as right. -/
def SameE (a b : Except (Int × Nat) (List (List UInt8))) (ρ : List UInt8 → List UInt8) : Prop :=
  (∃ e e', a = .error e ∧ b = .error e' ∧ e'.1 = e.1) ∨ ∃ n, a = .ok n ∧ b = .ok (n.map ρ)
theorem chkI_ren (h : Inj ρ) (earl : List (List UInt8)) {l l' : Its} (hl : RI ρ l l') : ∀ names seen, SameE (chkI earl l names seen) (chkI (earl.map ρ) l' (names.map ρ) (seen.map ρ)) ρ := by
  induction hl with
  | nil => intro names seen; exact Or.inr ⟨names, rfl, rfl⟩
  | cons hd hs ht is it =>
    rename_i d d' s s' t t'
    intro names seen
    rw [chkI, chkI, hd.kd]
    by_cases h4 : d.kd = 4
    · rw [if_pos h4, if_pos h4]
      have em := misO_ren h seen hd.ct
      cases h1 : misO seen d.ct with
      | some p =>
        rw [h1] at em
        cases h2 : misO (seen.map ρ) d'.ct with
        | some q => exact Or.inl ⟨_, _, rfl, rfl, rfl⟩
        | none => rw [h2] at em; cases em
      | none =>
        rw [h1] at em
        cases h2 : misO (seen.map ρ) d'.ct with
        | some q => rw [h2] at em; cases em
        | none =>
          dsimp only
          rcases is names seen with ⟨e, e', g1, g2, g3⟩ | ⟨n, g1, g2⟩
          · rw [g1, g2]; exact Or.inl ⟨_, _, rfl, rfl, g3⟩
          · rw [g1, g2]
            dsimp only
            have er := rulesW_ren h hs.ds
            cases h3 : rulesW s.ds with
            | some x =>
              rw [h3] at er
              cases h5 : rulesW s'.ds with
              | some y =>
                rw [h5] at er
                simp only [code, Option.map_some, Option.some.injEq] at er
                exact Or.inl ⟨_, _, rfl, rfl, er⟩
              | none => rw [h5] at er; cases er
            | none =>
              rw [h3] at er
              cases h5 : rulesW s'.ds with
              | some y => rw [h5] at er; cases er
              | none => exact it n seen
    · rw [if_neg h4, if_neg h4]
      have ei := itemW_ren h earl names seen hd
      cases h1 : itemW earl names seen d with
      | some x =>
        rw [h1] at ei
        cases h2 : itemW (earl.map ρ) (names.map ρ) (seen.map ρ) d' with
        | some y =>
          rw [h2] at ei
          simp only [code, Option.map_some, Option.some.injEq] at ei
          exact Or.inl ⟨_, _, rfl, rfl, ei⟩
        | none => rw [h2] at ei; cases ei
      | none =>
        rw [h1] at ei
        cases h2 : itemW (earl.map ρ) (names.map ρ) (seen.map ρ) d' with
        | some y => rw [h2] at ei; cases ei
        | none =>
          dsimp only
          have := it (d.nm :: names) (if d.kd = 1 ∧ d.mn = false then d.nm :: seen else seen)
          rw [List.map_cons, ← hd.nm] at this
          have e2 : (if d.kd = 1 ∧ d.mn = false then d.nm :: seen else seen).map ρ = (if d.kd = 1 ∧ d'.mn = false then d'.nm :: seen.map ρ else seen.map ρ) := by
            rw [hd.mn, hd.nm]
            split <;> rfl
          rw [e2] at this
          exact this
theorem chkB_ren (h : Inj ρ) (earl : List (List UInt8)) {l l' : Its} (hl : RI ρ l l') : codeE (chkB (earl.map ρ) l' [] []) = codeE (chkB earl l [] []) := by
  unfold chkB
  have hI := chkI_ren h earl hl [] []
  rw [List.map_nil] at hI
  rcases hI with ⟨e, e', g1, g2, g3⟩ | ⟨n, g1, g2⟩
  · rw [g1, g2]; simp [codeE, g3]
  · rw [g1, g2]
    dsimp only
    have er := rulesW_ren h hl.ds
    cases h3 : rulesW l.ds <;> cases h5 : rulesW l'.ds <;> rw [h3, h5] at er
    · rfl
    · cases er
    · cases er
    · simpa [code, codeE] using er
/-- NAMES ARE BUT NAMES. -/
theorem chkT_ren (h : Inj ρ) {l l' : List Ty} (hl : RT ρ l l') : ∀ earl, code (chkT (earl.map ρ) l') = code (chkT earl l) := by
  induction hl with
  | nil => intro earl; rfl
  | cons hn hi _ ih =>
    rename_i t t' l l' _
    intro earl
    rw [chkT, chkT, hn]
    refine code_if (mem_ren h _ _) ?_
    have eb := chkB_ren h earl hi
    cases h1 : chkB earl t.l [] [] with
    | error e =>
      rw [h1] at eb
      cases h2 : chkB (earl.map ρ) t'.l [] [] with
      | error e' => rw [h2] at eb; simpa [code, codeE] using eb
      | ok _ => rw [h2] at eb; cases eb
    | ok n =>
      rw [h1] at eb
      cases h2 : chkB (earl.map ρ) t'.l [] [] with
      | error e' => rw [h2] at eb; cases eb
      | ok _ => exact ih (t.nm :: earl)
theorem chk_ren (h : Inj ρ) {l l' : List Ty} (hl : RT ρ l l') : code (chk l') = code (chk l) := chkT_ren h hl []
end
/-- WHAT STANDS BEHIND CHANGES NOTHING. -/
theorem chkT_app (l : List Ty) (z : Ty) : ∀ earl, chkT earl (l ++ [z]) = match chkT earl l with
    | some e => some e
    | none => chkT ((l.map (·.nm)).reverse ++ earl) [z] := by
  induction l with
  | nil => intro earl; rfl
  | cons t l ih =>
    intro earl
    rw [List.cons_append, chkT, chkT]
    split
    · rfl
    · split
      · rfl
      · rw [ih]
        simp
end Go.Proofs.YtpanodaecjlgaaaGreatDoor.tm
/- Tokens of a piece of a text, and of two texts; an expression up to a mark (pure). -/
namespace Go.Proofs.YtpanodaecjlgaaaGreatDoor.tm
set_option linter.unusedVariables false
open lx ex

theorem tw_take (p : UInt8 → Bool) (l : List UInt8) (k : Nat) (h : (l.takeWhile p).length ≤ k) : ((l.take k).takeWhile p).length = (l.takeWhile p).length := by
  induction l generalizing k with
  | nil => simp
  | cons c l ih =>
    by_cases hc : p c = true
    · rw [List.takeWhile_cons_of_pos hc] at h ⊢
      cases k with
      | zero => simp at h
      | succ k =>
        rw [List.take_succ_cons, List.takeWhile_cons_of_pos hc, List.length_cons, List.length_cons, ih k (by simpa using h)]
    · rw [List.takeWhile_cons_of_neg hc]
      cases k with
      | zero => simp
      | succ k => rw [List.take_succ_cons, List.takeWhile_cons_of_neg hc]
theorem gap_take (l : List UInt8) (k : Nat) (hk : 0 < k) (h : gap l ≤ k) : gap (l.take k) = gap l := by
  cases l with
  | nil => simp
  | cons c r =>
    cases k with
    | zero => omega
    | succ k =>
      rw [gap_cons] at h ⊢
      rw [List.take_succ_cons, gap_cons]
      split
      · rfl
      · rename_i h1
        rw [if_neg h1] at h
        split
        · rename_i h2
          rw [if_pos h2] at h
          have := tw_take (· != 10) (c :: r) (k + 1) h
          rw [List.take_succ_cons] at this
          exact this
        · rfl
theorem tl_take (l : List UInt8) (k : Nat) (hk : 0 < k) (h : tl l ≤ k) : tl (l.take k) = tl l := by
  unfold tl at h ⊢
  by_cases hw : wl l = 0
  · rw [if_pos hw] at h ⊢
    have hw' : wl (l.take k) = 0 := by
      have := tw_take isW l k (by show wl l ≤ k; omega)
      show ((l.take k).takeWhile isW).length = 0
      rw [this]; exact hw
    rw [if_pos hw']
    cases l with
    | nil => simp
    | cons c r =>
      cases k with
      | zero => omega
      | succ k =>
        rw [mk_cons] at h ⊢
        rw [List.take_succ_cons, mk_cons]
        by_cases h2 : ((c == 61 || c == 33) && r.head? == some 61) = true
        · rw [if_pos h2] at h ⊢
          rw [if_pos]
          cases r with
          | nil => simp at h2
          | cons e r =>
            cases k with
            | zero => omega
            | succ k => simpa using h2
        · rw [if_neg h2, if_neg]
          intro h3
          apply h2
          cases r with
          | nil => simp at h3
          | cons e r =>
            cases k with
            | zero => simp at h3
            | succ k => simpa using h3
  · rw [if_neg hw] at h ⊢
    have := tw_take isW l k h
    have e : wl (l.take k) = wl l := this
    rw [e, if_neg hw]
/-- Where a token begins a text may be cut. -/
theorem lx_cut (n : Nat) : ∀ (l : List UInt8) (a : Nat) (u v : List Tk), l.length ≤ n → lx l a = (u ++ v, none) →
    a ≤ (hd (a + l.length) v).a ∧ (hd (a + l.length) v).a ≤ a + l.length ∧ lx (l.take ((hd (a + l.length) v).a - a)) a = (u, none) ∧ lx (l.drop ((hd (a + l.length) v).a - a)) (hd (a + l.length) v).a = (v, none) := by
  induction n with
  | zero =>
    intro l a u v hl h
    obtain rfl : l = [] := List.eq_nil_of_length_eq_zero (by omega)
    rw [lx_nil] at h
    injection h with h _
    obtain ⟨rfl, rfl⟩ : u = [] ∧ v = [] := by simpa using h.symm
    simp [hd, lx_nil]
  | succ n ih =>
    intro l a u v hl h
    by_cases h0 : l = []
    · subst h0
      exact ih [] a u v (by simp) h
    by_cases hg : 0 < gap l
    · have hgl := gap_le l
      rw [lx_gap _ _ hg] at h
      obtain ⟨k1, k2, k3, k4⟩ := ih (l.drop (gap l)) (a + gap l) u v (by rw [List.length_drop]; omega) h
      have e : a + gap l + (l.drop (gap l)).length = a + l.length := by rw [List.length_drop]; omega
      rw [e] at k1 k2 k3 k4
      generalize (hd (a + l.length) v).a = p at *
      refine ⟨by omega, k2, ?_, ?_⟩
      · have e2 : gap (l.take (p - a)) = gap l := gap_take l (p - a) (by omega) (by omega)
        rw [lx_gap _ _ (by rw [e2]; exact hg), e2, List.drop_take, show p - a - gap l = p - (a + gap l) by omega]
        exact k3
      · rw [List.drop_drop, show gap l + (p - (a + gap l)) = p - a by omega] at k4
        exact k4
    · by_cases ht : 0 < tl l
      · have htl := tl_le l
        have h' := h
        rw [lx_tok _ _ (by omega) ht] at h
        cases u with
        | nil =>
          injection h with h1 h2
          rw [List.nil_append] at h1
          rw [← h1]
          show a ≤ a ∧ a ≤ a + l.length ∧ lx (l.take (a - a)) a = ([], none) ∧ lx (l.drop (a - a)) a = _
          rw [Nat.sub_self, List.take_zero, List.drop_zero, lx_nil]
          refine ⟨Nat.le_refl _, by omega, rfl, ?_⟩
          rw [h', List.nil_append, h1]
        | cons t u =>
          injection h with h1 h2
          rw [List.cons_append] at h1
          injection h1 with h1 h3
          have h4 : lx (l.drop (tl l)) (a + tl l) = (u ++ v, none) := by
            rw [← h3, ← h2]
          obtain ⟨k1, k2, k3, k4⟩ := ih (l.drop (tl l)) (a + tl l) u v (by rw [List.length_drop]; omega) h4
          have e : a + tl l + (l.drop (tl l)).length = a + l.length := by rw [List.length_drop]; omega
          rw [e] at k1 k2 k3 k4
          generalize (hd (a + l.length) v).a = p at *
          refine ⟨by omega, k2, ?_, ?_⟩
          · have e1 : gap (l.take (p - a)) = 0 := by rw [gap_take l (p - a) (by omega) (by omega)]; omega
            have e2 : tl (l.take (p - a)) = tl l := tl_take l (p - a) (by omega) (by omega)
            rw [lx_tok _ _ e1 (by rw [e2]; exact ht), e2, List.drop_take, show p - a - tl l = p - (a + tl l) by omega, k3]
            rw [List.take_take, Nat.min_eq_left (by omega), h1]
          · rw [List.drop_drop, show tl l + (p - (a + tl l)) = p - a by omega] at k4
            exact k4
      · rw [lx_bad _ _ h0 (by omega) (by omega)] at h
        injection h with _ h
        cases h
theorem lx_pad (k : Nat) : ∀ (x : List UInt8) (a : Nat), lx (List.replicate k 32 ++ x) a = lx x (a + k) := by
  induction k with
  | zero => intro x a; rfl
  | succ k ih =>
    intro x a
    rw [List.replicate_succ, List.cons_append, lx_blank _ _ _ (by decide), ih]
    congr 1
    omega
/-- What stands ahead of a mark, blanks ahead of it. -/
theorem lx_seg {l : List UInt8} {pre u v : List Tk} (h : lx l 0 = (pre ++ (u ++ v), none)) :
    (hd l.length (u ++ v)).a ≤ (hd l.length v).a ∧ (hd l.length v).a ≤ l.length ∧ lx (List.replicate (hd l.length (u ++ v)).a 32 ++ (l.drop (hd l.length (u ++ v)).a).take ((hd l.length v).a - (hd l.length (u ++ v)).a)) 0 = (u, none) := by
  obtain ⟨k1, k2, k3, k4⟩ := lx_cut _ l 0 pre (u ++ v) (Nat.le_refl _) h
  rw [Nat.zero_add, Nat.sub_zero] at k4
  rw [Nat.zero_add] at k2
  generalize (hd l.length (u ++ v)).a = q at *
  obtain ⟨j1, j2, j3, j4⟩ := lx_cut _ (l.drop q) q u v (Nat.le_refl _) k4
  have e : q + (l.drop q).length = l.length := by rw [List.length_drop]; omega
  rw [e] at j1 j2 j3 j4
  refine ⟨j1, j2, ?_⟩
  rw [lx_pad, Nat.zero_add]
  exact j3
/-- A text behind a line feed. -/
theorem lx_join (n : Nat) : ∀ (l : List UInt8) (a : Nat) (u : List Tk) (y : List UInt8), l.length ≤ n → lx l a = (u, none) →
    lx (l ++ 10 :: y) a = (u ++ (lx y (a + l.length + 1)).1, (lx y (a + l.length + 1)).2) := by
  induction n with
  | zero =>
    intro l a u y hl h
    obtain rfl : l = [] := List.eq_nil_of_length_eq_zero (by omega)
    rw [lx_nil] at h
    injection h with h _
    subst h
    rw [List.nil_append, lx_blank _ _ _ (by decide)]
    rfl
  | succ n ih =>
    intro l a u y hl h
    by_cases h0 : l = []
    · subst h0
      exact ih [] a u y (by simp) h
    have tw : ∀ (p : UInt8 → Bool), p 10 = false → ((l ++ 10 :: y).takeWhile p).length = (l.takeWhile p).length := by
      intro p hp
      clear h hl h0 ih
      induction l with
      | nil => rw [List.nil_append, List.takeWhile_cons_of_neg (by rw [hp]; decide)]; rfl
      | cons c l ih =>
        by_cases hc : p c = true
        · rw [List.cons_append, List.takeWhile_cons_of_pos hc, List.takeWhile_cons_of_pos hc, List.length_cons, List.length_cons, ih]
        · rw [List.cons_append, List.takeWhile_cons_of_neg hc, List.takeWhile_cons_of_neg hc]
    have eg : gap (l ++ 10 :: y) = gap l := by
      cases l with
      | nil => exact absurd rfl h0
      | cons c r =>
        rw [List.cons_append, gap_cons, gap_cons]
        have : rl (c :: (r ++ 10 :: y)) = rl (c :: r) := tw _ (by decide)
        rw [this]
    have et : tl (l ++ 10 :: y) = tl l := by
      have ew : wl (l ++ 10 :: y) = wl l := tw _ (by decide)
      unfold tl
      rw [ew]
      split
      · cases l with
        | nil => exact absurd rfl h0
        | cons c r =>
          rw [List.cons_append, mk_cons, mk_cons]
          cases r with
          | nil => simp
          | cons e r => simp
      · rfl
    by_cases hg : 0 < gap l
    · have hgl := gap_le l
      rw [lx_gap _ _ hg] at h
      rw [lx_gap _ _ (by rw [eg]; exact hg), eg]
      rw [List.drop_append_of_le_length hgl]
      rw [ih (l.drop (gap l)) (a + gap l) u y (by rw [List.length_drop]; omega) h]
      have e : a + gap l + (l.drop (gap l)).length + 1 = a + l.length + 1 := by rw [List.length_drop]; omega
      rw [e]
    · by_cases ht : 0 < tl l
      · have htl := tl_le l
        rw [lx_tok _ _ (by omega) ht] at h
        rw [lx_tok _ _ (by rw [eg]; omega) (by rw [et]; exact ht), et]
        injection h with h1 h2
        cases u with
        | nil => cases h1
        | cons t u =>
          injection h1 with h1 h3
          rw [List.drop_append_of_le_length htl, List.take_append_of_le_length htl]
          have h4 : lx (l.drop (tl l)) (a + tl l) = (u, none) := by rw [← h3, ← h2]
          rw [ih (l.drop (tl l)) (a + tl l) u y (by rw [List.length_drop]; omega) h4]
          have e : a + tl l + (l.drop (tl l)).length + 1 = a + l.length + 1 := by rw [List.length_drop]; omega
          rw [e, h1]
          rfl
      · rw [lx_bad _ _ h0 (by omega) (by omega)] at h
        injection h with _ h
        cases h
/-- Tokens elsewhere. -/
theorem lx_else (n : Nat) : ∀ (l : List UInt8) (a b : Nat), l.length ≤ n → (lx l a).1.map Tk.t = (lx l b).1.map Tk.t ∧ ((lx l a).2 = none → (lx l b).2 = none) := by
  induction n with
  | zero =>
    intro l a b hl
    obtain rfl : l = [] := List.eq_nil_of_length_eq_zero (by omega)
    exact ⟨rfl, fun h => h⟩
  | succ n ih =>
    intro l a b hl
    by_cases h0 : l = []
    · subst h0; exact ⟨rfl, fun h => h⟩
    by_cases hg : 0 < gap l
    · rw [lx_gap _ _ hg, lx_gap _ _ hg]
      exact ih _ _ _ (by rw [List.length_drop]; omega)
    · by_cases ht : 0 < tl l
      · rw [lx_tok _ _ (by omega) ht, lx_tok _ _ (by omega) ht]
        obtain ⟨h1, h2⟩ := ih (l.drop (tl l)) (a + tl l) (b + tl l) (by rw [List.length_drop]; omega)
        exact ⟨by simp only [List.map_cons, h1], h2⟩
      · rw [lx_bad _ _ h0 (by omega) (by omega), lx_bad _ _ h0 (by omega) (by omega)]
        exact ⟨rfl, fun h => by cases h⟩
theorem gd_id (t : List UInt8) : Gd id t := ⟨fun _ => rfl, fun h1 h2 => ⟨h1, h2, fun h => h⟩⟩
theorem rf_map {ρ : List UInt8 → List UInt8} {ts : List Tk} (hg : ∀ t ∈ ts, Gd ρ t.t) : ∀ {ts' : List Tk}, ts'.map Tk.t = ts.map (fun t => ρ t.t) → RF ρ ts ts' := by
  induction ts with
  | nil =>
    intro ts' h
    obtain rfl : ts' = [] := by simpa using h
    exact F2.nil
  | cons t ts ih =>
    intro ts' h
    cases ts' with
    | nil => simp at h
    | cons t' ts' =>
      simp only [List.map_cons, List.cons.injEq] at h
      exact F2.cons ⟨h.1, hg t (by simp)⟩ (ih (fun t ht => hg t (by simp [ht])) h.2)
theorem rf_id {ts ts' : List Tk} (h : ts'.map Tk.t = ts.map Tk.t) : RF id ts ts' := rf_map (fun _ _ => gd_id _) h
section
variable {nb : List UInt8 → Int × Int} {en : Nat}
/-- A mark that ends an expression. -/
def Em (m : List UInt8) : Prop := m ≠ [] ∧ isN m = false ∧ isU m = false ∧ m ≠ [40] ∧ m ≠ [41] ∧ bd m = 0
theorem em_cb : Em [93] := by unfold Em; decide
theorem em_ob : Em [123] := by unfold Em; decide
/-- Reading ahead of the mark, and with it. -/
def ext (v : List Tk) : Res → Res
  | .ok (x, r) => .ok (x, r ++ v)
  | .error e => .error e
theorem row_upto {m : List UInt8} (hm : Em m) (v : List Tk) (hv : v = [] ∨ (hd en v).t = m) (f : Nat) :
    (∀ k d u q, 1 ≤ k → row nb (hd en v).a f k d u = some q → row nb en f k d (u ++ v) = some (ext v q)) ∧
    (∀ k d y u q, 1 ≤ k → lp nb (hd en v).a f k d y u = some q → lp nb en f k d y (u ++ v) = some (ext v q)) ∧
    (∀ d u q, one nb (hd en v).a f d u = some q → one nb en f d (u ++ v) = some (ext v q)) := by
  obtain ⟨m0, m1, m2, m3, m4, m5⟩ := hm
  obtain ⟨p, hp⟩ : ∃ p, p = (hd en v).a := ⟨_, rfl⟩
  rw [← hp]
  induction f with
  | zero => exact ⟨fun _ _ _ _ _ h => by simp [row] at h, fun _ _ _ _ _ _ h => by simp [lp] at h, fun _ _ _ h => by simp [one] at h⟩
  | succ f ih =>
    obtain ⟨i1, i2, i3⟩ := ih
    refine ⟨?_, ?_, ?_⟩
    · intro k d u q h0 h
      by_cases hk : 3 < k
      · rw [row_top _ _ _ _ hk] at h
        rw [row_top _ _ _ _ hk]
        exact i3 _ _ _ h
      · rw [row_low _ _ _ _ hk] at h
        rw [row_low _ _ _ _ hk]
        split at h
        · cases h
        · rename_i e hr
          injection h with h
          rw [i1 _ _ _ _ (by omega) hr, ← h]
          rfl
        · rename_i x r hr
          rw [i1 _ _ _ _ (by omega) hr]
          exact i2 _ _ _ _ _ h0 h
    · intro k d y u q h0 h
      cases u with
      | nil =>
        rw [lp] at h
        injection h with h
        subst h
        rw [List.nil_append]
        cases v with
        | nil => rw [lp]; rfl
        | cons t v =>
          have : t.t = m := by
            rcases hv with h | h
            · cases h
            · exact h
          rw [lp, if_neg (by rw [this, m5]; omega)]
          rfl
      | cons t u =>
        rw [lp] at h
        rw [List.cons_append, lp]
        split at h
        · rename_i hb
          rw [if_pos hb]
          split at h
          · cases h
          · rename_i e hr
            injection h with h
            rw [i1 _ _ _ _ (by omega) hr, ← h]
            rfl
          · rename_i x r hr
            rw [i1 _ _ _ _ (by omega) hr]
            exact i2 _ _ _ _ _ h0 h
        · rename_i hb
          rw [if_neg hb]
          injection h with h
          subst h
          rfl
    · intro d u q h
      cases u with
      | nil =>
        rw [one] at h
        injection h with h
        subst h
        rw [List.nil_append]
        cases v with
        | nil => rw [one, hp]; rfl
        | cons t v =>
          have : t.t = m := by
            rcases hv with h | h
            · cases h
            · exact h
          rw [one, if_neg (by rw [this, m1]; decide), if_neg (by rw [this, m2]; decide), if_neg (by rw [this]; exact m3), hp]
          rfl
      | cons t u =>
        rw [one] at h
        rw [List.cons_append, one]
        split at h
        · rename_i c1
          rw [if_pos c1]
          split at h
          · rename_i c2
            rw [if_pos c2]
            injection h with h
            rw [← h]; rfl
          · rename_i c2
            rw [if_neg c2]
            injection h with h
            rw [← h]; rfl
        · rename_i c1
          rw [if_neg c1]
          split at h
          · rename_i c2
            rw [if_pos c2]
            split at h
            · rename_i c3
              rw [if_pos c3]
              injection h with h
              rw [← h]; rfl
            · rename_i c3
              rw [if_neg c3]
              injection h with h
              rw [← h]; rfl
          · rename_i c2
            rw [if_neg c2]
            split at h
            · rename_i c3
              rw [if_pos c3]
              split at h
              · rename_i c4
                rw [if_pos c4]
                injection h with h
                rw [← h]; rfl
              · rename_i c4
                rw [if_neg c4]
                split at h
                · cases h
                · rename_i e hr
                  injection h with h
                  rw [i1 _ _ _ _ (by omega) hr, ← h]; rfl
                · rename_i x r hr
                  rw [i1 _ _ _ _ (by omega) hr]
                  dsimp only [ext]
                  cases r with
                  | nil =>
                    rw [if_neg (show ¬ (hd p ([] : List Tk)).t = [41] by show ¬ ([] : List UInt8) = [41]; decide)] at h
                    injection h with h
                    rw [List.nil_append, ← h]
                    have e1 : ¬ (hd en v).t = [41] := by
                      rcases hv with h | h
                      · rw [h]; show ¬ ([] : List UInt8) = [41]; decide
                      · rw [h]; exact m4
                    rw [if_neg e1, ← hp]
                    rfl
                  | cons t' r =>
                    rw [show hd p (t' :: r) = t' from rfl] at h
                    rw [List.cons_append, show hd en (t' :: (r ++ v)) = t' from rfl]
                    split at h
                    · rename_i c5
                      rw [if_pos c5]
                      injection h with h
                      rw [← h]; rfl
                    · rename_i c5
                      rw [if_neg c5]
                      injection h with h
                      rw [← h]
            · rename_i c3
              rw [if_neg c3]
              injection h with h
              rw [← h]; rfl
/-- Up to a mark, and from it on. -/
def upto (m : List UInt8) (ts : List Tk) : List Tk := ts.takeWhile (fun t => t.t != m)
def from_ (m : List UInt8) (ts : List Tk) : List Tk := ts.dropWhile (fun t => t.t != m)
theorem upto_from (m : List UInt8) (ts : List Tk) : upto m ts ++ from_ m ts = ts := List.takeWhile_append_dropWhile
theorem from_hd (m : List UInt8) (ts : List Tk) : from_ m ts = [] ∨ (hd en (from_ m ts)).t = m := by
  unfold from_
  induction ts with
  | nil => exact Or.inl rfl
  | cons t ts ih =>
    by_cases h : (t.t != m) = true
    · rw [List.dropWhile_cons_of_pos (p := fun t : Tk => t.t != m) h]; exact ih
    · rw [List.dropWhile_cons_of_neg (p := fun t : Tk => t.t != m) h]
      right
      show t.t = m
      simpa using h
theorem upto_not {m : List UInt8} {ts : List Tk} {t : Tk} (h : t ∈ upto m ts) : t.t ≠ m := by
  unfold upto at h
  induction ts with
  | nil => simp at h
  | cons u ts ih =>
    by_cases hu : (u.t != m) = true
    · rw [List.takeWhile_cons_of_pos (p := fun t : Tk => t.t != m) hu, List.mem_cons] at h
      rcases h with rfl | h
      · simpa using hu
      · exact ih h
    · rw [List.takeWhile_cons_of_neg (p := fun t : Tk => t.t != m) hu] at h
      simp at h
/-- What reading ahead of the mark comes to. -/
def rxq (en : Nat) (v : List Tk) : Res → Rs Ex
  | .ok (x, []) => if v = [] then .error (3, en) else .ok (x, v)
  | .ok (_, t :: _) => .error (3, t.a)
  | .error e => .error e
/-- What a piece's reading tells of the whole's. -/
theorem rx_upto {m : List UInt8} (hm : Em m) {ts : List Tk} {q : Res} {f : Nat} (h : row nb (hd en (from_ m ts)).a f 1 0 (upto m ts) = some q) (hmem : ∀ x r, q = .ok (x, r) → ∀ t ∈ r, t ∈ upto m ts) :
    rx nb en m ts = rxq en (from_ m ts) q := by
  have hv := from_hd (en := en) m ts
  have h1 := (row_upto hm (from_ m ts) hv f).1 _ _ _ _ (Nat.le_refl _) h
  rw [upto_from] at h1
  unfold rx
  cases hh : row nb en (10 * ts.length + 10) 1 0 ts with
  | none => exact absurd hh ((some_all _).1 1 0 ts (by omega) (by omega))
  | some q' =>
    have := row_one hh h1
    subst this
    cases q with
    | error e => rfl
    | ok xr =>
      obtain ⟨x, r⟩ := xr
      cases r with
      | nil =>
        dsimp only [ext, List.nil_append, rxq]
        rcases hv with h | h
        · rw [h, if_pos rfl, if_neg (show ¬ (hd en ([] : List Tk)).t = m from fun e => hm.1 e.symm)]
          rfl
        · rw [if_pos h, if_neg]
          intro e
          rw [e] at h
          exact hm.1 h.symm
      | cons t r =>
        dsimp only [ext, List.cons_append, rxq]
        rw [show hd en (t :: (r ++ from_ m ts)) = t from rfl, if_neg (upto_not (hmem x _ rfl t (by simp)))]
end
end Go.Proofs.YtpanodaecjlgaaaGreatDoor.tm
/- Templates, written (pure). -/
namespace Go.Proofs.YtpanodaecjlgaaaGreatDoor.tm
set_option linter.unusedVariables false
open lx ex

/-- The word that an item begins with. -/
def kw (d : D) : List UInt8 := if d.kd = 2 then wBytes else if d.kd = 3 then d.ty else ((numW.find? (fun p => p.2.1 == d.wd && p.2.2.1 == d.od && p.2.2.2 == d.sg)).map (·.1)).getD []
def rw_ (r : Nat) : List UInt8 := if r = 1 then wSize else if r = 2 then wCount else wCheck
def txO : Option Ex → List UInt8
  | none => []
  | some x => txt x
/-- An item that has no others, as text. -/
def ruT (d : D) : List UInt8 := if d.ru = 0 ∨ 4 ≤ d.ru then [] else [32, 61, 32] ++ rw_ d.ru ++ [32] ++ d.f1 ++ (if d.ru = 3 ∧ d.l1 ≠ d.f1 then [32] ++ d.l1 else [])
def mnT (d : D) : List UInt8 := if d.mn = true ∨ d.kd = 2 then [91] ++ txO d.ct ++ [93] else []
def paT (d : D) : List UInt8 := kw d ++ [32] ++ d.nm ++ mnT d ++ ruT d
/-- Items as text. -/
def itx (pad : List UInt8) : Its → List UInt8
  | .nil => []
  | .cons d s t => pad ++ [32, 32] ++ (if d.kd = 4 then wWhen ++ [32] ++ txO d.ct ++ [32, 123, 10] ++ itx (pad ++ [32, 32]) s ++ pad ++ [32, 32, 125, 10] else paT d ++ [59, 10]) ++ itx pad t
def tyx (t : Ty) : List UInt8 := wStruct ++ [32] ++ t.nm ++ [32, 123, 10] ++ itx [] t.l ++ [125, 10]
def ptxt (l : List Ty) : List UInt8 := l.flatMap tyx
/-- The tokens of what is written. -/
def tkO : Option Ex → List (List UInt8)
  | none => []
  | some x => tk Lib.itoa x
def mnK (d : D) : List (List UInt8) := if d.mn = true ∨ d.kd = 2 then [91] :: tkO d.ct ++ [[93]] else []
def ruK (d : D) : List (List UInt8) := if d.ru = 0 ∨ 4 ≤ d.ru then [] else [61] :: rw_ d.ru :: d.f1 :: (if d.ru = 3 ∧ d.l1 ≠ d.f1 then [d.l1] else [])
def tkD (d : D) : List (List UInt8) := kw d :: d.nm :: (mnK d ++ ruK d ++ [[59]])
def tkI : Its → List (List UInt8)
  | .nil => []
  | .cons d s t => (if d.kd = 4 then wWhen :: tkO d.ct ++ [123] :: tkI s ++ [[125]] else tkD d) ++ tkI t
def tkT (t : Ty) : List (List UInt8) := wStruct :: t.nm :: [123] :: tkI t.l ++ [[125]]
/-- An expression that reading tells. -/
def WX (x : Ex) : Prop := Wf (nb := nb) Lib.itoa x ∧ Nw x ∧ dp x ≤ 8
/-- A name. -/
def NM (t : List UInt8) : Prop := resv t = false ∧ isN t = true ∧ t.length ≤ 12 ∧ (∀ c ∈ t, isW c = true)
/-- What a number hangs on. -/
def WR (d : D) : Prop := (d.ru = 0 ∧ d.f1 = [] ∧ d.l1 = []) ∨ ((d.ru = 1 ∨ d.ru = 2) ∧ NM d.f1 ∧ d.l1 = []) ∨ (d.ru = 3 ∧ NM d.f1 ∧ NM d.l1)
/-- An item that reading tells. -/
def WD (d : D) : Prop :=
  (d.kd = 4 ∧ (∃ x, d.ct = some x ∧ WX x) ∧ d.nm = [] ∧ d.mn = false ∧ d.ru = 0 ∧ d.ty = [] ∧ d.f1 = [] ∧ d.l1 = [] ∧ d.wd = 0 ∧ d.od = 0 ∧ d.sg = false) ∨
  (d.kd = 2 ∧ NM d.nm ∧ (∃ x, d.ct = some x ∧ WX x) ∧ d.mn = false ∧ d.ru = 0 ∧ d.ty = [] ∧ d.wd = 0 ∧ d.od = 0 ∧ d.sg = false ∧ d.f1 = [] ∧ d.l1 = []) ∨
  (d.kd = 3 ∧ NM d.ty ∧ NM d.nm ∧ d.wd = 0 ∧ d.od = 0 ∧ d.sg = false ∧ d.ru = 0 ∧ d.f1 = [] ∧ d.l1 = [] ∧ ((d.mn = true ∧ ∃ x, d.ct = some x ∧ WX x) ∨ (d.mn = false ∧ d.ct = none))) ∨
  (d.kd = 1 ∧ d.ty = [] ∧ (∃ t, numOf t = some (d.wd, d.od, d.sg)) ∧ NM d.nm ∧ ((d.mn = true ∧ (∃ x, d.ct = some x ∧ WX x) ∧ d.ru = 0 ∧ d.f1 = [] ∧ d.l1 = []) ∨ (d.mn = false ∧ d.ct = none ∧ WR d)))
def noSub : Its → Bool
  | .nil => true
  | .cons _ _ _ => false
/-- Items that reading tells, so many brackets deep. -/
def WI : Nat → Its → Prop
  | _, .nil => True
  | k, .cons d s t => WD d ∧ (d.kd ≠ 4 → noSub s = true) ∧ (d.kd = 4 → 0 < k ∧ s.len ≤ 16 ∧ WI (k - 1) s) ∧ WI k t
def WT (l : List Ty) : Prop := l.length ≤ 8 ∧ ∀ t ∈ l, NM t.nm ∧ t.l.len ≤ 16 ∧ WI 7 t.l
end Go.Proofs.YtpanodaecjlgaaaGreatDoor.tm
