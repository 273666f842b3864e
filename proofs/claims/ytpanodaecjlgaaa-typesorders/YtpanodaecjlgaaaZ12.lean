/- Texts laid together: TmX, TmY, TmZ, TmV. -/
import Derived.Test.YtpanodaecjlgaaaZ11
/- Templates, written: their tokens (pure). -/
namespace Go.Proofs.Ytpanodaecjlgaaa.tm
set_option linter.unusedVariables false
open lx ex

/-- The tokens of a text, whatever stands behind it. -/
def CutF (t : List UInt8) (l : List (List UInt8)) : Prop := ∀ (y : List UInt8) (a : Nat), ∃ us : List Tk, us.map Tk.t = l ∧ lx (t ++ y) a = (us ++ (lx y (a + t.length)).1, (lx y (a + t.length)).2)
theorem CutF.cut {t : List UInt8} {l : List (List UInt8)} (h : CutF t l) : Cut t l := fun y a _ => h y a
theorem CutF.nil : CutF [] [] := fun y a => ⟨[], rfl, by simp⟩
theorem CutF.app {t u : List UInt8} {l m : List (List UInt8)} (h : CutF t l) (k : CutF u m) : CutF (t ++ u) (l ++ m) := by
  intro y a
  obtain ⟨us, h1, h2⟩ := h (u ++ y) a
  obtain ⟨vs, k1, k2⟩ := k y (a + t.length)
  refine ⟨us ++ vs, by simp [h1, k1], ?_⟩
  rw [List.append_assoc, h2, k2, List.length_append, Nat.add_assoc]
  simp
theorem CutF.then {t u : List UInt8} {l m : List (List UInt8)} (h : CutF t l) (k : Cut u m) : Cut (t ++ u) (l ++ m) := by
  intro y a hy
  obtain ⟨us, h1, h2⟩ := h (u ++ y) a
  obtain ⟨vs, k1, k2⟩ := k y (a + t.length) hy
  refine ⟨us ++ vs, by simp [h1, k1], ?_⟩
  rw [List.append_assoc, h2, k2, List.length_append, Nat.add_assoc]
  simp
end Go.Proofs.Ytpanodaecjlgaaa.tm
namespace Go.Proofs.Ytpanodaecjlgaaa.ex
open lx tm
theorem Cut.thenF {t : List UInt8} {c : UInt8} {u : List UInt8} {l m : List (List UInt8)} (h : Cut t l) (hc : isW c = false) (k : tm.CutF (c :: u) m) : tm.CutF (t ++ (c :: u)) (l ++ m) := by
  intro y a
  obtain ⟨us, h1, h2⟩ := h ((c :: u) ++ y) a (fun d hd => by simp at hd; rw [← hd]; exact hc)
  obtain ⟨vs, k1, k2⟩ := k y (a + t.length)
  refine ⟨us ++ vs, by simp [h1, k1], ?_⟩
  rw [List.append_assoc, h2, k2, List.length_append, Nat.add_assoc]
  simp
theorem Cut.then {t : List UInt8} {c : UInt8} {u : List UInt8} {l m : List (List UInt8)} (h : Cut t l) (hc : isW c = false) (k : Cut (c :: u) m) : Cut (t ++ (c :: u)) (l ++ m) := by
  intro y a hy
  obtain ⟨us, h1, h2⟩ := h ((c :: u) ++ y) a (fun d hd => by simp at hd; rw [← hd]; exact hc)
  obtain ⟨vs, k1, k2⟩ := k y (a + t.length) hy
  refine ⟨us ++ vs, by simp [h1, k1], ?_⟩
  rw [List.append_assoc, h2, k2, List.length_append, Nat.add_assoc]
  simp
end Go.Proofs.Ytpanodaecjlgaaa.ex
namespace Go.Proofs.Ytpanodaecjlgaaa.tm
open lx ex
theorem cutF_blank (c : UInt8) (h : isB c = true) : CutF [c] [] := fun y a => ⟨[], rfl, by rw [List.singleton_append, lx_blank _ _ _ h]; simp⟩
theorem cutF_mark (c : UInt8) (h : isM c = true) (hw : isW c = false) (h61 : c ≠ 61) : CutF [c] [[c]] := fun y a => by
  refine ⟨[⟨[c], a⟩], rfl, ?_⟩
  rw [lx_app [c] y a (Or.inr (Or.inl ⟨c, rfl, h⟩)) (fun hx => by have := hx c (by simp); rw [hw] at this; cases this) (fun e => by simp at e; exact absurd e h61)]
  simp
theorem cut_nm {t : List UInt8} (h : NM t) : Cut t [t] := by
  obtain ⟨_, h2, _, h4⟩ := h
  refine cut_word h4 ?_
  intro e
  rw [e] at h2
  revert h2; decide
theorem kw_word (d : D) (h : WD d) (h4 : d.kd ≠ 4) : (∀ c ∈ kw d, isW c = true) ∧ kw d ≠ [] := by
  have key : ∀ p ∈ numW, (∀ c ∈ p.1, isW c = true) ∧ p.1 ≠ [] := by decide
  unfold kw
  rcases h with h | h | h | h
  · exact absurd h.1 h4
  · rw [if_pos h.1]
    exact ⟨by decide, by decide⟩
  · rw [if_neg (by rw [h.1]; decide), if_pos h.1]
    obtain ⟨_, h2, _, h5⟩ := h.2.1
    exact ⟨h5, fun e => by rw [e] at h2; revert h2; decide⟩
  · rw [if_neg (by rw [h.1]; decide), if_neg (by rw [h.1]; decide)]
    obtain ⟨t, ht⟩ := h.2.2.1
    unfold numOf at ht
    cases hf : numW.find? (fun p => p.1 == t) with
    | none => rw [hf] at ht; cases ht
    | some p =>
      rw [hf] at ht
      injection ht with ht
      have hp := List.mem_of_find?_eq_some hf
      cases hg : numW.find? (fun p => p.2.1 == d.wd && p.2.2.1 == d.od && p.2.2.2 == d.sg) with
      | none =>
        rw [List.find?_eq_none] at hg
        have := hg p hp
        have ht' : p.2 = (d.wd, d.od, d.sg) := ht
        rw [ht'] at this
        simp at this
      | some q => exact key q (List.mem_of_find?_eq_some hg)
theorem cut_kw (d : D) (h : WD d) (h4 : d.kd ≠ 4) : Cut (kw d) [kw d] := by
  obtain ⟨h1, h2⟩ := kw_word d h h4
  exact cut_word h1 h2
theorem cut_wx {x : Ex} (h : WX x) : Cut (txt x) (tk Lib.itoa x) := cut_txt h.2.1 h.1.okb
theorem cut_rw (r : Nat) : Cut (rw_ r) [rw_ r] := by
  unfold rw_
  split
  · exact cut_word (by decide) (by decide)
  · split
    · exact cut_word (by decide) (by decide)
    · exact cut_word (by decide) (by decide)
theorem mn_some {d : D} (h : WD d) (h4 : d.kd ≠ 4) (hm : d.mn = true ∨ d.kd = 2) : ∃ x, d.ct = some x ∧ WX x := by
  rcases h with h | h | h | h
  · exact absurd h.1 h4
  · exact h.2.2.1
  · rcases h.2.2.2.2.2.2.2.2.2 with h' | h'
    · exact h'.2
    · exfalso
      rcases hm with hm | hm
      · rw [h'.1] at hm; cases hm
      · rw [h.1] at hm; cases hm
  · rcases h.2.2.2.2 with h' | h'
    · exact h'.2.1
    · exfalso
      rcases hm with hm | hm
      · rw [h'.1] at hm; cases hm
      · rw [h.1] at hm; cases hm
theorem ru_wr {d : D} (h : WD d) (hr : d.ru ≠ 0) : WR d ∧ d.kd = 1 ∧ d.mn = false ∧ d.ct = none := by
  rcases h with h | h | h | h
  · exact absurd h.2.2.2.2.1 hr
  · exact absurd h.2.2.2.2.1 hr
  · exact absurd h.2.2.2.2.2.2.1 hr
  · rcases h.2.2.2.2 with h' | h'
    · exact absurd h'.2.2.1 hr
    · exact ⟨h'.2.2, h.1, h'.1, h'.2.1⟩
/-- What stands behind the name: how many, and the mark at the end. -/
theorem cut_tail (d : D) (h : WD d) (h4 : d.kd ≠ 4) : ∃ c u, mnT d ++ ruT d ++ [59, 10] = c :: u ∧ isW c = false ∧ CutF (mnT d ++ ruT d ++ [59, 10]) (mnK d ++ ruK d ++ [[59]]) := by
  have e59 : CutF [59, 10] [[59]] := by
    have := (cutF_mark 59 (by decide) (by decide) (by decide)).app (cutF_blank 10 (by decide))
    exact this
  have hru : ∃ c u, ruT d ++ [59, 10] = c :: u ∧ isW c = false ∧ CutF (ruT d ++ [59, 10]) (ruK d ++ [[59]]) := by
    by_cases hr : d.ru = 0 ∨ 4 ≤ d.ru
    · unfold ruT ruK
      rw [if_pos hr, if_pos hr]
      exact ⟨59, [10], rfl, by decide, e59⟩
    · obtain ⟨wr, _⟩ := ru_wr h (fun e => hr (Or.inl e))
      have hf : NM d.f1 := by
        rcases wr with h0 | h1 | h2
        · exact absurd (Or.inl h0.1) hr
        · exact h1.2.1
        · exact h2.2.1
      unfold ruT ruK
      rw [if_neg hr, if_neg hr]
      have c1 : CutF [32, 61, 32] [[61]] := by
        intro y a
        refine ⟨[⟨[61], a + 1⟩], rfl, ?_⟩
        rw [show ([32, 61, 32] : List UInt8) ++ y = 32 :: ([61] ++ (32 :: y)) from rfl, lx_blank _ _ _ (by decide)]
        rw [lx_app [61] (32 :: y) (a + 1) (Or.inr (Or.inl ⟨61, rfl, by decide⟩)) (fun hx => absurd (hx 61 (by simp)) (by decide)) (fun _ hc => by simp at hc)]
        rw [lx_blank _ _ _ (by decide)]
        rfl
      have c2 : Cut ([32] ++ d.f1) [d.f1] := (cutF_blank 32 (by decide)).then (cut_nm hf)
      have c3 : CutF ([32, 61, 32] ++ rw_ d.ru ++ [32] ++ d.f1 ++ (if d.ru = 3 ∧ d.l1 ≠ d.f1 then [32] ++ d.l1 else []) ++ [59, 10]) ([61] :: rw_ d.ru :: d.f1 :: (if d.ru = 3 ∧ d.l1 ≠ d.f1 then [d.l1] else []) ++ [[59]]) := by
        have k1 : Cut ([32, 61, 32] ++ (rw_ d.ru ++ ([32] ++ d.f1))) ([[61]] ++ ([rw_ d.ru] ++ [d.f1])) := c1.then ((cut_rw d.ru).then (c := 32) (by decide) c2)
        by_cases hl : d.ru = 3 ∧ d.l1 ≠ d.f1
        · rw [if_pos hl, if_pos hl]
          have hl1 : NM d.l1 := by
            rcases wr with h0 | h1 | h2
            · exact absurd (Or.inl h0.1) hr
            · exfalso; rcases h1.1 with e | e <;> omega
            · exact h2.2.2
          have k2 : Cut ([32] ++ d.l1) [d.l1] := (cutF_blank 32 (by decide)).then (cut_nm hl1)
          have k3 := (k1.then (c := 32) (by decide) k2).thenF (c := 59) (by decide) e59
          simpa using k3
        · rw [if_neg hl, if_neg hl]
          have k3 := k1.thenF (c := 59) (by decide) e59
          simpa using k3
      refine ⟨32, [61, 32] ++ rw_ d.ru ++ [32] ++ d.f1 ++ (if d.ru = 3 ∧ d.l1 ≠ d.f1 then [32] ++ d.l1 else []) ++ [59, 10], by simp, by decide, ?_⟩
      simpa using c3
  obtain ⟨c, u, e1, e2, e3⟩ := hru
  by_cases hm : d.mn = true ∨ d.kd = 2
  · obtain ⟨x, hx, wx⟩ := mn_some h h4 hm
    unfold mnT mnK
    rw [if_pos hm, if_pos hm, hx]
    have k1 : CutF ([91] ++ (txt x ++ [93])) ([[91]] ++ (tk Lib.itoa x ++ [[93]])) := (cutF_mark 91 (by decide) (by decide) (by decide)).app ((cut_wx wx).thenF (c := 93) (by decide) (cutF_mark 93 (by decide) (by decide) (by decide)))
    have k2 := k1.app e3
    refine ⟨91, txO (some x) ++ [93] ++ ruT d ++ [59, 10], by simp, by decide, ?_⟩
    have e4 : [91] ++ txO (some x) ++ [93] ++ ruT d ++ [59, 10] = [91] ++ (txt x ++ [93]) ++ (ruT d ++ [59, 10]) := by simp [txO]
    have e5 : [91] :: tkO (some x) ++ [[93]] ++ ruK d ++ [[59]] = [[91]] ++ (tk Lib.itoa x ++ [[93]]) ++ (ruK d ++ [[59]]) := by simp [tkO]
    rw [e4, e5]
    exact k2
  · unfold mnT mnK
    rw [if_neg hm, if_neg hm]
    exact ⟨c, u, by simpa using e1, e2, by simpa using e3⟩
theorem wd_nm {d : D} (h : WD d) (h4 : d.kd ≠ 4) : NM d.nm := by
  rcases h with h | h | h | h
  · exact absurd h.1 h4
  · exact h.2.1
  · exact h.2.2.1
  · exact h.2.2.2.1
theorem cut_pad (pad : List UInt8) (h : ∀ c ∈ pad, isB c = true) : CutF pad [] := by
  induction pad with
  | nil => exact CutF.nil
  | cons c p ih =>
    have := (cutF_blank c (h c (by simp))).app (ih (fun d hd => h d (by simp [hd])))
    exact this
/-- A line. -/
theorem cut_line (d : D) (h : WD d) (h4 : d.kd ≠ 4) : CutF (paT d ++ [59, 10]) (tkD d) := by
  obtain ⟨c, u, e1, e2, e3⟩ := cut_tail d h h4
  have k1 : Cut ([32] ++ d.nm) [d.nm] := (cutF_blank 32 (by decide)).then (cut_nm (wd_nm h h4))
  have k2 : Cut (kw d ++ ([32] ++ d.nm)) ([kw d] ++ [d.nm]) := (cut_kw d h h4).then (c := 32) (by decide) k1
  rw [e1] at e3
  have k3 := k2.thenF e2 e3
  rw [← e1] at k3
  unfold paT tkD
  have e4 : kw d ++ [32] ++ d.nm ++ mnT d ++ ruT d ++ [59, 10] = kw d ++ ([32] ++ d.nm) ++ (mnT d ++ ruT d ++ [59, 10]) := by simp
  have e5 : kw d :: d.nm :: (mnK d ++ ruK d ++ [[59]]) = [kw d] ++ [d.nm] ++ (mnK d ++ ruK d ++ [[59]]) := by simp
  rw [e4, e5]
  exact k3
theorem cut_items (l : Its) : ∀ (k : Nat) (pad : List UInt8), WI k l → (∀ c ∈ pad, isB c = true) → CutF (itx pad l) (tkI l) := by
  induction l with
  | nil => intro k pad _ _; exact CutF.nil
  | cons d s t is it =>
    intro k pad hw hp
    obtain ⟨w1, w2, w3, w4⟩ := hw
    have hp2 : ∀ c ∈ pad ++ [32, 32], isB c = true := by
      intro c hc
      rw [List.mem_append] at hc
      rcases hc with hc | hc
      · exact hp c hc
      · simp at hc; rw [hc]; decide
    have c0 := cut_pad (pad ++ [32, 32]) hp2
    have ct := it k pad w4 hp
    rw [itx, tkI]
    by_cases h4 : d.kd = 4
    · rw [if_pos h4, if_pos h4]
      obtain ⟨x, hx, wx⟩ : ∃ x, d.ct = some x ∧ WX x := by
        rcases w1 with h | h | h | h
        · exact h.2.1
        · rw [h.1] at h4; cases h4
        · rw [h.1] at h4; cases h4
        · rw [h.1] at h4; cases h4
      rw [hx]
      have cs := is (k - 1) (pad ++ [32, 32]) (w3 h4).2.2 hp2
      have k1 : Cut (wWhen ++ ([32] ++ txt x)) ([wWhen] ++ tk Lib.itoa x) := (cut_word (t := wWhen) (by decide) (by decide)).then (c := 32) (by decide) ((cutF_blank 32 (by decide)).then (cut_wx wx))
      have e123 : CutF [32, 123, 10] [[123]] := by
        have := ((cutF_blank 32 (by decide)).app (cutF_mark 123 (by decide) (by decide) (by decide))).app (cutF_blank 10 (by decide))
        exact this
      have e125 : CutF [32, 32, 125, 10] [[125]] := by
        have := (((cutF_blank 32 (by decide)).app (cutF_blank 32 (by decide))).app (cutF_mark 125 (by decide) (by decide) (by decide))).app (cutF_blank 10 (by decide))
        exact this
      have k2 := (((c0.app (k1.thenF (c := 32) (by decide) e123)).app cs).app ((cut_pad pad hp).app e125)).app ct
      have e4 : pad ++ [32, 32] ++ (wWhen ++ [32] ++ txO (some x) ++ [32, 123, 10] ++ itx (pad ++ [32, 32]) s ++ pad ++ [32, 32, 125, 10]) ++ itx pad t = pad ++ [32, 32] ++ (wWhen ++ ([32] ++ txt x) ++ [32, 123, 10]) ++ itx (pad ++ [32, 32]) s ++ (pad ++ [32, 32, 125, 10]) ++ itx pad t := by simp [txO]
      have e5 : wWhen :: tkO (some x) ++ [123] :: tkI s ++ [[125]] ++ tkI t = [] ++ ([wWhen] ++ tk Lib.itoa x ++ [[123]]) ++ tkI s ++ ([] ++ [[125]]) ++ tkI t := by simp [tkO]
      rw [e4, e5]
      exact k2
    · rw [if_neg h4, if_neg h4]
      have k2 := (c0.app (cut_line d w1 h4)).app ct
      exact k2
theorem cut_ty (t : Ty) (h : NM t.nm ∧ t.l.len ≤ 16 ∧ WI 7 t.l) : CutF (tyx t) (tkT t) := by
  have k1 : Cut (wStruct ++ ([32] ++ t.nm)) ([wStruct] ++ [t.nm]) := (cut_word (t := wStruct) (by decide) (by decide)).then (c := 32) (by decide) ((cutF_blank 32 (by decide)).then (cut_nm h.1))
  have e123 : CutF [32, 123, 10] [[123]] := by
    have := ((cutF_blank 32 (by decide)).app (cutF_mark 123 (by decide) (by decide) (by decide))).app (cutF_blank 10 (by decide))
    exact this
  have e125 : CutF [125, 10] [[125]] := by
    have := (cutF_mark 125 (by decide) (by decide) (by decide)).app (cutF_blank 10 (by decide))
    exact this
  have k2 := ((k1.thenF (c := 32) (by decide) e123).app (cut_items t.l 7 [] h.2.2 (by simp))).app e125
  unfold tyx tkT
  have e4 : wStruct ++ [32] ++ t.nm ++ [32, 123, 10] ++ itx [] t.l ++ [125, 10] = wStruct ++ ([32] ++ t.nm) ++ [32, 123, 10] ++ itx [] t.l ++ [125, 10] := by simp
  have e5 : wStruct :: t.nm :: [123] :: tkI t.l ++ [[125]] = [wStruct] ++ [t.nm] ++ [[123]] ++ tkI t.l ++ [[125]] := by simp
  rw [e4, e5]
  exact k2
theorem cut_all (l : List Ty) (h : ∀ t ∈ l, NM t.nm ∧ t.l.len ≤ 16 ∧ WI 7 t.l) : CutF (ptxt l) (l.flatMap tkT) := by
  induction l with
  | nil => exact CutF.nil
  | cons t l ih =>
    have := (cut_ty t (h t (by simp))).app (ih (fun u hu => h u (by simp [hu])))
    unfold ptxt
    rw [List.flatMap_cons, List.flatMap_cons]
    exact this
end Go.Proofs.Ytpanodaecjlgaaa.tm
/- Templates: what reading tells; what is written is read (pure). -/
namespace Go.Proofs.Ytpanodaecjlgaaa.tm
set_option linter.unusedVariables false
open lx ex
section
variable {en : Nat}
def TS (ts : List Tk) : Prop := ∀ t ∈ ts, IsT t.t
/-- What is left was there. -/
def Sb_ (r ts : List Tk) : Prop := ∀ t ∈ r, t ∈ ts
theorem Sb_.trans {a b c : List Tk} (h : Sb_ a b) (k : Sb_ b c) : Sb_ a c := fun t ht => k t (h t ht)
theorem sb_tail (ts : List Tk) : Sb_ ts.tail ts := fun t ht => List.mem_of_mem_tail ht
theorem TS.sb {r ts : List Tk} (h : TS ts) (k : Sb_ r ts) : TS r := fun t ht => h t (k t ht)
theorem name_told {ts r : List Tk} {t : List UInt8} (hT : TS ts) (h : name en ts = .ok (t, r)) : NM t ∧ Sb_ r ts := by
  unfold name at h
  split at h
  · cases h
  · rename_i h1
    split at h
    · cases h
    · rename_i h2
      injection h with h
      injection h with h3 h4
      subst h3 h4
      have n1 : isN (hd en ts).t = true := by
        cases hn : isN (hd en ts).t with
        | true => rfl
        | false => exact absurd (Or.inr hn) h1
      have n2 : resv (hd en ts).t = false := by
        cases hr : resv (hd en ts).t with
        | false => rfl
        | true => exact absurd (Or.inl hr) h1
      refine ⟨⟨n2, n1, by omega, ?_⟩, sb_tail ts⟩
      cases ts with
      | nil => exact absurd n1 (by show ¬ isN [] = true; decide)
      | cons u us => exact (word_of (hT u (by simp)) n1).1
theorem rx_told {m : List UInt8} {ts r : List Tk} {x : Ex} (hT : TS ts) (h : rx nb en m ts = .ok (x, r)) : WX x ∧ Sb_ r ts := by
  obtain ⟨h1, _⟩ := rx_is h
  obtain ⟨w1, w2⟩ := (told_all (dec := Lib.itoa) told_hdec _).1 _ _ _ _ _ (by omega) (by omega) (by omega) h1
  obtain ⟨n1, _⟩ := (nw_all _).1 _ _ _ _ _ hT h1
  rw [sd_one w1.okb] at w2
  exact ⟨⟨w1, n1, by omega⟩, (mem_all _).1 _ _ _ _ _ h1⟩
theorem want_told {m : List UInt8} {ts r : List Tk} (h : want en m ts = .ok r) : Sb_ r ts := by
  unfold want at h
  split at h
  · injection h with h; rw [← h]; exact sb_tail ts
  · cases h
theorem many_told {ts r : List Tk} {x : Ex} (hT : TS ts) (h : many nb en ts = .ok (x, r)) : WX x ∧ Sb_ r ts := by
  unfold many at h
  split at h
  · cases h
  · rename_i r1 h1
    split at h
    · cases h
    · rename_i x1 r2 h2
      injection h with h
      injection h with h3 h4
      subst h3 h4
      have s1 := want_told h1
      obtain ⟨w, s2⟩ := rx_told (hT.sb s1) h2
      exact ⟨w, (sb_tail _).trans (s2.trans s1)⟩
theorem rule_told {d e : D} {ts r : List Tk} (hT : TS ts) (h : rule en d ts = .ok (e, r)) (h0 : d.ru = 0 ∧ d.f1 = [] ∧ d.l1 = []) : WR e ∧ e.kd = d.kd ∧ e.nm = d.nm ∧ e.ty = d.ty ∧ e.wd = d.wd ∧ e.od = d.od ∧ e.sg = d.sg ∧ e.mn = d.mn ∧ e.ct = d.ct ∧ Sb_ r ts := by
  unfold rule at h
  split at h
  · cases h
  · rename_i h1
    have hru : ruleOf (hd en ts).t = 1 ∨ ruleOf (hd en ts).t = 2 ∨ ruleOf (hd en ts).t = 3 := by
      unfold ruleOf at h1 ⊢
      split
      · exact Or.inl rfl
      · split
        · exact Or.inr (Or.inl rfl)
        · split
          · exact Or.inr (Or.inr rfl)
          · rename_i a b c; rw [if_neg a, if_neg b, if_neg c] at h1; exact absurd rfl h1
    split at h
    · cases h
    · rename_i a r1 h2
      obtain ⟨n1, s1⟩ := name_told (hT.sb (sb_tail ts)) h2
      have s1' := s1.trans (sb_tail ts)
      split at h
      · rename_i h3
        split at h
        · injection h with h; injection h with h4 h5; subst h4 h5
          exact ⟨Or.inr (Or.inr ⟨rfl, n1, n1⟩), rfl, rfl, rfl, rfl, rfl, rfl, rfl, rfl, s1'⟩
        · split at h
          · cases h
          · rename_i b r2 h4
            obtain ⟨n2, s2⟩ := name_told (hT.sb s1') h4
            injection h with h; injection h with h5 h6; subst h5 h6
            exact ⟨Or.inr (Or.inr ⟨rfl, n1, n2⟩), rfl, rfl, rfl, rfl, rfl, rfl, rfl, rfl, s2.trans s1'⟩
      · rename_i h3
        injection h with h; injection h with h4 h5; subst h4 h5
        refine ⟨Or.inr (Or.inl ⟨?_, n1, h0.2.2⟩), rfl, rfl, rfl, rfl, rfl, rfl, rfl, rfl, s1'⟩
        show ruleOf (hd en ts).t = 1 ∨ ruleOf (hd en ts).t = 2
        omega
theorem part_told {ts r : List Tk} {e : D} (hT : TS ts) (h : part nb en ts = .ok (e, r)) : WD e ∧ e.kd ≠ 4 ∧ Sb_ r ts := by
  cases hk : kind en ts with
  | error e' => unfold part at h; rw [hk] at h; cases h
  | ok dr =>
    obtain ⟨d1, r1⟩ := dr
    unfold part at h
    rw [hk] at h
    dsimp only at h
    have hd1 : ((d1 = { D0 with kd := 1, wd := d1.wd, od := d1.od, sg := d1.sg } ∧ ∃ t, numOf t = some (d1.wd, d1.od, d1.sg)) ∨ (d1 = { D0 with kd := 3, ty := d1.ty } ∧ NM d1.ty)) ∧ Sb_ r1 ts := by
      unfold kind at hk
      split at hk
      · rename_i w o s hn
        injection hk with hk; injection hk with h1 h2; subst h1 h2
        exact ⟨Or.inl ⟨rfl, _, hn⟩, sb_tail ts⟩
      · split at hk
        · cases hk
        · rename_i t r' hn
          obtain ⟨n1, s1⟩ := name_told hT hn
          injection hk with hk; injection hk with h1 h2; subst h1 h2
          exact ⟨Or.inr ⟨rfl, n1⟩, s1⟩
    obtain ⟨hd1, s1⟩ := hd1
    have k4 : d1.kd ≠ 4 := by
      rcases hd1 with ⟨e1, _⟩ | ⟨e1, _⟩
      · have := congrArg D.kd e1
        rw [this]; show (1 : Nat) ≠ 4; decide
      · have := congrArg D.kd e1
        rw [this]; show (3 : Nat) ≠ 4; decide
    split at h
    · cases h
    · rename_i t r2 h2
      obtain ⟨n2, s2⟩ := name_told (hT.sb s1) h2
      have s2' := s2.trans s1
      split at h
      · cases h
      · rename_i d3 r3 h3
        split at h
        · cases h
        · rename_i r4 h4
          injection h with h; injection h with h5 h6; subst h5 h6
          have s4 := want_told h4
          unfold mark at h3
          split at h3
          · split at h3
            · cases h3
            · rename_i x r5 h5
              obtain ⟨w5, s5⟩ := many_told (hT.sb s2') h5
              injection h3 with h3; injection h3 with h6 h7; subst h6 h7
              refine ⟨?_, k4, s4.trans (s5.trans s2')⟩
              · rcases hd1 with ⟨e1, e2⟩ | ⟨e1, e2⟩
                · rw [e1]; exact Or.inr (Or.inr (Or.inr ⟨rfl, rfl, e2, n2, Or.inl ⟨rfl, ⟨x, rfl, w5⟩, rfl, rfl, rfl⟩⟩))
                · rw [e1]; exact Or.inr (Or.inr (Or.inl ⟨rfl, e2, n2, rfl, rfl, rfl, rfl, rfl, rfl, Or.inl ⟨rfl, x, rfl, w5⟩⟩))
          · split at h3
            · rename_i hc
              have hkd : d1.kd = 1 := hc.2
              rcases hd1 with ⟨e1, e2⟩ | ⟨e1, e2⟩
              · obtain ⟨w, f1, f2, f3, f4, f5, f6, f7, f8, s5⟩ := rule_told (hT.sb ((sb_tail _).trans s2')) h3 (by rw [e1]; exact ⟨rfl, rfl, rfl⟩)
                refine ⟨Or.inr (Or.inr (Or.inr ⟨by rw [f1]; exact hkd, by rw [f3, e1]; rfl, ?_, by rw [f2]; exact n2, Or.inr ⟨by rw [f7, e1]; rfl, by rw [f8, e1]; rfl, w⟩⟩)), by rw [f1]; exact k4, s4.trans (s5.trans ((sb_tail _).trans s2'))⟩
                rw [f4, f5, f6]; exact e2
              · rw [e1] at hkd; exact absurd hkd (by show ¬ (3 : Nat) = 1; decide)
            · injection h3 with h3; injection h3 with h6 h7; subst h6 h7
              refine ⟨?_, k4, s4.trans s2'⟩
              · rcases hd1 with ⟨e1, e2⟩ | ⟨e1, e2⟩
                · rw [e1]; exact Or.inr (Or.inr (Or.inr ⟨rfl, rfl, e2, n2, Or.inr ⟨rfl, rfl, Or.inl ⟨rfl, rfl, rfl⟩⟩⟩))
                · rw [e1]; exact Or.inr (Or.inr (Or.inl ⟨rfl, e2, n2, rfl, rfl, rfl, rfl, rfl, rfl, Or.inr ⟨rfl, rfl⟩⟩))
theorem byts_told {ts r : List Tk} {e : D} (hT : TS ts) (h : byts nb en ts = .ok (e, r)) : WD e ∧ e.kd ≠ 4 ∧ Sb_ r ts := by
  unfold byts at h
  split at h
  · cases h
  · rename_i t r1 h1
    obtain ⟨n1, s1⟩ := name_told hT h1
    split at h
    · cases h
    · rename_i x r2 h2
      obtain ⟨w2, s2⟩ := many_told (hT.sb s1) h2
      split at h
      · cases h
      · rename_i r3 h3
        injection h with h; injection h with h4 h5; subst h4 h5
        exact ⟨Or.inr (Or.inl ⟨rfl, n1, ⟨x, rfl, w2⟩, rfl, rfl, rfl, rfl, rfl, rfl, rfl, rfl⟩), by show (2 : Nat) ≠ 4; decide, (want_told h3).trans (s2.trans s1)⟩
/-- Where an item stands is nothing to it. -/
theorem wd_at {d : D} (h : WD d) (a : Nat) : WD { d with at_ := a } := h
theorem item_told {k : Nat} {ts r : List Tk} {d : D} {s : Its} (hT : TS ts) (hi : ∀ ts l r, TS ts → blk nb en k ts = .ok (l, r) → 0 < k ∧ l.len ≤ 16 ∧ WI (k - 1) l ∧ Sb_ r ts) (h : item nb en (blk nb en k) ts = .ok ((d, s), r)) : WD d ∧ (d.kd ≠ 4 → noSub s = true) ∧ (d.kd = 4 → 0 < k ∧ s.len ≤ 16 ∧ WI (k - 1) s) ∧ Sb_ r ts := by
  unfold item at h
  split at h
  · split at h
    · cases h
    · rename_i x r1 h1
      obtain ⟨w1, s1⟩ := rx_told (hT.sb (sb_tail ts)) h1
      have s1' := s1.trans (sb_tail ts)
      split at h
      · cases h
      · rename_i l r2 h2
        obtain ⟨g1, g2, g3, g4⟩ := hi _ _ _ (hT.sb s1') h2
        injection h with h; injection h with h3 h4; injection h3 with h5 h6; subst h5 h6 h4
        exact ⟨Or.inl ⟨rfl, ⟨x, rfl, w1⟩, rfl, rfl, rfl, rfl, rfl, rfl, rfl, rfl, rfl⟩, fun hn => absurd rfl hn, fun _ => ⟨g1, g2, g3⟩, g4.trans s1'⟩
  · split at h
    · split at h
      · cases h
      · rename_i d1 r1 h1
        obtain ⟨w1, w2, s1⟩ := byts_told (hT.sb (sb_tail ts)) h1
        injection h with h; injection h with h3 h4; injection h3 with h5 h6; subst h5 h6 h4
        exact ⟨wd_at w1 _, fun _ => rfl, fun h4 => absurd h4 w2, s1.trans (sb_tail ts)⟩
    · split at h
      · cases h
      · rename_i d1 r1 h1
        obtain ⟨w1, w2, s1⟩ := part_told hT h1
        injection h with h; injection h with h3 h4; injection h3 with h5 h6; subst h5 h6 h4
        exact ⟨wd_at w1 _, fun _ => rfl, fun h4 => absurd h4 w2, s1⟩
theorem loop_told {k : Nat} (hi : ∀ ts l r, TS ts → blk nb en k ts = .ok (l, r) → 0 < k ∧ l.len ≤ 16 ∧ WI (k - 1) l ∧ Sb_ r ts) (n : Nat) : ∀ (ts : List Tk) (l : Its) (r : List Tk), TS ts → loop nb en (blk nb en k) n ts = .ok (l, r) → l.len ≤ n ∧ WI k l ∧ Sb_ r ts := by
  induction n with
  | zero =>
    intro ts l r hT h
    rw [loop] at h
    split at h
    · injection h with h; injection h with h1 h2; subst h1 h2
      exact ⟨Nat.le_refl _, trivial, sb_tail ts⟩
    · cases h
  | succ n ih =>
    intro ts l r hT h
    rw [loop] at h
    split at h
    · injection h with h; injection h with h1 h2; subst h1 h2
      exact ⟨Nat.zero_le _, trivial, sb_tail ts⟩
    · split at h
      · cases h
      · rename_i d s r1 h1
        obtain ⟨g1, g2, g3, s1⟩ := item_told hT hi h1
        split at h
        · cases h
        · rename_i l1 r2 h2
          obtain ⟨k1, k2, s2⟩ := ih _ _ _ (hT.sb s1) h2
          injection h with h; injection h with h3 h4; subst h3 h4
          exact ⟨by show l1.len + 1 ≤ n + 1; omega, ⟨g1, g2, g3, k2⟩, s2.trans s1⟩
theorem blk_told (k : Nat) : ∀ (ts : List Tk) (l : Its) (r : List Tk), TS ts → blk nb en k ts = .ok (l, r) → 0 < k ∧ l.len ≤ 16 ∧ WI (k - 1) l ∧ Sb_ r ts := by
  induction k with
  | zero =>
    intro ts l r hT h
    rw [blk] at h
    split at h <;> cases h
  | succ k ih =>
    intro ts l r hT h
    rw [blk] at h
    split at h
    · obtain ⟨g1, g2, g3⟩ := loop_told ih 16 _ _ _ (hT.sb (sb_tail ts)) h
      exact ⟨Nat.succ_pos _, g1, g2, g3.trans (sb_tail ts)⟩
    · cases h
theorem typs_told (n : Nat) : ∀ (ts : List Tk) (l : List Ty), TS ts → typs nb en n ts = .ok l → l.length ≤ n ∧ ∀ t ∈ l, NM t.nm ∧ t.l.len ≤ 16 ∧ WI 7 t.l := by
  induction n with
  | zero =>
    intro ts l hT h
    cases ts with
    | nil => cases h; exact ⟨Nat.le_refl _, fun t ht => by cases ht⟩
    | cons t r => rw [typs] at h; split at h <;> cases h
  | succ n ih =>
    intro ts l hT h
    cases ts with
    | nil => cases h; exact ⟨Nat.zero_le _, fun t ht => by cases ht⟩
    | cons t r =>
      have hT' : TS r := fun u hu => hT u (by simp [hu])
      rw [typs] at h
      split at h
      · split at h
        · cases h
        · rename_i m r1 h1
          obtain ⟨n1, s1⟩ := name_told hT' h1
          split at h
          · cases h
          · rename_i it r2 h2
            obtain ⟨_, g2, g3, s2⟩ := blk_told 8 _ _ _ (hT'.sb s1) h2
            split at h
            · cases h
            · rename_i q h3
              obtain ⟨k1, k2⟩ := ih _ _ (hT'.sb (s2.trans s1)) h3
              injection h with h
              subst h
              refine ⟨by simp; omega, fun u hu => ?_⟩
              rw [List.mem_cons] at hu
              rcases hu with rfl | hu
              · exact ⟨n1, g2, g3⟩
              · exact k2 u hu
      · cases h
end
end Go.Proofs.Ytpanodaecjlgaaa.tm
/- Templates: what is written is read (pure). -/
namespace Go.Proofs.Ytpanodaecjlgaaa.tm
set_option linter.unusedVariables false
open lx ex

theorem sm_rx {x y : Ex} (h : Sm x y) : Rx id x y := by
  induction h with
  | num a b k => exact Rx.num _ _ _
  | nam a b t => exact Rx.nam _ _ _
  | bin a b o l l' r r' _ _ il ir => exact Rx.bin _ _ _ _ _ _ _ il ir
section
variable {en : Nat}
/-- An expression, up to its mark. -/
theorem rx_reads {m : List UInt8} (hm : Em m) {x : Ex} (hx : WX x) {us ts : List Tk} {p : Nat} (hu : us.map Tk.t = tk Lib.itoa x) : ∃ x', rx nb en m (us ++ ⟨m, p⟩ :: ts) = .ok (x', ⟨m, p⟩ :: ts) ∧ Rx id x x' := by
  obtain ⟨_, _, _, _, _, m5⟩ := hm
  obtain ⟨w1, w2, w3⟩ := hx
  obtain ⟨x', h1, h2⟩ := reads (en := en) x w1 3 1 0 us (⟨m, p⟩ :: ts) (by omega) (by omega) (by rw [sd_one w1.okb]; omega) (by rw [sk_one w1.okb]; exact hu) (by show bd m ≤ 1; omega)
  obtain ⟨f, hf⟩ := h2 1 _ (lp_stop 0 1 0 x' (⟨m, p⟩ :: ts) (by show bd m < 1; omega))
  exact ⟨x', rx_of hf rfl, sm_rx h1⟩
theorem want_hd (m : List UInt8) (p : Nat) (ts : List Tk) : want en m (⟨m, p⟩ :: ts) = .ok ts := by unfold want; rw [if_pos (show (hd en (⟨m, p⟩ :: ts)).t = m from rfl)]; rfl
theorem name_hd {t : List UInt8} (h : NM t) (p : Nat) (ts : List Tk) : name en (⟨t, p⟩ :: ts) = .ok (t, ts) := by
  obtain ⟨h1, h2, h3, _⟩ := h
  unfold name
  rw [show (hd en (⟨t, p⟩ :: ts)).t = t from rfl, if_neg (by rw [h1, h2]; simp), if_neg (by omega)]
  rfl
theorem many_reads {x : Ex} (hx : WX x) {us ts : List Tk} {p p' : Nat} (hu : us.map Tk.t = tk Lib.itoa x) : ∃ x', many nb en (⟨[91], p⟩ :: (us ++ ⟨[93], p'⟩ :: ts)) = .ok (x', ts) ∧ Rx id x x' := by
  obtain ⟨x', h1, h2⟩ := rx_reads (en := en) em_cb hx (ts := ts) (p := p') hu
  refine ⟨x', ?_, h2⟩
  unfold many
  rw [want_hd]
  dsimp only
  rw [h1]
  rfl
theorem mcons {us : List Tk} {a : List UInt8} {b : List (List UInt8)} (h : us.map Tk.t = a :: b) : ∃ p v, us = ⟨a, p⟩ :: v ∧ v.map Tk.t = b := map_cons h
theorem rw_of {r : Nat} (h : r = 1 ∨ r = 2 ∨ r = 3) : ruleOf (rw_ r) = r := by rcases h with rfl | rfl | rfl <;> decide
/-- A rule. -/
theorem rule_reads {d d' : D} (h : WR d) (hr : d.ru ≠ 0) (hd' : RD id { d with ru := 0, f1 := [], l1 := [] } d') {us ts : List Tk} {p : Nat} (hu : us.map Tk.t = rw_ d.ru :: d.f1 :: (if d.ru = 3 ∧ d.l1 ≠ d.f1 then [d.l1] else [])) : ∃ e, rule en d' (us ++ ⟨[59], p⟩ :: ts) = .ok (e, ⟨[59], p⟩ :: ts) ∧ RD id d e := by
  obtain ⟨p1, v1, rfl, h1⟩ := mcons hu
  obtain ⟨p2, v2, rfl, h2⟩ := mcons h1
  have hru : d.ru = 1 ∨ d.ru = 2 ∨ d.ru = 3 := by
    rcases h with h | h | h
    · exact absurd h.1 hr
    · rcases h.1 with e | e
      · exact Or.inl e
      · exact Or.inr (Or.inl e)
    · exact Or.inr (Or.inr h.1)
  have hf : NM d.f1 := by
    rcases h with h | h | h
    · exact absurd h.1 hr
    · exact h.2.1
    · exact h.2.1
  have e0 : ruleOf (rw_ d.ru) = d.ru := rw_of hru
  have e1 : (hd en ((⟨rw_ d.ru, p1⟩ :: ⟨d.f1, p2⟩ :: v2) ++ ⟨[59], p⟩ :: ts)).t = rw_ d.ru := rfl
  unfold rule
  rw [e1, e0, if_neg hr]
  have e2 : ((⟨rw_ d.ru, p1⟩ :: ⟨d.f1, p2⟩ :: v2) ++ ⟨[59], p⟩ :: ts : List Tk).tail = ⟨d.f1, p2⟩ :: (v2 ++ ⟨[59], p⟩ :: ts) := rfl
  rw [e2, name_hd hf]
  dsimp only
  by_cases h3 : d.ru = 3
  · rw [if_pos h3]
    have hl : NM d.l1 := by
      rcases h with h | h | h
      · exact absurd h.1 hr
      · exfalso; rcases h.1 with e | e <;> omega
      · exact h.2.2
    by_cases hne : d.l1 ≠ d.f1
    · rw [if_pos ⟨h3, hne⟩] at h2
      obtain ⟨p3, v3, rfl, h4⟩ := mcons h2
      obtain rfl := map_nil h4
      have e3 : ¬ (hd en ([⟨d.l1, p3⟩] ++ ⟨[59], p⟩ :: ts)).t = [59] := by
        show ¬ d.l1 = [59]
        intro e; have := hl.2.1; rw [e] at this; revert this; decide
      rw [if_neg e3, List.singleton_append, name_hd hl]
      exact ⟨_, rfl, ⟨hd'.kd, hd'.nm, hd'.ty, hd'.wd, hd'.od, hd'.sg, hd'.mn, hd'.ct, h3.symm, rfl, rfl⟩⟩
    · rw [if_neg (fun hc => hne hc.2)] at h2
      obtain rfl := map_nil h2
      rw [if_pos (show (hd en ([] ++ ⟨[59], p⟩ :: ts)).t = [59] from rfl)]
      have e4 : d.l1 = d.f1 := by simpa using hne
      exact ⟨_, rfl, ⟨hd'.kd, hd'.nm, hd'.ty, hd'.wd, hd'.od, hd'.sg, hd'.mn, hd'.ct, h3.symm, rfl, by show d.f1 = d.l1; rw [e4]⟩⟩
  · rw [if_neg h3]
    rw [if_neg (fun hc => h3 hc.1)] at h2
    obtain rfl := map_nil h2
    have hl : d.l1 = [] := by
      rcases h with h | h | h
      · exact absurd h.1 hr
      · exact h.2.2
      · exact absurd h.1 h3
    exact ⟨_, rfl, ⟨hd'.kd, hd'.nm, hd'.ty, hd'.wd, hd'.od, hd'.sg, hd'.mn, hd'.ct, rfl, rfl, by show d'.l1 = id d.l1; rw [hd'.l1, hl]⟩⟩
theorem kw_num {d : D} (h1 : d.kd = 1) (h : ∃ t, numOf t = some (d.wd, d.od, d.sg)) : numOf (kw d) = some (d.wd, d.od, d.sg) := by
  have key : ∀ p ∈ numW, numOf (((numW.find? (fun q => q.2.1 == p.2.1 && q.2.2.1 == p.2.2.1 && q.2.2.2 == p.2.2.2)).map (·.1)).getD []) = some (p.2.1, p.2.2.1, p.2.2.2) := by decide
  obtain ⟨t, ht⟩ := h
  unfold numOf at ht
  cases hf : numW.find? (fun p => p.1 == t) with
  | none => rw [hf] at ht; cases ht
  | some p =>
    rw [hf] at ht
    injection ht with ht
    have ht' : p.2 = (d.wd, d.od, d.sg) := ht
    have := key p (List.mem_of_find?_eq_some hf)
    rw [ht'] at this
    unfold kw
    rw [if_neg (by rw [h1]; decide), if_neg (by rw [h1]; decide)]
    exact this
theorem num_not {t : List UInt8} (h : numOf t ≠ none) : t ≠ wWhen ∧ t ≠ wBytes := by
  refine ⟨fun e => ?_, fun e => ?_⟩ <;> (rw [e] at h; revert h; decide)
theorem nm_not {t : List UInt8} (h : NM t) : t ≠ wWhen ∧ t ≠ wBytes ∧ numOf t = none := by
  have h1 := h.1
  refine ⟨fun e => ?_, fun e => ?_, ?_⟩
  · rw [e] at h1; revert h1; decide
  · rw [e] at h1; revert h1; decide
  · cases hn : numOf t with
    | none => rfl
    | some _ => have := numOf_resv (t := t) (by rw [hn]; simp); rw [h1] at this; cases this
/-- A part that is no when, and no bytes. -/
theorem part_reads {d : D} (h : WD d) (h4 : d.kd ≠ 4) (h2 : d.kd ≠ 2) {us ts : List Tk} (hu : us.map Tk.t = tkD d) : ∃ e, part nb en (us ++ ts) = .ok (e, ts) ∧ RD id d e ∧ (hd en (us ++ ts)).t ≠ wWhen ∧ (hd en (us ++ ts)).t ≠ wBytes := by
  unfold tkD at hu
  obtain ⟨p1, v1, rfl, h1⟩ := mcons hu
  obtain ⟨p2, v2, rfl, h3⟩ := mcons h1
  obtain ⟨v3, v5, rfl, h5, h6⟩ := map_cut h3
  obtain ⟨v4, v6, rfl, h7, h8⟩ := map_cut h5
  obtain ⟨p9, v9, rfl, h9⟩ := mcons h6
  obtain rfl := map_nil h9
  have hnm := wd_nm h h4
  -- the kind
  obtain ⟨d0, k1, k2, k3⟩ : ∃ d0, kind en ((⟨kw d, p1⟩ :: ⟨d.nm, p2⟩ :: (v4 ++ v6 ++ [⟨[59], p9⟩])) ++ ts) = .ok (d0, ⟨d.nm, p2⟩ :: (v4 ++ v6 ++ [⟨[59], p9⟩] ++ ts)) ∧ RD id { d with nm := [], mn := false, ct := none, ru := 0, f1 := [], l1 := [] } d0 ∧ kw d ≠ wWhen ∧ kw d ≠ wBytes := by
    unfold kind
    rw [show (hd en ((⟨kw d, p1⟩ :: ⟨d.nm, p2⟩ :: (v4 ++ v6 ++ [⟨[59], p9⟩])) ++ ts)).t = kw d from rfl]
    rcases h with h | h | h | h
    · exact absurd h.1 h4
    · exact absurd h.1 h2
    · have ek : kw d = d.ty := by unfold kw; rw [if_neg h2, if_pos h.1]
      obtain ⟨n1, n2, n3⟩ := nm_not h.2.1
      rw [ek, n3]
      dsimp only
      rw [show ((⟨d.ty, p1⟩ :: ⟨d.nm, p2⟩ :: (v4 ++ v6 ++ [⟨[59], p9⟩])) ++ ts : List Tk) = ⟨d.ty, p1⟩ :: (⟨d.nm, p2⟩ :: (v4 ++ v6 ++ [⟨[59], p9⟩] ++ ts)) by simp, name_hd h.2.1]
      exact ⟨_, rfl, ⟨h.1.symm, rfl, rfl, h.2.2.2.1.symm, h.2.2.2.2.1.symm, h.2.2.2.2.2.1.symm, rfl, RO.none, rfl, rfl, rfl⟩, n1, n2⟩
    · have hn := kw_num h.1 h.2.2.1
      obtain ⟨n1, n2⟩ := num_not (t := kw d) (by rw [hn]; simp)
      rw [hn]
      dsimp only
      refine ⟨{ D0 with kd := 1, wd := d.wd, od := d.od, sg := d.sg }, ?_, ⟨h.1.symm, rfl, h.2.1.symm, rfl, rfl, rfl, rfl, RO.none, rfl, rfl, rfl⟩, n1, n2⟩
      rw [show ((⟨kw d, p1⟩ :: ⟨d.nm, p2⟩ :: (v4 ++ v6 ++ [⟨[59], p9⟩])) ++ ts : List Tk).tail = ⟨d.nm, p2⟩ :: (v4 ++ v6 ++ [⟨[59], p9⟩] ++ ts) by simp]
  have m1 := name_hd (en := en) hnm p2 (v4 ++ v6 ++ [⟨[59], p9⟩] ++ ts)
  have k4 : RD id { d with mn := false, ct := none, ru := 0, f1 := [], l1 := [] } { d0 with nm := d.nm } := ⟨k2.kd, rfl, k2.ty, k2.wd, k2.od, k2.sg, k2.mn, k2.ct, k2.ru, k2.f1, k2.l1⟩
  -- what stands behind the name
  obtain ⟨e, q1, q2⟩ : ∃ e, mark nb en { d0 with nm := d.nm } (v4 ++ v6 ++ [⟨[59], p9⟩] ++ ts) = .ok (e, ⟨[59], p9⟩ :: ts) ∧ RD id d e := by
    by_cases hm : d.mn = true ∨ d.kd = 2
    · obtain ⟨x, hx, wx⟩ := mn_some h h4 hm
      have hmn : d.mn = true := by rcases hm with hm | hm; exact hm; exact absurd hm h2
      unfold mnK at h7
      rw [if_pos hm, hx] at h7
      obtain ⟨p3, v7, rfl, g1⟩ := mcons h7
      obtain ⟨v8, v9, rfl, g2, g3⟩ := map_cut g1
      obtain ⟨p4, v10, rfl, g4⟩ := mcons g3
      obtain rfl := map_nil g4
      have hru : d.ru = 0 ∧ d.f1 = [] ∧ d.l1 = [] := by
        rcases h with h | h | h | h
        · exact absurd h.1 h4
        · exact absurd h.1 h2
        · exact ⟨h.2.2.2.2.2.2.1, h.2.2.2.2.2.2.2.1, h.2.2.2.2.2.2.2.2.1⟩
        · rcases h.2.2.2.2 with h' | h'
          · exact ⟨h'.2.2.1, h'.2.2.2.1, h'.2.2.2.2⟩
          · rw [h'.1] at hmn; cases hmn
      unfold ruK at h8
      rw [if_pos (Or.inl hru.1)] at h8
      obtain rfl := map_nil h8
      obtain ⟨x', y1, y2⟩ := many_reads (en := en) wx (ts := ⟨[59], p9⟩ :: ts) (p := p3) (p' := p4) g2
      have e5 : (⟨[91], p3⟩ :: (v8 ++ [⟨[93], p4⟩])) ++ [] ++ [⟨[59], p9⟩] ++ ts = (⟨[91], p3⟩ : Tk) :: (v8 ++ ⟨[93], p4⟩ :: ⟨[59], p9⟩ :: ts) := by simp
      rw [e5]
      unfold mark
      rw [if_pos (show (hd en ((⟨[91], p3⟩ : Tk) :: (v8 ++ ⟨[93], p4⟩ :: ⟨[59], p9⟩ :: ts))).t = [91] from rfl), y1]
      refine ⟨_, rfl, ⟨k4.kd, rfl, k4.ty, k4.wd, k4.od, k4.sg, hmn.symm, ?_, ?_, ?_, ?_⟩⟩
      · rw [hx]; exact RO.some y2
      · rw [hru.1]; exact k4.ru
      · rw [hru.2.1]; exact k4.f1
      · rw [hru.2.2]; exact k4.l1
    · unfold mnK at h7
      rw [if_neg hm] at h7
      obtain rfl := map_nil h7
      have hmn : d.mn = false := by cases hc : d.mn with | true => exact absurd (Or.inl hc) hm | false => rfl
      have hct : d.ct = none := by
        rcases h with h | h | h | h
        · exact absurd h.1 h4
        · exact absurd h.1 h2
        · rcases h.2.2.2.2.2.2.2.2.2 with h' | h'
          · rw [hmn] at h'; cases h'.1
          · exact h'.2
        · rcases h.2.2.2.2 with h' | h'
          · rw [hmn] at h'; cases h'.1
          · exact h'.2.1
      by_cases hr : d.ru = 0
      · have hff : d.f1 = [] ∧ d.l1 = [] := by
          rcases h with h | h | h | h
          · exact absurd h.1 h4
          · exact absurd h.1 h2
          · exact ⟨h.2.2.2.2.2.2.2.1, h.2.2.2.2.2.2.2.2.1⟩
          · rcases h.2.2.2.2 with h' | h'
            · exact ⟨h'.2.2.2.1, h'.2.2.2.2⟩
            · rcases h'.2.2 with g | g | g
              · exact g.2
              · exfalso; rcases g.1 with e | e <;> omega
              · exfalso; have := g.1; omega
        unfold ruK at h8
        rw [if_pos (Or.inl hr)] at h8
        obtain rfl := map_nil h8
        refine ⟨{ d0 with nm := d.nm }, ?_, ⟨k4.kd, rfl, k4.ty, k4.wd, k4.od, k4.sg, by rw [k4.mn]; exact hmn.symm, by rw [hct]; exact k4.ct, by rw [k4.ru, hr], by rw [k4.f1, hff.1], by rw [k4.l1, hff.2]⟩⟩
        unfold mark
        have e6 : ([] ++ [] ++ [(⟨[59], p9⟩ : Tk)] ++ ts) = (⟨[59], p9⟩ : Tk) :: ts := by simp
        rw [e6]
        have e7 : (hd en ((⟨[59], p9⟩ : Tk) :: ts)).t = [59] := rfl
        rw [e7, if_neg (by decide), if_neg (fun hc => absurd hc.1 (by decide))]
      · obtain ⟨wr, hkd, _, _⟩ := ru_wr h hr
        have hru : d.ru = 1 ∨ d.ru = 2 ∨ d.ru = 3 := by
          rcases wr with h | h | h
          · exact absurd h.1 hr
          · rcases h.1 with e | e
            · exact Or.inl e
            · exact Or.inr (Or.inl e)
          · exact Or.inr (Or.inr h.1)
        unfold ruK at h8
        rw [if_neg (by omega)] at h8
        obtain ⟨p3, v7, rfl, g1⟩ := mcons h8
        have hd0 : RD id { d with ru := 0, f1 := [], l1 := [] } { d0 with nm := d.nm } := ⟨k4.kd, rfl, k4.ty, k4.wd, k4.od, k4.sg, by rw [k4.mn]; exact hmn.symm, by show RO id d.ct _; rw [hct]; exact k4.ct, k4.ru, k4.f1, k4.l1⟩
        obtain ⟨e, y1, y2⟩ := rule_reads (en := en) wr hr hd0 (ts := ts) (p := p9) g1
        have e5 : [] ++ (⟨[61], p3⟩ :: v7) ++ [⟨[59], p9⟩] ++ ts = (⟨[61], p3⟩ : Tk) :: (v7 ++ ⟨[59], p9⟩ :: ts) := by simp
        rw [e5]
        unfold mark
        rw [if_neg (show ¬ (hd en ((⟨[61], p3⟩ : Tk) :: (v7 ++ ⟨[59], p9⟩ :: ts))).t = [91] by show ¬ ([61] : List UInt8) = [91]; decide), if_pos ⟨rfl, by rw [k4.kd]; exact hkd⟩]
        exact ⟨e, y1, y2⟩
  refine ⟨e, ?_, q2, k3⟩
  unfold part
  rw [k1]
  dsimp only
  rw [m1]
  dsimp only
  rw [q1]
  dsimp only
  rw [want_hd]
end
end Go.Proofs.Ytpanodaecjlgaaa.tm
/- Templates: what is written is read, whole (pure). -/
namespace Go.Proofs.Ytpanodaecjlgaaa.tm
set_option linter.unusedVariables false
open lx ex

section
variable {en : Nat}
/-- Bytes. -/
theorem byts_reads {d : D} (h : WD d) (h2 : d.kd = 2) {us ts : List Tk} (hu : us.map Tk.t = tkD d) : ∃ p v e, us = ⟨wBytes, p⟩ :: v ∧ byts nb en (v ++ ts) = .ok (e, ts) ∧ RD id d e := by
  have h4 : d.kd ≠ 4 := by omega
  unfold tkD at hu
  obtain ⟨p1, v1, rfl, h1⟩ := mcons hu
  obtain ⟨p2, v2, rfl, h3⟩ := mcons h1
  obtain ⟨v3, v5, rfl, h5, h6⟩ := map_cut h3
  obtain ⟨v4, v6, rfl, h7, h8⟩ := map_cut h5
  obtain ⟨p9, v9, rfl, h9⟩ := mcons h6
  obtain rfl := map_nil h9
  have hnm := wd_nm h h4
  have ek : kw d = wBytes := by unfold kw; rw [if_pos h2]
  rcases h with h | h | h | h
  · exact absurd h.1 h4
  · obtain ⟨_, _, ⟨x, hx, wx⟩, e3, e4, e5, e6, e7, e8, e9, e10⟩ := h
    unfold mnK at h7
    rw [if_pos (Or.inr h2), hx] at h7
    obtain ⟨p3, v7, rfl, g1⟩ := mcons h7
    obtain ⟨v8, v9, rfl, g2, g3⟩ := map_cut g1
    obtain ⟨p4, v10, rfl, g4⟩ := mcons g3
    obtain rfl := map_nil g4
    unfold ruK at h8
    rw [if_pos (Or.inl e4)] at h8
    obtain rfl := map_nil h8
    obtain ⟨x', y1, y2⟩ := many_reads (en := en) wx (ts := ⟨[59], p9⟩ :: ts) (p := p3) (p' := p4) g2
    refine ⟨p1, _, { D0 with kd := 2, nm := d.nm, ct := some x' }, by rw [ek], ?_, ⟨h2.symm, rfl, e5.symm, e6.symm, e7.symm, e8.symm, e3.symm, by rw [hx]; exact RO.some y2, e4.symm, e9.symm, e10.symm⟩⟩
    have e11 : (⟨d.nm, p2⟩ : Tk) :: ((⟨[91], p3⟩ :: (v8 ++ [⟨[93], p4⟩])) ++ [] ++ [⟨[59], p9⟩]) ++ ts = ⟨d.nm, p2⟩ :: (⟨[91], p3⟩ :: (v8 ++ ⟨[93], p4⟩ :: ⟨[59], p9⟩ :: ts)) := by simp
    rw [e11]
    unfold byts
    rw [name_hd hnm]
    dsimp only
    rw [y1]
    dsimp only
    rw [want_hd]
  · rw [h.1] at h2; cases h2
  · rw [h.1] at h2; cases h2
theorem rd_at {d e : D} (h : RD id d e) (a : Nat) : RD id d { e with at_ := a } := ⟨h.kd, h.nm, h.ty, h.wd, h.od, h.sg, h.mn, h.ct, h.ru, h.f1, h.l1⟩
/-- An item. -/
theorem item_reads {inner : List Tk → Rs Its} {d : D} {s : Its} (h : WD d) (hn : d.kd ≠ 4 → noSub s = true)
    (hi : d.kd = 4 → ∀ (us ts : List Tk) (p p' : Nat), us.map Tk.t = tkI s → ∃ s', inner (⟨[123], p⟩ :: (us ++ ⟨[125], p'⟩ :: ts)) = .ok (s', ts) ∧ RI id s s')
    {us ts : List Tk} (hu : us.map Tk.t = (if d.kd = 4 then wWhen :: tkO d.ct ++ [123] :: tkI s ++ [[125]] else tkD d)) :
    ∃ d' s', item nb en inner (us ++ ts) = .ok ((d', s'), ts) ∧ RD id d d' ∧ RI id s s' ∧ (hd en (us ++ ts)).t ≠ [125] := by
  by_cases h4 : d.kd = 4
  · rw [if_pos h4] at hu
    have hu' : us.map Tk.t = wWhen :: (tkO d.ct ++ ([123] :: (tkI s ++ [[125]]))) := by rw [hu]; simp
    obtain ⟨p1, v1, rfl, h1⟩ := mcons hu'
    obtain ⟨v2, v3, rfl, h2, h3⟩ := map_cut h1
    obtain ⟨p2, v4, rfl, h5⟩ := mcons h3
    obtain ⟨v5, v6, rfl, h6, h7⟩ := map_cut h5
    obtain ⟨p3, v7, rfl, h8⟩ := mcons h7
    obtain rfl := map_nil h8
    rcases h with h | h | h | h
    · obtain ⟨_, ⟨x, hx, wx⟩, e1, e2, e3, e4, e5, e6, e7, e8, e9⟩ := h
      rw [hx] at h2
      obtain ⟨x', y1, y2⟩ := rx_reads (en := en) em_ob wx (ts := v5 ++ ⟨[125], p3⟩ :: ts) (p := p2) h2
      obtain ⟨s', z1, z2⟩ := hi h4 v5 ts p2 p3 h6
      refine ⟨{ D0 with kd := 4, at_ := p1, ct := some x' }, s', ?_, ⟨h4.symm, e1.symm, e4.symm, e7.symm, e8.symm, e9.symm, e2.symm, by rw [hx]; exact RO.some y2, e3.symm, e5.symm, e6.symm⟩, z2, by show wWhen ≠ [125]; decide⟩
      · have e7 : (⟨wWhen, p1⟩ : Tk) :: (v2 ++ ⟨[123], p2⟩ :: (v5 ++ [⟨[125], p3⟩])) ++ ts = ⟨wWhen, p1⟩ :: (v2 ++ ⟨[123], p2⟩ :: (v5 ++ ⟨[125], p3⟩ :: ts)) := by simp
        rw [e7]
        unfold item
        rw [show (hd en ((⟨wWhen, p1⟩ : Tk) :: (v2 ++ ⟨[123], p2⟩ :: (v5 ++ ⟨[125], p3⟩ :: ts)))) = ⟨wWhen, p1⟩ from rfl, if_pos rfl, List.tail_cons, y1]
        dsimp only
        rw [z1]
    · rw [h.1] at h4; cases h4
    · rw [h.1] at h4; cases h4
    · rw [h.1] at h4; cases h4
  · rw [if_neg h4] at hu
    have hs : s = .nil := by cases s with
      | nil => rfl
      | cons a b c => exact absurd (hn h4) (by simp [noSub])
    subst hs
    by_cases h2 : d.kd = 2
    · obtain ⟨p, v, e, rfl, k1, k2⟩ := byts_reads (en := en) h h2 (ts := ts) hu
      refine ⟨{ e with at_ := p }, .nil, ?_, rd_at k2 p, RI.nil, ?_⟩
      · unfold item
        rw [show (hd en ((⟨wBytes, p⟩ : Tk) :: v ++ ts)) = ⟨wBytes, p⟩ from rfl]
        dsimp only
        rw [if_neg (by decide), if_pos rfl, show ((⟨wBytes, p⟩ : Tk) :: v ++ ts).tail = v ++ ts from rfl, k1]
      · show wBytes ≠ [125]
        decide
    · obtain ⟨e, k1, k2, k3, k4⟩ := part_reads (en := en) h h4 h2 (ts := ts) hu
      refine ⟨{ e with at_ := (hd en (us ++ ts)).a }, .nil, ?_, rd_at k2 _, RI.nil, ?_⟩
      · unfold item
        rw [if_neg k3, if_neg k4, k1]
      · unfold tkD at hu
        obtain ⟨p1, v1, rfl, h1⟩ := mcons hu
        show kw d ≠ [125]
        obtain ⟨w1, _⟩ := kw_word d h h4
        intro e
        have := w1 125 (by rw [e]; simp)
        revert this; decide
theorem loop_reads (inner : Nat → List Tk → Rs Its)
    (l : Its) : ∀ (k : Nat) (n : Nat) (us ts : List Tk) (p : Nat), WI k l → l.len ≤ n → us.map Tk.t = tkI l → ∃ l', loop nb en (blk nb en k) n (us ++ ⟨[125], p⟩ :: ts) = .ok (l', ts) ∧ RI id l l' := by
  induction l with
  | nil =>
    intro k n us ts p hw hl hu
    obtain rfl := map_nil hu
    refine ⟨.nil, ?_, RI.nil⟩
    cases n with
    | zero => rw [loop, if_pos (show (hd en ([] ++ ⟨[125], p⟩ :: ts)).t = [125] from rfl)]; rfl
    | succ n => rw [loop, if_pos (show (hd en ([] ++ ⟨[125], p⟩ :: ts)).t = [125] from rfl)]; rfl
  | cons d s t is it =>
    intro k n us ts p hw hl hu
    obtain ⟨w1, w2, w3, w4⟩ := hw
    rw [tkI] at hu
    obtain ⟨v1, v2, rfl, h1, h2⟩ := map_cut hu
    have hl' : t.len + 1 ≤ n := hl
    cases n with
    | zero => omega
    | succ n =>
      have hi : d.kd = 4 → ∀ (us ts : List Tk) (p p' : Nat), us.map Tk.t = tkI s → ∃ s', blk nb en k (⟨[123], p⟩ :: (us ++ ⟨[125], p'⟩ :: ts)) = .ok (s', ts) ∧ RI id s s' := by
        intro h4 us ts p p' hus
        obtain ⟨g1, g2, g3⟩ := w3 h4
        obtain ⟨s', y1, y2⟩ := is (k - 1) 16 us ts p' g3 g2 hus
        refine ⟨s', ?_, y2⟩
        rw [show k = (k - 1) + 1 by omega, blk, if_pos (show (hd en (⟨[123], p⟩ :: (us ++ ⟨[125], p'⟩ :: ts))).t = [123] from rfl)]
        exact y1
      obtain ⟨d', s', k1, k2, k3, k4⟩ := item_reads (en := en) w1 w2 hi (ts := v2 ++ ⟨[125], p⟩ :: ts) h1
      obtain ⟨t', y1, y2⟩ := it k n v2 ts p w4 (by omega) h2
      refine ⟨.cons d' s' t', ?_, RI.cons k2 k3 y2⟩
      rw [List.append_assoc, loop, if_neg k4, k1]
      dsimp only
      rw [y1]
theorem typs_reads (n : Nat) : ∀ (l : List Ty) (us : List Tk), l.length ≤ n → (∀ t ∈ l, NM t.nm ∧ t.l.len ≤ 16 ∧ WI 7 t.l) → us.map Tk.t = l.flatMap tkT → ∃ l', typs nb en n us = .ok l' ∧ RT id l l' := by
  induction n with
  | zero =>
    intro l us hl hw hu
    cases l with
    | nil => obtain rfl := map_nil hu; exact ⟨[], rfl, RT.nil⟩
    | cons a b => simp at hl
  | succ n ih =>
    intro l us hl hw hu
    cases l with
    | nil => obtain rfl := map_nil hu; exact ⟨[], rfl, RT.nil⟩
    | cons t l =>
      have hu' : us.map Tk.t = wStruct :: (t.nm :: ([123] :: (tkI t.l ++ ([125] :: l.flatMap tkT)))) := by rw [hu]; simp [tkT]
      obtain ⟨p1, v1, rfl, h1⟩ := mcons hu'
      obtain ⟨p2, v2, rfl, h2⟩ := mcons h1
      obtain ⟨p3, v3, rfl, h3⟩ := mcons h2
      obtain ⟨v4, v5, rfl, h4, h5⟩ := map_cut h3
      obtain ⟨p5, v6, rfl, h6⟩ := mcons h5
      obtain ⟨n1, n2, n3⟩ := hw t (by simp)
      obtain ⟨a, y1, y2⟩ := loop_reads (en := en) (fun _ => blk nb en 0) t.l 7 16 v4 v6 p5 n3 n2 h4
      obtain ⟨b, z1, z2⟩ := ih l v6 (by simp at hl; omega) (fun u hu => hw u (by simp [hu])) h6
      refine ⟨⟨t.nm, p2, a⟩ :: b, ?_, RT.cons rfl y2 z2⟩
      rw [typs, if_pos rfl, name_hd n1]
      dsimp only
      rw [show (8 : Nat) = 7 + 1 from rfl, blk, if_pos (show (hd en (⟨[123], p3⟩ :: (v4 ++ ⟨[125], p5⟩ :: v6))).t = [123] from rfl), show (⟨[123], p3⟩ :: (v4 ++ ⟨[125], p5⟩ :: v6) : List Tk).tail = v4 ++ ⟨[125], p5⟩ :: v6 from rfl, y1]
      dsimp only
      rw [z1]
      rfl
end
theorem cut_types (l : List Ty) (h : ∀ t ∈ l, NM t.nm ∧ t.l.len ≤ 16 ∧ WI 7 t.l) : CutF (ptxt l) (l.flatMap tkT) := by
  induction l with
  | nil => exact CutF.nil
  | cons t l ih =>
    have c1 := ih (fun u hu => h u (by simp [hu]))
    obtain ⟨n1, n2, n3⟩ := h t (by simp)
    have k1 : Cut ([32] ++ t.nm) [t.nm] := (cutF_blank 32 (by decide)).then (cut_nm n1)
    have k2 : Cut (wStruct ++ ([32] ++ t.nm)) ([wStruct] ++ [t.nm]) := (cut_word (t := wStruct) (by decide) (by decide)).then (c := 32) (by decide) k1
    have k3 : CutF [32, 123, 10] [[123]] := by
      have := ((cutF_blank 32 (by decide)).app (cutF_mark 123 (by decide) (by decide) (by decide))).app (cutF_blank 10 (by decide))
      exact this
    have k4 : CutF [125, 10] [[125]] := (cutF_mark 125 (by decide) (by decide) (by decide)).app (cutF_blank 10 (by decide))
    have k5 := (((k2.thenF (c := 32) (by decide) k3).app (cut_items t.l 7 [] n3 (fun c hc => by cases hc))).app k4).app c1
    have e1 : ptxt (t :: l) = wStruct ++ ([32] ++ t.nm) ++ [32, 123, 10] ++ itx [] t.l ++ [125, 10] ++ ptxt l := by unfold ptxt; rw [List.flatMap_cons]; simp [tyx]
    have e2 : (t :: l).flatMap tkT = [wStruct] ++ [t.nm] ++ [[123]] ++ tkI t.l ++ [[125]] ++ l.flatMap tkT := by rw [List.flatMap_cons]; simp [tkT]
    rw [e1, e2]
    exact k5
/-- What is printed is read as what was printed. -/
theorem print_reads (l : List Ty) (h : WT l) : (lx (ptxt l) 0).2 = none ∧ ∃ l', typs nb (ptxt l).length 8 (lx (ptxt l) 0).1 = .ok l' ∧ RT id l l' := by
  obtain ⟨us, h1, h2⟩ := cut_types l h.2 [] 0
  rw [List.append_nil] at h2
  have h3 : lx [] (0 + (ptxt l).length) = ([], none) := lx_nil _
  rw [h3, List.append_nil] at h2
  rw [h2]
  exact ⟨rfl, typs_reads 8 l us h.1 h.2 h1⟩
end Go.Proofs.Ytpanodaecjlgaaa.tm
