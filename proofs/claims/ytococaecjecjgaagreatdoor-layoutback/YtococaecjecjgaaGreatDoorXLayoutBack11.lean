/- Texts laid together: TmZ, TmV, ItRow, Tm1, Tm2. -/
import Derived.Test.YtococaecjecjgaaGreatDoorXLayoutBack10
import Derived.Test.YtococaecjecjgaaGreatDoorXLayoutBack4
import Derived.Deep.Upon
import Derived.Test.YtococaecjecjgaaGreatDoorXLayoutBack9
/- Templates: what is written is read (pure). -/
namespace Go.Proofs.YtococaecjecjgaaGreatDoor.tm
set_option linter.unusedVariables false
open lx ex

theorem sm_rx {x y : Ex} (h : Sm x y) : Rx id x y := by
  induction h with
  | num a b k => exact Rx.num _ _ _
  | nam a b t => exact Rx.nam _ _ _
  | bin a b o l l' r r' _ _ il ir => exact Rx.bin _ _ _ _ _ _ _ il ir
section
variable {en : Nat}
/-- An expression, up to its mark. -/
theorem rx_reads {m : List UInt8} (hm : Em m) {x : Ex} (hx : WX x) {us ts : List Tk} {p : Nat} (hu : us.map Tk.t = tk Lib.itoa x) : ∃ x', rx nb en m (us ++ ⟨m, p⟩ :: ts) = .ok (x', ⟨m, p⟩ :: ts) ∧ Rx id x x' := by
  obtain ⟨_, _, _, _, _, m5⟩ := hm
  obtain ⟨w1, w2, w3⟩ := hx
  obtain ⟨x', h1, h2⟩ := reads (en := en) x w1 3 1 0 us (⟨m, p⟩ :: ts) (by omega) (by omega) (by rw [sd_one w1.okb]; omega) (by rw [sk_one w1.okb]; exact hu) (by show bd m ≤ 1; omega)
  obtain ⟨f, hf⟩ := h2 1 _ (lp_stop 0 1 0 x' (⟨m, p⟩ :: ts) (by show bd m < 1; omega))
  exact ⟨x', rx_of hf rfl, sm_rx h1⟩
theorem want_hd (m : List UInt8) (p : Nat) (ts : List Tk) : want en m (⟨m, p⟩ :: ts) = .ok ts := by unfold want; rw [if_pos (show (hd en (⟨m, p⟩ :: ts)).t = m from rfl)]; rfl
theorem name_hd {t : List UInt8} (h : NM t) (p : Nat) (ts : List Tk) : name en (⟨t, p⟩ :: ts) = .ok (t, ts) := by
  obtain ⟨h1, h2, h3, _⟩ := h
  unfold name
  rw [show (hd en (⟨t, p⟩ :: ts)).t = t from rfl, if_neg (by rw [h1, h2]; simp), if_neg (by omega)]
  rfl
theorem many_reads {x : Ex} (hx : WX x) {us ts : List Tk} {p p' : Nat} (hu : us.map Tk.t = tk Lib.itoa x) : ∃ x', many nb en (⟨[91], p⟩ :: (us ++ ⟨[93], p'⟩ :: ts)) = .ok (x', ts) ∧ Rx id x x' := by
  obtain ⟨x', h1, h2⟩ := rx_reads (en := en) em_cb hx (ts := ts) (p := p') hu
  refine ⟨x', ?_, h2⟩
  unfold many
  rw [want_hd]
  dsimp only
  rw [h1]
  rfl
theorem mcons {us : List Tk} {a : List UInt8} {b : List (List UInt8)} (h : us.map Tk.t = a :: b) : ∃ p v, us = ⟨a, p⟩ :: v ∧ v.map Tk.t = b := map_cons h
theorem rw_of {r : Nat} (h : r = 1 ∨ r = 2 ∨ r = 3) : ruleOf (rw_ r) = r := by rcases h with rfl | rfl | rfl <;> decide
/-- A rule. -/
theorem rule_reads {d d' : D} (h : WR d) (hr : d.ru ≠ 0) (hd' : RD id { d with ru := 0, f1 := [], l1 := [] } d') {us ts : List Tk} {p : Nat} (hu : us.map Tk.t = rw_ d.ru :: d.f1 :: (if d.ru = 3 ∧ d.l1 ≠ d.f1 then [d.l1] else [])) : ∃ e, rule en d' (us ++ ⟨[59], p⟩ :: ts) = .ok (e, ⟨[59], p⟩ :: ts) ∧ RD id d e := by
  obtain ⟨p1, v1, rfl, h1⟩ := mcons hu
  obtain ⟨p2, v2, rfl, h2⟩ := mcons h1
  have hru : d.ru = 1 ∨ d.ru = 2 ∨ d.ru = 3 := by
    rcases h with h | h | h
    · exact absurd h.1 hr
    · rcases h.1 with e | e
      · exact Or.inl e
      · exact Or.inr (Or.inl e)
    · exact Or.inr (Or.inr h.1)
  have hf : NM d.f1 := by
    rcases h with h | h | h
    · exact absurd h.1 hr
    · exact h.2.1
    · exact h.2.1
  have e0 : ruleOf (rw_ d.ru) = d.ru := rw_of hru
  have e1 : (hd en ((⟨rw_ d.ru, p1⟩ :: ⟨d.f1, p2⟩ :: v2) ++ ⟨[59], p⟩ :: ts)).t = rw_ d.ru := rfl
  unfold rule
  rw [e1, e0, if_neg hr]
  have e2 : ((⟨rw_ d.ru, p1⟩ :: ⟨d.f1, p2⟩ :: v2) ++ ⟨[59], p⟩ :: ts : List Tk).tail = ⟨d.f1, p2⟩ :: (v2 ++ ⟨[59], p⟩ :: ts) := rfl
  rw [e2, name_hd hf]
  dsimp only
  by_cases h3 : d.ru = 3
  · rw [if_pos h3]
    have hl : NM d.l1 := by
      rcases h with h | h | h
      · exact absurd h.1 hr
      · exfalso; rcases h.1 with e | e <;> omega
      · exact h.2.2
    by_cases hne : d.l1 ≠ d.f1
    · rw [if_pos ⟨h3, hne⟩] at h2
      obtain ⟨p3, v3, rfl, h4⟩ := mcons h2
      obtain rfl := map_nil h4
      have e3 : ¬ (hd en ([⟨d.l1, p3⟩] ++ ⟨[59], p⟩ :: ts)).t = [59] := by
        show ¬ d.l1 = [59]
        intro e; have := hl.2.1; rw [e] at this; revert this; decide
      rw [if_neg e3, List.singleton_append, name_hd hl]
      exact ⟨_, rfl, ⟨hd'.kd, hd'.nm, hd'.ty, hd'.wd, hd'.od, hd'.sg, hd'.mn, hd'.ct, h3.symm, rfl, rfl⟩⟩
    · rw [if_neg (fun hc => hne hc.2)] at h2
      obtain rfl := map_nil h2
      rw [if_pos (show (hd en ([] ++ ⟨[59], p⟩ :: ts)).t = [59] from rfl)]
      have e4 : d.l1 = d.f1 := by simpa using hne
      exact ⟨_, rfl, ⟨hd'.kd, hd'.nm, hd'.ty, hd'.wd, hd'.od, hd'.sg, hd'.mn, hd'.ct, h3.symm, rfl, by show d.f1 = d.l1; rw [e4]⟩⟩
  · rw [if_neg h3]
    rw [if_neg (fun hc => h3 hc.1)] at h2
    obtain rfl := map_nil h2
    have hl : d.l1 = [] := by
      rcases h with h | h | h
      · exact absurd h.1 hr
      · exact h.2.2
      · exact absurd h.1 h3
    exact ⟨_, rfl, ⟨hd'.kd, hd'.nm, hd'.ty, hd'.wd, hd'.od, hd'.sg, hd'.mn, hd'.ct, rfl, rfl, by show d'.l1 = id d.l1; rw [hd'.l1, hl]⟩⟩
theorem kw_num {d : D} (h1 : d.kd = 1) (h : ∃ t, numOf t = some (d.wd, d.od, d.sg)) : numOf (kw d) = some (d.wd, d.od, d.sg) := by
  have key : ∀ p ∈ numW, numOf (((numW.find? (fun q => q.2.1 == p.2.1 && q.2.2.1 == p.2.2.1 && q.2.2.2 == p.2.2.2)).map (·.1)).getD []) = some (p.2.1, p.2.2.1, p.2.2.2) := by decide
  obtain ⟨t, ht⟩ := h
  unfold numOf at ht
  cases hf : numW.find? (fun p => p.1 == t) with
  | none => rw [hf] at ht; cases ht
  | some p =>
    rw [hf] at ht
    injection ht with ht
    have ht' : p.2 = (d.wd, d.od, d.sg) := ht
    have := key p (List.mem_of_find?_eq_some hf)
    rw [ht'] at this
    unfold kw
    rw [if_neg (by rw [h1]; decide), if_neg (by rw [h1]; decide)]
    exact this
theorem num_not {t : List UInt8} (h : numOf t ≠ none) : t ≠ wWhen ∧ t ≠ wBytes := by
  refine ⟨fun e => ?_, fun e => ?_⟩ <;> (rw [e] at h; revert h; decide)
theorem nm_not {t : List UInt8} (h : NM t) : t ≠ wWhen ∧ t ≠ wBytes ∧ numOf t = none := by
  have h1 := h.1
  refine ⟨fun e => ?_, fun e => ?_, ?_⟩
  · rw [e] at h1; revert h1; decide
  · rw [e] at h1; revert h1; decide
  · cases hn : numOf t with
    | none => rfl
    | some _ => have := numOf_resv (t := t) (by rw [hn]; simp); rw [h1] at this; cases this
/-- A part that is no when, and no bytes. -/
theorem part_reads {d : D} (h : WD d) (h4 : d.kd ≠ 4) (h2 : d.kd ≠ 2) {us ts : List Tk} (hu : us.map Tk.t = tkD d) : ∃ e, part nb en (us ++ ts) = .ok (e, ts) ∧ RD id d e ∧ (hd en (us ++ ts)).t ≠ wWhen ∧ (hd en (us ++ ts)).t ≠ wBytes := by
  unfold tkD at hu
  obtain ⟨p1, v1, rfl, h1⟩ := mcons hu
  obtain ⟨p2, v2, rfl, h3⟩ := mcons h1
  obtain ⟨v3, v5, rfl, h5, h6⟩ := map_cut h3
  obtain ⟨v4, v6, rfl, h7, h8⟩ := map_cut h5
  obtain ⟨p9, v9, rfl, h9⟩ := mcons h6
  obtain rfl := map_nil h9
  have hnm := wd_nm h h4
  -- the kind
  obtain ⟨d0, k1, k2, k3⟩ : ∃ d0, kind en ((⟨kw d, p1⟩ :: ⟨d.nm, p2⟩ :: (v4 ++ v6 ++ [⟨[59], p9⟩])) ++ ts) = .ok (d0, ⟨d.nm, p2⟩ :: (v4 ++ v6 ++ [⟨[59], p9⟩] ++ ts)) ∧ RD id { d with nm := [], mn := false, ct := none, ru := 0, f1 := [], l1 := [] } d0 ∧ kw d ≠ wWhen ∧ kw d ≠ wBytes := by
    unfold kind
    rw [show (hd en ((⟨kw d, p1⟩ :: ⟨d.nm, p2⟩ :: (v4 ++ v6 ++ [⟨[59], p9⟩])) ++ ts)).t = kw d from rfl]
    rcases h with h | h | h | h
    · exact absurd h.1 h4
    · exact absurd h.1 h2
    · have ek : kw d = d.ty := by unfold kw; rw [if_neg h2, if_pos h.1]
      obtain ⟨n1, n2, n3⟩ := nm_not h.2.1
      rw [ek, n3]
      dsimp only
      rw [show ((⟨d.ty, p1⟩ :: ⟨d.nm, p2⟩ :: (v4 ++ v6 ++ [⟨[59], p9⟩])) ++ ts : List Tk) = ⟨d.ty, p1⟩ :: (⟨d.nm, p2⟩ :: (v4 ++ v6 ++ [⟨[59], p9⟩] ++ ts)) by simp, name_hd h.2.1]
      exact ⟨_, rfl, ⟨h.1.symm, rfl, rfl, h.2.2.2.1.symm, h.2.2.2.2.1.symm, h.2.2.2.2.2.1.symm, rfl, RO.none, rfl, rfl, rfl⟩, n1, n2⟩
    · have hn := kw_num h.1 h.2.2.1
      obtain ⟨n1, n2⟩ := num_not (t := kw d) (by rw [hn]; simp)
      rw [hn]
      dsimp only
      refine ⟨{ D0 with kd := 1, wd := d.wd, od := d.od, sg := d.sg }, ?_, ⟨h.1.symm, rfl, h.2.1.symm, rfl, rfl, rfl, rfl, RO.none, rfl, rfl, rfl⟩, n1, n2⟩
      rw [show ((⟨kw d, p1⟩ :: ⟨d.nm, p2⟩ :: (v4 ++ v6 ++ [⟨[59], p9⟩])) ++ ts : List Tk).tail = ⟨d.nm, p2⟩ :: (v4 ++ v6 ++ [⟨[59], p9⟩] ++ ts) by simp]
  have m1 := name_hd (en := en) hnm p2 (v4 ++ v6 ++ [⟨[59], p9⟩] ++ ts)
  have k4 : RD id { d with mn := false, ct := none, ru := 0, f1 := [], l1 := [] } { d0 with nm := d.nm } := ⟨k2.kd, rfl, k2.ty, k2.wd, k2.od, k2.sg, k2.mn, k2.ct, k2.ru, k2.f1, k2.l1⟩
  -- what stands behind the name
  obtain ⟨e, q1, q2⟩ : ∃ e, mark nb en { d0 with nm := d.nm } (v4 ++ v6 ++ [⟨[59], p9⟩] ++ ts) = .ok (e, ⟨[59], p9⟩ :: ts) ∧ RD id d e := by
    by_cases hm : d.mn = true ∨ d.kd = 2
    · obtain ⟨x, hx, wx⟩ := mn_some h h4 hm
      have hmn : d.mn = true := by rcases hm with hm | hm; exact hm; exact absurd hm h2
      unfold mnK at h7
      rw [if_pos hm, hx] at h7
      obtain ⟨p3, v7, rfl, g1⟩ := mcons h7
      obtain ⟨v8, v9, rfl, g2, g3⟩ := map_cut g1
      obtain ⟨p4, v10, rfl, g4⟩ := mcons g3
      obtain rfl := map_nil g4
      have hru : d.ru = 0 ∧ d.f1 = [] ∧ d.l1 = [] := by
        rcases h with h | h | h | h
        · exact absurd h.1 h4
        · exact absurd h.1 h2
        · exact ⟨h.2.2.2.2.2.2.1, h.2.2.2.2.2.2.2.1, h.2.2.2.2.2.2.2.2.1⟩
        · rcases h.2.2.2.2 with h' | h'
          · exact ⟨h'.2.2.1, h'.2.2.2.1, h'.2.2.2.2⟩
          · rw [h'.1] at hmn; cases hmn
      unfold ruK at h8
      rw [if_pos (Or.inl hru.1)] at h8
      obtain rfl := map_nil h8
      obtain ⟨x', y1, y2⟩ := many_reads (en := en) wx (ts := ⟨[59], p9⟩ :: ts) (p := p3) (p' := p4) g2
      have e5 : (⟨[91], p3⟩ :: (v8 ++ [⟨[93], p4⟩])) ++ [] ++ [⟨[59], p9⟩] ++ ts = (⟨[91], p3⟩ : Tk) :: (v8 ++ ⟨[93], p4⟩ :: ⟨[59], p9⟩ :: ts) := by simp
      rw [e5]
      unfold mark
      rw [if_pos (show (hd en ((⟨[91], p3⟩ : Tk) :: (v8 ++ ⟨[93], p4⟩ :: ⟨[59], p9⟩ :: ts))).t = [91] from rfl), y1]
      refine ⟨_, rfl, ⟨k4.kd, rfl, k4.ty, k4.wd, k4.od, k4.sg, hmn.symm, ?_, ?_, ?_, ?_⟩⟩
      · rw [hx]; exact RO.some y2
      · rw [hru.1]; exact k4.ru
      · rw [hru.2.1]; exact k4.f1
      · rw [hru.2.2]; exact k4.l1
    · unfold mnK at h7
      rw [if_neg hm] at h7
      obtain rfl := map_nil h7
      have hmn : d.mn = false := by cases hc : d.mn with | true => exact absurd (Or.inl hc) hm | false => rfl
      have hct : d.ct = none := by
        rcases h with h | h | h | h
        · exact absurd h.1 h4
        · exact absurd h.1 h2
        · rcases h.2.2.2.2.2.2.2.2.2 with h' | h'
          · rw [hmn] at h'; cases h'.1
          · exact h'.2
        · rcases h.2.2.2.2 with h' | h'
          · rw [hmn] at h'; cases h'.1
          · exact h'.2.1
      by_cases hr : d.ru = 0
      · have hff : d.f1 = [] ∧ d.l1 = [] := by
          rcases h with h | h | h | h
          · exact absurd h.1 h4
          · exact absurd h.1 h2
          · exact ⟨h.2.2.2.2.2.2.2.1, h.2.2.2.2.2.2.2.2.1⟩
          · rcases h.2.2.2.2 with h' | h'
            · exact ⟨h'.2.2.2.1, h'.2.2.2.2⟩
            · rcases h'.2.2 with g | g | g
              · exact g.2
              · exfalso; rcases g.1 with e | e <;> omega
              · exfalso; have := g.1; omega
        unfold ruK at h8
        rw [if_pos (Or.inl hr)] at h8
        obtain rfl := map_nil h8
        refine ⟨{ d0 with nm := d.nm }, ?_, ⟨k4.kd, rfl, k4.ty, k4.wd, k4.od, k4.sg, by rw [k4.mn]; exact hmn.symm, by rw [hct]; exact k4.ct, by rw [k4.ru, hr], by rw [k4.f1, hff.1], by rw [k4.l1, hff.2]⟩⟩
        unfold mark
        have e6 : ([] ++ [] ++ [(⟨[59], p9⟩ : Tk)] ++ ts) = (⟨[59], p9⟩ : Tk) :: ts := by simp
        rw [e6]
        have e7 : (hd en ((⟨[59], p9⟩ : Tk) :: ts)).t = [59] := rfl
        rw [e7, if_neg (by decide), if_neg (fun hc => absurd hc.1 (by decide))]
      · obtain ⟨wr, hkd, _, _⟩ := ru_wr h hr
        have hru : d.ru = 1 ∨ d.ru = 2 ∨ d.ru = 3 := by
          rcases wr with h | h | h
          · exact absurd h.1 hr
          · rcases h.1 with e | e
            · exact Or.inl e
            · exact Or.inr (Or.inl e)
          · exact Or.inr (Or.inr h.1)
        unfold ruK at h8
        rw [if_neg (by omega)] at h8
        obtain ⟨p3, v7, rfl, g1⟩ := mcons h8
        have hd0 : RD id { d with ru := 0, f1 := [], l1 := [] } { d0 with nm := d.nm } := ⟨k4.kd, rfl, k4.ty, k4.wd, k4.od, k4.sg, by rw [k4.mn]; exact hmn.symm, by show RO id d.ct _; rw [hct]; exact k4.ct, k4.ru, k4.f1, k4.l1⟩
        obtain ⟨e, y1, y2⟩ := rule_reads (en := en) wr hr hd0 (ts := ts) (p := p9) g1
        have e5 : [] ++ (⟨[61], p3⟩ :: v7) ++ [⟨[59], p9⟩] ++ ts = (⟨[61], p3⟩ : Tk) :: (v7 ++ ⟨[59], p9⟩ :: ts) := by simp
        rw [e5]
        unfold mark
        rw [if_neg (show ¬ (hd en ((⟨[61], p3⟩ : Tk) :: (v7 ++ ⟨[59], p9⟩ :: ts))).t = [91] by show ¬ ([61] : List UInt8) = [91]; decide), if_pos ⟨rfl, by rw [k4.kd]; exact hkd⟩]
        exact ⟨e, y1, y2⟩
  refine ⟨e, ?_, q2, k3⟩
  unfold part
  rw [k1]
  dsimp only
  rw [m1]
  dsimp only
  rw [q1]
  dsimp only
  rw [want_hd]
end
end Go.Proofs.YtococaecjecjgaaGreatDoor.tm
/- Templates: what is written is read, whole (pure). -/
namespace Go.Proofs.YtococaecjecjgaaGreatDoor.tm
set_option linter.unusedVariables false
open lx ex

section
variable {en : Nat}
/-- Bytes. -/
theorem byts_reads {d : D} (h : WD d) (h2 : d.kd = 2) {us ts : List Tk} (hu : us.map Tk.t = tkD d) : ∃ p v e, us = ⟨wBytes, p⟩ :: v ∧ byts nb en (v ++ ts) = .ok (e, ts) ∧ RD id d e := by
  have h4 : d.kd ≠ 4 := by omega
  unfold tkD at hu
  obtain ⟨p1, v1, rfl, h1⟩ := mcons hu
  obtain ⟨p2, v2, rfl, h3⟩ := mcons h1
  obtain ⟨v3, v5, rfl, h5, h6⟩ := map_cut h3
  obtain ⟨v4, v6, rfl, h7, h8⟩ := map_cut h5
  obtain ⟨p9, v9, rfl, h9⟩ := mcons h6
  obtain rfl := map_nil h9
  have hnm := wd_nm h h4
  have ek : kw d = wBytes := by unfold kw; rw [if_pos h2]
  rcases h with h | h | h | h
  · exact absurd h.1 h4
  · obtain ⟨_, _, ⟨x, hx, wx⟩, e3, e4, e5, e6, e7, e8, e9, e10⟩ := h
    unfold mnK at h7
    rw [if_pos (Or.inr h2), hx] at h7
    obtain ⟨p3, v7, rfl, g1⟩ := mcons h7
    obtain ⟨v8, v9, rfl, g2, g3⟩ := map_cut g1
    obtain ⟨p4, v10, rfl, g4⟩ := mcons g3
    obtain rfl := map_nil g4
    unfold ruK at h8
    rw [if_pos (Or.inl e4)] at h8
    obtain rfl := map_nil h8
    obtain ⟨x', y1, y2⟩ := many_reads (en := en) wx (ts := ⟨[59], p9⟩ :: ts) (p := p3) (p' := p4) g2
    refine ⟨p1, _, { D0 with kd := 2, nm := d.nm, ct := some x' }, by rw [ek], ?_, ⟨h2.symm, rfl, e5.symm, e6.symm, e7.symm, e8.symm, e3.symm, by rw [hx]; exact RO.some y2, e4.symm, e9.symm, e10.symm⟩⟩
    have e11 : (⟨d.nm, p2⟩ : Tk) :: ((⟨[91], p3⟩ :: (v8 ++ [⟨[93], p4⟩])) ++ [] ++ [⟨[59], p9⟩]) ++ ts = ⟨d.nm, p2⟩ :: (⟨[91], p3⟩ :: (v8 ++ ⟨[93], p4⟩ :: ⟨[59], p9⟩ :: ts)) := by simp
    rw [e11]
    unfold byts
    rw [name_hd hnm]
    dsimp only
    rw [y1]
    dsimp only
    rw [want_hd]
  · rw [h.1] at h2; cases h2
  · rw [h.1] at h2; cases h2
theorem rd_at {d e : D} (h : RD id d e) (a : Nat) : RD id d { e with at_ := a } := ⟨h.kd, h.nm, h.ty, h.wd, h.od, h.sg, h.mn, h.ct, h.ru, h.f1, h.l1⟩
/-- An item. -/
theorem item_reads {inner : List Tk → Rs Its} {d : D} {s : Its} (h : WD d) (hn : d.kd ≠ 4 → noSub s = true)
    (hi : d.kd = 4 → ∀ (us ts : List Tk) (p p' : Nat), us.map Tk.t = tkI s → ∃ s', inner (⟨[123], p⟩ :: (us ++ ⟨[125], p'⟩ :: ts)) = .ok (s', ts) ∧ RI id s s')
    {us ts : List Tk} (hu : us.map Tk.t = (if d.kd = 4 then wWhen :: tkO d.ct ++ [123] :: tkI s ++ [[125]] else tkD d)) :
    ∃ d' s', item nb en inner (us ++ ts) = .ok ((d', s'), ts) ∧ RD id d d' ∧ RI id s s' ∧ (hd en (us ++ ts)).t ≠ [125] := by
  by_cases h4 : d.kd = 4
  · rw [if_pos h4] at hu
    have hu' : us.map Tk.t = wWhen :: (tkO d.ct ++ ([123] :: (tkI s ++ [[125]]))) := by rw [hu]; simp
    obtain ⟨p1, v1, rfl, h1⟩ := mcons hu'
    obtain ⟨v2, v3, rfl, h2, h3⟩ := map_cut h1
    obtain ⟨p2, v4, rfl, h5⟩ := mcons h3
    obtain ⟨v5, v6, rfl, h6, h7⟩ := map_cut h5
    obtain ⟨p3, v7, rfl, h8⟩ := mcons h7
    obtain rfl := map_nil h8
    rcases h with h | h | h | h
    · obtain ⟨_, ⟨x, hx, wx⟩, e1, e2, e3, e4, e5, e6, e7, e8, e9⟩ := h
      rw [hx] at h2
      obtain ⟨x', y1, y2⟩ := rx_reads (en := en) em_ob wx (ts := v5 ++ ⟨[125], p3⟩ :: ts) (p := p2) h2
      obtain ⟨s', z1, z2⟩ := hi h4 v5 ts p2 p3 h6
      refine ⟨{ D0 with kd := 4, at_ := p1, ct := some x' }, s', ?_, ⟨h4.symm, e1.symm, e4.symm, e7.symm, e8.symm, e9.symm, e2.symm, by rw [hx]; exact RO.some y2, e3.symm, e5.symm, e6.symm⟩, z2, by show wWhen ≠ [125]; decide⟩
      · have e7 : (⟨wWhen, p1⟩ : Tk) :: (v2 ++ ⟨[123], p2⟩ :: (v5 ++ [⟨[125], p3⟩])) ++ ts = ⟨wWhen, p1⟩ :: (v2 ++ ⟨[123], p2⟩ :: (v5 ++ ⟨[125], p3⟩ :: ts)) := by simp
        rw [e7]
        unfold item
        rw [show (hd en ((⟨wWhen, p1⟩ : Tk) :: (v2 ++ ⟨[123], p2⟩ :: (v5 ++ ⟨[125], p3⟩ :: ts)))) = ⟨wWhen, p1⟩ from rfl, if_pos rfl, List.tail_cons, y1]
        dsimp only
        rw [z1]
    · rw [h.1] at h4; cases h4
    · rw [h.1] at h4; cases h4
    · rw [h.1] at h4; cases h4
  · rw [if_neg h4] at hu
    have hs : s = .nil := by cases s with
      | nil => rfl
      | cons a b c => exact absurd (hn h4) (by simp [noSub])
    subst hs
    by_cases h2 : d.kd = 2
    · obtain ⟨p, v, e, rfl, k1, k2⟩ := byts_reads (en := en) h h2 (ts := ts) hu
      refine ⟨{ e with at_ := p }, .nil, ?_, rd_at k2 p, RI.nil, ?_⟩
      · unfold item
        rw [show (hd en ((⟨wBytes, p⟩ : Tk) :: v ++ ts)) = ⟨wBytes, p⟩ from rfl]
        dsimp only
        rw [if_neg (by decide), if_pos rfl, show ((⟨wBytes, p⟩ : Tk) :: v ++ ts).tail = v ++ ts from rfl, k1]
      · show wBytes ≠ [125]
        decide
    · obtain ⟨e, k1, k2, k3, k4⟩ := part_reads (en := en) h h4 h2 (ts := ts) hu
      refine ⟨{ e with at_ := (hd en (us ++ ts)).a }, .nil, ?_, rd_at k2 _, RI.nil, ?_⟩
      · unfold item
        rw [if_neg k3, if_neg k4, k1]
      · unfold tkD at hu
        obtain ⟨p1, v1, rfl, h1⟩ := mcons hu
        show kw d ≠ [125]
        obtain ⟨w1, _⟩ := kw_word d h h4
        intro e
        have := w1 125 (by rw [e]; simp)
        revert this; decide
theorem loop_reads (inner : Nat → List Tk → Rs Its)
    (l : Its) : ∀ (k : Nat) (n : Nat) (us ts : List Tk) (p : Nat), WI k l → l.len ≤ n → us.map Tk.t = tkI l → ∃ l', loop nb en (blk nb en k) n (us ++ ⟨[125], p⟩ :: ts) = .ok (l', ts) ∧ RI id l l' := by
  induction l with
  | nil =>
    intro k n us ts p hw hl hu
    obtain rfl := map_nil hu
    refine ⟨.nil, ?_, RI.nil⟩
    cases n with
    | zero => rw [loop, if_pos (show (hd en ([] ++ ⟨[125], p⟩ :: ts)).t = [125] from rfl)]; rfl
    | succ n => rw [loop, if_pos (show (hd en ([] ++ ⟨[125], p⟩ :: ts)).t = [125] from rfl)]; rfl
  | cons d s t is it =>
    intro k n us ts p hw hl hu
    obtain ⟨w1, w2, w3, w4⟩ := hw
    rw [tkI] at hu
    obtain ⟨v1, v2, rfl, h1, h2⟩ := map_cut hu
    have hl' : t.len + 1 ≤ n := hl
    cases n with
    | zero => omega
    | succ n =>
      have hi : d.kd = 4 → ∀ (us ts : List Tk) (p p' : Nat), us.map Tk.t = tkI s → ∃ s', blk nb en k (⟨[123], p⟩ :: (us ++ ⟨[125], p'⟩ :: ts)) = .ok (s', ts) ∧ RI id s s' := by
        intro h4 us ts p p' hus
        obtain ⟨g1, g2, g3⟩ := w3 h4
        obtain ⟨s', y1, y2⟩ := is (k - 1) 16 us ts p' g3 g2 hus
        refine ⟨s', ?_, y2⟩
        rw [show k = (k - 1) + 1 by omega, blk, if_pos (show (hd en (⟨[123], p⟩ :: (us ++ ⟨[125], p'⟩ :: ts))).t = [123] from rfl)]
        exact y1
      obtain ⟨d', s', k1, k2, k3, k4⟩ := item_reads (en := en) w1 w2 hi (ts := v2 ++ ⟨[125], p⟩ :: ts) h1
      obtain ⟨t', y1, y2⟩ := it k n v2 ts p w4 (by omega) h2
      refine ⟨.cons d' s' t', ?_, RI.cons k2 k3 y2⟩
      rw [List.append_assoc, loop, if_neg k4, k1]
      dsimp only
      rw [y1]
theorem typs_reads (n : Nat) : ∀ (l : List Ty) (us : List Tk), l.length ≤ n → (∀ t ∈ l, NM t.nm ∧ t.l.len ≤ 16 ∧ WI 7 t.l) → us.map Tk.t = l.flatMap tkT → ∃ l', typs nb en n us = .ok l' ∧ RT id l l' := by
  induction n with
  | zero =>
    intro l us hl hw hu
    cases l with
    | nil => obtain rfl := map_nil hu; exact ⟨[], rfl, RT.nil⟩
    | cons a b => simp at hl
  | succ n ih =>
    intro l us hl hw hu
    cases l with
    | nil => obtain rfl := map_nil hu; exact ⟨[], rfl, RT.nil⟩
    | cons t l =>
      have hu' : us.map Tk.t = wStruct :: (t.nm :: ([123] :: (tkI t.l ++ ([125] :: l.flatMap tkT)))) := by rw [hu]; simp [tkT]
      obtain ⟨p1, v1, rfl, h1⟩ := mcons hu'
      obtain ⟨p2, v2, rfl, h2⟩ := mcons h1
      obtain ⟨p3, v3, rfl, h3⟩ := mcons h2
      obtain ⟨v4, v5, rfl, h4, h5⟩ := map_cut h3
      obtain ⟨p5, v6, rfl, h6⟩ := mcons h5
      obtain ⟨n1, n2, n3⟩ := hw t (by simp)
      obtain ⟨a, y1, y2⟩ := loop_reads (en := en) (fun _ => blk nb en 0) t.l 7 16 v4 v6 p5 n3 n2 h4
      obtain ⟨b, z1, z2⟩ := ih l v6 (by simp at hl; omega) (fun u hu => hw u (by simp [hu])) h6
      refine ⟨⟨t.nm, p2, a⟩ :: b, ?_, RT.cons rfl y2 z2⟩
      rw [typs, if_pos rfl, name_hd n1]
      dsimp only
      rw [show (8 : Nat) = 7 + 1 from rfl, blk, if_pos (show (hd en (⟨[123], p3⟩ :: (v4 ++ ⟨[125], p5⟩ :: v6))).t = [123] from rfl), show (⟨[123], p3⟩ :: (v4 ++ ⟨[125], p5⟩ :: v6) : List Tk).tail = v4 ++ ⟨[125], p5⟩ :: v6 from rfl, y1]
      dsimp only
      rw [z1]
      rfl
end
theorem cut_types (l : List Ty) (h : ∀ t ∈ l, NM t.nm ∧ t.l.len ≤ 16 ∧ WI 7 t.l) : CutF (ptxt l) (l.flatMap tkT) := by
  induction l with
  | nil => exact CutF.nil
  | cons t l ih =>
    have c1 := ih (fun u hu => h u (by simp [hu]))
    obtain ⟨n1, n2, n3⟩ := h t (by simp)
    have k1 : Cut ([32] ++ t.nm) [t.nm] := (cutF_blank 32 (by decide)).then (cut_nm n1)
    have k2 : Cut (wStruct ++ ([32] ++ t.nm)) ([wStruct] ++ [t.nm]) := (cut_word (t := wStruct) (by decide) (by decide)).then (c := 32) (by decide) k1
    have k3 : CutF [32, 123, 10] [[123]] := by
      have := ((cutF_blank 32 (by decide)).app (cutF_mark 123 (by decide) (by decide) (by decide))).app (cutF_blank 10 (by decide))
      exact this
    have k4 : CutF [125, 10] [[125]] := (cutF_mark 125 (by decide) (by decide) (by decide)).app (cutF_blank 10 (by decide))
    have k5 := (((k2.thenF (c := 32) (by decide) k3).app (cut_items t.l 7 [] n3 (fun c hc => by cases hc))).app k4).app c1
    have e1 : ptxt (t :: l) = wStruct ++ ([32] ++ t.nm) ++ [32, 123, 10] ++ itx [] t.l ++ [125, 10] ++ ptxt l := by unfold ptxt; rw [List.flatMap_cons]; simp [tyx]
    have e2 : (t :: l).flatMap tkT = [wStruct] ++ [t.nm] ++ [[123]] ++ tkI t.l ++ [[125]] ++ l.flatMap tkT := by rw [List.flatMap_cons]; simp [tkT]
    rw [e1, e2]
    exact k5
/-- What is printed is read as what was printed. -/
theorem print_reads (l : List Ty) (h : WT l) : (lx (ptxt l) 0).2 = none ∧ ∃ l', typs nb (ptxt l).length 8 (lx (ptxt l) 0).1 = .ok l' ∧ RT id l l' := by
  obtain ⟨us, h1, h2⟩ := cut_types l h.2 [] 0
  rw [List.append_nil] at h2
  have h3 : lx [] (0 + (ptxt l).length) = ([], none) := lx_nil _
  rw [h3, List.append_nil] at h2
  rw [h2]
  exact ⟨rfl, typs_reads 8 l us h.1 h.2 h1⟩
end Go.Proofs.YtococaecjecjgaaGreatDoor.tm
/- Rows of items, and of structs, as they lie. -/
namespace Go.Proofs.YtococaecjecjgaaGreatDoor.tm
set_option linter.unusedVariables false
open Go.ChangeShapes Go.WideShapes Go.ChangeAt Go.RowKit
open mem lx ex

/-- An item's cells. -/
structure C where
  d : D
  pc : Option Addr
  p : Option Addr
  n : Nat
  c : Nat
def cl (x : C) : List Value := [.int .i64 (x.d.kd : Int), .int .i64 (x.d.at_ : Int), .string (tx x.d.nm), .string (tx x.d.ty), .int .i64 (x.d.wd : Int), .int .i64 (x.d.od : Int), .bool x.d.sg, .bool x.d.mn, .pointer x.pc, .int .i64 (x.d.ru : Int), .string (tx x.d.f1), .string (tx x.d.l1), .slice x.p x.n x.c]
/-- A struct's cells. -/
structure CT where
  nm : List UInt8
  a : Nat
  p : Option Addr
  n : Nat
  c : Nat
def clT (x : CT) : List Value := [.string (tx x.nm), .int .i64 (x.a : Int), .slice x.p x.n x.c]
namespace ir
abbrev E := C
def rowE (l : List C) : List Value := l.flatMap cl
theorem rowE_cons (x : C) (l : List C) : rowE (x :: l) = cl x ++ rowE l := by unfold rowE; rw [List.flatMap_cons]
theorem cl_len (x : C) : (cl x).length = 13 := rfl
theorem rowE_len (l : List C) : (rowE l).length = l.length * 13 := by
  induction l with
  | nil => rfl
  | cons x l ih => rw [rowE_cons, List.length_append, ih, cl_len]; simp only [List.length_cons]; omega
theorem rowE_append (a b : List C) : rowE (a ++ b) = rowE a ++ rowE b := by unfold rowE; rw [List.flatMap_append]
theorem rowE_get (l : List C) (k : Nat) (h : k < l.length) (j : Nat) (hj : j < 13) : (rowE l)[k * 13 + j]? = (cl l[k])[j]? := by
  induction l generalizing k with
  | nil => exact absurd h (Nat.not_lt_zero _)
  | cons x l ih =>
    rw [rowE_cons]
    cases k with
    | zero => rw [Nat.zero_mul, Nat.zero_add, List.getElem?_append_left (by rw [cl_len]; exact hj)]; rfl
    | succ k =>
      rw [List.getElem?_append_right (by rw [cl_len]; omega), cl_len, show (k + 1) * 13 + j - 13 = k * 13 + j by omega]
      exact ih k (by simpa using h)
theorem rowE_one (l : List C) (u : Value) (hu : u ∈ rowE l) : u.oneCell' = true := by
  unfold rowE at hu
  rw [List.mem_flatMap] at hu
  obtain ⟨y, _, hy⟩ := hu
  simp only [cl, List.mem_cons, List.not_mem_nil, or_false] at hy
  rcases hy with rfl | rfl | rfl | rfl | rfl | rfl | rfl | rfl | rfl | rfl | rfl | rfl | rfl <;> rfl
theorem infoE : (Tryz.prog.info? 60).map (fun i => (i.zero, i.size, i.bytes)) = some (some (.agg #[.int .i64 0, .int .i64 0, .string ⟨#[]⟩, .string ⟨#[]⟩, .int .i64 0, .int .i64 0, .bool false, .bool false, .pointer none, .int .i64 0, .string ⟨#[]⟩, .string ⟨#[]⟩, .slice none 0 0]), 13, 144) := by kernel_rfl
theorem infoE' : ∃ i, Tryz.prog.info? 60 = some i ∧ i.zero = some (.agg #[.int .i64 0, .int .i64 0, .string ⟨#[]⟩, .string ⟨#[]⟩, .int .i64 0, .int .i64 0, .bool false, .bool false, .pointer none, .int .i64 0, .string ⟨#[]⟩, .string ⟨#[]⟩, .slice none 0 0]) ∧ i.size = 13 ∧ i.bytes = 144 := by
  obtain ⟨i, h1, h2⟩ := Option.map_eq_some_iff.1 infoE
  simp only [Prod.mk.injEq] at h2
  exact ⟨i, h1, h2.1, h2.2.1, h2.2.2⟩
/-- A row of the call's own that holds just these. -/
def Own (w : World) (base : Nat) (v : Value) (l : List C) : Prop := w.ownsRow base 60 13 v l.length (rowE l)
theorem Own.nil (w : World) (base : Nat) : Own w base (.slice none 0 0) [] := World.ownsRow_nil _ _ _ _
theorem Own.shape {w : World} {base : Nat} {v : Value} {l : List C} (h : Own w base v l) : (v = .slice none 0 0 ∧ l = []) ∨
    ∃ g cap, v = .slice (some ⟨g, 0, none⟩) l.length cap ∧ base ≤ g ∧ g < w.heap.size ∧ l.length ≤ cap ∧ cap ≤ maxLen ∧ (∀ j, w.frozen? ⟨g, j, none⟩ = false) ∧ ∀ j u, (rowE l)[j]? = some u → w.cell? ⟨g, j, none⟩ = some u := by
  rcases h.2 with ⟨h1, h2⟩ | ⟨g, cap, cur, rfl, hbg, hg, hnc, hcm, hcs, htake⟩
  · exact Or.inl ⟨h1, List.eq_nil_of_length_eq_zero h2⟩
  · refine Or.inr ⟨g, cap, rfl, hbg, lt_of_heap hg, hnc, hcm, fun j => by simp [World.frozen?, hg], fun j u hu => ?_⟩
    have hj : j < l.length * 13 := by
      have := (List.getElem?_eq_some_iff.1 hu).1
      rw [rowE_len] at this
      exact this
    rw [← htake, List.getElem?_take, if_pos hj] at hu
    rw [cell_of hg]
    simpa using hu
theorem Own.kind {w : World} {base g n cap : Nat} {l : List C} (h : Own w base (.slice (some ⟨g, 0, none⟩) n cap) l) : ∃ cur, w.heap[g]? = some (.cells cur 60 (0, 0)) := by
  rcases h.2 with ⟨h1, _⟩ | ⟨g', cap', cur, h1, h2, h3, _⟩
  · cases h1
  · simp only [Value.slice.injEq, Option.some.injEq, Addr.mk.injEq] at h1
    obtain ⟨⟨rfl, _, _⟩, _, _⟩ := h1
    exact ⟨cur, h3⟩
theorem Own.block {w : World} {base : Nat} {v : Value} {l : List C} (h : Own w base v l) : ∀ k, v.ownBlock = some k → base ≤ k ∧ k < w.heap.size := World.ownsRow.lt h
theorem Own.step {w w' : World} {base : Nat} {v : Value} {l : List C} (h : Own w base v l) (hb : ∀ g, base ≤ g → g < w.heap.size → w'.heap[g]? = w.heap[g]?) : Own w' base v l := by
  refine ⟨h.1, ?_⟩
  rcases h.2 with h | ⟨g, cap, cur, h1, h2, h3, h4⟩
  · exact Or.inl h
  · refine Or.inr ⟨g, cap, cur, h1, h2, ?_, h4⟩
    rw [hb g h2 (lt_of_heap h3)]
    exact h3
theorem Own.bl {w w' : World} {base : Nat} {v : Value} {l : List C} (h : Own w base v l) (hb : Bl w w') : Own w' base v l := h.step (fun g _ hg => Below.block hb g hg)
theorem Own.gp {w w' : World} {base P : Nat} {v : Value} {l : List C} (h : Own w base v l) (hb : Gp P w w') (hP : P < base) : Own w' base v l := h.step (fun g h1 hg => hb.block g hg (by omega))
theorem app_one (w : World) (base : Nat) (v : Value) (l : List C) (z : C) (x : Addr) (hown : Own w base v l) (hX : ∀ j u, (cl z)[j]? = some u → w.cell? (x.add j) = some u) (hn : l.length ≤ 20000) (hb : base ≤ w.heap.size) :
    ∃ v' w', (Builtin.append_ #[50, 50] 50 #[v, .slice (some x) 1 1]).run Tryz.prog w = .ok v' w' ∧ Own w' base v' (l ++ [z]) ∧ w.grownBy w' v.ownBlock := by
  obtain ⟨i, hi, hz, h1, h2⟩ := infoE'
  obtain ⟨v', w', hr, ho, hg, _⟩ := run_append_own (P := Tryz.prog) w base 50 50 60 i (.agg #[.int .i64 0, .int .i64 0, .string ⟨#[]⟩, .string ⟨#[]⟩, .int .i64 0, .int .i64 0, .bool false, .bool false, .pointer none, .int .i64 0, .string ⟨#[]⟩, .string ⟨#[]⟩, .slice none 0 0]) 13 144 Tryz.underlying50 hi hz h1 h2 rfl (by decide) v l.length (rowE l) hown
    x 1 1 (cl z) rfl hX (fun u hu => rowE_one [z] u (by rw [rowE_cons]; simp [hu])) (by simp [maxLen]; omega) (by omega) hb
  refine ⟨v', w', hr, ?_, hg⟩
  unfold Own
  rw [rowE_append, List.length_append]
  have e : rowE [z] = cl z := by rw [rowE_cons]; simp [rowE]
  rw [e]
  exact ho
/-- A row that lies so. -/
def Lie (w : World) (ok : Nat → Prop) (p : Option Addr) (n c : Nat) (l : List C) : Prop :=
  n = l.length ∧ n ≤ c ∧ (l = [] ∨ ∃ g, p = some ⟨g, 0, none⟩ ∧ ok g ∧ g < w.heap.size ∧ ∀ j u, (rowE l)[j]? = some u → w.cell? ⟨g, j, none⟩ = some u)
theorem Own.lie {w : World} {base : Nat} {v : Value} {l : List C} (h : Own w base v l) : ∃ p c, v = .slice p l.length c ∧ Lie w (fun g => base ≤ g) p l.length c l := by
  rcases h.shape with ⟨rfl, rfl⟩ | ⟨g, cap, rfl, h1, h2, h4, _, _, hc⟩
  · exact ⟨none, 0, rfl, rfl, Nat.le_refl _, Or.inl rfl⟩
  · exact ⟨_, cap, rfl, rfl, h4, Or.inr ⟨g, rfl, h1, h2, hc⟩⟩
theorem Lie.keep {w w' : World} {ok : Nat → Prop} {p : Option Addr} {n c : Nat} {l : List C} (h : Lie w ok p n c l) (hk : ∀ g, ok g → g < w.heap.size → w'.heap[g]? = w.heap[g]?) (hs : w.heap.size ≤ w'.heap.size) : Lie w' ok p n c l := by
  obtain ⟨h1, h2, h3⟩ := h
  refine ⟨h1, h2, ?_⟩
  rcases h3 with h3 | ⟨g, e, h4, h5, h6⟩
  · exact Or.inl h3
  · refine Or.inr ⟨g, e, h4, by omega, fun j u hu => ?_⟩
    have := h6 j u hu
    unfold World.cell? at this ⊢
    rw [hk g h4 h5]
    exact this
theorem Lie.mono {w : World} {ok ok' : Nat → Prop} {p : Option Addr} {n c : Nat} {l : List C} (h : Lie w ok p n c l) (ho : ∀ g, ok g → g < w.heap.size → ok' g) : Lie w ok' p n c l := by
  obtain ⟨h1, h2, h3⟩ := h
  refine ⟨h1, h2, ?_⟩
  rcases h3 with h3 | ⟨g, e, h4, h5, h6⟩
  · exact Or.inl h3
  · exact Or.inr ⟨g, e, ho g h4 h5, h5, h6⟩
/-- .. as a walk asks for it. -/
theorem Lie.at {w : World} {ok : Nat → Prop} {p : Option Addr} {n c : Nat} {l : List C} (h : Lie w ok p n c l) (k : Nat) (hk : k < l.length) : ∃ x : Addr, p = some x ∧ x.block < w.heap.size ∧ ok x.block ∧ ∀ j u, (cl l[k])[j]? = some u → w.cell? ⟨(x.add (k * 13)).block, (x.add (k * 13)).off + j, none⟩ = some u := by
  obtain ⟨h1, h2, h3⟩ := h
  rcases h3 with h3 | ⟨g, e, h4, h5, h6⟩
  · subst h3; exact absurd hk (Nat.not_lt_zero _)
  · refine ⟨_, e, h5, h4, fun j u hu => ?_⟩
    rw [Addr.add_lit, Nat.zero_add]
    have hj : j < 13 := by
      have := (List.getElem?_eq_some_iff.1 hu).1
      rw [cl_len] at this
      exact this
    exact h6 (k * 13 + j) u (by rw [rowE_get l k hk j hj]; exact hu)
end ir
namespace sr
abbrev E := CT
def rowE (l : List CT) : List Value := l.flatMap clT
theorem rowE_cons (x : CT) (l : List CT) : rowE (x :: l) = clT x ++ rowE l := by unfold rowE; rw [List.flatMap_cons]
theorem cl_len (x : CT) : (clT x).length = 3 := rfl
theorem rowE_len (l : List CT) : (rowE l).length = l.length * 3 := by
  induction l with
  | nil => rfl
  | cons x l ih => rw [rowE_cons, List.length_append, ih, cl_len]; simp only [List.length_cons]; omega
theorem rowE_append (a b : List CT) : rowE (a ++ b) = rowE a ++ rowE b := by unfold rowE; rw [List.flatMap_append]
theorem rowE_get (l : List CT) (k : Nat) (h : k < l.length) (j : Nat) (hj : j < 3) : (rowE l)[k * 3 + j]? = (clT l[k])[j]? := by
  induction l generalizing k with
  | nil => exact absurd h (Nat.not_lt_zero _)
  | cons x l ih =>
    rw [rowE_cons]
    cases k with
    | zero => rw [Nat.zero_mul, Nat.zero_add, List.getElem?_append_left (by rw [cl_len]; exact hj)]; rfl
    | succ k =>
      rw [List.getElem?_append_right (by rw [cl_len]; omega), cl_len, show (k + 1) * 3 + j - 3 = k * 3 + j by omega]
      exact ih k (by simpa using h)
theorem rowE_one (l : List CT) (u : Value) (hu : u ∈ rowE l) : u.oneCell' = true := by
  unfold rowE at hu
  rw [List.mem_flatMap] at hu
  obtain ⟨y, _, hy⟩ := hu
  simp only [clT, List.mem_cons, List.not_mem_nil, or_false] at hy
  rcases hy with rfl | rfl | rfl <;> rfl
theorem infoE : (Tryz.prog.info? 96).map (fun i => (i.zero, i.size, i.bytes)) = some (some (.agg #[.string ⟨#[]⟩, .int .i64 0, .slice none 0 0]), 3, 48) := by kernel_rfl
theorem infoE' : ∃ i, Tryz.prog.info? 96 = some i ∧ i.zero = some (.agg #[.string ⟨#[]⟩, .int .i64 0, .slice none 0 0]) ∧ i.size = 3 ∧ i.bytes = 48 := by
  obtain ⟨i, h1, h2⟩ := Option.map_eq_some_iff.1 infoE
  simp only [Prod.mk.injEq] at h2
  exact ⟨i, h1, h2.1, h2.2.1, h2.2.2⟩
/-- A row of the call's own that holds just these. -/
def Own (w : World) (base : Nat) (v : Value) (l : List CT) : Prop := w.ownsRow base 96 3 v l.length (rowE l)
theorem Own.nil (w : World) (base : Nat) : Own w base (.slice none 0 0) [] := World.ownsRow_nil _ _ _ _
theorem Own.shape {w : World} {base : Nat} {v : Value} {l : List CT} (h : Own w base v l) : (v = .slice none 0 0 ∧ l = []) ∨
    ∃ g cap, v = .slice (some ⟨g, 0, none⟩) l.length cap ∧ base ≤ g ∧ g < w.heap.size ∧ l.length ≤ cap ∧ cap ≤ maxLen ∧ (∀ j, w.frozen? ⟨g, j, none⟩ = false) ∧ ∀ j u, (rowE l)[j]? = some u → w.cell? ⟨g, j, none⟩ = some u := by
  rcases h.2 with ⟨h1, h2⟩ | ⟨g, cap, cur, rfl, hbg, hg, hnc, hcm, hcs, htake⟩
  · exact Or.inl ⟨h1, List.eq_nil_of_length_eq_zero h2⟩
  · refine Or.inr ⟨g, cap, rfl, hbg, lt_of_heap hg, hnc, hcm, fun j => by simp [World.frozen?, hg], fun j u hu => ?_⟩
    have hj : j < l.length * 3 := by
      have := (List.getElem?_eq_some_iff.1 hu).1
      rw [rowE_len] at this
      exact this
    rw [← htake, List.getElem?_take, if_pos hj] at hu
    rw [cell_of hg]
    simpa using hu
theorem Own.kind {w : World} {base g n cap : Nat} {l : List CT} (h : Own w base (.slice (some ⟨g, 0, none⟩) n cap) l) : ∃ cur, w.heap[g]? = some (.cells cur 96 (0, 0)) := by
  rcases h.2 with ⟨h1, _⟩ | ⟨g', cap', cur, h1, h2, h3, _⟩
  · cases h1
  · simp only [Value.slice.injEq, Option.some.injEq, Addr.mk.injEq] at h1
    obtain ⟨⟨rfl, _, _⟩, _, _⟩ := h1
    exact ⟨cur, h3⟩
theorem Own.block {w : World} {base : Nat} {v : Value} {l : List CT} (h : Own w base v l) : ∀ k, v.ownBlock = some k → base ≤ k ∧ k < w.heap.size := World.ownsRow.lt h
theorem Own.step {w w' : World} {base : Nat} {v : Value} {l : List CT} (h : Own w base v l) (hb : ∀ g, base ≤ g → g < w.heap.size → w'.heap[g]? = w.heap[g]?) : Own w' base v l := by
  refine ⟨h.1, ?_⟩
  rcases h.2 with h | ⟨g, cap, cur, h1, h2, h3, h4⟩
  · exact Or.inl h
  · refine Or.inr ⟨g, cap, cur, h1, h2, ?_, h4⟩
    rw [hb g h2 (lt_of_heap h3)]
    exact h3
theorem Own.bl {w w' : World} {base : Nat} {v : Value} {l : List CT} (h : Own w base v l) (hb : Bl w w') : Own w' base v l := h.step (fun g _ hg => Below.block hb g hg)
theorem Own.gp {w w' : World} {base P : Nat} {v : Value} {l : List CT} (h : Own w base v l) (hb : Gp P w w') (hP : P < base) : Own w' base v l := h.step (fun g h1 hg => hb.block g hg (by omega))
theorem app_one (w : World) (base : Nat) (v : Value) (l : List CT) (z : CT) (x : Addr) (hown : Own w base v l) (hX : ∀ j u, (clT z)[j]? = some u → w.cell? (x.add j) = some u) (hn : l.length ≤ 20000) (hb : base ≤ w.heap.size) :
    ∃ v' w', (Builtin.append_ #[22, 22] 22 #[v, .slice (some x) 1 1]).run Tryz.prog w = .ok v' w' ∧ Own w' base v' (l ++ [z]) ∧ w.grownBy w' v.ownBlock := by
  obtain ⟨i, hi, hz, h1, h2⟩ := infoE'
  obtain ⟨v', w', hr, ho, hg, _⟩ := run_append_own (P := Tryz.prog) w base 22 22 96 i (.agg #[.string ⟨#[]⟩, .int .i64 0, .slice none 0 0]) 3 48 Tryz.underlying22 hi hz h1 h2 rfl (by decide) v l.length (rowE l) hown
    x 1 1 (clT z) rfl hX (fun u hu => rowE_one [z] u (by rw [rowE_cons]; simp [hu])) (by simp [maxLen]; omega) (by omega) hb
  refine ⟨v', w', hr, ?_, hg⟩
  unfold Own
  rw [rowE_append, List.length_append]
  have e : rowE [z] = clT z := by rw [rowE_cons]; simp [rowE]
  rw [e]
  exact ho
/-- A row that lies so. -/
def Lie (w : World) (ok : Nat → Prop) (p : Option Addr) (n c : Nat) (l : List CT) : Prop :=
  n = l.length ∧ n ≤ c ∧ (l = [] ∨ ∃ g, p = some ⟨g, 0, none⟩ ∧ ok g ∧ g < w.heap.size ∧ ∀ j u, (rowE l)[j]? = some u → w.cell? ⟨g, j, none⟩ = some u)
theorem Own.lie {w : World} {base : Nat} {v : Value} {l : List CT} (h : Own w base v l) : ∃ p c, v = .slice p l.length c ∧ Lie w (fun g => base ≤ g) p l.length c l := by
  rcases h.shape with ⟨rfl, rfl⟩ | ⟨g, cap, rfl, h1, h2, h4, _, _, hc⟩
  · exact ⟨none, 0, rfl, rfl, Nat.le_refl _, Or.inl rfl⟩
  · exact ⟨_, cap, rfl, rfl, h4, Or.inr ⟨g, rfl, h1, h2, hc⟩⟩
theorem Lie.keep {w w' : World} {ok : Nat → Prop} {p : Option Addr} {n c : Nat} {l : List CT} (h : Lie w ok p n c l) (hk : ∀ g, ok g → g < w.heap.size → w'.heap[g]? = w.heap[g]?) (hs : w.heap.size ≤ w'.heap.size) : Lie w' ok p n c l := by
  obtain ⟨h1, h2, h3⟩ := h
  refine ⟨h1, h2, ?_⟩
  rcases h3 with h3 | ⟨g, e, h4, h5, h6⟩
  · exact Or.inl h3
  · refine Or.inr ⟨g, e, h4, by omega, fun j u hu => ?_⟩
    have := h6 j u hu
    unfold World.cell? at this ⊢
    rw [hk g h4 h5]
    exact this
theorem Lie.mono {w : World} {ok ok' : Nat → Prop} {p : Option Addr} {n c : Nat} {l : List CT} (h : Lie w ok p n c l) (ho : ∀ g, ok g → g < w.heap.size → ok' g) : Lie w ok' p n c l := by
  obtain ⟨h1, h2, h3⟩ := h
  refine ⟨h1, h2, ?_⟩
  rcases h3 with h3 | ⟨g, e, h4, h5, h6⟩
  · exact Or.inl h3
  · exact Or.inr ⟨g, e, ho g h4 h5, h5, h6⟩
/-- .. as a walk asks for it. -/
theorem Lie.at {w : World} {ok : Nat → Prop} {p : Option Addr} {n c : Nat} {l : List CT} (h : Lie w ok p n c l) (k : Nat) (hk : k < l.length) : ∃ x : Addr, p = some x ∧ x.block < w.heap.size ∧ ok x.block ∧ ∀ j u, (clT l[k])[j]? = some u → w.cell? ⟨(x.add (k * 3)).block, (x.add (k * 3)).off + j, none⟩ = some u := by
  obtain ⟨h1, h2, h3⟩ := h
  rcases h3 with h3 | ⟨g, e, h4, h5, h6⟩
  · subst h3; exact absurd hk (Nat.not_lt_zero _)
  · refine ⟨_, e, h5, h4, fun j u hu => ?_⟩
    rw [Addr.add_lit, Nat.zero_add]
    have hj : j < 3 := by
      have := (List.getElem?_eq_some_iff.1 hu).1
      rw [cl_len] at this
      exact this
    exact h6 (k * 3 + j) u (by rw [rowE_get l k hk j hj]; exact hu)
end sr
/-- How many, of an expression that is there, or not. -/
def IsO (w : World) : Option Addr → Option Ex → Prop
  | pc, none => pc = none
  | pc, some x => IsX w (.pointer pc) x
theorem IsO.keep {w w' : World} {pc : Option Addr} {o : Option Ex} (h : IsO w pc o) (hk : Kx w w') : IsO w' pc o := by
  cases o with
  | none => exact h
  | some x => exact IsX.keep hk h
/-- Items, as they lie. -/
def Rep (w : World) (ok : Nat → Prop) : Its → List C → Prop
  | .nil, cs => cs = []
  | .cons d s t, cs => ∃ c r, cs = c :: r ∧ c.d = d ∧ IsO w c.pc d.ct ∧ (∃ cs2, ir.Lie w ok c.p c.n c.c cs2 ∧ Rep w ok s cs2) ∧ Rep w ok t r
theorem Rep.keep {w w' : World} {ok : Nat → Prop} (hk : ∀ g, ok g → g < w.heap.size → w'.heap[g]? = w.heap[g]?) (hs : w.heap.size ≤ w'.heap.size) (hx : Kx w w') {l : Its} : ∀ {cs : List C}, Rep w ok l cs → Rep w' ok l cs := by
  induction l with
  | nil => intro cs h; exact h
  | cons d s t is it =>
    intro cs h
    obtain ⟨c, r, h1, h2, h3, ⟨cs2, h4, h5⟩, h6⟩ := h
    exact ⟨c, r, h1, h2, h3.keep hx, ⟨cs2, h4.keep hk hs, is h5⟩, it h6⟩
theorem Rep.mono {w : World} {ok ok' : Nat → Prop} (ho : ∀ g, ok g → g < w.heap.size → ok' g) {l : Its} : ∀ {cs : List C}, Rep w ok l cs → Rep w ok' l cs := by
  induction l with
  | nil => intro cs h; exact h
  | cons d s t is it =>
    intro cs h
    obtain ⟨c, r, h1, h2, h3, ⟨cs2, h4, h5⟩, h6⟩ := h
    exact ⟨c, r, h1, h2, h3, ⟨cs2, h4.mono ho, is h5⟩, it h6⟩
theorem Rep.len {w : World} {ok : Nat → Prop} {l : Its} : ∀ {cs : List C}, Rep w ok l cs → cs.length = l.len ∧ cs.map C.d = l.ds := by
  induction l with
  | nil => intro cs h; subst h; exact ⟨rfl, rfl⟩
  | cons d s t _ it =>
    intro cs h
    obtain ⟨c, r, rfl, h2, h3, _, h6⟩ := h
    obtain ⟨g1, g2⟩ := it h6
    exact ⟨by simp [Its.len, g1], by simp [Its.ds, g2, h2]⟩
/-- Items behind others. -/
def Its.app : Its → D → Its → Its
  | .nil, d, s => .cons d s .nil
  | .cons e u t, d, s => .cons e u (t.app d s)
theorem Rep.app {w : World} {ok : Nat → Prop} {c : C} {s : Its} (hc : IsO w c.pc c.d.ct) (hs : ∃ cs2, ir.Lie w ok c.p c.n c.c cs2 ∧ Rep w ok s cs2) {l : Its} : ∀ {cs : List C}, Rep w ok l cs → Rep w ok (l.app c.d s) (cs ++ [c]) := by
  induction l with
  | nil => intro cs h; subst h; exact ⟨c, [], rfl, rfl, hc, hs, rfl⟩
  | cons d u t _ it =>
    intro cs h
    obtain ⟨e, r, rfl, h2, h3, h4, h6⟩ := h
    exact ⟨e, r ++ [c], rfl, h2, h3, h4, it h6⟩
/-- A slice of items. -/
def IsL (w : World) (ok : Nat → Prop) (v : Value) (l : Its) : Prop := ∃ p c cs, v = .slice p l.len c ∧ ir.Lie w ok p l.len c cs ∧ Rep w ok l cs
/-- Structs, as they lie. -/
def RepT (w : World) (ok : Nat → Prop) : List Ty → List CT → Prop
  | [], cs => cs = []
  | t :: l, cs => ∃ c r, cs = c :: r ∧ c.nm = t.nm ∧ c.a = t.at_ ∧ (∃ cs2, ir.Lie w ok c.p c.n c.c cs2 ∧ Rep w ok t.l cs2) ∧ RepT w ok l r
theorem RepT.keep {w w' : World} {ok : Nat → Prop} (hk : ∀ g, ok g → g < w.heap.size → w'.heap[g]? = w.heap[g]?) (hs : w.heap.size ≤ w'.heap.size) (hx : Kx w w') {l : List Ty} : ∀ {cs : List CT}, RepT w ok l cs → RepT w' ok l cs := by
  induction l with
  | nil => intro cs h; exact h
  | cons t l it =>
    intro cs h
    obtain ⟨c, r, h1, h2, h3, ⟨cs2, h4, h5⟩, h6⟩ := h
    exact ⟨c, r, h1, h2, h3, ⟨cs2, h4.keep hk hs, h5.keep hk hs hx⟩, it h6⟩
theorem RepT.mono {w : World} {ok ok' : Nat → Prop} (ho : ∀ g, ok g → g < w.heap.size → ok' g) {l : List Ty} : ∀ {cs : List CT}, RepT w ok l cs → RepT w ok' l cs := by
  induction l with
  | nil => intro cs h; exact h
  | cons t l it =>
    intro cs h
    obtain ⟨c, r, h1, h2, h3, ⟨cs2, h4, h5⟩, h6⟩ := h
    exact ⟨c, r, h1, h2, h3, ⟨cs2, h4.mono ho, h5.mono ho⟩, it h6⟩
theorem RepT.len {w : World} {ok : Nat → Prop} {l : List Ty} : ∀ {cs : List CT}, RepT w ok l cs → cs.length = l.length := by
  induction l with
  | nil => intro cs h; subst h; rfl
  | cons t l it =>
    intro cs h
    obtain ⟨c, r, rfl, _, _, _, h6⟩ := h
    simp [it h6]
theorem RepT.app {w : World} {ok : Nat → Prop} {c : CT} {s : Its} (hs : ∃ cs2, ir.Lie w ok c.p c.n c.c cs2 ∧ Rep w ok s cs2) {l : List Ty} : ∀ {cs : List CT}, RepT w ok l cs → RepT w ok (l ++ [⟨c.nm, c.a, s⟩]) (cs ++ [c]) := by
  induction l with
  | nil => intro cs h; subst h; exact ⟨c, [], rfl, rfl, rfl, hs, rfl⟩
  | cons t l it =>
    intro cs h
    obtain ⟨e, r, rfl, h2, h3, h4, h6⟩ := h
    exact ⟨e, r ++ [c], rfl, h2, h3, h4, it h6⟩
/-- A slice of structs. -/
def IsTs (w : World) (ok : Nat → Prop) (v : Value) (l : List Ty) : Prop := ∃ p c cs, v = .slice p l.length c ∧ sr.Lie w ok p l.length c cs ∧ RepT w ok l cs
theorem IsTs.bl {w w' : World} {ok : Nat → Prop} {v : Value} {l : List Ty} (h : IsTs w ok v l) (hb : Bl w w') : IsTs w' ok v l := by
  obtain ⟨p, c, cs, h1, h2, h3⟩ := h
  exact ⟨p, c, cs, h1, h2.keep (fun g _ hg => Below.block hb g hg) hb.size, h3.keep (fun g _ hg => Below.block hb g hg) hb.size (Kx.bl hb)⟩
theorem IsL.bl {w w' : World} {ok : Nat → Prop} {v : Value} {l : Its} (h : IsL w ok v l) (hb : Bl w w') : IsL w' ok v l := by
  obtain ⟨p, c, cs, h1, h2, h3⟩ := h
  exact ⟨p, c, cs, h1, h2.keep (fun g _ hg => Below.block hb g hg) hb.size, h3.keep (fun g _ hg => Below.block hb g hg) hb.size (Kx.bl hb)⟩
end Go.Proofs.YtococaecjecjgaaGreatDoor.tm
/- A reader of a template's tokens: next, take, throw, want, name. -/
namespace Go.Proofs.YtococaecjecjgaaGreatDoor.tm
set_option linter.unusedVariables false
open Go.ChangeShapes Go.WideShapes Go.ChangeAt Go.RowKit
open mem lx ex

/-- What is thrown. -/
def thrownT (B : Nat) : Ending := .panicked [{ v := .iface 124 (.agg #[.iface 113 (.pointer (some ⟨B, 0, none⟩))]), recovered := false }]
/-- Words that are no names, and where those for numbers stand. -/
def wdV (t : List UInt8) : Int := match numW.findIdx? (fun p => p.1 == t) with | some i => (i : Int) | none => -1
def Wds (w : World) (mb : Nat) : Prop := ∃ n, Om w mb (fun t => if resv t = true then some (wdV t) else none) n
theorem gp_grown {P : Nat} {w w' : World} (h : Gp P w w') : w.grownBy w' (some P) := ⟨h.os, h.tape, h.output, h.size, fun k hk hne => h.block k hk (fun e => hne (by rw [e]))⟩
/-- A reader of these tokens, with so many blocks open. -/
structure RdT (w : World) (P : Nat) (s : ByteArray) (ts : List Tk) (d mb : Nat) : Prop where
  ex : ∃ (p : Option Addr) (c : Nat), w.heap[P]? = some (.cells #[.string s, .slice p ts.length c, .int .i64 (d : Int), .map (some mb)] 129 (0, 0)) ∧ ts.length ≤ c ∧ tr.In w p ts ∧ (∀ x, p = some x → x.block < P)
  mp : Wds w mb ∧ mb < P
  sx : ∃ pre, lx (L s) 0 = (pre ++ ts, none)
  sz : s.size ≤ 3000
theorem RdT.step {w w' : World} {P d mb : Nat} {s : ByteArray} {ts : List Tk} (h : RdT w P s ts d mb) (hb : Bl w w') : RdT w' P s ts d mb := by
  obtain ⟨p, c, h1, h2, h3, h4⟩ := h.ex
  obtain ⟨⟨n, hm⟩, hne⟩ := h.mp
  refine ⟨⟨p, c, by rw [Below.block hb P (lt_of_heap h1)]; exact h1, h2, h3.step hb, h4⟩, ⟨⟨n, hm.step (row := none) ⟨hb.os, hb.tape, hb.output, hb.size, fun k hk _ => Below.block hb k hk⟩ (by simp)⟩, hne⟩, h.sx, h.sz⟩
theorem RdT.is {w : World} {P d mb : Nat} {s : ByteArray} {ts : List Tk} (h : RdT w P s ts d mb) : ∃ cs, w.heap[P]? = some (.cells cs 129 (0, 0)) := by
  obtain ⟨p, c, h1, _⟩ := h.ex
  exact ⟨_, h1⟩
theorem RdT.lt {w : World} {P d mb : Nat} {s : ByteArray} {ts : List Tk} (h : RdT w P s ts d mb) : P < w.heap.size := by
  obtain ⟨cs, h1⟩ := h.is
  exact lt_of_heap h1
/-- What lies behind a reader is nothing to it. -/
theorem RdT.behind {w w' : World} {P N d mb : Nat} {s : ByteArray} {ts : List Tk} (h : RdT w P s ts d mb) (hg : w.grownBy w' (some N)) (hN : P < N) : RdT w' P s ts d mb := by
  obtain ⟨p, c, h1, h2, h3, h4⟩ := h.ex
  obtain ⟨⟨n, hm⟩, hne⟩ := h.mp
  have hP := lt_of_heap h1
  have hb : ∀ k, k ≤ P → w'.heap[k]? = w.heap[k]? := fun k hk => hg.block k (by omega) (fun e => by injection e with e; omega)
  refine ⟨⟨p, c, by rw [hb P (Nat.le_refl _)]; exact h1, h2, ?_, h4⟩, ⟨⟨n, hm.step hg (fun e => by injection e with e; omega)⟩, hne⟩, h.sx, h.sz⟩
  rcases h3 with h | ⟨x, k1, k2⟩
  · exact Or.inl h
  · refine Or.inr ⟨x, k1, fun k u hk => ?_⟩
    have h5 := k2 k u hk
    have hbk : (x.add k).block = x.block := by cases k <;> rfl
    have h6 := h4 x k1
    unfold World.cell? at h5 ⊢
    rw [hbk] at h5 ⊢
    rw [hb _ (by omega)]
    exact h5
theorem suf_len {s : ByteArray} {pre ts : List Tk} (h : lx (L s) 0 = (pre ++ ts, none)) : ts.length ≤ s.size ∧ (∀ t ∈ ts, t.t.length ≤ s.size) ∧ (∀ t ∈ ts, IsT t.t) := by
  have h1 := lx_len (L s) _ 0 (Nat.le_refl _)
  have h2 := lx_ch (L s) _ 0 (Nat.le_refl _) (Nat.zero_le _)
  rw [List.drop_zero] at h2
  rw [h] at h1 h2
  dsimp only at h1 h2
  rw [L_len, List.length_append] at h1
  have h3 := tok_len h2
  rw [L_len] at h3
  refine ⟨by omega, fun t ht => h3 t (by simp [ht]), ?_⟩
  have h4 : ∀ (l : List Tk) (p : Nat), Ch (L s) p l → ∀ t ∈ l, IsT t.t := by
    intro l
    induction l with
    | nil => intro p h t ht; cases ht
    | cons u r ih =>
      intro p h t ht
      obtain ⟨_, _, _, h4, h5⟩ := (show p ≤ u.a ∧ u.a + u.t.length ≤ (L s).length ∧ ((L s).drop u.a).take u.t.length = u.t ∧ IsT u.t ∧ Ch (L s) (u.a + u.t.length) r from h)
      rw [List.mem_cons] at ht
      rcases ht with rfl | ht
      · exact h4
      · exact ih _ h5 t ht
  exact fun t ht => h4 _ _ h2 t (by simp [ht])
theorem RdT.len {w : World} {P d mb : Nat} {s : ByteArray} {ts : List Tk} (h : RdT w P s ts d mb) : ts.length ≤ 3000 ∧ (∀ t ∈ ts, t.t.length ≤ 3000) ∧ (∀ t ∈ ts, IsT t.t) := by
  obtain ⟨pre, hp⟩ := h.sx
  obtain ⟨h1, h2, h3⟩ := suf_len hp
  have := h.sz
  exact ⟨by omega, fun t ht => by have := h2 t ht; omega, h3⟩
theorem RdT.hdlen {w : World} {P d mb : Nat} {s : ByteArray} {ts : List Tk} (h : RdT w P s ts d mb) : (hd s.size ts).t.length ≤ 3000 := by
  cases ts with
  | nil => exact Nat.zero_le _
  | cons t r => exact h.len.2.1 t (by simp)
set_option maxRecDepth 10000 in
theorem next_at (w : World) (P d mb : Nat) (s : ByteArray) (ts : List Tk) (h : RdT w P s ts d mb) :
    Calls Tryz.prog 133 #[.pointer (some ⟨P, 0, none⟩)] w fun e w' => e = .returned (tkV (hd s.size ts)) ∧ Bl w w' := by
  have hl := h.len.1
  obtain ⟨p, c, h1, h2, h3, h4⟩ := h.ex
  have hP := lt_of_heap h1
  have c0 : w.cell? ⟨P, 1, none⟩ = some (.slice p ts.length c) := by rw [cell_of h1]; rfl
  have c1 : w.cell? ⟨P, 0, none⟩ = some (.string s) := by rw [cell_of h1]; rfl
  cases ts with
  | nil =>
    rw [show ([] : List Tk).length = 0 from rfl] at c0
    clear h1 h2 h3 h4 hl h
    go_enter Tryz.func133, Tryz.ntmps133
    go_wp2
    exact bodyPost_ret (v := tkV ⟨[], s.size⟩) (results_cell_row rfl _ _ w.heap.size 145 #[.string ⟨#[]⟩, .int .i64 (s.size : Int)] (0, 0) _ rfl (new_at w _) Tryz.underlying145 rfl infoT) rfl ⟨rfl, (Bl.refl _).alloc _⟩
  | cons t ts =>
    obtain ⟨x, rfl, g0, g1⟩ := h3.at' 0 (by simp)
    obtain ⟨n, hn⟩ : ∃ n, n = ts.length := ⟨_, rfl⟩
    rw [show (t :: ts).length = n + 1 by simp [hn]] at c0 h2 hl
    simp only [Nat.zero_mul, Addr.add_zero'] at g0 g1
    rw [show (t :: ts)[0] = t from rfl] at g0 g1
    have q1 := h4 x rfl
    have hne : ((((n + 1 : Nat) : Int)) == 0) = false := by rw [beq_eq_false_iff_ne]; omega
    have hxs : ¬ x.block = w.heap.size := by omega
    have g0' := at_bl ((Bl.refl w).alloc (.cells #[.string ⟨#[]⟩, .int .i64 0] 145)) g0
    have g1' := at_bl ((Bl.refl w).alloc (.cells #[.string ⟨#[]⟩, .int .i64 0] 145)) g1
    clear h1 h3 h4 hn h
    go_enter Tryz.func133, Tryz.ntmps133
    go_wp2
    exact bodyPost_ret (v := tkV t) (results_cell_row rfl _ _ w.heap.size 145 #[.string (tx t.t), .int .i64 (t.a : Int)] (0, 0) _ rfl (new_at w _) Tryz.underlying145 rfl infoT) rfl ⟨rfl, (Bl.refl _).alloc _⟩
theorem tail_sx {s : ByteArray} {ts : List Tk} (h : ∃ pre, lx (L s) 0 = (pre ++ ts, none)) : ∃ pre, lx (L s) 0 = (pre ++ ts.tail, none) := by
  obtain ⟨pre, hp⟩ := h
  cases ts with
  | nil => exact ⟨pre, hp⟩
  | cons t r => exact ⟨pre ++ [t], by rw [hp]; simp⟩
/-- What another world keeps of a reader. -/
theorem RdT.gp' {w w' : World} {P d mb : Nat} {s : ByteArray} {ts ts' : List Tk} (h : RdT w P s ts d mb) (hg : Gp P w w') (hx : ∃ (p : Option Addr) (c : Nat), w'.heap[P]? = some (.cells #[.string s, .slice p ts'.length c, .int .i64 (d : Int), .map (some mb)] 129 (0, 0)) ∧ ts'.length ≤ c ∧ tr.In w' p ts' ∧ (∀ x, p = some x → x.block < P))
    (hs : ∃ pre, lx (L s) 0 = (pre ++ ts', none)) : RdT w' P s ts' d mb := by
  obtain ⟨⟨n, hm⟩, hne⟩ := h.mp
  exact ⟨hx, ⟨⟨n, hm.step (gp_grown hg) (fun e => by injection e with e; omega)⟩, hne⟩, hs, h.sz⟩
set_option maxRecDepth 10000 in
theorem take_at (w : World) (P d mb : Nat) (s : ByteArray) (ts : List Tk) (h : RdT w P s ts d mb) :
    Calls Tryz.prog 131 #[.pointer (some ⟨P, 0, none⟩)] w fun e w' => e = .returned (tkV (hd s.size ts)) ∧ RdT w' P s ts.tail d mb ∧ Gp P w w' := by
  have hl := h.len.1
  have cN := fun wx (hb : Bl w wx) => next_at wx P d mb s ts (h.step hb)
  obtain ⟨p, c, h1, h2, h3, h4⟩ := h.ex
  have hP := lt_of_heap h1
  have HR : Hid (RdT w P s ts d mb) := h
  clear h
  obtain ⟨N, hN⟩ : ∃ N, N = w.heap.size := ⟨_, rfl⟩
  have hPN : ¬ P = N := by omega
  have keep : ∀ w2 : World, Bl (w.alloc (.cells #[.string ⟨#[]⟩, .int .i64 0] 145)) w2 → w2.heap[N]? = some (.cells #[.string ⟨#[]⟩, .int .i64 0] 145 (0, 0)) ∧ Bl w w2 ∧ N < w2.heap.size := by
    intro w2 hb
    have h0 := new_at w (.cells #[.string ⟨#[]⟩, .int .i64 0] 145)
    rw [← hN] at h0
    have h1 := Below.block hb N (lt_of_heap h0)
    rw [h0] at h1
    exact ⟨h1, ((Bl.refl _).alloc _).trans hb, lt_of_heap h1⟩
  cases ts with
  | nil =>
    unfold tkV at cN ⊢
    have e0 : hd s.size ([] : List Tk) = ⟨[], s.size⟩ := rfl
    rw [e0] at cN ⊢
    generalize tx ([] : List UInt8) = S at *
    go_enter Tryz.func131, Tryz.ntmps131
    go_wp2_with fail
    refine (cN _ ((Bl.refl _).alloc _)).mono ?_
    rintro e w2 ⟨rfl, hb2⟩
    obtain ⟨k1, k2, k3⟩ := keep w2 hb2
    have c0 : w2.cell? ⟨P, 1, none⟩ = some (.slice p 0 c) := at_bl k2 (by rw [cell_of h1]; rfl)
    have hPs : P < w2.heap.size := by have := k2.size; omega
    have n0 : w2.cell? ⟨N, 0, none⟩ = some (.string ⟨#[]⟩) := by rw [cell_of k1]; rfl
    have n1 : w2.cell? ⟨N, 1, none⟩ = some (.int .i64 0) := by rw [cell_of k1]; rfl
    have z0 : w2.frozen? ⟨N, 0, none⟩ = false := by simp [World.frozen?, k1]
    have z1 : w2.frozen? ⟨N, 1, none⟩ = false := by simp [World.frozen?, k1]
    have HK : Hid (Bl w w2 ∧ w2.heap[N]? = some (.cells #[.string ⟨#[]⟩, .int .i64 0] 145 (0, 0))) := ⟨k2, k1⟩
    rw [← hN]
    have HN : Hid (N = w.heap.size) := hN
    clear k1 k2 hb2 cN keep h1 h2 h3 h4 hN hP
    go_wp2
    have hw : w.heap.size ≤ N := by have := HN.out; omega
    have hbl : Bl w (((w2.setCell ⟨N, 0, none⟩ (.string S)).setCell ⟨N, 1, none⟩ (.int .i64 (s.size : Int))).alloc (.cells #[.string S, .int .i64 (s.size : Int)] 145)) := ((HK.out.1.setCell hw _).setCell hw _).alloc _
    have hcl : (((w2.setCell ⟨N, 0, none⟩ (.string S)).setCell ⟨N, 1, none⟩ (.int .i64 (s.size : Int))).alloc (.cells #[.string S, .int .i64 (s.size : Int)] 145)).heap[N]? = some (.cells #[.string S, .int .i64 (s.size : Int)] 145 (0, 0)) := by
      have h1 : ((w2.setCell ⟨N, 0, none⟩ (.string S)).setCell ⟨N, 1, none⟩ (.int .i64 (s.size : Int))).heap[N]? = some (.cells #[.string S, .int .i64 (s.size : Int)] 145 (0, 0)) := by simp [World.setCell, Array.getElem?_modify, HK.out.2]
      rw [Below.block ((Bl.refl _).alloc _) N (lt_of_heap h1)]
      exact h1
    exact bodyPost_ret (v := .agg #[.string S, .int .i64 (s.size : Int)]) (results_cell_row rfl _ _ N 145 #[.string S, .int .i64 (s.size : Int)] (0, 0) _ rfl hcl Tryz.underlying145 rfl infoT) rfl ⟨rfl, HR.out.step hbl, Gp.bl hbl⟩
  | cons t ts =>
    unfold tkV at cN ⊢
    have e0 : hd s.size (t :: ts) = t := rfl
    rw [e0] at cN ⊢
    obtain ⟨n, hn⟩ : ∃ n, n = ts.length := ⟨_, rfl⟩
    have hx : ∃ x, p = some x := by
      rcases h3 with h | ⟨x, h, _⟩
      · cases h
      · exact ⟨x, h⟩
    obtain ⟨x, rfl⟩ := hx
    obtain ⟨q1, q2, q3⟩ := h3.cut rfl h2
    have hc1 : 1 ≤ c := by simp at h2; omega
    have hlc : (t :: ts).length = n + 1 := by simp [hn]
    rw [hlc] at h1 h2 hl
    have xb1 := h4 x rfl
    obtain ⟨S, hS⟩ : ∃ S, S = tx t.t := ⟨_, rfl⟩
    obtain ⟨A, hA⟩ : ∃ A, A = t.a := ⟨_, rfl⟩
    rw [← hS, ← hA] at cN ⊢
    go_enter Tryz.func131, Tryz.ntmps131
    go_wp2_with fail
    refine (cN _ ((Bl.refl _).alloc _)).mono ?_
    rintro e w2 ⟨rfl, hb2⟩
    obtain ⟨k1, k2, k3⟩ := keep w2 hb2
    have h1' : w2.heap[P]? = _ := (Below.block k2 P hP).trans h1
    have c0 : w2.cell? ⟨P, 1, none⟩ = some (.slice (some x) (n + 1) c) := by rw [cell_of h1']; rfl
    have z2 : w2.frozen? ⟨P, 1, none⟩ = false := by simp [World.frozen?, h1']
    have hPs : P < w2.heap.size := by have := k2.size; omega
    have n0 : w2.cell? ⟨N, 0, none⟩ = some (.string ⟨#[]⟩) := by rw [cell_of k1]; rfl
    have n1 : w2.cell? ⟨N, 1, none⟩ = some (.int .i64 0) := by rw [cell_of k1]; rfl
    have z0 : w2.frozen? ⟨N, 0, none⟩ = false := by simp [World.frozen?, k1]
    have z1 : w2.frozen? ⟨N, 1, none⟩ = false := by simp [World.frozen?, k1]
    have HK : Hid (Bl w w2 ∧ w2.heap[N]? = some (.cells #[.string ⟨#[]⟩, .int .i64 0] 145 (0, 0)) ∧ w2.heap[P]? = some (.cells #[.string s, .slice (some x) (n + 1) c, .int .i64 (d : Int), .map (some mb)] 129 (0, 0))) := ⟨k2, k1, h1'⟩
    rw [← hN]
    have HN : Hid (N = w.heap.size ∧ P < w.heap.size ∧ x.block < P) := ⟨hN, hP, xb1⟩
    obtain ⟨Q, hQ⟩ : ∃ Q, Q = (if c = 1 then some x else some ⟨x.block, x.off + 2, none⟩) := ⟨_, rfl⟩
    have hQ' : (if c = 1 then some x else some ⟨x.block, x.off + 2, none⟩) = Q := hQ.symm
    rw [← hQ] at q1
    have HQ : Hid (tr.In w Q ts ∧ n = ts.length ∧ ts.length ≤ c - 1 ∧ (∀ y, Q = some y → y.block = x.block)) := by
      refine ⟨q1, hn, q3, fun y hy => ?_⟩
      rw [hQ] at hy
      split at hy
      · injection hy with hy; rw [← hy]
      · injection hy with hy; rw [← hy]
    clear k1 k2 hb2 cN keep h1 h1' h3 h4 hN hP q1 q2 q3 hQ hn hlc xb1 hS hA
    go_wp2
    obtain ⟨r1, r2, r3⟩ := HN.out
    have hw : w.heap.size ≤ N := by omega
    obtain ⟨W, hW⟩ : ∃ W, W = (((w2.setCell ⟨P, 1, none⟩ (.slice Q n (c - 1))).setCell ⟨N, 0, none⟩ (.string S)).setCell ⟨N, 1, none⟩ (.int .i64 (A : Int))) := ⟨_, rfl⟩
    have hg : Gp P w (W.alloc (.cells #[.string S, .int .i64 (A : Int)] 145)) := by
      rw [hW]
      exact ((((Gp.bl HK.out.1).trans (Gp.set _)).setNew hw _).setNew hw _).alloc _
    have hcN : W.heap[N]? = some (.cells #[.string S, .int .i64 (A : Int)] 145 (0, 0)) := by
      rw [hW]
      simp [World.setCell, Array.getElem?_modify, HK.out.2.1, hPN]
    have hcP : W.heap[P]? = some (.cells #[.string s, .slice Q n (c - 1), .int .i64 (d : Int), .map (some mb)] 129 (0, 0)) := by
      rw [hW]
      have hNP : ¬ N = P := fun e => hPN e.symm
      simp [World.setCell, Array.getElem?_modify, HK.out.2.2, hNP]
    have hbW : Bl W (W.alloc (.cells #[.string S, .int .i64 (A : Int)] 145)) := (Bl.refl _).alloc _
    have hcl := (Below.block hbW N (lt_of_heap hcN)).trans hcN
    have hcP' := (Below.block hbW P (lt_of_heap hcP)).trans hcP
    rw [← hW]
    clear hW
    obtain ⟨s1, s2, s3, s4⟩ := HQ.out
    refine bodyPost_ret (v := .agg #[.string S, .int .i64 (A : Int)]) (results_cell_row rfl _ _ N 145 #[.string S, .int .i64 (A : Int)] (0, 0) _ rfl hcl Tryz.underlying145 rfl infoT) rfl ⟨rfl, HR.out.gp' hg ⟨Q, c - 1, ?_, s3, ?_, ?_⟩ (tail_sx HR.out.sx), hg⟩
    · show _ = some (Obj.cells #[_, .slice Q ts.length (c - 1), _, _] _ _)
      rw [← s2]; exact hcP'
    · exact In.gp s1 hg (fun y hy => by have := s4 y hy; rw [this]; exact ⟨by omega, by omega⟩)
    · intro y hy
      have := s4 y hy
      rw [this]
      exact r3
theorem throw_at (t : Tk) (c : Int) (w : World) : Calls Tryz.prog 97 #[tkV t, .int .i64 c] w fun e w' => ∃ B, e = thrownT B ∧ w.heap.size ≤ B ∧ AtX w' B c t.a ∧ Bl w w' := by
  unfold tkV
  go_enter Tryz.func97, Tryz.ntmps97
  go_wp2
  have hn := new_at (w.alloc (.cells #[.string (tx t.t), .int .i64 (t.a : Int)] 145)) (.cells #[.int .i64 c, .int .i64 (t.a : Int)] 116)
  have hs : (w.alloc (.cells #[.string (tx t.t), .int .i64 (t.a : Int)] 145)).heap.size = w.heap.size + 1 := by simp
  rw [hs] at hn
  exact ⟨rfl, _, rfl, Nat.le_succ _, hn, ((Bl.refl _).alloc _).alloc _⟩
/-- What reading answers. -/
def Ans {α : Type} (V : World → Value → α → Prop) (P : Nat) (s : ByteArray) (d mb : Nat) (w : World) (q : Except (Int × Nat) (α × List Tk)) (e : Ending) (w' : World) : Prop :=
  Gp P w w' ∧ match q with
  | .ok (x, r) => ∃ v, e = .returned v ∧ V w' v x ∧ RdT w' P s r d mb
  | .error (c, p) => ∃ B : Nat, e = thrownT B ∧ w.heap.size ≤ B ∧ AtX w' B c (p : Int)
end Go.Proofs.YtococaecjecjgaaGreatDoor.tm
/- A reader of a template's tokens: want, name; what lies where it is laid. -/
namespace Go.Proofs.YtococaecjecjgaaGreatDoor.tm
set_option linter.unusedVariables false
open Go.ChangeShapes Go.WideShapes Go.ChangeAt Go.RowKit
open mem lx ex

theorem Ans.err {α : Type} {V : World → Value → α → Prop} {P d mb : Nat} {s : ByteArray} {w w' : World} {c : Int} {p B : Nat} (hg : Gp P w w') (hB : w.heap.size ≤ B) (hA : AtX w' B c (p : Int)) : Ans (α := α) V P s d mb w (.error (c, p)) (thrownT B) w' := ⟨hg, B, rfl, hB, hA⟩
def wantU (en : Nat) (m : List UInt8) (ts : List Tk) : Rs Unit := match want en m ts with | .ok r => .ok ((), r) | .error e => .error e
theorem wantU_yes {en : Nat} {m : List UInt8} {ts : List Tk} (h : (hd en ts).t = m) : wantU en m ts = .ok ((), ts.tail) := by unfold wantU want; rw [if_pos h]
theorem wantU_no {en : Nat} {m : List UInt8} {ts : List Tk} (h : ¬ (hd en ts).t = m) : wantU en m ts = .error (3, (hd en ts).a) := by unfold wantU want; rw [if_neg h]
/-- A token's variable. -/
structure Tv (w : World) (N : Nat) (S : ByteArray) (a : Int) : Prop where
  h : w.heap[N]? = some (.cells #[.string S, .int .i64 a] 145 (0, 0))
theorem Tv.facts {w : World} {N : Nat} {S : ByteArray} {a : Int} (h : Tv w N S a) : w.cell? ⟨N, 0, none⟩ = some (.string S) ∧ w.cell? ⟨N, 1, none⟩ = some (.int .i64 a) ∧ w.frozen? ⟨N, 0, none⟩ = false ∧ w.frozen? ⟨N, 1, none⟩ = false ∧ N < w.heap.size := by
  obtain ⟨h⟩ := h
  exact ⟨by rw [cell_of h]; rfl, by rw [cell_of h]; rfl, by simp [World.frozen?, h], by simp [World.frozen?, h], lt_of_heap h⟩
theorem Tv.new (w : World) (S : ByteArray) (a : Int) : Tv (w.alloc (.cells #[.string S, .int .i64 a] 145)) w.heap.size S a := ⟨new_at _ _⟩
theorem Tv.bl {w w' : World} {N : Nat} {S : ByteArray} {a : Int} (h : Tv w N S a) (hb : Bl w w') : Tv w' N S a := ⟨by rw [Below.block hb N (lt_of_heap h.h)]; exact h.h⟩
theorem Tv.gp {w w' : World} {P N : Nat} {S : ByteArray} {a : Int} (h : Tv w N S a) (hb : Gp P w w') (hne : N ≠ P) : Tv w' N S a := ⟨by rw [hb.block N (lt_of_heap h.h) hne]; exact h.h⟩
theorem Tv.set {w : World} {N : Nat} {S S' : ByteArray} {a a' : Int} (h : Tv w N S a) : Tv ((w.setCell ⟨N, 0, none⟩ (.string S')).setCell ⟨N, 1, none⟩ (.int .i64 a')) N S' a' := ⟨by simp [World.setCell, Array.getElem?_modify, h.h]⟩
theorem Gp.two {P N : Nat} {w0 w : World} {x y : Value} (h : Gp P w0 w) (hN : w0.heap.size ≤ N) : Gp P w0 ((w.setCell ⟨N, 0, none⟩ x).setCell ⟨N, 1, none⟩ y) := (h.setNew hN x).setNew hN y
theorem RdT.two {w : World} {P N d mb : Nat} {s : ByteArray} {ts : List Tk} (h : RdT w P s ts d mb) (hN : P < N) (x y : Value) : RdT ((w.setCell ⟨N, 0, none⟩ x).setCell ⟨N, 1, none⟩ y) P s ts d mb := (h.behind (grown_set w N 0 x) hN).behind (grown_set _ N 1 y) hN
set_option maxRecDepth 10000 in
theorem want_at (m : ByteArray) (w : World) (P d mb : Nat) (s : ByteArray) (ts : List Tk) (h : RdT w P s ts d mb) :
    Calls Tryz.prog 96 #[.pointer (some ⟨P, 0, none⟩), .string m] w fun e w' => Ans (fun _ v (x : Unit) => v = tkV (hd s.size ts)) P s d mb w (wantU s.size (L m) ts) e w' := by
  have hb0 : Bl w (w.alloc (.cells #[.string ⟨#[]⟩, .int .i64 0] 145)) := (Bl.refl _).alloc _
  have cT := take_at _ P d mb s ts (h.step hb0)
  have hn0 := Tv.new w ⟨#[]⟩ 0
  obtain ⟨N, hN⟩ : ∃ N, N = w.heap.size := ⟨_, rfl⟩
  obtain ⟨w1, hw1⟩ : ∃ w1, w1 = w.alloc (.cells #[.string ⟨#[]⟩, .int .i64 0] 145) := ⟨_, rfl⟩
  have hPw := h.lt
  rw [← hw1] at cT hb0
  rw [← hw1, ← hN] at hn0
  obtain ⟨T, hT⟩ : ∃ T, T = hd s.size ts := ⟨_, rfl⟩
  rw [← hT] at cT ⊢
  have hthr := throw_at T 3
  have htl := tl_tx T.t
  have hPN : P < N := by omega
  unfold tkV at cT hthr ⊢
  obtain ⟨q, hq⟩ : ∃ q, q = wantU s.size (L m) ts := ⟨_, rfl⟩
  rw [← hq]
  have hqq : (T.t = L m → q = .ok ((), ts.tail)) ∧ (¬ T.t = L m → q = .error (3, T.a)) := by
    rw [hq, hT]
    exact ⟨fun h => wantU_yes h, fun h => wantU_no h⟩
  obtain ⟨S, hS⟩ : ∃ S, S = tx T.t := ⟨_, rfl⟩
  rw [← hS] at cT hthr htl ⊢
  have HR : Hid (RdT w P s ts d mb ∧ N = w.heap.size) := ⟨h, hN⟩
  clear h hPw hS hT hq
  go_enter Tryz.func96, Tryz.ntmps96
  go_wp2_with fail
  rw [← hw1]
  refine cT.mono ?_
  rintro e w2 ⟨rfl, hR2, hg2⟩
  have hT2 := hn0.gp hg2 (by omega)
  obtain ⟨g0, g1, z0, z1, hNs⟩ := hT2.facts
  have HG : Hid (Gp P w w2 ∧ RdT w2 P s ts.tail d mb ∧ Tv w2 N ⟨#[]⟩ 0) := ⟨(Gp.bl hb0).trans hg2, hR2, hT2⟩
  rw [← hN]
  clear hw1 hb0 hN hn0 hT2 hg2 hR2 cT
  have hml : m.toList = L m := ByteArray.toList_eq m
  by_cases hm : T.t = L m
  · have HQ : Hid (q = .ok ((), ts.tail)) := hqq.1 hm
    have hb : (S.toList == m.toList) = true := by rw [htl, hml, hm]; simp
    clear hm hqq htl hml hthr
    go_wp2
    have h0 : w.heap.size ≤ N := by have := HR.out.2; omega
    have hv := HG.out.2.2.set (S' := S) (a' := (T.a : Int))
    have hg := Gp.two (x := .string S) (y := .int .i64 (T.a : Int)) HG.out.1 h0
    have hr := HG.out.2.1.two hPN (.string S) (.int .i64 (T.a : Int))
    have hbl : Bl ((w2.setCell ⟨N, 0, none⟩ (.string S)).setCell ⟨N, 1, none⟩ (.int .i64 (T.a : Int))) (((w2.setCell ⟨N, 0, none⟩ (.string S)).setCell ⟨N, 1, none⟩ (.int .i64 (T.a : Int))).alloc (.cells #[.string S, .int .i64 (T.a : Int)] 145)) := (Bl.refl _).alloc _
    rw [HQ.out]
    exact bodyPost_ret (v := .agg #[.string S, .int .i64 (T.a : Int)]) (results_cell_row rfl _ _ N 145 #[.string S, .int .i64 (T.a : Int)] (0, 0) _ rfl (hv.bl hbl).h Tryz.underlying145 rfl infoT) rfl ⟨hg.trans (Gp.bl hbl), _, rfl, rfl, hr.step hbl⟩
  · have HQ : Hid (q = .error (3, T.a)) := hqq.2 hm
    have hb : (S.toList == m.toList) = false := by rw [htl, hml, beq_eq_false_iff_ne]; exact hm
    clear hm hqq htl hml
    go_wp2_with fail
    refine (hthr _).mono ?_
    rintro e w4 ⟨B, rfl, k1, k2, k3⟩
    unfold thrownT
    go_wp2
    have hs := HG.out.1.size
    have hs2 : w2.heap.size ≤ (w2.alloc (.cells #[.string S, .int .i64 (T.a : Int)] 145)).heap.size := ((Bl.refl _).alloc _).size
    refine ⟨rfl, ?_⟩
    rw [HQ.out]
    exact Ans.err (HG.out.1.trans (Gp.bl (((Bl.refl _).alloc _).trans k3))) (by omega) k2
end Go.Proofs.YtococaecjecjgaaGreatDoor.tm
