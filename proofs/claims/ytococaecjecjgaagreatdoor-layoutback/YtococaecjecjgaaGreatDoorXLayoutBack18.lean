/- Texts laid together: TyQ, TmM, TyR, TyS, TmN. -/
import Derived.Test.YtococaecjecjgaaGreatDoorXLayoutBack17
import Derived.Test.YtococaecjecjgaaGreatDoorXLayoutBack11
/- Whether templates fit together: items one behind the other (pure). -/
namespace Go.Proofs.YtococaecjecjgaaGreatDoor.tm
set_option linter.unusedVariables false
open lx ex

def Its.dr : Its → Nat → Its
  | l, 0 => l
  | .nil, _ + 1 => .nil
  | .cons _ _ t, k + 1 => t.dr k
/-- How many, all together. -/
def tot : Its → Nat
  | .nil => 0
  | .cons _ s t => 1 + tot s + tot t
theorem dr_at (l : Its) : ∀ (j : Nat) (d : D) (s : Its), l.ps[j]? = some (d, s) → l.dr j = .cons d s (l.dr (j + 1)) := by
  induction l with
  | nil => intro j d s h; cases h
  | cons a b t _ it =>
    intro j d s h
    cases j with
    | zero =>
      simp [Its.ps] at h
      obtain ⟨rfl, rfl⟩ := h
      cases t <;> rfl
    | succ j => exact it j d s (by simpa [Its.ps] using h)
theorem dr_all (l : Its) : l.dr l.len = .nil := by
  induction l with
  | nil => rfl
  | cons a b t _ it => exact it
theorem ps_ds (l : Its) : l.ps.map (·.1) = l.ds := by
  induction l with
  | nil => rfl
  | cons a b t _ it => simp [Its.ps, Its.ds, it]
/-- What the names of items that were looked at are. -/
structure Nmd (l : Its) (j : Nat) (names seen names' seen' : List (List UInt8)) : Prop where
  f1 : ∀ y ∈ seen', y ∈ seen ∨ ∃ d ∈ l.ds, d.nm = y
  f2 : ∀ y ∈ seen, y ∈ seen'
  f3 : ∀ y ∈ seen', y ∈ names'
  f4 : ∀ y ∈ names', y ≠ []
  f5 : ∀ k d s, k < j → l.ps[k]? = some (d, s) → d.nm ∉ seen
  f6 : ∀ y ∈ names, y ∈ names'
theorem Nmd.start (l : Its) {names seen : List (List UInt8)} (h1 : ∀ y ∈ seen, y ∈ names) (h2 : ∀ y ∈ names, y ≠ []) : Nmd l 0 names seen names seen :=
  ⟨fun y hy => Or.inl hy, fun y hy => hy, h1, h2, fun k d s hk => by omega, fun y hy => hy⟩
theorem mem_ds {l : Its} {j : Nat} {d : D} {s : Its} (h : l.ps[j]? = some (d, s)) : d ∈ l.ds := by
  rw [← ps_ds]
  exact List.mem_map.2 ⟨(d, s), List.mem_of_getElem? h, rfl⟩
theorem Nmd.item {l : Its} {j : Nat} {names seen names' seen' : List (List UInt8)} (h : Nmd l j names seen names' seen') {d : D} {s : Its} (hj : l.ps[j]? = some (d, s)) (hn : d.nm ≠ []) (hm : d.nm ∉ names') : Nmd l (j + 1) names seen (d.nm :: names') (seenN seen' d) := by
  refine ⟨fun y hy => ?_, fun y hy => ?_, fun y hy => ?_, fun y hy => ?_, fun k e s' hk he => ?_, fun y hy => List.mem_cons_of_mem _ (h.f6 y hy)⟩
  · unfold seenN at hy
    split at hy
    · rw [List.mem_cons] at hy
      rcases hy with rfl | hy
      · exact Or.inr ⟨d, mem_ds hj, rfl⟩
      · exact h.f1 y hy
    · exact h.f1 y hy
  · unfold seenN
    split
    · exact List.mem_cons_of_mem _ (h.f2 y hy)
    · exact h.f2 y hy
  · unfold seenN at hy
    split at hy
    · rw [List.mem_cons] at hy ⊢
      rcases hy with rfl | hy
      · exact Or.inl rfl
      · exact Or.inr (h.f3 y hy)
    · exact List.mem_cons_of_mem _ (h.f3 y hy)
  · rw [List.mem_cons] at hy
    rcases hy with rfl | hy
    · exact hn
    · exact h.f4 y hy
  · rcases Nat.lt_or_ge k j with hkj | hkj
    · exact h.f5 k e s' hkj he
    · obtain rfl : k = j := by omega
      rw [hj] at he
      injection he with he
      injection he with h1 h2
      subst h1
      exact fun hc => hm (h.f3 _ (h.f2 _ hc))
theorem Nmd.when {l : Its} {j : Nat} {names seen names' seen' names2 : List (List UInt8)} (h : Nmd l j names seen names' seen') {d : D} {s : Its} (hj : l.ps[j]? = some (d, s)) (hn : d.nm = []) (hs : ∀ y ∈ names', y ∈ names2) (h4 : ∀ y ∈ names2, y ≠ []) : Nmd l (j + 1) names seen names2 seen' := by
  refine ⟨h.f1, h.f2, fun y hy => hs y (h.f3 y hy), h4, fun k e s' hk he => ?_, fun y hy => hs y (h.f6 y hy)⟩
  rcases Nat.lt_or_ge k j with hkj | hkj
  · exact h.f5 k e s' hkj he
  · obtain rfl : k = j := by omega
    rw [hj] at he
    injection he with he
    injection he with h1 h2
    subst h1
    exact fun hc => h.f4 _ (h.f3 _ (h.f2 _ hc)) hn
/-- What is left when what was seen here is forgotten. -/
theorem Nmd.left {l : Its} {names seen names' seen' : List (List UInt8)} (h : Nmd l l.len names seen names' seen') (y : List UInt8) : y ∈ seen'.filter (fun y => y ∉ (l.ds.take l.len).map D.nm) ↔ y ∈ seen := by
  have el : l.ds.take l.len = l.ds := by rw [← Its.ds_len, List.take_length]
  rw [el, List.mem_filter]
  constructor
  · rintro ⟨h1, h2⟩
    rcases h.f1 y h1 with h3 | ⟨d, h3, rfl⟩
    · exact h3
    · exfalso
      simp only [decide_eq_true_eq] at h2
      exact h2 (List.mem_map.2 ⟨d, h3, rfl⟩)
  · intro hy
    refine ⟨h.f2 y hy, ?_⟩
    simp only [decide_eq_true_eq]
    intro hc
    obtain ⟨d, h3, rfl⟩ := List.mem_map.1 hc
    rw [← ps_ds] at h3
    obtain ⟨e, h4, rfl⟩ := List.mem_map.1 h3
    obtain ⟨k, h5, h6⟩ := List.mem_iff_getElem.1 h4
    exact h.f5 k e.1 e.2 (by rw [← Its.ps_len]; exact h5) (by rw [List.getElem?_eq_getElem h5, h6]) hy
/-- One step of looking at items. -/
theorem chkI_step (earl : List (List UInt8)) {l : Its} {j : Nat} {d : D} {s : Its} (h : l.ps[j]? = some (d, s)) (names seen : List (List UInt8)) :
    (d.kd = 4 → (∀ p, misO seen d.ct = some p → chkI earl (l.dr j) names seen = .error (5, p)) ∧ (misO seen d.ct = none → (∀ e, chkB earl s names seen = .error e → chkI earl (l.dr j) names seen = .error e) ∧ ∀ n2, chkB earl s names seen = .ok n2 → chkI earl (l.dr j) names seen = chkI earl (l.dr (j + 1)) n2 seen)) ∧
    (d.kd ≠ 4 → (∀ e, itemW earl names seen d = some e → chkI earl (l.dr j) names seen = .error e) ∧ (itemW earl names seen d = none → chkI earl (l.dr j) names seen = chkI earl (l.dr (j + 1)) (d.nm :: names) (seenN seen d))) := by
  rw [dr_at l j d s h, chkI]
  refine ⟨fun h4 => ?_, fun h4 => ?_⟩
  · rw [if_pos h4]
    refine ⟨fun p hp => by rw [hp], fun hp => ?_⟩
    rw [hp]
    dsimp only
    unfold chkB
    cases hc : chkI earl s names seen with
    | error e => exact ⟨fun e' he => (by injection he with he; rw [he]), fun n2 hn => (by cases hn)⟩
    | ok n1 =>
      dsimp only
      cases hr : rulesW s.ds with
      | some e => exact ⟨fun e' he => (by injection he with he; rw [he]), fun n2 hn => (by cases hn)⟩
      | none => exact ⟨fun e' he => (by cases he), fun n2 hn => (by injection hn with hn; rw [hn])⟩
  · rw [if_neg h4]
    cases hw : itemW earl names seen d with
    | some e => exact ⟨fun e' he => (by injection he with he; rw [he]), fun hn => (by cases hn)⟩
    | none => exact ⟨fun e' he => (by cases he), fun _ => rfl⟩
theorem chkI_end (earl : List (List UInt8)) (l : Its) (names seen : List (List UInt8)) : chkI earl (l.dr l.len) names seen = .ok names := by
  rw [dr_all, chkI]
theorem firstW_step (g : Nat → D → Option (Int × Nat)) (ds : List D) (i : Nat) (d : D) (h : ds[i]? = some d) : (∀ e, g i d = some e → firstW g i (ds.drop i) = some e) ∧ (g i d = none → firstW g i (ds.drop i) = firstW g (i + 1) (ds.drop (i + 1))) := by
  obtain ⟨hl, he⟩ := List.getElem?_eq_some_iff.1 h
  rw [List.drop_eq_getElem_cons hl, he, firstW]
  exact ⟨fun e hg => by rw [hg], fun hg => by rw [hg]⟩
theorem firstW_end (g : Nat → D → Option (Int × Nat)) (ds : List D) : firstW g ds.length (ds.drop ds.length) = none := by
  rw [List.drop_length]; rfl
theorem tot_step {l : Its} {j : Nat} {d : D} {s : Its} (h : l.ps[j]? = some (d, s)) : tot (l.dr j) = 1 + tot s + tot (l.dr (j + 1)) := by
  rw [dr_at l j d s h, tot]
/-- Places are no further than that. -/
def AtB : Its → Prop
  | .nil => True
  | .cons d s t => d.at_ ≤ 100000 ∧ AtB s ∧ AtB t
theorem AtB.at {l : Its} (h : AtB l) : ∀ (j : Nat) (d : D) (s : Its), l.ps[j]? = some (d, s) → d.at_ ≤ 100000 ∧ AtB s := by
  induction l with
  | nil => intro j d s hj; cases hj
  | cons a b t _ it =>
    intro j d s hj
    cases j with
    | zero => simp [Its.ps] at hj; obtain ⟨rfl, rfl⟩ := hj; exact ⟨h.1, h.2.1⟩
    | succ j => exact it h.2.2 j d s (by simpa [Its.ps] using hj)
end Go.Proofs.YtococaecjecjgaaGreatDoor.tm
/- Templates: how much is read, and where it stands (pure). -/
namespace Go.Proofs.YtococaecjecjgaaGreatDoor.tm
set_option linter.unusedVariables false
open lx ex

def szO : Option Ex → Nat
  | none => 0
  | some x => sz x
/-- How many tokens items take, at least. -/
def zI : Its → Nat
  | .nil => 1
  | .cons d s t => 2 + szO d.ct + zI s + zI t
theorem tot_le (l : Its) : tot l ≤ zI l := by
  induction l with
  | nil => exact Nat.zero_le _
  | cons d s t is it => rw [tot, zI]; omega
section
variable {en : Nat}
theorem tail_len {ts : List Tk} (h : (hd en ts).t ≠ []) : ts.tail.length + 1 = ts.length := by
  cases ts with
  | nil => exact absurd rfl h
  | cons t r => rfl
theorem name_len {ts r : List Tk} {t : List UInt8} (h : name en ts = .ok (t, r)) : r.length + 1 = ts.length := by
  unfold name at h
  split at h
  · cases h
  · rename_i h1
    split at h
    · cases h
    · injection h with h
      injection h with h3 h4
      rw [← h4]
      refine tail_len (en := en) (fun e => h1 (Or.inr ?_))
      rw [e]; decide
theorem want_len {m : List UInt8} {ts r : List Tk} (hm : m ≠ []) (h : want en m ts = .ok r) : r.length + 1 = ts.length := by
  unfold want at h
  split at h
  · rename_i h1
    injection h with h
    rw [← h]
    exact tail_len (en := en) (by rw [h1]; exact hm)
  · cases h
theorem rx_len {m : List UInt8} {ts r : List Tk} {x : Ex} (hT : TS ts) (h : rx nb en m ts = .ok (x, r)) : sz x + r.length ≤ ts.length := ((nw_all _).1 _ _ _ _ _ hT (rx_is h).1).2
theorem many_len {ts r : List Tk} {x : Ex} (hT : TS ts) (h : many nb en ts = .ok (x, r)) : sz x + 2 + r.length ≤ ts.length := by
  unfold many at h
  split at h
  · cases h
  · rename_i r1 h1
    split at h
    · cases h
    · rename_i x1 r2 h2
      injection h with h
      injection h with h3 h4
      subst h3 h4
      have s1 := want_told h1
      have l1 := want_len (by decide) h1
      have l2 := rx_len (hT.sb s1) h2
      have l3 : r2.tail.length + 1 = r2.length := tail_len (en := en) (by rw [(rx_is h2).2]; decide)
      omega
theorem rule_len {d e : D} {ts r : List Tk} (h : rule en d ts = .ok (e, r)) : r.length ≤ ts.length ∧ e.ct = d.ct := by
  unfold rule at h
  split at h
  · cases h
  · split at h
    · cases h
    · rename_i a r1 h2
      have l1 := name_len h2
      have lt : ts.tail.length ≤ ts.length := by rw [List.length_tail]; omega
      split at h
      · split at h
        · injection h with h; injection h with h4 h5; subst h4 h5
          exact ⟨by omega, rfl⟩
        · split at h
          · cases h
          · rename_i b r2 h4
            have l2 := name_len h4
            injection h with h; injection h with h5 h6; subst h5 h6
            exact ⟨by omega, rfl⟩
      · injection h with h; injection h with h4 h5; subst h4 h5
        exact ⟨by omega, rfl⟩
theorem mark_len {d e : D} {ts r : List Tk} (hT : TS ts) (hd : d.ct = none) (h : mark nb en d ts = .ok (e, r)) : szO e.ct + r.length ≤ ts.length := by
  unfold mark at h
  split at h
  · split at h
    · cases h
    · rename_i x r5 h5
      have l1 := many_len hT h5
      injection h with h; injection h with h6 h7; subst h6 h7
      show sz x + _ ≤ _
      omega
  · split at h
    · obtain ⟨l1, l2⟩ := rule_len h
      rw [l2, hd]
      have : ts.tail.length ≤ ts.length := by rw [List.length_tail]; omega
      show 0 + _ ≤ _
      omega
    · injection h with h; injection h with h6 h7; subst h6 h7
      rw [hd]
      show 0 + _ ≤ _
      omega
theorem kind_len {ts r : List Tk} {d : D} (h : kind en ts = .ok (d, r)) : r.length + 1 = ts.length ∧ d.ct = none := by
  unfold kind at h
  split at h
  · rename_i w o s hn
    injection h with h; injection h with h1 h2; subst h1 h2
    exact ⟨tail_len (en := en) (fun e => by rw [e, show numOf [] = none by decide] at hn; cases hn), rfl⟩
  · split at h
    · cases h
    · rename_i t r' hn
      have l1 := name_len hn
      injection h with h; injection h with h1 h2; subst h1 h2
      exact ⟨l1, rfl⟩
theorem part_len {ts r : List Tk} {e : D} (hT : TS ts) (h : part nb en ts = .ok (e, r)) : 3 + szO e.ct + r.length ≤ ts.length := by
  unfold part at h
  split at h
  · cases h
  · rename_i d1 r1 h1
    obtain ⟨l1, c1⟩ := kind_len h1
    split at h
    · cases h
    · rename_i t r2 h2
      have l2 := name_len h2
      split at h
      · cases h
      · rename_i d3 r3 h3
        have hT2 : TS r2 := by
          have s1 : Sb_ r1 ts := by
            unfold kind at h1
            split at h1
            · injection h1 with h1; injection h1 with _ e2; rw [← e2]; exact sb_tail ts
            · split at h1
              · cases h1
              · rename_i t' r' hn
                injection h1 with h1; injection h1 with _ e2; rw [← e2]; exact (name_told hT hn).2
          exact (hT.sb s1).sb (name_told (hT.sb s1) h2).2
        have l3 := mark_len hT2 (d := { d1 with nm := t }) c1 h3
        split at h
        · cases h
        · rename_i r4 h4
          have l4 := want_len (by decide) h4
          injection h with h; injection h with h5 h6; subst h5 h6
          omega
theorem byts_len {ts r : List Tk} {e : D} (hT : TS ts) (h : byts nb en ts = .ok (e, r)) : 4 + szO e.ct + r.length ≤ ts.length := by
  unfold byts at h
  split at h
  · cases h
  · rename_i t r1 h1
    have l1 := name_len h1
    split at h
    · cases h
    · rename_i x r2 h2
      have l2 := many_len (hT.sb (name_told hT h1).2) h2
      split at h
      · cases h
      · rename_i r3 h3
        have l3 := want_len (by decide) h3
        injection h with h; injection h with h5 h6; subst h5 h6
        show 4 + sz x + _ ≤ _
        omega
/-- Places. -/
def TP (en : Nat) (ts : List Tk) : Prop := en ≤ 100000 ∧ ∀ t ∈ ts, t.a ≤ 100000
theorem TP.sb {r ts : List Tk} (h : TP en ts) (k : Sb_ r ts) : TP en r := ⟨h.1, fun t ht => h.2 t (k t ht)⟩
theorem TP.hd {ts : List Tk} (h : TP en ts) : (hd en ts).a ≤ 100000 := by
  cases ts with
  | nil => exact h.1
  | cons t r => exact h.2 t (by simp)
theorem item_len {k : Nat} {ts r : List Tk} {d : D} {s : Its} (hT : TS ts) (hP : TP en ts) (hi : ∀ ts l r, TS ts → TP en ts → blk nb en k ts = .ok (l, r) → zI l + 1 + r.length ≤ ts.length ∧ AtB l) (h : item nb en (blk nb en k) ts = .ok ((d, s), r)) : 2 + szO d.ct + zI s + r.length ≤ ts.length ∧ d.at_ ≤ 100000 ∧ AtB s := by
  unfold item at h
  split at h
  · rename_i hw
    have l0 : ts.tail.length + 1 = ts.length := tail_len (en := en) (by rw [hw]; decide)
    split at h
    · cases h
    · rename_i x r1 h1
      have l1 := rx_len (hT.sb (sb_tail ts)) h1
      have s1 := (rx_told (hT.sb (sb_tail ts)) h1).2.trans (sb_tail ts)
      split at h
      · cases h
      · rename_i l r2 h2
        obtain ⟨g1, g2⟩ := hi _ _ _ (hT.sb s1) (hP.sb s1) h2
        injection h with h; injection h with h3 h4; injection h3 with h5 h6; subst h5 h6 h4
        refine ⟨?_, hP.hd, g2⟩
        show 2 + sz x + _ + _ ≤ _
        omega
  · split at h
    · rename_i hw
      have l0 : ts.tail.length + 1 = ts.length := tail_len (en := en) (by rw [hw]; decide)
      split at h
      · cases h
      · rename_i d1 r1 h1
        have l1 := byts_len (hT.sb (sb_tail ts)) h1
        injection h with h; injection h with h3 h4; injection h3 with h5 h6; subst h5 h6 h4
        refine ⟨?_, hP.hd, trivial⟩
        show 2 + szO d1.ct + 1 + _ ≤ _
        omega
    · split at h
      · cases h
      · rename_i d1 r1 h1
        have l1 := part_len hT h1
        injection h with h; injection h with h3 h4; injection h3 with h5 h6; subst h5 h6 h4
        refine ⟨?_, hP.hd, trivial⟩
        show 2 + szO d1.ct + 1 + _ ≤ _
        omega
theorem loop_len {k : Nat} (hi : ∀ ts l r, TS ts → TP en ts → blk nb en k ts = .ok (l, r) → zI l + 1 + r.length ≤ ts.length ∧ AtB l) (n : Nat) : ∀ (ts : List Tk) (l : Its) (r : List Tk), TS ts → TP en ts → loop nb en (blk nb en k) n ts = .ok (l, r) → zI l + r.length ≤ ts.length ∧ AtB l := by
  have hnil : ∀ ts : List Tk, (hd en ts).t = [125] → zI .nil + ts.tail.length ≤ ts.length := by
    intro ts h
    have := tail_len (en := en) (ts := ts) (by rw [h]; decide)
    show 1 + _ ≤ _
    omega
  induction n with
  | zero =>
    intro ts l r hT hP h
    rw [loop] at h
    split at h
    · rename_i h0
      injection h with h; injection h with h1 h2; subst h1 h2
      exact ⟨hnil ts h0, trivial⟩
    · cases h
  | succ n ih =>
    intro ts l r hT hP h
    rw [loop] at h
    split at h
    · rename_i h0
      injection h with h; injection h with h1 h2; subst h1 h2
      exact ⟨hnil ts h0, trivial⟩
    · split at h
      · cases h
      · rename_i d s r1 h1
        obtain ⟨g1, g2, g3⟩ := item_len hT hP hi h1
        have s1 := (item_told hT (fun ts l r a b => blk_told k ts l r a b) h1).2.2.2
        split at h
        · cases h
        · rename_i l1 r2 h2
          obtain ⟨k1, k2⟩ := ih _ _ _ (hT.sb s1) (hP.sb s1) h2
          injection h with h; injection h with h3 h4; subst h3 h4
          exact ⟨by rw [zI]; omega, g2, g3, k2⟩
theorem blk_len (k : Nat) : ∀ (ts : List Tk) (l : Its) (r : List Tk), TS ts → TP en ts → blk nb en k ts = .ok (l, r) → zI l + 1 + r.length ≤ ts.length ∧ AtB l := by
  induction k with
  | zero =>
    intro ts l r hT hP h
    rw [blk] at h
    split at h <;> cases h
  | succ k ih =>
    intro ts l r hT hP h
    rw [blk] at h
    split at h
    · rename_i h0
      obtain ⟨g1, g2⟩ := loop_len ih 16 _ _ _ (hT.sb (sb_tail ts)) (hP.sb (sb_tail ts)) h
      have := tail_len (en := en) (ts := ts) (by rw [h0]; decide)
      exact ⟨by omega, g2⟩
    · cases h
def zT (l : List Ty) : Nat := (l.map (fun t => 3 + zI t.l)).sum
theorem typs_len (n : Nat) : ∀ (ts : List Tk) (l : List Ty), TS ts → TP en ts → typs nb en n ts = .ok l → zT l ≤ ts.length ∧ ∀ t ∈ l, t.at_ ≤ 100000 ∧ AtB t.l := by
  induction n with
  | zero =>
    intro ts l hT hP h
    cases ts with
    | nil => cases h; exact ⟨Nat.le_refl _, fun t ht => by cases ht⟩
    | cons t r => rw [typs] at h; split at h <;> cases h
  | succ n ih =>
    intro ts l hT hP h
    cases ts with
    | nil => cases h; exact ⟨Nat.zero_le _, fun t ht => by cases ht⟩
    | cons t r =>
      have s0 : Sb_ r (t :: r) := fun u hu => by simp [hu]
      have hT' := hT.sb s0
      rw [typs] at h
      split at h
      · split at h
        · cases h
        · rename_i m r1 h1
          have l1 := name_len h1
          obtain ⟨n1, s1⟩ := name_told hT' h1
          split at h
          · cases h
          · rename_i it r2 h2
            obtain ⟨g1, g2⟩ := blk_len 8 _ _ _ (hT'.sb s1) ((hP.sb s0).sb s1) h2
            obtain ⟨_, _, _, s2⟩ := blk_told 8 _ _ _ (hT'.sb s1) h2
            split at h
            · cases h
            · rename_i q h3
              obtain ⟨k1, k2⟩ := ih _ _ (hT'.sb (s2.trans s1)) ((hP.sb s0).sb (s2.trans s1)) h3
              injection h with h
              subst h
              refine ⟨?_, fun u hu => ?_⟩
              · unfold zT at k1 ⊢
                rw [List.map_cons, List.sum_cons, List.length_cons]
                show 3 + zI it + _ ≤ _
                omega
              · rw [List.mem_cons] at hu
                rcases hu with rfl | hu
                · exact ⟨(hP.sb s0).hd, g2⟩
                · exact k2 u hu
      · cases h
end
end Go.Proofs.YtococaecjecjgaaGreatDoor.tm
/- Whether templates fit together: a block. -/
namespace Go.Proofs.YtococaecjecjgaaGreatDoor.tm
set_option linter.unusedVariables false
open Go.ChangeShapes Go.WideShapes Go.ChangeAt Go.RowKit Go.Shelf
open mem lx ex

/-- What looking at a block does. -/
def DoneB (B : Nat) (w : World) (q : Except (Int × Nat) (List (List UInt8))) (P : List (List UInt8) → World → Prop) (e : Ending) (w' : World) : Prop := Below B w w' ∧ Kx w w' ∧ match q with
  | .ok n => e = .returned (.tuple #[]) ∧ P n w'
  | .error (c, p) => ∃ A : Nat, e = thrownY A ∧ B ≤ A ∧ AtX w' A c (p : Int)
theorem DoneB.of_err {B : Nat} {w w' : World} {q : Except (Int × Nat) (List (List UInt8))} {P : List (List UInt8) → World → Prop} {c : Int} {p A : Nat} (hq : q = .error (c, p)) (hb : Below B w w') (hx : Kx w w') (hA : B ≤ A) (h : AtX w' A c (p : Int)) : DoneB B w q P (thrownY A) w' := by
  rw [hq]
  exact ⟨hb, hx, A, rfl, hA, h⟩
def BlkQ (K eb nb' sb : Nat) (earl names seen : List (List UInt8)) (ke kn ks t : Nat) (names' : List (List UInt8)) (w' : World) : Prop := (∀ y ∈ names, y ∈ names') ∧ (∀ y ∈ names', y ≠ []) ∧ ∃ kn' ks', kn' ≤ kn + t ∧ ks' ≤ ks + t ∧ Ck w' K eb nb' sb earl names' seen ke kn' ks'
/-- What a block asks. -/
structure BI (k : Nat) (l : Its) (B K eb nb' sb : Nat) (earl names seen : List (List UInt8)) (ke kn ks n : Nat) (p : Option Addr) (c : Nat) (cs : List C) (w : World) : Prop where
  wi : WI k l
  len : l.len ≤ 16
  at_ : AtB l
  ck : Ck w K eb nb' sb earl names seen ke kn ks
  bn : B ≤ nb'
  bs : B ≤ sb
  bw : B ≤ w.heap.size
  kn : kn + tot l ≤ 4000
  ks : ks + tot l ≤ 4000
  lie : ir.Lie w (fun g => g < B) p n c cs
  rep : Rep w (fun g => g < B) l cs
  sub : ∀ y ∈ seen, y ∈ names
  non : ∀ y ∈ names, y ≠ []
  n : n = l.len
def BlkY (k : Nat) : Prop := ∀ (l : Its) (B K eb nb' sb : Nat) (earl names seen : List (List UInt8)) (ke kn ks n : Nat) (p : Option Addr) (c : Nat) (cs : List C) (w : World), BI k l B K eb nb' sb earl names seen ke kn ks n p c cs w →
  Calls Tryz.prog 63 #[.pointer (some ⟨K, 0, none⟩), .slice p n c] w fun e w' => DoneB B w (chkB earl l names seen) (BlkQ K eb nb' sb earl names seen ke kn ks (tot l)) e w'
/-- How far the items are looked at. -/
structure S1 (l : Its) (B K eb nb' sb : Nat) (earl names seen : List (List UInt8)) (ke kn ks : Nat) (w wr : World) (j : Nat) (names' seen' : List (List UInt8)) (kn' ks' : Nat) : Prop where
  BL : Below B w wr
  kx : Kx w wr
  ck : Ck wr K eb nb' sb earl names' seen' ke kn' ks'
  eq : chkI earl l names seen = chkI earl (l.dr j) names' seen'
  nmd : Nmd l j names seen names' seen'
  kn : kn' + tot (l.dr j) ≤ kn + tot l
  ks : ks' + tot (l.dr j) ≤ ks + tot l
theorem S1.bl {l : Its} {B K eb nb' sb : Nat} {earl names seen : List (List UInt8)} {ke kn ks : Nat} {w wr w' : World} {j : Nat} {names' seen' : List (List UInt8)} {kn' ks' : Nat} (h : S1 l B K eb nb' sb earl names seen ke kn ks w wr j names' seen' kn' ks') (hb : Bl wr w') (hB : B ≤ w.heap.size) : S1 l B K eb nb' sb earl names seen ke kn ks w w' j names' seen' kn' ks' :=
  ⟨h.BL.trans (hb.mono (Nat.le_trans hB h.BL.size)), h.kx.trans (Kx.bl hb), h.ck.bl hb, h.eq, h.nmd, h.kn, h.ks⟩
theorem chkB_err {earl names seen : List (List UInt8)} {l : Its} {e : Int × Nat} (h : chkI earl l names seen = .error e) : chkB earl l names seen = .error e := by unfold chkB; rw [h]
theorem wd_ok {d : D} (h : WD d) : (∀ x, d.ct = some x → Okb x) ∧ d.nm.length ≤ 5000 ∧ d.ty.length ≤ 5000 ∧ (d.kd = 4 → d.nm = []) ∧ (d.kd ≠ 4 → d.nm ≠ []) := by
  have nn : ∀ {t : List UInt8}, NM t → t ≠ [] ∧ t.length ≤ 5000 := fun {t} h => ⟨fun e => by have := h.2.1; rw [e] at this; revert this; decide, by have := h.2.2.1; omega⟩
  rcases h with h | h | h | h
  · obtain ⟨h1, ⟨x, hx, wx⟩, h3, _, _, h6, _⟩ := h
    exact ⟨fun y hy => by rw [hx] at hy; injection hy with hy; rw [← hy]; exact wx.1.okb, by rw [h3]; simp, by rw [h6]; simp, fun _ => h3, fun h4 => absurd h1 h4⟩
  · obtain ⟨h1, hn, ⟨x, hx, wx⟩, _, _, h6, _⟩ := h
    exact ⟨fun y hy => by rw [hx] at hy; injection hy with hy; rw [← hy]; exact wx.1.okb, (nn hn).2, by rw [h6]; simp, fun h4 => by omega, fun _ => (nn hn).1⟩
  · obtain ⟨h1, ht, hn, _, _, _, _, _, _, hm⟩ := h
    refine ⟨fun y hy => ?_, (nn hn).2, (nn ht).2, fun h4 => by omega, fun _ => (nn hn).1⟩
    rcases hm with ⟨_, x, hx, wx⟩ | ⟨_, hx⟩
    · rw [hx] at hy; injection hy with hy; rw [← hy]; exact wx.1.okb
    · rw [hx] at hy; cases hy
  · obtain ⟨h1, ht, _, hn, hm⟩ := h
    refine ⟨fun y hy => ?_, (nn hn).2, by rw [ht]; simp, fun h4 => by omega, fun _ => (nn hn).1⟩
    rcases hm with ⟨_, ⟨x, hx, wx⟩, _⟩ | ⟨_, hx, _⟩
    · rw [hx] at hy; injection hy with hy; rw [← hy]; exact wx.1.okb
    · rw [hx] at hy; cases hy
/-- How far what was seen is forgotten. -/
structure S2 (l : Its) (B K eb nb' sb : Nat) (earl names' seen' : List (List UInt8)) (ke kn' ks' : Nat) (w wr : World) (j : Nat) : Prop where
  BL : Below B w wr
  kx : Kx w wr
  ck : Ck wr K eb nb' sb earl names' (seen'.filter (fun y => y ∉ (l.ds.take j).map D.nm)) ke kn' ks'
theorem S2.step {l : Its} {B K eb nb' sb : Nat} {earl names' seen' : List (List UInt8)} {ke kn' ks' : Nat} {w wr w3 w' : World} {j : Nat} (h : S2 l B K eb nb' sb earl names' seen' ke kn' ks' w wr j) (hb : Bl wr w3) (hB : B ≤ w.heap.size) (hs : B ≤ sb) {d : D} (hd : l.ds[j]? = some d)
    (hn : SetM w' sb ((seen'.filter (fun y => y ∉ (l.ds.take j).map D.nm)).filter (fun y => y ≠ d.nm)) ks') (hg : w3.grownBy w' (some sb)) : S2 l B K eb nb' sb earl names' seen' ke kn' ks' w w' (j + 1) := by
  have hc := h.ck.bl hb
  have hs3 : B ≤ w3.heap.size := Nat.le_trans (Nat.le_trans hB h.BL.size) hb.size
  refine ⟨below_grown (h.BL.trans (hb.mono (Nat.le_trans hB h.BL.size))) hg hs hs3, (h.kx.trans (Kx.bl hb)).trans (Kx.map hc.s hg), hc.putS hg (hn.same (fun y => ?_))⟩
  rw [List.take_add_one, hd, List.map_append]
  simp only [List.mem_filter, List.mem_append, decide_eq_true_eq, Option.toList, List.map_cons, List.map_nil, List.mem_singleton, not_or]
  constructor
  · rintro ⟨⟨h1, h2⟩, h3⟩; exact ⟨h1, h2, h3⟩
  · rintro ⟨h1, h2, h3⟩; exact ⟨⟨h1, h2⟩, h3⟩
/-- How far rules are looked at. -/
structure S3 (g : Nat → D → Option (Int × Nat)) (l : Its) (B K eb nb' sb : Nat) (earl names' seen : List (List UInt8)) (ke kn' ks' : Nat) (w wr : World) (j : Nat) : Prop where
  BL : Below B w wr
  kx : Kx w wr
  ck : Ck wr K eb nb' sb earl names' seen ke kn' ks'
  eq : firstW g 0 l.ds = firstW g j (l.ds.drop j)
theorem S3.on {g : Nat → D → Option (Int × Nat)} {l : Its} {B K eb nb' sb : Nat} {earl names' seen : List (List UInt8)} {ke kn' ks' : Nat} {w wr w' : World} {j : Nat} (h : S3 g l B K eb nb' sb earl names' seen ke kn' ks' w wr j) (hb : Bl wr w') (hB : B ≤ w.heap.size) {d : D} (hd : l.ds[j]? = some d) (hg : g j d = none) : S3 g l B K eb nb' sb earl names' seen ke kn' ks' w w' (j + 1) :=
  ⟨h.BL.trans (hb.mono (Nat.le_trans hB h.BL.size)), h.kx.trans (Kx.bl hb), h.ck.bl hb, h.eq.trans ((firstW_step g l.ds j d hd).2 hg)⟩
theorem chkB_is {earl names seen names' : List (List UInt8)} {l : Its} (h : chkI earl l names seen = .ok names') : (∀ e, firstW (ruleW l.ds) 0 l.ds = some e → chkB earl l names seen = .error e) ∧ (firstW (ruleW l.ds) 0 l.ds = none → (∀ e, firstW (cycW l.ds) 0 l.ds = some e → chkB earl l names seen = .error e) ∧ (firstW (cycW l.ds) 0 l.ds = none → chkB earl l names seen = .ok names')) := by
  unfold chkB rulesW
  rw [h]
  dsimp only
  refine ⟨fun e he => by rw [he], fun hn => ?_⟩
  rw [hn]
  dsimp only
  exact ⟨fun e he => by rw [he], fun he => by rw [he]⟩
theorem cyc_is (ds : List D) (i : Nat) (d : D) : (¬ d.ru = 3 → cycW ds i d = none) ∧ (d.ru = 3 → (rnd ds i = true → cycW ds i d = some (11, d.at_)) ∧ (rnd ds i = false → cycW ds i d = none)) := by
  unfold cycW
  exact ⟨fun h => by rw [if_neg (fun hc => h hc.1)], fun h => ⟨fun hr => by rw [if_pos ⟨h, hr⟩], fun hr => by rw [if_neg (fun hc => by rw [hr] at hc; cases hc.2)]⟩⟩
set_option maxRecDepth 10000 in
set_option maxHeartbeats 8000000 in
theorem block_y (k : Nat) (hrec : ∀ k', k' < k → BlkY k') : BlkY k := by
  intro l B K eb nb' sb earl names seen ke kn ks n p c cs w h0
  have hn16 : n ≤ 16 := by rw [h0.n]; exact h0.len
  have H0 : Hid (BI k l B K eb nb' sb earl names seen ke kn ks n p c cs w) := h0
  obtain ⟨q, hq⟩ : ∃ q, q = chkB earl l names seen := ⟨_, rfl⟩
  rw [← hq]
  have HQ : Hid (q = chkB earl l names seen) := hq
  clear h0 hq
  go_enter Tryz.func63, Tryz.ntmps63
  go_upto_region 1 with fail
  go_loopw [14] (fun i wr => ∃ (j : Nat) (names' seen' : List (List UInt8)) (kn' ks' : Nat), j ≤ n ∧ i = .int .i64 (j : Int) ∧ Hid (S1 l B K eb nb' sb earl names seen ke kn ks w wr j names' seen' kn' ks')) (fun i _ => n - (intOf i).toNat)
  case atStart => exact ⟨0, names, seen, kn, ks, by omega, rfl, ⟨Below.refl _ _, Kx.bl (Bl.refl _), H0.out.ck, by cases l <;> rfl, Nmd.start l H0.out.sub H0.out.non, by cases l <;> exact Nat.le_refl _, by cases l <;> exact Nat.le_refl _⟩⟩
  case round =>
    obtain ⟨j, names', seen', kn', ks', hj, rfl, HB⟩ := hrel
    by_cases hjn : j < n
    · obtain ⟨x, d, s, e1, e2, e3, e4, cs2, e5, e6⟩ := H0.out.rep.at j (by rw [← H0.out.n]; exact hjn)
      subst e3
      obtain ⟨X, hX, _, g0', g⟩ := lie_at (lie_low H0.out.lie HB.out.BL) j x e1
      subst hX
      have g0 : wr.cell? (X.add (j * 13)) = some (.int .i64 (x.d.kd : Int)) := g0'
      clear g0'
      have g1 := g 1 _ rfl
      have g2 := g 2 _ rfl
      have g3 := g 3 _ rfl
      have g4 := g 4 _ rfl
      have g5 := g 5 _ rfl
      have g6 := g 6 _ rfl
      have g7 := g 7 _ rfl
      have g8 := g 8 _ rfl
      have g9 := g 9 _ rfl
      have g10 := g 10 _ rfl
      have g11 := g 11 _ rfl
      have g12 := g 12 _ rfl
      have d1 : decide ((j : Int) < (n : Int)) = true := decide_eq_true (by omega)
      have i0 : (0 : Int) ≤ (j : Int) := by omega
      have i1 : (j : Int) < (n : Int) := by omega
      obtain ⟨w3, hw3⟩ : ∃ w3, w3 = wr.alloc (.cells (cl x).toArray 60) := ⟨_, rfl⟩
      obtain ⟨M, hM⟩ : ∃ M, M = wr.heap.size := ⟨_, rfl⟩
      have hv3 : Iv w3 M x := ⟨by rw [hw3, hM]; exact new_at _ _⟩
      have hbl3 : Bl wr w3 := by rw [hw3]; exact (Bl.refl _).alloc _
      have hkx : Kx w wr := HB.out.kx
      obtain ⟨u1, u2, u3⟩ := H0.out.wi.at j _ _ e2
      obtain ⟨v1, v2, v3, v4, v5⟩ := wd_ok u1
      obtain ⟨t1, t2⟩ := H0.out.at_.at j _ _ e2
      obtain ⟨o1, o2⟩ := chkI_step earl e2 names' seen'
      have hts := tot_step e2
      have H3 : Hid (S1 l B K eb nb' sb earl names seen ke kn ks w w3 j names' seen' kn' ks' ∧ Iv w3 M x ∧ IsO w3 x.pc x.d.ct) := ⟨HB.out.bl hbl3 H0.out.bw, hv3, (e4.keep hkx).keep (Kx.bl hbl3)⟩
      have HE : Hid (l.ps[j]? = some (x.d, s) ∧ tot (l.dr j) = 1 + tot s + tot (l.dr (j + 1)) ∧ ir.Lie w (fun g => g < B) x.p x.n x.c cs2 ∧ Rep w (fun g => g < B) s cs2) := ⟨e2, hts, e5, e6⟩
      clear e1 e2 e4 e5 e6 hts hkx hbl3 hv3
      go_upto_region 3 with fail
      change Code.wp _ _ _ _ (wr.alloc (.cells (cl x).toArray 60))
      rw [← hw3, ← hM]
      clear hw3 hM g0 g1 g2 g3 g4 g5 g6 g7 g8 g9 g10 g11 g12 g
      obtain ⟨a0, a1, a2, a3, a4, a5, a6, a7, a8, a9, a10, a11, a12⟩ := H3.out.2.1.facts
      by_cases h4 : x.d.kd = 4
      · obtain ⟨o3, o4⟩ := o1 h4
        obtain ⟨z1, z2, z3⟩ := u3 h4
        have hnm := v4 h4
        rw [h4] at a0
        have cA := ask_at w3 K eb nb' sb ks' seen' x.pc x.d.ct H3.out.1.ck.h H3.out.1.ck.s H3.out.2.2 v1
        obtain ⟨mo, hmo⟩ : ∃ mo, mo = misO seen' x.d.ct := ⟨_, rfl⟩
        rw [← hmo] at cA o3 o4
        have HR : Hid (0 < k ∧ s.len ≤ 16 ∧ WI (k - 1) s ∧ AtB s ∧ x.d.nm = []) := ⟨z1, z2, z3, t2, hnm⟩
        clear o1 o2 hmo h4 z1 z2 z3 t1 t2 u1 u2 u3 v1 v2 v3 v4 v5 hnm a1 a2 a3 a4 a5 a6 a7 a9 a10 a11
        go_wp2_with fail
        refine cA.mono ?_
        rintro e w5 ⟨hb5, hans⟩
        have H5 : Hid (S1 l B K eb nb' sb earl names seen ke kn ks w w5 j names' seen' kn' ks' ∧ Iv w5 M x) := ⟨H3.out.1.bl hb5 H0.out.bw, H3.out.2.1.bl hb5⟩
        cases mo with
        | some p0 =>
          obtain ⟨A, rfl, hA1, hA2⟩ := hans
          have hfin : DoneB B w q (BlkQ K eb nb' sb earl names seen ke kn ks (tot l)) (thrownY A) w5 := by
            have hs := Nat.le_trans H0.out.bw H3.out.1.BL.size
            exact DoneB.of_err (by rw [HQ.out]; exact chkB_err (HB.out.eq.trans (o3 _ rfl))) H5.out.1.BL H5.out.1.kx (by omega) hA2
          unfold thrownY
          go_wp2
          exact ⟨rfl, hfin⟩
        | none =>
          dsimp only at hans
          subst hans
          obtain ⟨o5, o6⟩ := o4 rfl
          have hen : x.n = s.len := by rw [HE.out.2.2.1.1]; exact HE.out.2.2.2.len.1
          have cR := hrec (k - 1) (by have := HR.out.1; omega) s B K eb nb' sb earl names' seen' ke kn' ks' x.n x.p x.c cs2 w5
            ⟨HR.out.2.2.1, HR.out.2.1, HR.out.2.2.2.1, H5.out.1.ck, H0.out.bn, H0.out.bs, Nat.le_trans H0.out.bw H5.out.1.BL.size, by have h1 := H5.out.1.kn; have h2 := HE.out.2.1; have h3 := H0.out.kn; omega, by have h1 := H5.out.1.ks; have h2 := HE.out.2.1; have h3 := H0.out.ks; omega, lie_low HE.out.2.2.1 H5.out.1.BL, HE.out.2.2.2.low H5.out.1.BL H5.out.1.kx, H5.out.1.nmd.f3, H5.out.1.nmd.f4, hen⟩
          obtain ⟨b0, b1, b2, b3, b4, b5, b6, b7, b8, b9, b10, b11, b12⟩ := H5.out.2.facts
          have HO : Hid ((∀ e, chkB earl s names' seen' = .error e → chkI earl (l.dr j) names' seen' = .error e) ∧ ∀ n2, chkB earl s names' seen' = .ok n2 → chkI earl (l.dr j) names' seen' = chkI earl (l.dr (j + 1)) n2 seen') := ⟨o5, o6⟩
          clear o3 o4 o5 o6 cA hb5 hen b0 b1 b2 b3 b4 b5 b6 b7 b8 b9 b10 b11 a0 a8 a12
          go_wp2_with fail
          refine cR.mono ?_
          rintro e w6 ⟨hb6, hx6, hans⟩
          cases hcB : chkB earl s names' seen' with
          | error cp =>
            obtain ⟨cc, pp⟩ := cp
            rw [hcB] at hans
            obtain ⟨A, rfl, hA1, hA2⟩ := hans
            have hfin : DoneB B w q (BlkQ K eb nb' sb earl names seen ke kn ks (tot l)) (thrownY A) w6 :=
              DoneB.of_err (by rw [HQ.out]; exact chkB_err (HB.out.eq.trans (HO.out.1 _ hcB))) (H5.out.1.BL.trans hb6) (H5.out.1.kx.trans hx6) hA1 hA2
            clear hcB cR
            unfold thrownY
            go_wp2
            exact ⟨rfl, hfin⟩
          | ok n2 =>
            rw [hcB] at hans
            obtain ⟨rfl, hf6, hf4, kn2, ks2, hkn2, hks2, hck⟩ := hans
            have H7 : Hid (S1 l B K eb nb' sb earl names seen ke kn ks w w6 (j + 1) n2 seen' kn2 ks2) :=
              ⟨H5.out.1.BL.trans hb6, H5.out.1.kx.trans hx6, hck, HB.out.eq.trans (HO.out.2 _ hcB), HB.out.nmd.when HE.out.1 HR.out.2.2.2.2 hf6 hf4, by have h1 := HB.out.kn; have h2 := HE.out.2.1; omega, by have h1 := HB.out.ks; have h2 := HE.out.2.1; omega⟩
            clear hcB cR hf6 hf4 hkn2 hks2 hck hb6 hx6 b12
            go_wp2
            go_roundw
            case rel => exact ⟨j + 1, n2, seen', kn2, ks2, by omega, by go_num, H7.out⟩
            case measure => simp [intOf]; omega
      · obtain ⟨o3, o4⟩ := o2 h4
        have h4' : ¬ ((x.d.kd : Int) = 4) := by omega
        have hnm := v5 h4
        have cI := itemY_at w3 B K eb nb' sb earl names' seen' ke kn' ks' x H3.out.1.ck H0.out.bn H0.out.bs (Nat.le_trans H0.out.bw H3.out.1.BL.size) ⟨by have h1 := HB.out.kn; have h3 := H0.out.kn; omega, by have h1 := HB.out.ks; have h3 := H0.out.ks; omega⟩ H3.out.2.2 v1 v2 v3 t1
        obtain ⟨wq, hwq⟩ : ∃ wq, wq = itemW earl names' seen' x.d := ⟨_, rfl⟩
        have hnin : wq = none → x.d.nm ∉ names' := by
          intro hw hc
          have := (itemW_is earl names' seen' x.d).1 hc
          rw [← hwq, hw] at this
          cases this
        rw [← hwq] at cI o3 o4
        unfold itV cl at cI
        have HO : Hid ((∀ e, wq = some e → chkI earl (l.dr j) names' seen' = .error e) ∧ (wq = none → chkI earl (l.dr j) names' seen' = chkI earl (l.dr (j + 1)) (x.d.nm :: names') (seenN seen' x.d)) ∧ (wq = none → x.d.nm ∉ names') ∧ x.d.nm ≠ []) := ⟨o3, o4, hnin, hnm⟩
        clear o1 o2 o3 o4 hwq hnin hnm h4 u1 u2 u3 v1 v2 v3 v4 v5 t1 t2
        go_wp2_with fail
        refine cI.mono ?_
        rintro e w6 ⟨hb6, hx6, hans⟩
        clear cI a0 a1 a2 a3 a4 a5 a6 a7 a8 a9 a10 a11 a12
        cases wq with
        | some cp =>
          obtain ⟨cc, pp⟩ := cp
          obtain ⟨A, rfl, hA1, hA2⟩ := hans
          have hfin : DoneB B w q (BlkQ K eb nb' sb earl names seen ke kn ks (tot l)) (thrownY A) w6 :=
            DoneB.of_err (by rw [HQ.out]; exact chkB_err (HB.out.eq.trans (HO.out.1 _ rfl))) (H3.out.1.BL.trans hb6) (H3.out.1.kx.trans hx6) hA1 hA2
          unfold thrownY
          go_wp2
          exact ⟨rfl, hfin⟩
        | none =>
          obtain ⟨rfl, hck⟩ := hans
          have H7 : Hid (S1 l B K eb nb' sb earl names seen ke kn ks w w6 (j + 1) (x.d.nm :: names') (seenN seen' x.d) (kn' + 1) (ks' + 1)) :=
            ⟨H3.out.1.BL.trans hb6, H3.out.1.kx.trans hx6, hck, HB.out.eq.trans (HO.out.2.1 rfl), HB.out.nmd.item HE.out.1 HO.out.2.2.2 (HO.out.2.2.1 rfl), by have h1 := HB.out.kn; have h2 := HE.out.2.1; omega, by have h1 := HB.out.ks; have h2 := HE.out.2.1; omega⟩
          clear hck hb6 hx6
          go_wp2
          go_roundw
          case rel => exact ⟨j + 1, _, _, _, _, by omega, by go_num, H7.out⟩
          case measure => simp [intOf]; omega
    · obtain rfl : n = j := by omega
      have HN : Hid (Nmd l l.len names seen names' seen' ∧ chkI earl l names seen = .ok names' ∧ kn' ≤ kn + tot l ∧ ks' ≤ ks + tot l) := by
        have h := HB.out
        rw [H0.out.n] at h
        exact ⟨h.nmd, h.eq.trans (chkI_end _ _ _ _), by have := h.kn; omega, by have := h.ks; omega⟩
      have H2 : Hid (S2 l B K eb nb' sb earl names' seen' ke kn' ks' w wr 0) := by
        refine ⟨HB.out.BL, HB.out.kx, ?_⟩
        have e : seen'.filter (fun y => y ∉ (l.ds.take 0).map D.nm) = seen' := by simp
        rw [e]
        exact HB.out.ck
      clear HB hj hjn
      go_upto_region 9 with fail
      go_loopw [35] (fun i wr2 => ∃ (j : Nat), j ≤ n ∧ i = .int .i64 (j : Int) ∧ Hid (S2 l B K eb nb' sb earl names' seen' ke kn' ks' w wr2 j)) (fun i _ => n - (intOf i).toNat)
      case atStart => exact ⟨0, by omega, rfl, H2.out⟩
      case round =>
        clear H2
        obtain ⟨j, hj, rfl, HB⟩ := hrel
        by_cases hjn : j < n
        · obtain ⟨x, d, s, e1, e2, e3, e4, cs2, e5, e6⟩ := H0.out.rep.at j (by rw [← H0.out.n]; exact hjn)
          subst e3
          obtain ⟨X, hX, _, g0', g⟩ := lie_at (lie_low H0.out.lie HB.out.BL) j x e1
          subst hX
          have g0 : wr.cell? (X.add (j * 13)) = some (.int .i64 (x.d.kd : Int)) := g0'
          clear g0'
          have g1 := g 1 _ rfl
          have g2 := g 2 _ rfl
          have g3 := g 3 _ rfl
          have g4 := g 4 _ rfl
          have g5 := g 5 _ rfl
          have g6 := g 6 _ rfl
          have g7 := g 7 _ rfl
          have g8 := g 8 _ rfl
          have g9 := g 9 _ rfl
          have g10 := g 10 _ rfl
          have g11 := g 11 _ rfl
          have g12 := g 12 _ rfl
          have d1 : decide ((j : Int) < (n : Int)) = true := decide_eq_true (by omega)
          have i0 : (0 : Int) ≤ (j : Int) := by omega
          have i1 : (j : Int) < (n : Int) := by omega
          obtain ⟨w3, hw3⟩ : ∃ w3, w3 = wr.alloc (.cells (cl x).toArray 60) := ⟨_, rfl⟩
          obtain ⟨M, hM⟩ : ∃ M, M = wr.heap.size := ⟨_, rfl⟩
          have hv3 : Iv w3 M x := ⟨by rw [hw3, hM]; exact new_at _ _⟩
          have hbl3 : Bl wr w3 := by rw [hw3]; exact (Bl.refl _).alloc _
          have hd : l.ds[j]? = some x.d := by rw [← ps_ds, List.getElem?_map, e2]; rfl
          have hln := (wd_ok (H0.out.wi.at j _ _ e2).1).2.1
          have hbD := (Bl.refl w3).drew
          obtain ⟨w5, hr5, hn5, hg5⟩ := ((HB.out.ck.bl hbl3).bl hbD).s.drop x.d.nm hln 0
          have H5 : Hid (S2 l B K eb nb' sb earl names' seen' ke kn' ks' w w5 (j + 1)) := HB.out.step (hbl3.trans hbD) H0.out.bw H0.out.bs hd hn5 hg5
          obtain ⟨f0, f1, f2, f3, f4, f5, f6, f7, f8, f9, f10, f11, f12⟩ := (hv3.bl hbD).facts
          obtain ⟨k0, k1, k2⟩ := ((HB.out.ck.bl hbl3).bl hbD).cells
          have hKs := lt_of_heap ((HB.out.ck.bl hbl3).bl hbD).h
          clear e1 e2 e4 e5 e6 hd hln hbl3 hv3 hn5 hg5 f0 f1 f3 f4 f5 f6 f7 f8 f9 f10 f11 f12 k0 k1 hbD
          go_upto_region 11 with fail
          change Code.wp _ _ _ _ (wr.alloc (.cells (cl x).toArray 60))
          rw [← hw3, ← hM]
          clear hw3 hM g0 g1 g2 g3 g4 g5 g6 g7 g8 g9 g10 g11 g12 g
          go_region
          all_goals
            go_wp2
            go_roundw
            case rel => exact ⟨j + 1, by omega, by go_num, H5.out⟩
            case measure => simp [intOf]; omega
        · obtain rfl : n = j := by omega
          have H3 : Hid (S3 (ruleW l.ds) l B K eb nb' sb earl names' seen ke kn' ks' w wr 0) := by
            refine ⟨HB.out.BL, HB.out.kx, ⟨HB.out.ck.h, HB.out.ck.e, HB.out.ck.n, ?_, HB.out.ck.d1, HB.out.ck.d2, HB.out.ck.d3⟩, rfl⟩
            have h := HB.out.ck.s
            rw [H0.out.n] at h
            exact h.same (fun y => HN.out.1.left y)
          clear HB hjn
          go_upto_region 14 with fail
          go_loopw [48] (fun i wr => ∃ (j : Nat), j ≤ n ∧ i = .int .i64 (j : Int) ∧ Hid (S3 (ruleW l.ds) l B K eb nb' sb earl names' seen ke kn' ks' w wr j)) (fun i _ => n - (intOf i).toNat)
          case atStart => exact ⟨0, by omega, rfl, H3.out⟩
          case round =>
            clear H3
            obtain ⟨j, hj, rfl, HB⟩ := hrel
            by_cases hjn : j < n
            · obtain ⟨x, d, s, e1, e2, e3, e4, cs2, e5, e6⟩ := H0.out.rep.at j (by rw [← H0.out.n]; exact hjn)
              subst e3
              obtain ⟨X, hX, _, g0', g⟩ := lie_at (lie_low H0.out.lie HB.out.BL) j x e1
              subst hX
              have g0 : wr.cell? (X.add (j * 13)) = some (.int .i64 (x.d.kd : Int)) := g0'
              clear g0'
              have g1 := g 1 _ rfl
              have g2 := g 2 _ rfl
              have g3 := g 3 _ rfl
              have g4 := g 4 _ rfl
              have g5 := g 5 _ rfl
              have g6 := g 6 _ rfl
              have g7 := g 7 _ rfl
              have g8 := g 8 _ rfl
              have g9 := g 9 _ rfl
              have g10 := g 10 _ rfl
              have g11 := g 11 _ rfl
              have g12 := g 12 _ rfl
              have d1 : decide ((j : Int) < (n : Int)) = true := decide_eq_true (by omega)
              have i0 : (0 : Int) ≤ (j : Int) := by omega
              have i1 : (j : Int) < (n : Int) := by omega
              obtain ⟨w3, hw3⟩ : ∃ w3, w3 = wr.alloc (.cells (cl x).toArray 60) := ⟨_, rfl⟩
              obtain ⟨M, hM⟩ : ∃ M, M = wr.heap.size := ⟨_, rfl⟩
              have hv3 : Iv w3 M x := ⟨by rw [hw3, hM]; exact new_at _ _⟩
              have hbl3 : Bl wr w3 := by rw [hw3]; exact (Bl.refl _).alloc _
              have hd : l.ds[j]? = some x.d := by rw [← ps_ds, List.getElem?_map, e2]; rfl
              have hds : cs.map C.d = l.ds := H0.out.rep.len.2
              have hls := lie_low H0.out.lie (HB.out.BL.trans (hbl3.mono (Nat.le_trans H0.out.bw HB.out.BL.size)))
              have H3 : Hid (Bl wr w3 ∧ l.ds[j]? = some x.d) := ⟨hbl3, hd⟩
              obtain ⟨a0, a1, a2, a3, a4, a5, a6, a7, a8, a9, a10, a11, a12⟩ := hv3.facts
              by_cases r0 : x.d.ru = 0
              · have H5 : Hid (S3 (ruleW l.ds) l B K eb nb' sb earl names' seen ke kn' ks' w w3 (j + 1)) := HB.out.on hbl3 H0.out.bw hd (by unfold ruleW; rw [if_pos r0])
                rw [r0] at a9
                clear e1 e2 e4 e5 e6 hd hbl3 hv3 hls hds r0
                go_upto_region 16 with fail
                change Code.wp _ _ _ _ (wr.alloc (.cells (cl x).toArray 60))
                rw [← hw3, ← hM]
                clear hw3 hM g0 g1 g2 g3 g4 g5 g6 g7 g8 g9 g10 g11 g12 g
                go_wp2
                go_roundw
                case rel => exact ⟨j + 1, by omega, by go_num, H5.out⟩
                case measure => simp [intOf]; omega
              · have r0' : ¬ ((x.d.ru : Int) = 0) := by omega
                have cC := checkRule_at x j cs _ (some X) n c w3 hls (by omega) e1 r0
                rw [hds] at cC
                obtain ⟨rq, hrq⟩ : ∃ rq, rq = ruleW l.ds j x.d := ⟨_, rfl⟩
                rw [← hrq] at cC
                have HR : Hid (rq = ruleW l.ds j x.d) := hrq
                clear e1 e2 e4 e5 e6 hd hbl3 hv3 hls hds r0 hrq
                go_upto_region 16 with fail
                change Code.wp _ _ _ _ (wr.alloc (.cells (cl x).toArray 60))
                rw [← hw3, ← hM]
                clear hw3 hM g0 g1 g2 g3 g4 g5 g6 g7 g8 g9 g10 g11 g12 g
                go_wp2_with fail
                refine cC.mono ?_
                rintro e w6 ⟨hb6, hans⟩
                clear cC a0 a1 a2 a3 a4 a5 a6 a7 a8 a9 a10 a11 a12
                cases rq with
                | some cp =>
                  obtain ⟨cc, pp⟩ := cp
                  obtain ⟨A, rfl, hA1, hA2⟩ := hans
                  have hbb := H3.out.1.trans hb6
                  have hfin : DoneB B w q (BlkQ K eb nb' sb earl names seen ke kn ks (tot l)) (thrownY A) w6 := by
                    refine DoneB.of_err ?_ (HB.out.BL.trans (hbb.mono (Nat.le_trans H0.out.bw HB.out.BL.size))) (HB.out.kx.trans (Kx.bl hbb)) (Nat.le_trans (Nat.le_trans (Nat.le_trans H0.out.bw HB.out.BL.size) H3.out.1.size) hA1) hA2
                    rw [HQ.out]
                    exact (chkB_is HN.out.2.1).1 _ (HB.out.eq.trans ((firstW_step _ _ _ _ H3.out.2).1 _ HR.out.symm))
                  unfold thrownY
                  go_wp2
                  exact ⟨rfl, hfin⟩
                | none =>
                  dsimp only at hans
                  subst hans
                  have H5 : Hid (S3 (ruleW l.ds) l B K eb nb' sb earl names' seen ke kn' ks' w w6 (j + 1)) := HB.out.on (H3.out.1.trans hb6) H0.out.bw H3.out.2 HR.out.symm
                  clear hb6
                  go_wp2
                  go_roundw
                  case rel => exact ⟨j + 1, by omega, by go_num, H5.out⟩
                  case measure => simp [intOf]; omega
            · obtain rfl : n = j := by omega
              have HZ : Hid (firstW (ruleW l.ds) 0 l.ds = none) := by
                show firstW (ruleW l.ds) 0 l.ds = none
                rw [HB.out.eq, H0.out.n, ← Its.ds_len]
                exact firstW_end _ _
              have H4 : Hid (S3 (cycW l.ds) l B K eb nb' sb earl names' seen ke kn' ks' w wr 0) := ⟨HB.out.BL, HB.out.kx, HB.out.ck, rfl⟩
              clear HB hjn
              go_upto_region 20 with fail
              go_loopw [62] (fun i wr => ∃ (j : Nat), j ≤ n ∧ i = .int .i64 (j : Int) ∧ Hid (S3 (cycW l.ds) l B K eb nb' sb earl names' seen ke kn' ks' w wr j)) (fun i _ => n - (intOf i).toNat)
              case atStart => exact ⟨0, by omega, rfl, H4.out⟩
              case round =>
                clear H4
                obtain ⟨j, hj, rfl, HB⟩ := hrel
                by_cases hjn : j < n
                · obtain ⟨x, d, s, e1, e2, e3, e4, cs2, e5, e6⟩ := H0.out.rep.at j (by rw [← H0.out.n]; exact hjn)
                  subst e3
                  obtain ⟨X, hX, _, g0', g⟩ := lie_at (lie_low H0.out.lie HB.out.BL) j x e1
                  subst hX
                  have g0 : wr.cell? (X.add (j * 13)) = some (.int .i64 (x.d.kd : Int)) := g0'
                  clear g0'
                  have g1 := g 1 _ rfl
                  have g2 := g 2 _ rfl
                  have g3 := g 3 _ rfl
                  have g4 := g 4 _ rfl
                  have g5 := g 5 _ rfl
                  have g6 := g 6 _ rfl
                  have g7 := g 7 _ rfl
                  have g8 := g 8 _ rfl
                  have g9 := g 9 _ rfl
                  have g10 := g 10 _ rfl
                  have g11 := g 11 _ rfl
                  have g12 := g 12 _ rfl
                  have d1 : decide ((j : Int) < (n : Int)) = true := decide_eq_true (by omega)
                  have i0 : (0 : Int) ≤ (j : Int) := by omega
                  have i1 : (j : Int) < (n : Int) := by omega
                  obtain ⟨w3, hw3⟩ : ∃ w3, w3 = wr.alloc (.cells (cl x).toArray 60) := ⟨_, rfl⟩
                  obtain ⟨M, hM⟩ : ∃ M, M = wr.heap.size := ⟨_, rfl⟩
                  have hv3 : Iv w3 M x := ⟨by rw [hw3, hM]; exact new_at _ _⟩
                  have hbl3 : Bl wr w3 := by rw [hw3]; exact (Bl.refl _).alloc _
                  have hd : l.ds[j]? = some x.d := by rw [← ps_ds, List.getElem?_map, e2]; rfl
                  have hds : cs.map C.d = l.ds := H0.out.rep.len.2
                  have hls := lie_low H0.out.lie (HB.out.BL.trans (hbl3.mono (Nat.le_trans H0.out.bw HB.out.BL.size)))
                  have H3 : Hid (Bl wr w3 ∧ l.ds[j]? = some x.d) := ⟨hbl3, hd⟩
                  obtain ⟨a0, a1, a2, a3, a4, a5, a6, a7, a8, a9, a10, a11, a12⟩ := hv3.facts
                  obtain ⟨o1, o2⟩ := cyc_is l.ds j x.d
                  by_cases r3 : x.d.ru = 3
                  · obtain ⟨o3, o4⟩ := o2 r3
                    have cR := round_at x j cs _ (some X) n c w3 hls (by omega) e1
                    rw [hds] at cR
                    obtain ⟨rb, hrb⟩ : ∃ rb, rb = rnd l.ds j := ⟨_, rfl⟩
                    rw [← hrb] at cR o3 o4
                    have cT := ythrow_at (x.d.at_ : Int)
                    rw [r3] at a9
                    have HV : Hid (Iv w3 M x ∧ (rb = true → cycW l.ds j x.d = some (11, x.d.at_)) ∧ (rb = false → cycW l.ds j x.d = none)) := ⟨hv3, o3, o4⟩
                    clear e1 e2 e4 e5 e6 hd hbl3 hv3 hls hds r3 hrb o1 o2 o3 o4
                    go_upto_region 22 with fail
                    change Code.wp _ _ _ _ (wr.alloc (.cells (cl x).toArray 60))
                    rw [← hw3, ← hM]
                    clear hw3 hM g0 g1 g2 g3 g4 g5 g6 g7 g8 g9 g10 g11 g12 g
                    go_wp2_with fail
                    refine cR.mono ?_
                    rintro e w6 ⟨rfl, hb6⟩
                    clear cR a0 a1 a2 a3 a4 a5 a6 a7 a8 a9 a10 a11 a12
                    have a1 := (HV.out.1.bl hb6).facts.2.1
                    cases rb with
                    | true =>
                      have hc := HV.out.2.1 rfl
                      have hbb := H3.out.1.trans hb6
                      have HF : Hid (q = .error (11, x.d.at_) ∧ Below B w w6 ∧ Kx w w6 ∧ B ≤ w6.heap.size) := by
                        refine ⟨?_, HB.out.BL.trans (hbb.mono (Nat.le_trans H0.out.bw HB.out.BL.size)), HB.out.kx.trans (Kx.bl hbb), Nat.le_trans (Nat.le_trans H0.out.bw HB.out.BL.size) hbb.size⟩
                        rw [HQ.out]
                        exact ((chkB_is HN.out.2.1).2 HZ.out).1 _ (HB.out.eq.trans ((firstW_step _ _ _ _ H3.out.2).1 _ hc))
                      clear hc hbb hb6
                      go_wp2_with fail
                      refine (cT 11 w6).mono ?_
                      rintro e w9 ⟨A, rfl, hA1, hA2, hb9⟩
                      have hfin : DoneB B w q (BlkQ K eb nb' sb earl names seen ke kn ks (tot l)) (thrownY A) w9 := DoneB.of_err HF.out.1 (HF.out.2.1.trans (hb9.mono HF.out.2.2.2)) (HF.out.2.2.1.trans (Kx.bl hb9)) (Nat.le_trans HF.out.2.2.2 hA1) hA2
                      unfold thrownY
                      go_wp2
                      exact ⟨rfl, hfin⟩
                    | false =>
                      have H5 : Hid (S3 (cycW l.ds) l B K eb nb' sb earl names' seen ke kn' ks' w w6 (j + 1)) := HB.out.on (H3.out.1.trans hb6) H0.out.bw H3.out.2 (HV.out.2.2 rfl)
                      clear hb6
                      go_wp2
                      go_roundw
                      case rel => exact ⟨j + 1, by omega, by go_num, H5.out⟩
                      case measure => simp [intOf]; omega
                  · have r3' : ¬ ((x.d.ru : Int) = 3) := by omega
                    have H5 : Hid (S3 (cycW l.ds) l B K eb nb' sb earl names' seen ke kn' ks' w w3 (j + 1)) := HB.out.on hbl3 H0.out.bw hd (o1 r3)
                    clear e1 e2 e4 e5 e6 hd hbl3 hv3 hls hds o1 o2 r3
                    go_upto_region 22 with fail
                    change Code.wp _ _ _ _ (wr.alloc (.cells (cl x).toArray 60))
                    rw [← hw3, ← hM]
                    clear hw3 hM g0 g1 g2 g3 g4 g5 g6 g7 g8 g9 g10 g11 g12 g
                    go_wp2
                    go_roundw
                    case rel => exact ⟨j + 1, by omega, by go_num, H5.out⟩
                    case measure => simp [intOf]; omega
                · obtain rfl : n = j := by omega
                  have hfin : DoneB B w q (BlkQ K eb nb' sb earl names seen ke kn ks (tot l)) (.returned (.tuple #[])) wr := by
                    refine ⟨HB.out.BL, HB.out.kx, ?_⟩
                    have hq : q = .ok names' := by
                      rw [HQ.out]
                      refine ((chkB_is HN.out.2.1).2 HZ.out).2 ?_
                      rw [HB.out.eq, H0.out.n, ← Its.ds_len]
                      exact firstW_end _ _
                    rw [hq]
                    exact ⟨rfl, HN.out.1.f6, HN.out.1.f4, kn', ks', HN.out.2.2.1, HN.out.2.2.2, HB.out.ck⟩
                  go_wp2
                  go_end0
                  exact hfin
theorem block_ya (k : Nat) : BlkY k := by
  induction k using Nat.strongRecOn with
  | ind k ih => exact block_y k ih
end Go.Proofs.YtococaecjecjgaaGreatDoor.tm
/- Check of package types. -/
namespace Go.Proofs.YtococaecjecjgaaGreatDoor.tm
set_option linter.unusedVariables false
open Go.ChangeShapes Go.WideShapes Go.ChangeAt Go.RowKit Go.Shelf
open mem lx ex

def thrYV (A : Nat) : Value := .iface 132 (.agg #[.iface 113 (.pointer (some ⟨A, 0, none⟩))])
theorem ycatch_idle (p : Addr) (w : World) :
    CallsD Tryz.prog 61 #[.pointer (some p)] .returning w fun e u' w' => e = .returned (.tuple #[]) ∧ u' = .returning ∧ Bl w w' := by
  have hta : ∀ w : World, (Instr.typeAssert Value.nilIface 20 132 true).run Tryz.prog w = .ok (.tuple #[.agg #[.nilIface], .bool false]) w := fun _ => by kernel_rfl
  refine callsD_of_wpS Tryz.func61 rfl fun c₀ cs hu => ?_
  apply wpS_seq
  apply wpS_region
  simp [wpOpsS, go_sem, recoverD, hu, Tryz.ntmps61, Exit.thenS, hta]
  apply wpS_seq
  apply wpS_region
  simp [wpOpsS, go_sem, Exit.thenS]
  refine wpS_cond (t := false) (by simp [Act.eval, Array.replicate]) ?_
  simp only [Bool.false_eq_true, if_false]
  refine wpS_of_wp (wp_skip ?_)
  cases c₀
  simp_all [bodyPostS, results, Tryz.results61]
  exact (Bl.refl _).alloc _
theorem ycatch_thrown (N A : Nat) (w0 w : World) (e0 : Value) (c p : Int) (hv : Vr w N e0 34) (hb : Bl w0 w) (hN : w0.heap.size ≤ N) (hA : AtX w A c p) (hne : A ≠ N) :
    CallsD Tryz.prog 61 #[.pointer (some ⟨N, 0, none⟩)] (.panicking [{ v := thrYV A, recovered := false }]) w fun e u' w' =>
      e = .returned (.tuple #[]) ∧ u' = .panicking [{ v := thrYV A, recovered := true }] ∧ Vr w' N (atV A) 34 ∧ Bl w0 w' ∧ AtX w' A c p := by
  have hta : ∀ w : World, (Instr.typeAssert (thrYV A) 20 132 true).run Tryz.prog w = .ok (.tuple #[.agg #[.iface 113 (.pointer (some ⟨A, 0, none⟩))], .bool true]) w := fun _ => by kernel_rfl
  refine callsD_of_wpS Tryz.func61 rfl fun c₀ cs hu => ?_
  apply wpS_seq
  apply wpS_region
  simp [wpOpsS, go_sem, recoverD, hu, Tryz.ntmps61, Exit.thenS, hta]
  apply wpS_seq
  apply wpS_region
  simp [wpOpsS, go_sem, Exit.thenS]
  refine wpS_cond (t := true) (by simp [Act.eval, Array.replicate]) ?_
  simp only [if_true]
  have hM := hv.lt
  obtain ⟨M, hMe⟩ : ∃ M, M = w.heap.size := ⟨_, rfl⟩
  rw [← hMe] at hM ⊢
  obtain ⟨w1, hw1⟩ : ∃ w1, w1 = w.alloc (.cells #[.iface 113 (.pointer (some ⟨A, 0, none⟩))] 132) := ⟨_, rfl⟩
  have hb1 : Bl w w1 := by rw [hw1]; exact (Bl.refl _).alloc _
  have hcM : w1.cell? ⟨M, 0, none⟩ = some (.iface 113 (.pointer (some ⟨A, 0, none⟩))) := by
    have := new_at w (.cells #[.iface 113 (.pointer (some ⟨A, 0, none⟩))] 132)
    rw [hMe, hw1, cell_of this]; rfl
  have H1 : Hid (Vr w1 N e0 34 ∧ Bl w0 w1 ∧ AtX w1 A c p) := ⟨hv.step hb1, hb.trans hb1, AtX.bl hA hb1⟩
  rw [← hw1]
  clear hw1 hb1 hA hv hb hMe
  have c1 := H1.out.1.cell
  have f1 := H1.out.1.frozen
  have hMN : ¬ M = N := by omega
  have H9 : Vr (w1.setCell ⟨N, 0, none⟩ (atV A)) N (atV A) 34 ∧ Bl w0 (w1.setCell ⟨N, 0, none⟩ (atV A)) ∧ AtX (w1.setCell ⟨N, 0, none⟩ (atV A)) A c p := ⟨H1.out.1.set _, H1.out.2.1.setCell hN _, H1.out.2.2.set hne⟩
  unfold atV at H9
  apply wpS_region
  cases c₀
  simp [wpOpsS, go_sem, hcM, c1, f1, bodyPostS, results, Tryz.results61, Array.replicate, atV]
  exact H9
/-- What Check answers. -/
def CkA (w : World) (q : Option (Int × Nat)) (e : Ending) (w' : World) : Prop := Bl w w' ∧ match q with
  | none => e = .returned .nilIface
  | some (c, p) => ∃ A : Nat, e = .returned (atV A) ∧ w.heap.size ≤ A ∧ AtX w' A c (p : Int)
theorem CkA.of_err {w w' : World} {q : Option (Int × Nat)} {c : Int} {p A : Nat} (hq : q = some (c, p)) (hb : Bl w w') (hA : w.heap.size ≤ A) (h : AtX w' A c (p : Int)) : CkA w q (.returned (atV A)) w' := by
  rw [hq]; exact ⟨hb, A, rfl, hA, h⟩
theorem CkA.of_ok {w w' : World} {q : Option (Int × Nat)} (hq : q = none) (hb : Bl w w') : CkA w q (.returned .nilIface) w' := by
  rw [hq]; exact ⟨hb, rfl⟩
theorem chkT_step (earl : List (List UInt8)) (l : List Ty) (j : Nat) (t : Ty) (h : l[j]? = some t) : (t.nm ∈ earl → chkT earl (l.drop j) = some (9, t.at_)) ∧ (t.nm ∉ earl → (∀ e, chkB earl t.l [] [] = .error e → chkT earl (l.drop j) = some e) ∧ ∀ n, chkB earl t.l [] [] = .ok n → chkT earl (l.drop j) = chkT (t.nm :: earl) (l.drop (j + 1))) := by
  obtain ⟨hl, he⟩ := List.getElem?_eq_some_iff.1 h
  rw [List.drop_eq_getElem_cons hl, he, chkT]
  refine ⟨fun hm => by rw [if_pos hm], fun hm => ?_⟩
  rw [if_neg hm]
  exact ⟨fun e hc => by rw [hc], fun n hc => by rw [hc]⟩
/-- What Check asks. -/
structure CI (l : List Ty) : Prop where
  wt : WT l
  at_ : ∀ t ∈ l, t.at_ ≤ 100000 ∧ AtB t.l ∧ tot t.l ≤ 4000
/-- How far Check has come. -/
structure Cs (l : List Ty) (w wr : World) (N eb : Nat) (earl : List (List UInt8)) (j : Nat) : Prop where
  v : Vr wr N .nilIface 34
  bl : Bl w wr
  e : SetM wr eb earl j
  eq : chkT [] l = chkT earl (l.drop j)
theorem Cs.bl' {l : List Ty} {w wr w' : World} {N eb : Nat} {earl : List (List UInt8)} {j : Nat} (h : Cs l w wr N eb earl j) (hb : Bl wr w') : Cs l w w' N eb earl j := ⟨h.v.step hb, h.bl.trans hb, h.e.bl hb, h.eq⟩
set_option maxRecDepth 10000 in
set_option maxHeartbeats 8000000 in
theorem Check_at (l : List Ty) (v : Value) (w : World) (ok : Nat → Prop) (h : IsTs w ok v l) (hc : CI l) :
    Calls Tryz.prog 33 #[v] w fun e w' => CkA w (chk l) e w' := by
  have hmf : ∀ (fn : Fn) (first cap : Array Value) (w : World), (Instr.makeFunc fn first cap).run Tryz.prog w = .ok (.func fn first cap) w := fun _ _ _ _ => rfl
  have hmm : ∀ w, (Instr.makeMap 100 none).run Tryz.prog w = .ok (.map (some w.heap.size)) (w.alloc (.map #[] 0)) := fun w => by kernel_rfl
  obtain ⟨p, c, cs, rfl, h1, h2⟩ := h
  have h1 := h1.mono (ok' := fun g => g < w.heap.size) (fun g _ hg => hg)
  have h2 := h2.mono (ok' := fun g => g < w.heap.size) (fun g _ hg => hg)
  obtain ⟨n, hn⟩ : ∃ n, n = l.length := ⟨_, rfl⟩
  have hn8 : n ≤ 8 := by rw [hn]; exact hc.wt.1
  obtain ⟨w1, hw1⟩ : ∃ w1, w1 = w.alloc (.cells #[.nilIface] 34) := ⟨_, rfl⟩
  obtain ⟨N, hN⟩ : ∃ N, N = w.heap.size := ⟨_, rfl⟩
  have hv1 : Vr w1 N .nilIface 34 := by rw [hw1, hN]; exact Vr.new w _ _
  have hb1 : Bl w w1 := by rw [hw1]; exact (Bl.refl _).alloc _
  obtain ⟨eb, heb⟩ : ∃ eb, eb = w1.heap.size := ⟨_, rfl⟩
  obtain ⟨w2, hw2⟩ : ∃ w2, w2 = w1.alloc (.map #[] 0) := ⟨_, rfl⟩
  have hb2 : Bl w1 w2 := by rw [hw2]; exact (Bl.refl _).alloc _
  have hs2 : SetM w2 eb [] 0 := by rw [hw2, heb]; exact SetM.made w1
  obtain ⟨q, hq⟩ : ∃ q, q = chk l := ⟨_, rfl⟩
  rw [← hq, ← hn]
  have H0 : Hid (sr.Lie w (fun g => g < w.heap.size) p l.length c cs ∧ RepT w (fun g => g < w.heap.size) l cs ∧ CI l ∧ n = l.length ∧ N = w.heap.size ∧ q = chk l) := ⟨h1, h2, hc, hn, hN, hq⟩
  have HE0 : Hid (w.heap.size ≤ eb) := by show w.heap.size ≤ eb; rw [heb]; exact hb1.size
  have H2 : Hid (Cs l w w2 N eb [] 0) := ⟨hv1.step hb2, hb1.trans hb2, hs2, rfl⟩
  clear h1 h2 hn hc hv1 hb1 hb2 hs2 hq
  go_enter_defers Tryz.func33, Tryz.ntmps33
  go_upto_region 4 with fail
  rw [← hw1, ← hN]
  have heb2 : eb = N + 1 := by rw [heb, hw1, hN]; simp
  rw [← heb2, ← hw2]
  clear hw1 hw2 hN heb heb2
  go_loopw [13] (fun i wr => ∃ (j : Nat) (earl : List (List UInt8)), j ≤ n ∧ i = .int .i64 (j : Int) ∧ Hid (Cs l w wr N eb earl j)) (fun i _ => n - (intOf i).toNat)
  case atStart => exact ⟨0, [], by omega, rfl, H2.out⟩
  case round =>
    clear H2
    obtain ⟨j, earl, hj, rfl, HB⟩ := hrel
    by_cases hjn : j < n
    · obtain ⟨x, t, e1, e2, e3, e4, cs2, e5, e6⟩ := H0.out.2.1.at j (by rw [← H0.out.2.2.2.1]; exact hjn)
      obtain ⟨X, hX, _, g0', g⟩ := lieT_at (lieT_low H0.out.1 HB.out.bl) j x e1
      subst hX
      have g0 : wr.cell? (X.add (j * 3)) = some (.string (tx x.nm)) := g0'
      clear g0'
      have g1 := g 1 _ rfl
      have g2 := g 2 _ rfl
      have d1 : decide ((j : Int) < (n : Int)) = true := decide_eq_true (by omega)
      have i0 : (0 : Int) ≤ (j : Int) := by omega
      have i1 : (j : Int) < (n : Int) := by omega
      obtain ⟨w3, hw3⟩ : ∃ w3, w3 = wr.alloc (.cells (clT x).toArray 96) := ⟨_, rfl⟩
      obtain ⟨M, hM⟩ : ∃ M, M = wr.heap.size := ⟨_, rfl⟩
      have hv3 : w3.heap[M]? = some (.cells (clT x).toArray 96 (0, 0)) := by rw [hw3, hM]; exact new_at _ _
      have hbl3 : Bl wr w3 := by rw [hw3]; exact (Bl.refl _).alloc _
      have C3 := HB.out.bl' hbl3
      obtain ⟨hnm, hit, hwi⟩ := H0.out.2.2.1.wt.2 t (List.mem_of_getElem? e2)
      obtain ⟨ha1, ha2, ha3⟩ := H0.out.2.2.1.at_ t (List.mem_of_getElem? e2)
      have hnl : x.nm.length ≤ 5000 := by rw [e3]; have := hnm.2.2.1; omega
      obtain ⟨z1, hlk⟩ := C3.e.look x.nm hnl
      obtain ⟨o1, o2⟩ := chkT_step earl l j t e2
      rw [← e3] at o1 o2
      have hMs : M < w3.heap.size := lt_of_heap hv3
      have k0 : w3.cell? ⟨M, 0, none⟩ = some (.string (tx x.nm)) := by rw [cell_of hv3]; rfl
      have k1 : w3.cell? ⟨M, 1, none⟩ = some (.int .i64 (x.a : Int)) := by rw [cell_of hv3]; rfl
      have k2 : w3.cell? ⟨M, 2, none⟩ = some (.slice x.p x.n x.c) := by rw [cell_of hv3]; rfl
      have HX : Hid (Cs l w w3 N eb earl j ∧ w3.heap[M]? = some (.cells (clT x).toArray 96 (0, 0)) ∧ x.a = t.at_ ∧ ir.Lie w (fun g => g < w.heap.size) x.p x.n x.c cs2 ∧ Rep w (fun g => g < w.heap.size) t.l cs2 ∧ t.l.len ≤ 16 ∧ WI 7 t.l ∧ AtB t.l ∧ tot t.l ≤ 4000 ∧ x.nm.length ≤ 5000) := ⟨C3, hv3, e4, e5, e6, hit, hwi, ha2, ha3, hnl⟩
      clear g e1 e2 e3 e4 e5 e6 C3 hv3 hbl3 hnm hit hwi ha1 ha2 ha3 hnl
      go_upto_region 6 with fail
      change Code.wp _ _ _ _ (wr.alloc (.cells (clT x).toArray 96))
      rw [← hw3, ← hM]
      clear hw3 hM g0 g1 g2
      by_cases hin : x.nm ∈ earl
      · rw [decide_eq_true hin] at hlk
        have HQ : Hid (q = some (9, x.a)) := by
          show q = _
          rw [H0.out.2.2.2.2.2, HX.out.2.2.1]
          exact HB.out.eq.trans (o1 hin)
        have cT := ythrow_at (x.a : Int)
        clear o1 o2 hin
        go_wp2_with fail
        refine (cT 9 w3).mono ?_
        rintro e w9 ⟨A, rfl, hA1, hA2, hb9⟩
        have HF : Hid (Vr w9 N .nilIface 34 ∧ Bl w w9 ∧ AtX w9 A 9 (x.a : Int) ∧ A ≠ N ∧ w.heap.size ≤ A) := ⟨HX.out.1.v.step hb9, HX.out.1.bl.trans hb9, hA2, by have := HX.out.1.v.lt; omega, Nat.le_trans HX.out.1.bl.size hA1⟩
        clear hb9 hA1 hA2
        unfold thrownY
        go_wp2
        refine leaves_cons (f := 61) (args := #[.pointer (some ⟨N, 0, none⟩)]) (by simp) (by simp [go_sem]) ?_
        refine (ycatch_thrown N A w w9 .nilIface 9 (x.a : Int) HF.out.1 HF.out.2.1 (by have := H0.out.2.2.2.2.1; omega) HF.out.2.2.1 HF.out.2.2.2.1).mono ?_
        rintro e u' wz ⟨rfl, rfl, hvz, hbz, haz⟩
        have c1' := hvz.cell
        have hfin := CkA.of_err HQ.out hbz HF.out.2.2.2.2 haz
        unfold thrYV
        simp [Leaves, settle, results, Tryz.results33, go_sem, c1']
        exact hfin
      · rw [decide_eq_false hin] at hlk
        obtain ⟨o3, o4⟩ := o2 hin
        have HO : Hid ((∀ e, chkB earl t.l [] [] = .error e → chkT earl (l.drop j) = some e) ∧ ∀ n, chkB earl t.l [] [] = .ok n → chkT earl (l.drop j) = chkT (x.nm :: earl) (l.drop (j + 1))) := ⟨o3, o4⟩
        obtain ⟨B, hB⟩ : ∃ B, B = w3.heap.size := ⟨_, rfl⟩
        obtain ⟨w4, hw4⟩ : ∃ w4, w4 = w3.alloc (.map #[] 0) := ⟨_, rfl⟩
        obtain ⟨S, hS⟩ : ∃ S, S = B + 1 := ⟨_, rfl⟩
        have hS4 : S = w4.heap.size := by rw [hS, hB, hw4]; simp
        obtain ⟨w5, hw5⟩ : ∃ w5, w5 = w4.alloc (.map #[] 0) := ⟨_, rfl⟩
        obtain ⟨K, hK⟩ : ∃ K, K = B + 1 + 1 := ⟨_, rfl⟩
        have hK5 : K = w5.heap.size := by rw [hK, hB, hw5, hw4]; simp
        obtain ⟨w6, hw6⟩ : ∃ w6, w6 = w5.alloc (.cells #[.map (some eb), .map (some B), .map (some S)] 138) := ⟨_, rfl⟩
        have hb4 : Bl w3 w4 := by rw [hw4]; exact (Bl.refl _).alloc _
        have hb5 : Bl w4 w5 := by rw [hw5]; exact (Bl.refl _).alloc _
        have hb6 : Bl w5 w6 := by rw [hw6]; exact (Bl.refl _).alloc _
        have sB : SetM w4 B [] 0 := by rw [hw4, hB]; exact SetM.made w3
        have sS : SetM w5 S [] 0 := by rw [hw5, hS4]; exact SetM.made w4
        have hbl36 := (hb4.trans hb5).trans hb6
        have hebl := HX.out.1.e.lt
        have hBl := sB.lt
        have hck : Ck w6 K eb B S earl [] [] j 0 0 := ⟨by rw [hw6, hK5]; exact new_at _ _, HX.out.1.e.bl hbl36, sB.bl (hb5.trans hb6), sS.bl hb6, by omega, by omega, by omega⟩
        have hwB : w.heap.size ≤ B := by have := HX.out.1.bl.size; omega
        have hNB : N < B := by have := HX.out.1.v.lt; omega
        have hbw6 : Bl w w6 := HX.out.1.bl.trans hbl36
        have cR := block_ya 7 t.l B K eb B S earl [] [] j 0 0 x.n x.p x.c cs2 w6 ⟨HX.out.2.2.2.2.2.2.1, HX.out.2.2.2.2.2.1, HX.out.2.2.2.2.2.2.2.1, hck, Nat.le_refl _, by omega, by have := hbl36.size; omega, by have := HX.out.2.2.2.2.2.2.2.2.1; omega, by have := HX.out.2.2.2.2.2.2.2.2.1; omega,
          (HX.out.2.2.2.1.keep (fun g hg _ => hbw6.block g hg) hbw6.size).mono (fun g hg _ => by omega), (HX.out.2.2.2.2.1.keep (fun g hg _ => hbw6.block g hg) hbw6.size (Kx.bl hbw6)).mono (fun g hg _ => by omega), fun y hy => (by cases hy), fun y hy => (by cases hy), by rw [HX.out.2.2.2.1.1]; exact HX.out.2.2.2.2.1.len.1⟩
        have k2' := at_bl hbl36 k2
        have hMs6 : M < w6.heap.size := Nat.lt_of_lt_of_le hMs hbl36.size
        have H6 : Hid (Bl w w6 ∧ Bl w3 w6 ∧ B = w3.heap.size ∧ w.heap.size ≤ B ∧ N < B) := ⟨hbw6, hbl36, hB, hwB, hNB⟩
        clear o1 o2 o3 o4 hin hck hbw6 hbl36 hb4 hb5 hb6 sB sS hebl hBl k1
        go_upto_region 10 with fail
        rw [← hB, ← hK, ← hS, ← hw4, ← hw5, ← hw6]
        clear hB hw4 hS hw5 hK hw6 k0 k2 hlk hS4 hK5
        go_wp2_with fail
        refine cR.mono ?_
        rintro e w7 ⟨hb7, hx7, hans⟩
        clear cR
        have H7 : Hid (Vr w7 N .nilIface 34 ∧ Bl w w7 ∧ w7.heap[M]? = some (.cells (clT x).toArray 96 (0, 0))) := by
          refine ⟨?_, Below.trans (show Below w.heap.size w w6 from H6.out.1) (hb7.mono H6.out.2.2.2.1), ?_⟩
          · have hv := HX.out.1.v.step H6.out.2.1
            unfold Vr at hv ⊢
            rw [hb7.block N H6.out.2.2.2.2]
            exact hv
          · rw [hb7.block M (by rw [H6.out.2.2.1]; exact hMs), Below.block H6.out.2.1 M hMs]
            exact HX.out.2.1
        cases hcB : chkB earl t.l [] [] with
        | error cp =>
          obtain ⟨cc, pp⟩ := cp
          rw [hcB] at hans
          obtain ⟨A, rfl, hA1, hA2⟩ := hans
          have HF : Hid (AtX w7 A cc (pp : Int) ∧ A ≠ N ∧ w.heap.size ≤ A ∧ q = some (cc, pp)) := ⟨hA2, by have := H6.out.2.2.2.2; omega, by have := H6.out.2.2.2.1; omega, by rw [H0.out.2.2.2.2.2]; exact HB.out.eq.trans (HO.out.1 _ hcB)⟩
          clear hcB hA1 hA2 hb7 hx7 k2'
          unfold thrownY
          go_wp2
          refine leaves_cons (f := 61) (args := #[.pointer (some ⟨N, 0, none⟩)]) (by simp) (by simp [go_sem]) ?_
          refine (ycatch_thrown N A w w7 .nilIface cc (pp : Int) H7.out.1 H7.out.2.1 (by have := H0.out.2.2.2.2.1; omega) HF.out.1 HF.out.2.1).mono ?_
          rintro e u' wz ⟨rfl, rfl, hvz, hbz, haz⟩
          have c1' := hvz.cell
          have hfin := CkA.of_err HF.out.2.2.2 hbz HF.out.2.2.1 haz
          unfold thrYV
          simp [Leaves, settle, results, Tryz.results33, go_sem, c1']
          exact hfin
        | ok n2 =>
          rw [hcB] at hans
          obtain ⟨rfl, _, _, kn2, ks2, _, _, hck⟩ := hans
          obtain ⟨w8, hr8, hn8', hg8⟩ := hck.e.put x.nm (j : Int) HX.out.2.2.2.2.2.2.2.2.2 (by unfold R64; omega) (by omega)
          have m0 : w7.cell? ⟨M, 0, none⟩ = some (.string (tx x.nm)) := by rw [cell_of H7.out.2.2]; rfl
          have hebN : eb ≠ N := by
            intro e
            obtain ⟨es, clock, hb⟩ := hck.e.block
            have := H7.out.1
            unfold Vr at this
            rw [e, this] at hb
            cases hb
          have hebw : w.heap.size ≤ eb := HE0.out
          have H8 : Hid (Cs l w w8 N eb (x.nm :: earl) (j + 1)) := by
            refine ⟨?_, bl_grown H7.out.2.1 hg8 (fun k hk => by injection hk with hk; omega), hn8', HB.out.eq.trans (HO.out.2 _ hcB)⟩
            have hv := H7.out.1
            have hl := H7.out.1.lt
            unfold Vr at hv ⊢
            rw [hg8.block N hl (fun e => by injection e with e; exact hebN e.symm)]
            exact hv
          clear hcB hck hn8' hg8 hb7 hx7 k2' hebN hebw
          go_wp2
          go_roundw
          case rel => exact ⟨j + 1, x.nm :: earl, by omega, by go_num, H8.out⟩
          case measure => simp [intOf]; omega
    · obtain rfl : n = j := by omega
      have HQ : Hid (q = none) := by
        show q = none
        rw [H0.out.2.2.2.2.2]
        refine HB.out.eq.trans ?_
        rw [H0.out.2.2.2.1, List.drop_length]
        rfl
      have d1 := HB.out.v.cell
      have e1 := HB.out.v.frozen
      have hNs := HB.out.v.lt
      go_wp2
      have hv9 : Vr (wr.setCell ⟨N, 0, none⟩ .nilIface) N .nilIface 34 := HB.out.v.set _
      have hb9 : Bl w (wr.setCell ⟨N, 0, none⟩ .nilIface) := HB.out.bl.setCell (by show w.heap.size ≤ N; have := H0.out.2.2.2.2.1; omega) _
      generalize wr.setCell ⟨N, 0, none⟩ .nilIface = w9 at hv9 hb9 ⊢
      refine leaves_cons (f := 61) (args := #[.pointer (some ⟨N, 0, none⟩)]) (by simp) (by simp [go_sem]) ?_
      refine (ycatch_idle _ _).mono ?_
      rintro e u' wz ⟨rfl, rfl, hbz⟩
      have c1' := (hv9.step hbz).cell
      have hfin := CkA.of_ok HQ.out (hb9.trans hbz)
      simp [Leaves, settle, results, Tryz.results33, go_sem, c1']
      exact hfin
end Go.Proofs.YtococaecjecjgaaGreatDoor.tm
/- Templates: how long what is written is; what Parse tells (pure). -/
namespace Go.Proofs.YtococaecjecjgaaGreatDoor.tm
set_option linter.unusedVariables false
open lx ex

theorem txO_len {o : Option Ex} (h : ∀ x, o = some x → WX x) : (txO o).length ≤ 40 * szO o := by
  cases o with
  | none => exact Nat.zero_le _
  | some x =>
    have w := h x rfl
    have := txt_len w.2.1 w.1.okb
    show (txt x).length ≤ 40 * sz x
    omega
theorem wd_wx {d : D} (h : WD d) : ∀ x, d.ct = some x → WX x := by
  intro y hy
  rcases h with h | h | h | h
  · obtain ⟨x, hx, wx⟩ := h.2.1
    rw [hx] at hy; injection hy with hy; rw [← hy]; exact wx
  · obtain ⟨x, hx, wx⟩ := h.2.2.1
    rw [hx] at hy; injection hy with hy; rw [← hy]; exact wx
  · rcases h.2.2.2.2.2.2.2.2.2 with ⟨_, x, hx, wx⟩ | ⟨_, hx⟩
    · rw [hx] at hy; injection hy with hy; rw [← hy]; exact wx
    · rw [hx] at hy; cases hy
  · rcases h.2.2.2.2 with ⟨_, ⟨x, hx, wx⟩, _⟩ | ⟨_, hx, _⟩
    · rw [hx] at hy; injection hy with hy; rw [← hy]; exact wx
    · rw [hx] at hy; cases hy
theorem rw_len (r : Nat) : (rw_ r).length ≤ 5 := by
  unfold rw_
  split
  · decide
  · split <;> decide
theorem paT_len {d : D} (h : WD d) (h4 : d.kd ≠ 4) : (paT d).length ≤ 70 + 40 * szO d.ct := by
  have h1 := kw_len h h4
  have h2 := (wd_nm h h4).2.2.1
  have h3 := txO_len (wd_wx h)
  have h5 : (mnT d).length ≤ 2 + (txO d.ct).length := by
    unfold mnT
    split
    · simp only [List.length_append, List.length_cons, List.length_nil]; omega
    · exact Nat.zero_le _
  have h6 : (ruT d).length ≤ 40 := by
    unfold ruT
    by_cases hr : d.ru = 0 ∨ 4 ≤ d.ru
    · rw [if_pos hr]; exact Nat.zero_le _
    · rw [if_neg hr]
      obtain ⟨wr, _⟩ := ru_wr h (fun e => hr (Or.inl e))
      have f1 : d.f1.length ≤ 12 ∧ d.l1.length ≤ 12 := by
        rcases wr with w | w | w
        · exact absurd (Or.inl w.1) hr
        · exact ⟨w.2.1.2.2.1, by rw [w.2.2]; exact Nat.zero_le _⟩
        · exact ⟨w.2.1.2.2.1, w.2.2.2.2.1⟩
      have r5 := rw_len d.ru
      split <;> simp only [List.length_append, List.length_cons, List.length_nil] <;> omega
  unfold paT
  simp only [List.length_append, List.length_cons, List.length_nil]
  omega
theorem itx_len (l : Its) : ∀ (k : Nat) (pad : List UInt8), WI k l → pad.length + 2 * k ≤ 16 → (itx pad l).length ≤ 100 * zI l := by
  induction l with
  | nil => intro k pad _ _; exact Nat.zero_le _
  | cons d s t is it =>
    intro k pad hw hp
    obtain ⟨w1, w2, w3, w4⟩ := hw
    have ht := it k pad w4 hp
    rw [itx, zI]
    by_cases h4 : d.kd = 4
    · obtain ⟨g1, g2, g3⟩ := w3 h4
      have hs := is (k - 1) (pad ++ [32, 32]) g3 (by simp; omega)
      have h3 := txO_len (wd_wx w1)
      rw [if_pos h4]
      simp only [List.length_append, List.length_cons, List.length_nil]
      rw [show wWhen.length = 4 from rfl]
      omega
    · rw [if_neg h4]
      have h3 := paT_len w1 h4
      simp only [List.length_append, List.length_cons, List.length_nil]
      omega
theorem ptxt_len (l : List Ty) (h : ∀ t ∈ l, NM t.nm ∧ t.l.len ≤ 16 ∧ WI 7 t.l) : (ptxt l).length ≤ 100 * zT l := by
  induction l with
  | nil => exact Nat.zero_le _
  | cons t l ih =>
    have k1 := ih (fun u hu => h u (by simp [hu]))
    obtain ⟨n1, n2, n3⟩ := h t (by simp)
    have k2 := itx_len t.l 7 [] n3 (by decide)
    have k3 := n1.2.2.1
    unfold ptxt at k1 ⊢
    unfold zT at k1 ⊢
    rw [List.flatMap_cons, List.length_append, List.map_cons, List.sum_cons]
    have k4 : (tyx t).length = 6 + 1 + t.nm.length + 3 + (itx [] t.l).length + 2 := by
      unfold tyx
      simp only [List.length_append, List.length_cons, List.length_nil]
      rw [show wStruct.length = 6 from rfl]
    omega
theorem zT_mem {l : List Ty} {t : Ty} (h : t ∈ l) : zI t.l ≤ zT l := by
  induction l with
  | nil => cases h
  | cons u l ih =>
    unfold zT at ih ⊢
    rw [List.map_cons, List.sum_cons]
    rw [List.mem_cons] at h
    rcases h with rfl | h
    · omega
    · have := ih h; omega
theorem ch_at {s : List UInt8} {l : List Tk} : ∀ {p : Nat}, Ch s p l → ∀ t ∈ l, t.a ≤ s.length := by
  induction l with
  | nil => intro p h t ht; cases ht
  | cons u r ih =>
    intro p h t ht
    obtain ⟨h1, h2, _, _, h5⟩ := (show p ≤ u.a ∧ u.a + u.t.length ≤ s.length ∧ _ ∧ _ ∧ Ch s (u.a + u.t.length) r from h)
    rw [List.mem_cons] at ht
    rcases ht with rfl | ht
    · omega
    · exact ih h5 t ht
theorem ch_is {s : List UInt8} {l : List Tk} : ∀ {p : Nat}, Ch s p l → ∀ t ∈ l, IsT t.t := by
  induction l with
  | nil => intro p h t ht; cases ht
  | cons u r ih =>
    intro p h t ht
    obtain ⟨_, _, _, h4, h5⟩ := (show p ≤ u.a ∧ u.a + u.t.length ≤ s.length ∧ (s.drop u.a).take u.t.length = u.t ∧ IsT u.t ∧ Ch s (u.a + u.t.length) r from h)
    rw [List.mem_cons] at ht
    rcases ht with rfl | ht
    · exact h4
    · exact ih h5 t ht
/-- What Parse tells of a text that is not too long. -/
theorem prT_told {s : List UInt8} {l : List Ty} (h : prT s = .ok l) (hs : s.length ≤ 3000) : CI l ∧ WT l ∧ (ptxt l).length ≤ 300000 ∧ l.length ≤ 8 := by
  unfold prT at h
  split at h
  · cases h
  · rename_i h0
    have hch := lx_ch s _ 0 (Nat.le_refl _) (Nat.zero_le _)
    rw [List.drop_zero] at hch
    have hln := lx_len s _ 0 (Nat.le_refl _)
    have hT : TS (lx s 0).1 := ch_is hch
    have hP : TP s.length (lx s 0).1 := ⟨by omega, fun t ht => by have := ch_at hch t ht; omega⟩
    obtain ⟨g1, g2⟩ := typs_told 8 _ _ hT h
    obtain ⟨k1, k2⟩ := typs_len 8 _ _ hT hP h
    have hw : WT l := ⟨g1, g2⟩
    have hp := ptxt_len l g2
    refine ⟨⟨hw, fun t ht => ⟨(k2 t ht).1, (k2 t ht).2, ?_⟩⟩, hw, by omega, g1⟩
    have h1 := tot_le t.l
    have h2 := zT_mem ht
    omega
end Go.Proofs.YtococaecjecjgaaGreatDoor.tm
