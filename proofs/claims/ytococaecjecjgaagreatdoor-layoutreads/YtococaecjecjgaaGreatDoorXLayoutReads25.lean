/- Texts laid together: Ty7, TyQ, TmM, TyR, TyS. -/
import Derived.Test.YtococaecjecjgaaGreatDoorXLayoutReads24
import Derived.Test.YtococaecjecjgaaGreatDoorXLayoutReads20
namespace Go.Proofs.YtococaecjecjgaaGreatDoor.tm
set_option linter.unusedVariables false
open Go.ChangeShapes Go.WideShapes Go.ChangeAt Go.RowKit Go.Shelf
open mem lx ex

def seenN (seen : List (List UInt8)) (d : D) : List (List UInt8) := if d.kd = 1 ∧ d.mn = false then d.nm :: seen else seen
end Go.Proofs.YtococaecjecjgaaGreatDoor.tm
namespace Go.Proofs.YtococaecjecjgaaGreatDoor.tm
set_option linter.unusedVariables false
open lx ex

def Its.dr : Its → Nat → Its
  | l, 0 => l
  | .nil, _ + 1 => .nil
  | .cons _ _ t, k + 1 => t.dr k
def tot : Its → Nat
  | .nil => 0
  | .cons _ s t => 1 + tot s + tot t
theorem dr_at (l : Its) : ∀ (j : Nat) (d : D) (s : Its), l.ps[j]? = some (d, s) → l.dr j = .cons d s (l.dr (j + 1)) := by
  induction l with
  | nil => intro j d s h; cases h
  | cons a b t _ it =>
    intro j d s h
    cases j with
    | zero =>
      simp [Its.ps] at h
      obtain ⟨rfl, rfl⟩ := h
      cases t <;> rfl
    | succ j => exact it j d s (by simpa [Its.ps] using h)
theorem dr_all (l : Its) : l.dr l.len = .nil := by
  induction l with
  | nil => rfl
  | cons a b t _ it => exact it
theorem ps_ds (l : Its) : l.ps.map (·.1) = l.ds := by
  induction l with
  | nil => rfl
  | cons a b t _ it => simp [Its.ps, Its.ds, it]
theorem chkI_step (earl : List (List UInt8)) {l : Its} {j : Nat} {d : D} {s : Its} (h : l.ps[j]? = some (d, s)) (names seen : List (List UInt8)) :
    (d.kd = 4 → (∀ p, misO seen d.ct = some p → chkI earl (l.dr j) names seen = .error (5, p)) ∧ (misO seen d.ct = none → (∀ e, chkB earl s names seen = .error e → chkI earl (l.dr j) names seen = .error e) ∧ ∀ n2, chkB earl s names seen = .ok n2 → chkI earl (l.dr j) names seen = chkI earl (l.dr (j + 1)) n2 seen)) ∧
    (d.kd ≠ 4 → (∀ e, itemW earl names seen d = some e → chkI earl (l.dr j) names seen = .error e) ∧ (itemW earl names seen d = none → chkI earl (l.dr j) names seen = chkI earl (l.dr (j + 1)) (d.nm :: names) (seenN seen d))) := by
  rw [dr_at l j d s h, chkI]
  refine ⟨fun h4 => ?_, fun h4 => ?_⟩
  · rw [if_pos h4]
    refine ⟨fun p hp => by rw [hp], fun hp => ?_⟩
    rw [hp]
    dsimp only
    unfold chkB
    cases hc : chkI earl s names seen with
    | error e => exact ⟨fun e' he => (by injection he with he; rw [he]), fun n2 hn => (by cases hn)⟩
    | ok n1 =>
      dsimp only
      cases hr : rulesW s.ds with
      | some e => exact ⟨fun e' he => (by injection he with he; rw [he]), fun n2 hn => (by cases hn)⟩
      | none => exact ⟨fun e' he => (by cases he), fun n2 hn => (by injection hn with hn; rw [hn])⟩
  · rw [if_neg h4]
    cases hw : itemW earl names seen d with
    | some e => exact ⟨fun e' he => (by injection he with he; rw [he]), fun hn => (by cases hn)⟩
    | none => exact ⟨fun e' he => (by cases he), fun _ => rfl⟩
theorem chkI_end (earl : List (List UInt8)) (l : Its) (names seen : List (List UInt8)) : chkI earl (l.dr l.len) names seen = .ok names := by
  rw [dr_all, chkI]
theorem firstW_step (g : Nat → D → Option (Int × Nat)) (ds : List D) (i : Nat) (d : D) (h : ds[i]? = some d) : (∀ e, g i d = some e → firstW g i (ds.drop i) = some e) ∧ (g i d = none → firstW g i (ds.drop i) = firstW g (i + 1) (ds.drop (i + 1))) := by
  obtain ⟨hl, he⟩ := List.getElem?_eq_some_iff.1 h
  rw [List.drop_eq_getElem_cons hl, he, firstW]
  exact ⟨fun e hg => by rw [hg], fun hg => by rw [hg]⟩
theorem firstW_end (g : Nat → D → Option (Int × Nat)) (ds : List D) : firstW g ds.length (ds.drop ds.length) = none := by
  rw [List.drop_length]; rfl
theorem tot_step {l : Its} {j : Nat} {d : D} {s : Its} (h : l.ps[j]? = some (d, s)) : tot (l.dr j) = 1 + tot s + tot (l.dr (j + 1)) := by
  rw [dr_at l j d s h, tot]
def AtB : Its → Prop
  | .nil => True
  | .cons d s t => d.at_ ≤ 100000 ∧ AtB s ∧ AtB t
theorem AtB.at {l : Its} (h : AtB l) : ∀ (j : Nat) (d : D) (s : Its), l.ps[j]? = some (d, s) → d.at_ ≤ 100000 ∧ AtB s := by
  induction l with
  | nil => intro j d s hj; cases hj
  | cons a b t _ it =>
    intro j d s hj
    cases j with
    | zero => simp [Its.ps] at hj; obtain ⟨rfl, rfl⟩ := hj; exact ⟨h.1, h.2.1⟩
    | succ j => exact it h.2.2 j d s (by simpa [Its.ps] using hj)
end Go.Proofs.YtococaecjecjgaaGreatDoor.tm
namespace Go.Proofs.YtococaecjecjgaaGreatDoor.tm
set_option linter.unusedVariables false
open lx ex

def szO : Option Ex → Nat
  | none => 0
  | some x => sz x
def zI : Its → Nat
  | .nil => 1
  | .cons d s t => 2 + szO d.ct + zI s + zI t
theorem tot_le (l : Its) : tot l ≤ zI l := by
  induction l with
  | nil => exact Nat.zero_le _
  | cons d s t is it => rw [tot, zI]; omega
section
variable {en : Nat}
theorem tail_len {ts : List Tk} (h : (hd en ts).t ≠ []) : ts.tail.length + 1 = ts.length := by
  cases ts with
  | nil => exact absurd rfl h
  | cons t r => rfl
theorem name_len {ts r : List Tk} {t : List UInt8} (h : name en ts = .ok (t, r)) : r.length + 1 = ts.length := by
  unfold name at h
  split at h
  · cases h
  · rename_i h1
    split at h
    · cases h
    · injection h with h
      injection h with h3 h4
      rw [← h4]
      refine tail_len (en := en) (fun e => h1 (Or.inr ?_))
      rw [e]; decide
theorem want_len {m : List UInt8} {ts r : List Tk} (hm : m ≠ []) (h : want en m ts = .ok r) : r.length + 1 = ts.length := by
  unfold want at h
  split at h
  · rename_i h1
    injection h with h
    rw [← h]
    exact tail_len (en := en) (by rw [h1]; exact hm)
  · cases h
theorem rx_len {m : List UInt8} {ts r : List Tk} {x : Ex} (hT : TS ts) (h : rx nb en m ts = .ok (x, r)) : sz x + r.length ≤ ts.length := ((nw_all _).1 _ _ _ _ _ hT (rx_is h).1).2
theorem many_len {ts r : List Tk} {x : Ex} (hT : TS ts) (h : many nb en ts = .ok (x, r)) : sz x + 2 + r.length ≤ ts.length := by
  unfold many at h
  split at h
  · cases h
  · rename_i r1 h1
    split at h
    · cases h
    · rename_i x1 r2 h2
      injection h with h
      injection h with h3 h4
      subst h3 h4
      have s1 := want_told h1
      have l1 := want_len (by decide) h1
      have l2 := rx_len (hT.sb s1) h2
      have l3 : r2.tail.length + 1 = r2.length := tail_len (en := en) (by rw [(rx_is h2).2]; decide)
      omega
theorem rule_len {d e : D} {ts r : List Tk} (h : rule en d ts = .ok (e, r)) : r.length ≤ ts.length ∧ e.ct = d.ct := by
  unfold rule at h
  split at h
  · cases h
  · split at h
    · cases h
    · rename_i a r1 h2
      have l1 := name_len h2
      have lt : ts.tail.length ≤ ts.length := by rw [List.length_tail]; omega
      split at h
      · split at h
        · injection h with h; injection h with h4 h5; subst h4 h5
          exact ⟨by omega, rfl⟩
        · split at h
          · cases h
          · rename_i b r2 h4
            have l2 := name_len h4
            injection h with h; injection h with h5 h6; subst h5 h6
            exact ⟨by omega, rfl⟩
      · injection h with h; injection h with h4 h5; subst h4 h5
        exact ⟨by omega, rfl⟩
theorem mark_len {d e : D} {ts r : List Tk} (hT : TS ts) (hd : d.ct = none) (h : mark nb en d ts = .ok (e, r)) : szO e.ct + r.length ≤ ts.length := by
  unfold mark at h
  split at h
  · split at h
    · cases h
    · rename_i x r5 h5
      have l1 := many_len hT h5
      injection h with h; injection h with h6 h7; subst h6 h7
      show sz x + _ ≤ _
      omega
  · split at h
    · obtain ⟨l1, l2⟩ := rule_len h
      rw [l2, hd]
      have : ts.tail.length ≤ ts.length := by rw [List.length_tail]; omega
      show 0 + _ ≤ _
      omega
    · injection h with h; injection h with h6 h7; subst h6 h7
      rw [hd]
      show 0 + _ ≤ _
      omega
theorem kind_len {ts r : List Tk} {d : D} (h : kind en ts = .ok (d, r)) : r.length + 1 = ts.length ∧ d.ct = none := by
  unfold kind at h
  split at h
  · rename_i w o s hn
    injection h with h; injection h with h1 h2; subst h1 h2
    exact ⟨tail_len (en := en) (fun e => by rw [e, show numOf [] = none by decide] at hn; cases hn), rfl⟩
  · split at h
    · cases h
    · rename_i t r' hn
      have l1 := name_len hn
      injection h with h; injection h with h1 h2; subst h1 h2
      exact ⟨l1, rfl⟩
theorem part_len {ts r : List Tk} {e : D} (hT : TS ts) (h : part nb en ts = .ok (e, r)) : 3 + szO e.ct + r.length ≤ ts.length := by
  unfold part at h
  split at h
  · cases h
  · rename_i d1 r1 h1
    obtain ⟨l1, c1⟩ := kind_len h1
    split at h
    · cases h
    · rename_i t r2 h2
      have l2 := name_len h2
      split at h
      · cases h
      · rename_i d3 r3 h3
        have hT2 : TS r2 := by
          have s1 : Sb_ r1 ts := by
            unfold kind at h1
            split at h1
            · injection h1 with h1; injection h1 with _ e2; rw [← e2]; exact sb_tail ts
            · split at h1
              · cases h1
              · rename_i t' r' hn
                injection h1 with h1; injection h1 with _ e2; rw [← e2]; exact (name_told hT hn).2
          exact (hT.sb s1).sb (name_told (hT.sb s1) h2).2
        have l3 := mark_len hT2 (d := { d1 with nm := t }) c1 h3
        split at h
        · cases h
        · rename_i r4 h4
          have l4 := want_len (by decide) h4
          injection h with h; injection h with h5 h6; subst h5 h6
          omega
theorem byts_len {ts r : List Tk} {e : D} (hT : TS ts) (h : byts nb en ts = .ok (e, r)) : 4 + szO e.ct + r.length ≤ ts.length := by
  unfold byts at h
  split at h
  · cases h
  · rename_i t r1 h1
    have l1 := name_len h1
    split at h
    · cases h
    · rename_i x r2 h2
      have l2 := many_len (hT.sb (name_told hT h1).2) h2
      split at h
      · cases h
      · rename_i r3 h3
        have l3 := want_len (by decide) h3
        injection h with h; injection h with h5 h6; subst h5 h6
        show 4 + sz x + _ ≤ _
        omega
def TP (en : Nat) (ts : List Tk) : Prop := en ≤ 100000 ∧ ∀ t ∈ ts, t.a ≤ 100000
theorem TP.sb {r ts : List Tk} (h : TP en ts) (k : Sb_ r ts) : TP en r := ⟨h.1, fun t ht => h.2 t (k t ht)⟩
theorem TP.hd {ts : List Tk} (h : TP en ts) : (hd en ts).a ≤ 100000 := by
  cases ts with
  | nil => exact h.1
  | cons t r => exact h.2 t (by simp)
theorem item_len {k : Nat} {ts r : List Tk} {d : D} {s : Its} (hT : TS ts) (hP : TP en ts) (hi : ∀ ts l r, TS ts → TP en ts → blk nb en k ts = .ok (l, r) → zI l + 1 + r.length ≤ ts.length ∧ AtB l) (h : item nb en (blk nb en k) ts = .ok ((d, s), r)) : 2 + szO d.ct + zI s + r.length ≤ ts.length ∧ d.at_ ≤ 100000 ∧ AtB s := by
  unfold item at h
  split at h
  · rename_i hw
    have l0 : ts.tail.length + 1 = ts.length := tail_len (en := en) (by rw [hw]; decide)
    split at h
    · cases h
    · rename_i x r1 h1
      have l1 := rx_len (hT.sb (sb_tail ts)) h1
      have s1 := (rx_told (hT.sb (sb_tail ts)) h1).2.trans (sb_tail ts)
      split at h
      · cases h
      · rename_i l r2 h2
        obtain ⟨g1, g2⟩ := hi _ _ _ (hT.sb s1) (hP.sb s1) h2
        injection h with h; injection h with h3 h4; injection h3 with h5 h6; subst h5 h6 h4
        refine ⟨?_, hP.hd, g2⟩
        show 2 + sz x + _ + _ ≤ _
        omega
  · split at h
    · rename_i hw
      have l0 : ts.tail.length + 1 = ts.length := tail_len (en := en) (by rw [hw]; decide)
      split at h
      · cases h
      · rename_i d1 r1 h1
        have l1 := byts_len (hT.sb (sb_tail ts)) h1
        injection h with h; injection h with h3 h4; injection h3 with h5 h6; subst h5 h6 h4
        refine ⟨?_, hP.hd, trivial⟩
        show 2 + szO d1.ct + 1 + _ ≤ _
        omega
    · split at h
      · cases h
      · rename_i d1 r1 h1
        have l1 := part_len hT h1
        injection h with h; injection h with h3 h4; injection h3 with h5 h6; subst h5 h6 h4
        refine ⟨?_, hP.hd, trivial⟩
        show 2 + szO d1.ct + 1 + _ ≤ _
        omega
theorem loop_len {k : Nat} (hi : ∀ ts l r, TS ts → TP en ts → blk nb en k ts = .ok (l, r) → zI l + 1 + r.length ≤ ts.length ∧ AtB l) (n : Nat) : ∀ (ts : List Tk) (l : Its) (r : List Tk), TS ts → TP en ts → loop nb en (blk nb en k) n ts = .ok (l, r) → zI l + r.length ≤ ts.length ∧ AtB l := by
  have hnil : ∀ ts : List Tk, (hd en ts).t = [125] → zI .nil + ts.tail.length ≤ ts.length := by
    intro ts h
    have := tail_len (en := en) (ts := ts) (by rw [h]; decide)
    show 1 + _ ≤ _
    omega
  induction n with
  | zero =>
    intro ts l r hT hP h
    rw [loop] at h
    split at h
    · rename_i h0
      injection h with h; injection h with h1 h2; subst h1 h2
      exact ⟨hnil ts h0, trivial⟩
    · cases h
  | succ n ih =>
    intro ts l r hT hP h
    rw [loop] at h
    split at h
    · rename_i h0
      injection h with h; injection h with h1 h2; subst h1 h2
      exact ⟨hnil ts h0, trivial⟩
    · split at h
      · cases h
      · rename_i d s r1 h1
        obtain ⟨g1, g2, g3⟩ := item_len hT hP hi h1
        have s1 := (item_told hT (fun ts l r a b => blk_told k ts l r a b) h1).2.2.2
        split at h
        · cases h
        · rename_i l1 r2 h2
          obtain ⟨k1, k2⟩ := ih _ _ _ (hT.sb s1) (hP.sb s1) h2
          injection h with h; injection h with h3 h4; subst h3 h4
          exact ⟨by rw [zI]; omega, g2, g3, k2⟩
theorem blk_len (k : Nat) : ∀ (ts : List Tk) (l : Its) (r : List Tk), TS ts → TP en ts → blk nb en k ts = .ok (l, r) → zI l + 1 + r.length ≤ ts.length ∧ AtB l := by
  induction k with
  | zero =>
    intro ts l r hT hP h
    rw [blk] at h
    split at h <;> cases h
  | succ k ih =>
    intro ts l r hT hP h
    rw [blk] at h
    split at h
    · rename_i h0
      obtain ⟨g1, g2⟩ := loop_len ih 16 _ _ _ (hT.sb (sb_tail ts)) (hP.sb (sb_tail ts)) h
      have := tail_len (en := en) (ts := ts) (by rw [h0]; decide)
      exact ⟨by omega, g2⟩
    · cases h
def zT (l : List Ty) : Nat := (l.map (fun t => 3 + zI t.l)).sum
theorem typs_len (n : Nat) : ∀ (ts : List Tk) (l : List Ty), TS ts → TP en ts → typs nb en n ts = .ok l → zT l ≤ ts.length ∧ ∀ t ∈ l, t.at_ ≤ 100000 ∧ AtB t.l := by
  induction n with
  | zero =>
    intro ts l hT hP h
    cases ts with
    | nil => cases h; exact ⟨Nat.le_refl _, fun t ht => by cases ht⟩
    | cons t r => rw [typs] at h; split at h <;> cases h
  | succ n ih =>
    intro ts l hT hP h
    cases ts with
    | nil => cases h; exact ⟨Nat.zero_le _, fun t ht => by cases ht⟩
    | cons t r =>
      have s0 : Sb_ r (t :: r) := fun u hu => by simp [hu]
      have hT' := hT.sb s0
      rw [typs] at h
      split at h
      · split at h
        · cases h
        · rename_i m r1 h1
          have l1 := name_len h1
          obtain ⟨n1, s1⟩ := name_told hT' h1
          split at h
          · cases h
          · rename_i it r2 h2
            obtain ⟨g1, g2⟩ := blk_len 8 _ _ _ (hT'.sb s1) ((hP.sb s0).sb s1) h2
            obtain ⟨_, _, _, s2⟩ := blk_told 8 _ _ _ (hT'.sb s1) h2
            split at h
            · cases h
            · rename_i q h3
              obtain ⟨k1, k2⟩ := ih _ _ (hT'.sb (s2.trans s1)) ((hP.sb s0).sb (s2.trans s1)) h3
              injection h with h
              subst h
              refine ⟨?_, fun u hu => ?_⟩
              · unfold zT at k1 ⊢
                rw [List.map_cons, List.sum_cons, List.length_cons]
                show 3 + zI it + _ ≤ _
                omega
              · rw [List.mem_cons] at hu
                rcases hu with rfl | hu
                · exact ⟨(hP.sb s0).hd, g2⟩
                · exact k2 u hu
      · cases h
end
end Go.Proofs.YtococaecjecjgaaGreatDoor.tm
namespace Go.Proofs.YtococaecjecjgaaGreatDoor.tm
set_option linter.unusedVariables false
open Go.ChangeShapes Go.WideShapes Go.ChangeAt Go.RowKit Go.Shelf
open mem lx ex

theorem chkB_err {earl names seen : List (List UInt8)} {l : Its} {e : Int × Nat} (h : chkI earl l names seen = .error e) : chkB earl l names seen = .error e := by unfold chkB; rw [h]
theorem wd_ok {d : D} (h : WD d) : (∀ x, d.ct = some x → Okb x) ∧ d.nm.length ≤ 5000 ∧ d.ty.length ≤ 5000 ∧ (d.kd = 4 → d.nm = []) ∧ (d.kd ≠ 4 → d.nm ≠ []) := by
  have nn : ∀ {t : List UInt8}, NM t → t ≠ [] ∧ t.length ≤ 5000 := fun {t} h => ⟨fun e => by have := h.2.1; rw [e] at this; revert this; decide, by have := h.2.2.1; omega⟩
  rcases h with h | h | h | h
  · obtain ⟨h1, ⟨x, hx, wx⟩, h3, _, _, h6, _⟩ := h
    exact ⟨fun y hy => by rw [hx] at hy; injection hy with hy; rw [← hy]; exact wx.1.okb, by rw [h3]; simp, by rw [h6]; simp, fun _ => h3, fun h4 => absurd h1 h4⟩
  · obtain ⟨h1, hn, ⟨x, hx, wx⟩, _, _, h6, _⟩ := h
    exact ⟨fun y hy => by rw [hx] at hy; injection hy with hy; rw [← hy]; exact wx.1.okb, (nn hn).2, by rw [h6]; simp, fun h4 => by omega, fun _ => (nn hn).1⟩
  · obtain ⟨h1, ht, hn, _, _, _, _, _, _, hm⟩ := h
    refine ⟨fun y hy => ?_, (nn hn).2, (nn ht).2, fun h4 => by omega, fun _ => (nn hn).1⟩
    rcases hm with ⟨_, x, hx, wx⟩ | ⟨_, hx⟩
    · rw [hx] at hy; injection hy with hy; rw [← hy]; exact wx.1.okb
    · rw [hx] at hy; cases hy
  · obtain ⟨h1, ht, _, hn, hm⟩ := h
    refine ⟨fun y hy => ?_, (nn hn).2, by rw [ht]; simp, fun h4 => by omega, fun _ => (nn hn).1⟩
    rcases hm with ⟨_, ⟨x, hx, wx⟩, _⟩ | ⟨_, hx, _⟩
    · rw [hx] at hy; injection hy with hy; rw [← hy]; exact wx.1.okb
    · rw [hx] at hy; cases hy
theorem chkB_is {earl names seen names' : List (List UInt8)} {l : Its} (h : chkI earl l names seen = .ok names') : (∀ e, firstW (ruleW l.ds) 0 l.ds = some e → chkB earl l names seen = .error e) ∧ (firstW (ruleW l.ds) 0 l.ds = none → (∀ e, firstW (cycW l.ds) 0 l.ds = some e → chkB earl l names seen = .error e) ∧ (firstW (cycW l.ds) 0 l.ds = none → chkB earl l names seen = .ok names')) := by
  unfold chkB rulesW
  rw [h]
  dsimp only
  refine ⟨fun e he => by rw [he], fun hn => ?_⟩
  rw [hn]
  dsimp only
  exact ⟨fun e he => by rw [he], fun he => by rw [he]⟩
theorem cyc_is (ds : List D) (i : Nat) (d : D) : (¬ d.ru = 3 → cycW ds i d = none) ∧ (d.ru = 3 → (rnd ds i = true → cycW ds i d = some (11, d.at_)) ∧ (rnd ds i = false → cycW ds i d = none)) := by
  unfold cycW
  exact ⟨fun h => by rw [if_neg (fun hc => h hc.1)], fun h => ⟨fun hr => by rw [if_pos ⟨h, hr⟩], fun hr => by rw [if_neg (fun hc => by rw [hr] at hc; cases hc.2)]⟩⟩
end Go.Proofs.YtococaecjecjgaaGreatDoor.tm
namespace Go.Proofs.YtococaecjecjgaaGreatDoor.tm
set_option linter.unusedVariables false
open Go.ChangeShapes Go.WideShapes Go.ChangeAt Go.RowKit Go.Shelf
open mem lx ex

theorem chkT_step (earl : List (List UInt8)) (l : List Ty) (j : Nat) (t : Ty) (h : l[j]? = some t) : (t.nm ∈ earl → chkT earl (l.drop j) = some (9, t.at_)) ∧ (t.nm ∉ earl → (∀ e, chkB earl t.l [] [] = .error e → chkT earl (l.drop j) = some e) ∧ ∀ n, chkB earl t.l [] [] = .ok n → chkT earl (l.drop j) = chkT (t.nm :: earl) (l.drop (j + 1))) := by
  obtain ⟨hl, he⟩ := List.getElem?_eq_some_iff.1 h
  rw [List.drop_eq_getElem_cons hl, he, chkT]
  refine ⟨fun hm => by rw [if_pos hm], fun hm => ?_⟩
  rw [if_neg hm]
  exact ⟨fun e hc => by rw [hc], fun n hc => by rw [hc]⟩
structure CI (l : List Ty) : Prop where
  wt : WT l
  at_ : ∀ t ∈ l, t.at_ ≤ 100000 ∧ AtB t.l ∧ tot t.l ≤ 4000
end Go.Proofs.YtococaecjecjgaaGreatDoor.tm
