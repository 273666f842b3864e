/- Texts laid together: FdV, ByRow, TmX, TmY, TmZ. -/
import Derived.Test.YtococaecjecjgaaGreatDoorXLayoutReads18
import Derived.Deep.QuietTactic
import Derived.WalkSpells
import Derived.Lib.AppendStr
import Derived.Deep.RegionHeld3
import Derived.Test.YtococaecjecjgaaGreatDoorXLayoutReads10


namespace Go.Proofs.YtococaecjecjgaaGreatDoor.tm
set_option linter.unusedVariables false
open lx ex

end Go.Proofs.YtococaecjecjgaaGreatDoor.tm
namespace Go.Proofs.YtococaecjecjgaaGreatDoor.ex
open lx tm
end Go.Proofs.YtococaecjecjgaaGreatDoor.ex
namespace Go.Proofs.YtococaecjecjgaaGreatDoor.tm
open lx ex
theorem ru_wr {d : D} (h : WD d) (hr : d.ru ≠ 0) : WR d ∧ d.kd = 1 ∧ d.mn = false ∧ d.ct = none := by
  rcases h with h | h | h | h
  · exact absurd h.2.2.2.2.1 hr
  · exact absurd h.2.2.2.2.1 hr
  · exact absurd h.2.2.2.2.2.2.1 hr
  · rcases h.2.2.2.2 with h' | h'
    · exact absurd h'.2.2.1 hr
    · exact ⟨h'.2.2, h.1, h'.1, h'.2.1⟩
theorem wd_nm {d : D} (h : WD d) (h4 : d.kd ≠ 4) : NM d.nm := by
  rcases h with h | h | h | h
  · exact absurd h.1 h4
  · exact h.2.1
  · exact h.2.2.1
  · exact h.2.2.2.1
end Go.Proofs.YtococaecjecjgaaGreatDoor.tm
namespace Go.Proofs.YtococaecjecjgaaGreatDoor.tm
set_option linter.unusedVariables false
open lx ex
section
variable {en : Nat}
def TS (ts : List Tk) : Prop := ∀ t ∈ ts, IsT t.t
def Sb_ (r ts : List Tk) : Prop := ∀ t ∈ r, t ∈ ts
theorem Sb_.trans {a b c : List Tk} (h : Sb_ a b) (k : Sb_ b c) : Sb_ a c := fun t ht => k t (h t ht)
theorem sb_tail (ts : List Tk) : Sb_ ts.tail ts := fun t ht => List.mem_of_mem_tail ht
theorem TS.sb {r ts : List Tk} (h : TS ts) (k : Sb_ r ts) : TS r := fun t ht => h t (k t ht)
theorem name_told {ts r : List Tk} {t : List UInt8} (hT : TS ts) (h : name en ts = .ok (t, r)) : NM t ∧ Sb_ r ts := by
  unfold name at h
  split at h
  · cases h
  · rename_i h1
    split at h
    · cases h
    · rename_i h2
      injection h with h
      injection h with h3 h4
      subst h3 h4
      have n1 : isN (hd en ts).t = true := by
        cases hn : isN (hd en ts).t with
        | true => rfl
        | false => exact absurd (Or.inr hn) h1
      have n2 : resv (hd en ts).t = false := by
        cases hr : resv (hd en ts).t with
        | false => rfl
        | true => exact absurd (Or.inl hr) h1
      refine ⟨⟨n2, n1, by omega, ?_⟩, sb_tail ts⟩
      cases ts with
      | nil => exact absurd n1 (by show ¬ isN [] = true; decide)
      | cons u us => exact (word_of (hT u (by simp)) n1).1
theorem rx_told {m : List UInt8} {ts r : List Tk} {x : Ex} (hT : TS ts) (h : rx nb en m ts = .ok (x, r)) : WX x ∧ Sb_ r ts := by
  obtain ⟨h1, _⟩ := rx_is h
  obtain ⟨w1, w2⟩ := (told_all (dec := Lib.itoa) told_hdec _).1 _ _ _ _ _ (by omega) (by omega) (by omega) h1
  obtain ⟨n1, _⟩ := (nw_all _).1 _ _ _ _ _ hT h1
  rw [sd_one w1.okb] at w2
  exact ⟨⟨w1, n1, by omega⟩, (mem_all _).1 _ _ _ _ _ h1⟩
theorem want_told {m : List UInt8} {ts r : List Tk} (h : want en m ts = .ok r) : Sb_ r ts := by
  unfold want at h
  split at h
  · injection h with h; rw [← h]; exact sb_tail ts
  · cases h
theorem many_told {ts r : List Tk} {x : Ex} (hT : TS ts) (h : many nb en ts = .ok (x, r)) : WX x ∧ Sb_ r ts := by
  unfold many at h
  split at h
  · cases h
  · rename_i r1 h1
    split at h
    · cases h
    · rename_i x1 r2 h2
      injection h with h
      injection h with h3 h4
      subst h3 h4
      have s1 := want_told h1
      obtain ⟨w, s2⟩ := rx_told (hT.sb s1) h2
      exact ⟨w, (sb_tail _).trans (s2.trans s1)⟩
theorem rule_told {d e : D} {ts r : List Tk} (hT : TS ts) (h : rule en d ts = .ok (e, r)) (h0 : d.ru = 0 ∧ d.f1 = [] ∧ d.l1 = []) : WR e ∧ e.kd = d.kd ∧ e.nm = d.nm ∧ e.ty = d.ty ∧ e.wd = d.wd ∧ e.od = d.od ∧ e.sg = d.sg ∧ e.mn = d.mn ∧ e.ct = d.ct ∧ Sb_ r ts := by
  unfold rule at h
  split at h
  · cases h
  · rename_i h1
    have hru : ruleOf (hd en ts).t = 1 ∨ ruleOf (hd en ts).t = 2 ∨ ruleOf (hd en ts).t = 3 := by
      unfold ruleOf at h1 ⊢
      split
      · exact Or.inl rfl
      · split
        · exact Or.inr (Or.inl rfl)
        · split
          · exact Or.inr (Or.inr rfl)
          · rename_i a b c; rw [if_neg a, if_neg b, if_neg c] at h1; exact absurd rfl h1
    split at h
    · cases h
    · rename_i a r1 h2
      obtain ⟨n1, s1⟩ := name_told (hT.sb (sb_tail ts)) h2
      have s1' := s1.trans (sb_tail ts)
      split at h
      · rename_i h3
        split at h
        · injection h with h; injection h with h4 h5; subst h4 h5
          exact ⟨Or.inr (Or.inr ⟨rfl, n1, n1⟩), rfl, rfl, rfl, rfl, rfl, rfl, rfl, rfl, s1'⟩
        · split at h
          · cases h
          · rename_i b r2 h4
            obtain ⟨n2, s2⟩ := name_told (hT.sb s1') h4
            injection h with h; injection h with h5 h6; subst h5 h6
            exact ⟨Or.inr (Or.inr ⟨rfl, n1, n2⟩), rfl, rfl, rfl, rfl, rfl, rfl, rfl, rfl, s2.trans s1'⟩
      · rename_i h3
        injection h with h; injection h with h4 h5; subst h4 h5
        refine ⟨Or.inr (Or.inl ⟨?_, n1, h0.2.2⟩), rfl, rfl, rfl, rfl, rfl, rfl, rfl, rfl, s1'⟩
        show ruleOf (hd en ts).t = 1 ∨ ruleOf (hd en ts).t = 2
        omega
theorem part_told {ts r : List Tk} {e : D} (hT : TS ts) (h : part nb en ts = .ok (e, r)) : WD e ∧ e.kd ≠ 4 ∧ Sb_ r ts := by
  cases hk : kind en ts with
  | error e' => unfold part at h; rw [hk] at h; cases h
  | ok dr =>
    obtain ⟨d1, r1⟩ := dr
    unfold part at h
    rw [hk] at h
    dsimp only at h
    have hd1 : ((d1 = { D0 with kd := 1, wd := d1.wd, od := d1.od, sg := d1.sg } ∧ ∃ t, numOf t = some (d1.wd, d1.od, d1.sg)) ∨ (d1 = { D0 with kd := 3, ty := d1.ty } ∧ NM d1.ty)) ∧ Sb_ r1 ts := by
      unfold kind at hk
      split at hk
      · rename_i w o s hn
        injection hk with hk; injection hk with h1 h2; subst h1 h2
        exact ⟨Or.inl ⟨rfl, _, hn⟩, sb_tail ts⟩
      · split at hk
        · cases hk
        · rename_i t r' hn
          obtain ⟨n1, s1⟩ := name_told hT hn
          injection hk with hk; injection hk with h1 h2; subst h1 h2
          exact ⟨Or.inr ⟨rfl, n1⟩, s1⟩
    obtain ⟨hd1, s1⟩ := hd1
    have k4 : d1.kd ≠ 4 := by
      rcases hd1 with ⟨e1, _⟩ | ⟨e1, _⟩
      · have := congrArg D.kd e1
        rw [this]; show (1 : Nat) ≠ 4; decide
      · have := congrArg D.kd e1
        rw [this]; show (3 : Nat) ≠ 4; decide
    split at h
    · cases h
    · rename_i t r2 h2
      obtain ⟨n2, s2⟩ := name_told (hT.sb s1) h2
      have s2' := s2.trans s1
      split at h
      · cases h
      · rename_i d3 r3 h3
        split at h
        · cases h
        · rename_i r4 h4
          injection h with h; injection h with h5 h6; subst h5 h6
          have s4 := want_told h4
          unfold mark at h3
          split at h3
          · split at h3
            · cases h3
            · rename_i x r5 h5
              obtain ⟨w5, s5⟩ := many_told (hT.sb s2') h5
              injection h3 with h3; injection h3 with h6 h7; subst h6 h7
              refine ⟨?_, k4, s4.trans (s5.trans s2')⟩
              · rcases hd1 with ⟨e1, e2⟩ | ⟨e1, e2⟩
                · rw [e1]; exact Or.inr (Or.inr (Or.inr ⟨rfl, rfl, e2, n2, Or.inl ⟨rfl, ⟨x, rfl, w5⟩, rfl, rfl, rfl⟩⟩))
                · rw [e1]; exact Or.inr (Or.inr (Or.inl ⟨rfl, e2, n2, rfl, rfl, rfl, rfl, rfl, rfl, Or.inl ⟨rfl, x, rfl, w5⟩⟩))
          · split at h3
            · rename_i hc
              have hkd : d1.kd = 1 := hc.2
              rcases hd1 with ⟨e1, e2⟩ | ⟨e1, e2⟩
              · obtain ⟨w, f1, f2, f3, f4, f5, f6, f7, f8, s5⟩ := rule_told (hT.sb ((sb_tail _).trans s2')) h3 (by rw [e1]; exact ⟨rfl, rfl, rfl⟩)
                refine ⟨Or.inr (Or.inr (Or.inr ⟨by rw [f1]; exact hkd, by rw [f3, e1]; rfl, ?_, by rw [f2]; exact n2, Or.inr ⟨by rw [f7, e1]; rfl, by rw [f8, e1]; rfl, w⟩⟩)), by rw [f1]; exact k4, s4.trans (s5.trans ((sb_tail _).trans s2'))⟩
                rw [f4, f5, f6]; exact e2
              · rw [e1] at hkd; exact absurd hkd (by show ¬ (3 : Nat) = 1; decide)
            · injection h3 with h3; injection h3 with h6 h7; subst h6 h7
              refine ⟨?_, k4, s4.trans s2'⟩
              · rcases hd1 with ⟨e1, e2⟩ | ⟨e1, e2⟩
                · rw [e1]; exact Or.inr (Or.inr (Or.inr ⟨rfl, rfl, e2, n2, Or.inr ⟨rfl, rfl, Or.inl ⟨rfl, rfl, rfl⟩⟩⟩))
                · rw [e1]; exact Or.inr (Or.inr (Or.inl ⟨rfl, e2, n2, rfl, rfl, rfl, rfl, rfl, rfl, Or.inr ⟨rfl, rfl⟩⟩))
theorem byts_told {ts r : List Tk} {e : D} (hT : TS ts) (h : byts nb en ts = .ok (e, r)) : WD e ∧ e.kd ≠ 4 ∧ Sb_ r ts := by
  unfold byts at h
  split at h
  · cases h
  · rename_i t r1 h1
    obtain ⟨n1, s1⟩ := name_told hT h1
    split at h
    · cases h
    · rename_i x r2 h2
      obtain ⟨w2, s2⟩ := many_told (hT.sb s1) h2
      split at h
      · cases h
      · rename_i r3 h3
        injection h with h; injection h with h4 h5; subst h4 h5
        exact ⟨Or.inr (Or.inl ⟨rfl, n1, ⟨x, rfl, w2⟩, rfl, rfl, rfl, rfl, rfl, rfl, rfl, rfl⟩), by show (2 : Nat) ≠ 4; decide, (want_told h3).trans (s2.trans s1)⟩
theorem wd_at {d : D} (h : WD d) (a : Nat) : WD { d with at_ := a } := h
theorem item_told {k : Nat} {ts r : List Tk} {d : D} {s : Its} (hT : TS ts) (hi : ∀ ts l r, TS ts → blk nb en k ts = .ok (l, r) → 0 < k ∧ l.len ≤ 16 ∧ WI (k - 1) l ∧ Sb_ r ts) (h : item nb en (blk nb en k) ts = .ok ((d, s), r)) : WD d ∧ (d.kd ≠ 4 → noSub s = true) ∧ (d.kd = 4 → 0 < k ∧ s.len ≤ 16 ∧ WI (k - 1) s) ∧ Sb_ r ts := by
  unfold item at h
  split at h
  · split at h
    · cases h
    · rename_i x r1 h1
      obtain ⟨w1, s1⟩ := rx_told (hT.sb (sb_tail ts)) h1
      have s1' := s1.trans (sb_tail ts)
      split at h
      · cases h
      · rename_i l r2 h2
        obtain ⟨g1, g2, g3, g4⟩ := hi _ _ _ (hT.sb s1') h2
        injection h with h; injection h with h3 h4; injection h3 with h5 h6; subst h5 h6 h4
        exact ⟨Or.inl ⟨rfl, ⟨x, rfl, w1⟩, rfl, rfl, rfl, rfl, rfl, rfl, rfl, rfl, rfl⟩, fun hn => absurd rfl hn, fun _ => ⟨g1, g2, g3⟩, g4.trans s1'⟩
  · split at h
    · split at h
      · cases h
      · rename_i d1 r1 h1
        obtain ⟨w1, w2, s1⟩ := byts_told (hT.sb (sb_tail ts)) h1
        injection h with h; injection h with h3 h4; injection h3 with h5 h6; subst h5 h6 h4
        exact ⟨wd_at w1 _, fun _ => rfl, fun h4 => absurd h4 w2, s1.trans (sb_tail ts)⟩
    · split at h
      · cases h
      · rename_i d1 r1 h1
        obtain ⟨w1, w2, s1⟩ := part_told hT h1
        injection h with h; injection h with h3 h4; injection h3 with h5 h6; subst h5 h6 h4
        exact ⟨wd_at w1 _, fun _ => rfl, fun h4 => absurd h4 w2, s1⟩
theorem loop_told {k : Nat} (hi : ∀ ts l r, TS ts → blk nb en k ts = .ok (l, r) → 0 < k ∧ l.len ≤ 16 ∧ WI (k - 1) l ∧ Sb_ r ts) (n : Nat) : ∀ (ts : List Tk) (l : Its) (r : List Tk), TS ts → loop nb en (blk nb en k) n ts = .ok (l, r) → l.len ≤ n ∧ WI k l ∧ Sb_ r ts := by
  induction n with
  | zero =>
    intro ts l r hT h
    rw [loop] at h
    split at h
    · injection h with h; injection h with h1 h2; subst h1 h2
      exact ⟨Nat.le_refl _, trivial, sb_tail ts⟩
    · cases h
  | succ n ih =>
    intro ts l r hT h
    rw [loop] at h
    split at h
    · injection h with h; injection h with h1 h2; subst h1 h2
      exact ⟨Nat.zero_le _, trivial, sb_tail ts⟩
    · split at h
      · cases h
      · rename_i d s r1 h1
        obtain ⟨g1, g2, g3, s1⟩ := item_told hT hi h1
        split at h
        · cases h
        · rename_i l1 r2 h2
          obtain ⟨k1, k2, s2⟩ := ih _ _ _ (hT.sb s1) h2
          injection h with h; injection h with h3 h4; subst h3 h4
          exact ⟨by show l1.len + 1 ≤ n + 1; omega, ⟨g1, g2, g3, k2⟩, s2.trans s1⟩
theorem blk_told (k : Nat) : ∀ (ts : List Tk) (l : Its) (r : List Tk), TS ts → blk nb en k ts = .ok (l, r) → 0 < k ∧ l.len ≤ 16 ∧ WI (k - 1) l ∧ Sb_ r ts := by
  induction k with
  | zero =>
    intro ts l r hT h
    rw [blk] at h
    split at h <;> cases h
  | succ k ih =>
    intro ts l r hT h
    rw [blk] at h
    split at h
    · obtain ⟨g1, g2, g3⟩ := loop_told ih 16 _ _ _ (hT.sb (sb_tail ts)) h
      exact ⟨Nat.succ_pos _, g1, g2, g3.trans (sb_tail ts)⟩
    · cases h
theorem typs_told (n : Nat) : ∀ (ts : List Tk) (l : List Ty), TS ts → typs nb en n ts = .ok l → l.length ≤ n ∧ ∀ t ∈ l, NM t.nm ∧ t.l.len ≤ 16 ∧ WI 7 t.l := by
  induction n with
  | zero =>
    intro ts l hT h
    cases ts with
    | nil => cases h; exact ⟨Nat.le_refl _, fun t ht => by cases ht⟩
    | cons t r => rw [typs] at h; split at h <;> cases h
  | succ n ih =>
    intro ts l hT h
    cases ts with
    | nil => cases h; exact ⟨Nat.zero_le _, fun t ht => by cases ht⟩
    | cons t r =>
      have hT' : TS r := fun u hu => hT u (by simp [hu])
      rw [typs] at h
      split at h
      · split at h
        · cases h
        · rename_i m r1 h1
          obtain ⟨n1, s1⟩ := name_told hT' h1
          split at h
          · cases h
          · rename_i it r2 h2
            obtain ⟨_, g2, g3, s2⟩ := blk_told 8 _ _ _ (hT'.sb s1) h2
            split at h
            · cases h
            · rename_i q h3
              obtain ⟨k1, k2⟩ := ih _ _ (hT'.sb (s2.trans s1)) h3
              injection h with h
              subst h
              refine ⟨by simp; omega, fun u hu => ?_⟩
              rw [List.mem_cons] at hu
              rcases hu with rfl | hu
              · exact ⟨n1, g2, g3⟩
              · exact k2 u hu
      · cases h
end
end Go.Proofs.YtococaecjecjgaaGreatDoor.tm

