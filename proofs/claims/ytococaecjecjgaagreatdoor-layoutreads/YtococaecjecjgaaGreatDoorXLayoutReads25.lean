/- Texts laid together: Ty7, TyQ, TmM, TyR, TyS. -/
import Derived.Test.YtococaecjecjgaaGreatDoorXLayoutReads24
import Derived.Test.YtococaecjecjgaaGreatDoorXLayoutReads20
/- Whether templates fit together: an item that has a name. -/
namespace Go.Proofs.YtococaecjecjgaaGreatDoor.tm
set_option linter.unusedVariables false
open Go.ChangeShapes Go.WideShapes Go.ChangeAt Go.RowKit Go.Shelf
open mem lx ex

theorem SetM.block {w : World} {b k : Nat} {S : List (List UInt8)} (h : SetM w b S k) : ∃ es clock, w.heap[b]? = some (.map es clock) := by
  obtain ⟨f, c, ⟨D, ⟨es, clock, h1, _⟩, _⟩, _⟩ := h
  exact ⟨es, clock, h1⟩
/-- Expressions stay when a map changes. -/
theorem Kx.map {w w' : World} {b k : Nat} {S : List (List UInt8)} (h : SetM w b S k) (hg : w.grownBy w' (some b)) : Kx w w' := fun x cs hx => by
  rw [hg.block x (lt_of_heap hx) (fun e => by
    injection e with e
    subst e
    obtain ⟨es, clock, hb⟩ := h.block
    rw [hx] at hb
    cases hb)]
  exact hx
theorem below_grown {B b : Nat} {w0 w w' : World} (h : Below B w0 w) (hg : w.grownBy w' (some b)) (hB : B ≤ b) (hs : B ≤ w.heap.size) : Below B w0 w' := ⟨hg.os.trans h.os, hg.tape.trans h.tape, hg.output.trans h.output, Nat.le_trans h.size hg.size, fun k hk => by
  rw [hg.block k (by omega) (fun e => by injection e with e; omega)]
  exact h.block k hk⟩
/-- One who looks at a struct. -/
structure Ck (w : World) (K eb nb' sb : Nat) (earl names seen : List (List UInt8)) (ke kn ks : Nat) : Prop where
  h : w.heap[K]? = some (.cells #[.map (some eb), .map (some nb'), .map (some sb)] 138 (0, 0))
  e : SetM w eb earl ke
  n : SetM w nb' names kn
  s : SetM w sb seen ks
  d1 : eb ≠ nb'
  d2 : eb ≠ sb
  d3 : nb' ≠ sb
theorem Ck.bl {w w' : World} {K eb nb' sb : Nat} {earl names seen : List (List UInt8)} {ke kn ks : Nat} (h : Ck w K eb nb' sb earl names seen ke kn ks) (hb : Bl w w') : Ck w' K eb nb' sb earl names seen ke kn ks :=
  ⟨by rw [Below.block hb K (lt_of_heap h.h)]; exact h.h, h.e.bl hb, h.n.bl hb, h.s.bl hb, h.d1, h.d2, h.d3⟩
theorem Ck.ne {w : World} {K eb nb' sb : Nat} {earl names seen : List (List UInt8)} {ke kn ks : Nat} (h : Ck w K eb nb' sb earl names seen ke kn ks) : K ≠ nb' ∧ K ≠ sb := by
  refine ⟨fun e => ?_, fun e => ?_⟩
  · obtain ⟨es, clock, hb⟩ := h.n.block
    rw [← e, h.h] at hb; cases hb
  · obtain ⟨es, clock, hb⟩ := h.s.block
    rw [← e, h.h] at hb; cases hb
theorem Ck.cells {w : World} {K eb nb' sb : Nat} {earl names seen : List (List UInt8)} {ke kn ks : Nat} (h : Ck w K eb nb' sb earl names seen ke kn ks) : w.cell? ⟨K, 0, none⟩ = some (.map (some eb)) ∧ w.cell? ⟨K, 1, none⟩ = some (.map (some nb')) ∧ w.cell? ⟨K, 2, none⟩ = some (.map (some sb)) := by
  have := h.h
  exact ⟨by rw [cell_of this]; rfl, by rw [cell_of this]; rfl, by rw [cell_of this]; rfl⟩
theorem Ck.putS {w w' : World} {K eb nb' sb : Nat} {earl names seen seen' : List (List UInt8)} {ke kn ks ks' : Nat} (h : Ck w K eb nb' sb earl names seen ke kn ks) (hg : w.grownBy w' (some sb)) (hn : SetM w' sb seen' ks') : Ck w' K eb nb' sb earl names seen' ke kn ks' :=
  ⟨by rw [hg.block K (lt_of_heap h.h) (fun e => by injection e with e; exact h.ne.2 e)]; exact h.h, h.e.step hg (fun e => by injection e with e; exact h.d2 e), h.n.step hg (fun e => by injection e with e; exact h.d3 e), hn, h.d1, h.d2, h.d3⟩
/-- What is seen behind an item. -/
def seenN (seen : List (List UInt8)) (d : D) : List (List UInt8) := if d.kd = 1 ∧ d.mn = false then d.nm :: seen else seen
end Go.Proofs.YtococaecjecjgaaGreatDoor.tm
/- Whether templates fit together: items one behind the other (pure). -/
namespace Go.Proofs.YtococaecjecjgaaGreatDoor.tm
set_option linter.unusedVariables false
open lx ex

def Its.dr : Its → Nat → Its
  | l, 0 => l
  | .nil, _ + 1 => .nil
  | .cons _ _ t, k + 1 => t.dr k
/-- How many, all together. -/
def tot : Its → Nat
  | .nil => 0
  | .cons _ s t => 1 + tot s + tot t
theorem dr_at (l : Its) : ∀ (j : Nat) (d : D) (s : Its), l.ps[j]? = some (d, s) → l.dr j = .cons d s (l.dr (j + 1)) := by
  induction l with
  | nil => intro j d s h; cases h
  | cons a b t _ it =>
    intro j d s h
    cases j with
    | zero =>
      simp [Its.ps] at h
      obtain ⟨rfl, rfl⟩ := h
      cases t <;> rfl
    | succ j => exact it j d s (by simpa [Its.ps] using h)
theorem dr_all (l : Its) : l.dr l.len = .nil := by
  induction l with
  | nil => rfl
  | cons a b t _ it => exact it
theorem ps_ds (l : Its) : l.ps.map (·.1) = l.ds := by
  induction l with
  | nil => rfl
  | cons a b t _ it => simp [Its.ps, Its.ds, it]
/-- What the names of items that were looked at are. -/
structure Nmd (l : Its) (j : Nat) (names seen names' seen' : List (List UInt8)) : Prop where
  f1 : ∀ y ∈ seen', y ∈ seen ∨ ∃ d ∈ l.ds, d.nm = y
  f2 : ∀ y ∈ seen, y ∈ seen'
  f3 : ∀ y ∈ seen', y ∈ names'
  f4 : ∀ y ∈ names', y ≠ []
  f5 : ∀ k d s, k < j → l.ps[k]? = some (d, s) → d.nm ∉ seen
  f6 : ∀ y ∈ names, y ∈ names'
theorem Nmd.start (l : Its) {names seen : List (List UInt8)} (h1 : ∀ y ∈ seen, y ∈ names) (h2 : ∀ y ∈ names, y ≠ []) : Nmd l 0 names seen names seen :=
  ⟨fun y hy => Or.inl hy, fun y hy => hy, h1, h2, fun k d s hk => by omega, fun y hy => hy⟩
theorem mem_ds {l : Its} {j : Nat} {d : D} {s : Its} (h : l.ps[j]? = some (d, s)) : d ∈ l.ds := by
  rw [← ps_ds]
  exact List.mem_map.2 ⟨(d, s), List.mem_of_getElem? h, rfl⟩
theorem Nmd.item {l : Its} {j : Nat} {names seen names' seen' : List (List UInt8)} (h : Nmd l j names seen names' seen') {d : D} {s : Its} (hj : l.ps[j]? = some (d, s)) (hn : d.nm ≠ []) (hm : d.nm ∉ names') : Nmd l (j + 1) names seen (d.nm :: names') (seenN seen' d) := by
  refine ⟨fun y hy => ?_, fun y hy => ?_, fun y hy => ?_, fun y hy => ?_, fun k e s' hk he => ?_, fun y hy => List.mem_cons_of_mem _ (h.f6 y hy)⟩
  · unfold seenN at hy
    split at hy
    · rw [List.mem_cons] at hy
      rcases hy with rfl | hy
      · exact Or.inr ⟨d, mem_ds hj, rfl⟩
      · exact h.f1 y hy
    · exact h.f1 y hy
  · unfold seenN
    split
    · exact List.mem_cons_of_mem _ (h.f2 y hy)
    · exact h.f2 y hy
  · unfold seenN at hy
    split at hy
    · rw [List.mem_cons] at hy ⊢
      rcases hy with rfl | hy
      · exact Or.inl rfl
      · exact Or.inr (h.f3 y hy)
    · exact List.mem_cons_of_mem _ (h.f3 y hy)
  · rw [List.mem_cons] at hy
    rcases hy with rfl | hy
    · exact hn
    · exact h.f4 y hy
  · rcases Nat.lt_or_ge k j with hkj | hkj
    · exact h.f5 k e s' hkj he
    · obtain rfl : k = j := by omega
      rw [hj] at he
      injection he with he
      injection he with h1 h2
      subst h1
      exact fun hc => hm (h.f3 _ (h.f2 _ hc))
theorem Nmd.when {l : Its} {j : Nat} {names seen names' seen' names2 : List (List UInt8)} (h : Nmd l j names seen names' seen') {d : D} {s : Its} (hj : l.ps[j]? = some (d, s)) (hn : d.nm = []) (hs : ∀ y ∈ names', y ∈ names2) (h4 : ∀ y ∈ names2, y ≠ []) : Nmd l (j + 1) names seen names2 seen' := by
  refine ⟨h.f1, h.f2, fun y hy => hs y (h.f3 y hy), h4, fun k e s' hk he => ?_, fun y hy => hs y (h.f6 y hy)⟩
  rcases Nat.lt_or_ge k j with hkj | hkj
  · exact h.f5 k e s' hkj he
  · obtain rfl : k = j := by omega
    rw [hj] at he
    injection he with he
    injection he with h1 h2
    subst h1
    exact fun hc => h.f4 _ (h.f3 _ (h.f2 _ hc)) hn
/-- What is left when what was seen here is forgotten. -/
theorem Nmd.left {l : Its} {names seen names' seen' : List (List UInt8)} (h : Nmd l l.len names seen names' seen') (y : List UInt8) : y ∈ seen'.filter (fun y => y ∉ (l.ds.take l.len).map D.nm) ↔ y ∈ seen := by
  have el : l.ds.take l.len = l.ds := by rw [← Its.ds_len, List.take_length]
  rw [el, List.mem_filter]
  constructor
  · rintro ⟨h1, h2⟩
    rcases h.f1 y h1 with h3 | ⟨d, h3, rfl⟩
    · exact h3
    · exfalso
      simp only [decide_eq_true_eq] at h2
      exact h2 (List.mem_map.2 ⟨d, h3, rfl⟩)
  · intro hy
    refine ⟨h.f2 y hy, ?_⟩
    simp only [decide_eq_true_eq]
    intro hc
    obtain ⟨d, h3, rfl⟩ := List.mem_map.1 hc
    rw [← ps_ds] at h3
    obtain ⟨e, h4, rfl⟩ := List.mem_map.1 h3
    obtain ⟨k, h5, h6⟩ := List.mem_iff_getElem.1 h4
    exact h.f5 k e.1 e.2 (by rw [← Its.ps_len]; exact h5) (by rw [List.getElem?_eq_getElem h5, h6]) hy
/-- One step of looking at items. -/
theorem chkI_step (earl : List (List UInt8)) {l : Its} {j : Nat} {d : D} {s : Its} (h : l.ps[j]? = some (d, s)) (names seen : List (List UInt8)) :
    (d.kd = 4 → (∀ p, misO seen d.ct = some p → chkI earl (l.dr j) names seen = .error (5, p)) ∧ (misO seen d.ct = none → (∀ e, chkB earl s names seen = .error e → chkI earl (l.dr j) names seen = .error e) ∧ ∀ n2, chkB earl s names seen = .ok n2 → chkI earl (l.dr j) names seen = chkI earl (l.dr (j + 1)) n2 seen)) ∧
    (d.kd ≠ 4 → (∀ e, itemW earl names seen d = some e → chkI earl (l.dr j) names seen = .error e) ∧ (itemW earl names seen d = none → chkI earl (l.dr j) names seen = chkI earl (l.dr (j + 1)) (d.nm :: names) (seenN seen d))) := by
  rw [dr_at l j d s h, chkI]
  refine ⟨fun h4 => ?_, fun h4 => ?_⟩
  · rw [if_pos h4]
    refine ⟨fun p hp => by rw [hp], fun hp => ?_⟩
    rw [hp]
    dsimp only
    unfold chkB
    cases hc : chkI earl s names seen with
    | error e => exact ⟨fun e' he => (by injection he with he; rw [he]), fun n2 hn => (by cases hn)⟩
    | ok n1 =>
      dsimp only
      cases hr : rulesW s.ds with
      | some e => exact ⟨fun e' he => (by injection he with he; rw [he]), fun n2 hn => (by cases hn)⟩
      | none => exact ⟨fun e' he => (by cases he), fun n2 hn => (by injection hn with hn; rw [hn])⟩
  · rw [if_neg h4]
    cases hw : itemW earl names seen d with
    | some e => exact ⟨fun e' he => (by injection he with he; rw [he]), fun hn => (by cases hn)⟩
    | none => exact ⟨fun e' he => (by cases he), fun _ => rfl⟩
theorem chkI_end (earl : List (List UInt8)) (l : Its) (names seen : List (List UInt8)) : chkI earl (l.dr l.len) names seen = .ok names := by
  rw [dr_all, chkI]
theorem firstW_step (g : Nat → D → Option (Int × Nat)) (ds : List D) (i : Nat) (d : D) (h : ds[i]? = some d) : (∀ e, g i d = some e → firstW g i (ds.drop i) = some e) ∧ (g i d = none → firstW g i (ds.drop i) = firstW g (i + 1) (ds.drop (i + 1))) := by
  obtain ⟨hl, he⟩ := List.getElem?_eq_some_iff.1 h
  rw [List.drop_eq_getElem_cons hl, he, firstW]
  exact ⟨fun e hg => by rw [hg], fun hg => by rw [hg]⟩
theorem firstW_end (g : Nat → D → Option (Int × Nat)) (ds : List D) : firstW g ds.length (ds.drop ds.length) = none := by
  rw [List.drop_length]; rfl
theorem tot_step {l : Its} {j : Nat} {d : D} {s : Its} (h : l.ps[j]? = some (d, s)) : tot (l.dr j) = 1 + tot s + tot (l.dr (j + 1)) := by
  rw [dr_at l j d s h, tot]
/-- Places are no further than that. -/
def AtB : Its → Prop
  | .nil => True
  | .cons d s t => d.at_ ≤ 100000 ∧ AtB s ∧ AtB t
theorem AtB.at {l : Its} (h : AtB l) : ∀ (j : Nat) (d : D) (s : Its), l.ps[j]? = some (d, s) → d.at_ ≤ 100000 ∧ AtB s := by
  induction l with
  | nil => intro j d s hj; cases hj
  | cons a b t _ it =>
    intro j d s hj
    cases j with
    | zero => simp [Its.ps] at hj; obtain ⟨rfl, rfl⟩ := hj; exact ⟨h.1, h.2.1⟩
    | succ j => exact it h.2.2 j d s (by simpa [Its.ps] using hj)
end Go.Proofs.YtococaecjecjgaaGreatDoor.tm
/- Templates: how much is read, and where it stands (pure). -/
namespace Go.Proofs.YtococaecjecjgaaGreatDoor.tm
set_option linter.unusedVariables false
open lx ex

def szO : Option Ex → Nat
  | none => 0
  | some x => sz x
/-- How many tokens items take, at least. -/
def zI : Its → Nat
  | .nil => 1
  | .cons d s t => 2 + szO d.ct + zI s + zI t
theorem tot_le (l : Its) : tot l ≤ zI l := by
  induction l with
  | nil => exact Nat.zero_le _
  | cons d s t is it => rw [tot, zI]; omega
section
variable {en : Nat}
theorem tail_len {ts : List Tk} (h : (hd en ts).t ≠ []) : ts.tail.length + 1 = ts.length := by
  cases ts with
  | nil => exact absurd rfl h
  | cons t r => rfl
theorem name_len {ts r : List Tk} {t : List UInt8} (h : name en ts = .ok (t, r)) : r.length + 1 = ts.length := by
  unfold name at h
  split at h
  · cases h
  · rename_i h1
    split at h
    · cases h
    · injection h with h
      injection h with h3 h4
      rw [← h4]
      refine tail_len (en := en) (fun e => h1 (Or.inr ?_))
      rw [e]; decide
theorem want_len {m : List UInt8} {ts r : List Tk} (hm : m ≠ []) (h : want en m ts = .ok r) : r.length + 1 = ts.length := by
  unfold want at h
  split at h
  · rename_i h1
    injection h with h
    rw [← h]
    exact tail_len (en := en) (by rw [h1]; exact hm)
  · cases h
theorem rx_len {m : List UInt8} {ts r : List Tk} {x : Ex} (hT : TS ts) (h : rx nb en m ts = .ok (x, r)) : sz x + r.length ≤ ts.length := ((nw_all _).1 _ _ _ _ _ hT (rx_is h).1).2
theorem many_len {ts r : List Tk} {x : Ex} (hT : TS ts) (h : many nb en ts = .ok (x, r)) : sz x + 2 + r.length ≤ ts.length := by
  unfold many at h
  split at h
  · cases h
  · rename_i r1 h1
    split at h
    · cases h
    · rename_i x1 r2 h2
      injection h with h
      injection h with h3 h4
      subst h3 h4
      have s1 := want_told h1
      have l1 := want_len (by decide) h1
      have l2 := rx_len (hT.sb s1) h2
      have l3 : r2.tail.length + 1 = r2.length := tail_len (en := en) (by rw [(rx_is h2).2]; decide)
      omega
theorem rule_len {d e : D} {ts r : List Tk} (h : rule en d ts = .ok (e, r)) : r.length ≤ ts.length ∧ e.ct = d.ct := by
  unfold rule at h
  split at h
  · cases h
  · split at h
    · cases h
    · rename_i a r1 h2
      have l1 := name_len h2
      have lt : ts.tail.length ≤ ts.length := by rw [List.length_tail]; omega
      split at h
      · split at h
        · injection h with h; injection h with h4 h5; subst h4 h5
          exact ⟨by omega, rfl⟩
        · split at h
          · cases h
          · rename_i b r2 h4
            have l2 := name_len h4
            injection h with h; injection h with h5 h6; subst h5 h6
            exact ⟨by omega, rfl⟩
      · injection h with h; injection h with h4 h5; subst h4 h5
        exact ⟨by omega, rfl⟩
theorem mark_len {d e : D} {ts r : List Tk} (hT : TS ts) (hd : d.ct = none) (h : mark nb en d ts = .ok (e, r)) : szO e.ct + r.length ≤ ts.length := by
  unfold mark at h
  split at h
  · split at h
    · cases h
    · rename_i x r5 h5
      have l1 := many_len hT h5
      injection h with h; injection h with h6 h7; subst h6 h7
      show sz x + _ ≤ _
      omega
  · split at h
    · obtain ⟨l1, l2⟩ := rule_len h
      rw [l2, hd]
      have : ts.tail.length ≤ ts.length := by rw [List.length_tail]; omega
      show 0 + _ ≤ _
      omega
    · injection h with h; injection h with h6 h7; subst h6 h7
      rw [hd]
      show 0 + _ ≤ _
      omega
theorem kind_len {ts r : List Tk} {d : D} (h : kind en ts = .ok (d, r)) : r.length + 1 = ts.length ∧ d.ct = none := by
  unfold kind at h
  split at h
  · rename_i w o s hn
    injection h with h; injection h with h1 h2; subst h1 h2
    exact ⟨tail_len (en := en) (fun e => by rw [e, show numOf [] = none by decide] at hn; cases hn), rfl⟩
  · split at h
    · cases h
    · rename_i t r' hn
      have l1 := name_len hn
      injection h with h; injection h with h1 h2; subst h1 h2
      exact ⟨l1, rfl⟩
theorem part_len {ts r : List Tk} {e : D} (hT : TS ts) (h : part nb en ts = .ok (e, r)) : 3 + szO e.ct + r.length ≤ ts.length := by
  unfold part at h
  split at h
  · cases h
  · rename_i d1 r1 h1
    obtain ⟨l1, c1⟩ := kind_len h1
    split at h
    · cases h
    · rename_i t r2 h2
      have l2 := name_len h2
      split at h
      · cases h
      · rename_i d3 r3 h3
        have hT2 : TS r2 := by
          have s1 : Sb_ r1 ts := by
            unfold kind at h1
            split at h1
            · injection h1 with h1; injection h1 with _ e2; rw [← e2]; exact sb_tail ts
            · split at h1
              · cases h1
              · rename_i t' r' hn
                injection h1 with h1; injection h1 with _ e2; rw [← e2]; exact (name_told hT hn).2
          exact (hT.sb s1).sb (name_told (hT.sb s1) h2).2
        have l3 := mark_len hT2 (d := { d1 with nm := t }) c1 h3
        split at h
        · cases h
        · rename_i r4 h4
          have l4 := want_len (by decide) h4
          injection h with h; injection h with h5 h6; subst h5 h6
          omega
theorem byts_len {ts r : List Tk} {e : D} (hT : TS ts) (h : byts nb en ts = .ok (e, r)) : 4 + szO e.ct + r.length ≤ ts.length := by
  unfold byts at h
  split at h
  · cases h
  · rename_i t r1 h1
    have l1 := name_len h1
    split at h
    · cases h
    · rename_i x r2 h2
      have l2 := many_len (hT.sb (name_told hT h1).2) h2
      split at h
      · cases h
      · rename_i r3 h3
        have l3 := want_len (by decide) h3
        injection h with h; injection h with h5 h6; subst h5 h6
        show 4 + sz x + _ ≤ _
        omega
/-- Places. -/
def TP (en : Nat) (ts : List Tk) : Prop := en ≤ 100000 ∧ ∀ t ∈ ts, t.a ≤ 100000
theorem TP.sb {r ts : List Tk} (h : TP en ts) (k : Sb_ r ts) : TP en r := ⟨h.1, fun t ht => h.2 t (k t ht)⟩
theorem TP.hd {ts : List Tk} (h : TP en ts) : (hd en ts).a ≤ 100000 := by
  cases ts with
  | nil => exact h.1
  | cons t r => exact h.2 t (by simp)
theorem item_len {k : Nat} {ts r : List Tk} {d : D} {s : Its} (hT : TS ts) (hP : TP en ts) (hi : ∀ ts l r, TS ts → TP en ts → blk nb en k ts = .ok (l, r) → zI l + 1 + r.length ≤ ts.length ∧ AtB l) (h : item nb en (blk nb en k) ts = .ok ((d, s), r)) : 2 + szO d.ct + zI s + r.length ≤ ts.length ∧ d.at_ ≤ 100000 ∧ AtB s := by
  unfold item at h
  split at h
  · rename_i hw
    have l0 : ts.tail.length + 1 = ts.length := tail_len (en := en) (by rw [hw]; decide)
    split at h
    · cases h
    · rename_i x r1 h1
      have l1 := rx_len (hT.sb (sb_tail ts)) h1
      have s1 := (rx_told (hT.sb (sb_tail ts)) h1).2.trans (sb_tail ts)
      split at h
      · cases h
      · rename_i l r2 h2
        obtain ⟨g1, g2⟩ := hi _ _ _ (hT.sb s1) (hP.sb s1) h2
        injection h with h; injection h with h3 h4; injection h3 with h5 h6; subst h5 h6 h4
        refine ⟨?_, hP.hd, g2⟩
        show 2 + sz x + _ + _ ≤ _
        omega
  · split at h
    · rename_i hw
      have l0 : ts.tail.length + 1 = ts.length := tail_len (en := en) (by rw [hw]; decide)
      split at h
      · cases h
      · rename_i d1 r1 h1
        have l1 := byts_len (hT.sb (sb_tail ts)) h1
        injection h with h; injection h with h3 h4; injection h3 with h5 h6; subst h5 h6 h4
        refine ⟨?_, hP.hd, trivial⟩
        show 2 + szO d1.ct + 1 + _ ≤ _
        omega
    · split at h
      · cases h
      · rename_i d1 r1 h1
        have l1 := part_len hT h1
        injection h with h; injection h with h3 h4; injection h3 with h5 h6; subst h5 h6 h4
        refine ⟨?_, hP.hd, trivial⟩
        show 2 + szO d1.ct + 1 + _ ≤ _
        omega
theorem loop_len {k : Nat} (hi : ∀ ts l r, TS ts → TP en ts → blk nb en k ts = .ok (l, r) → zI l + 1 + r.length ≤ ts.length ∧ AtB l) (n : Nat) : ∀ (ts : List Tk) (l : Its) (r : List Tk), TS ts → TP en ts → loop nb en (blk nb en k) n ts = .ok (l, r) → zI l + r.length ≤ ts.length ∧ AtB l := by
  have hnil : ∀ ts : List Tk, (hd en ts).t = [125] → zI .nil + ts.tail.length ≤ ts.length := by
    intro ts h
    have := tail_len (en := en) (ts := ts) (by rw [h]; decide)
    show 1 + _ ≤ _
    omega
  induction n with
  | zero =>
    intro ts l r hT hP h
    rw [loop] at h
    split at h
    · rename_i h0
      injection h with h; injection h with h1 h2; subst h1 h2
      exact ⟨hnil ts h0, trivial⟩
    · cases h
  | succ n ih =>
    intro ts l r hT hP h
    rw [loop] at h
    split at h
    · rename_i h0
      injection h with h; injection h with h1 h2; subst h1 h2
      exact ⟨hnil ts h0, trivial⟩
    · split at h
      · cases h
      · rename_i d s r1 h1
        obtain ⟨g1, g2, g3⟩ := item_len hT hP hi h1
        have s1 := (item_told hT (fun ts l r a b => blk_told k ts l r a b) h1).2.2.2
        split at h
        · cases h
        · rename_i l1 r2 h2
          obtain ⟨k1, k2⟩ := ih _ _ _ (hT.sb s1) (hP.sb s1) h2
          injection h with h; injection h with h3 h4; subst h3 h4
          exact ⟨by rw [zI]; omega, g2, g3, k2⟩
theorem blk_len (k : Nat) : ∀ (ts : List Tk) (l : Its) (r : List Tk), TS ts → TP en ts → blk nb en k ts = .ok (l, r) → zI l + 1 + r.length ≤ ts.length ∧ AtB l := by
  induction k with
  | zero =>
    intro ts l r hT hP h
    rw [blk] at h
    split at h <;> cases h
  | succ k ih =>
    intro ts l r hT hP h
    rw [blk] at h
    split at h
    · rename_i h0
      obtain ⟨g1, g2⟩ := loop_len ih 16 _ _ _ (hT.sb (sb_tail ts)) (hP.sb (sb_tail ts)) h
      have := tail_len (en := en) (ts := ts) (by rw [h0]; decide)
      exact ⟨by omega, g2⟩
    · cases h
def zT (l : List Ty) : Nat := (l.map (fun t => 3 + zI t.l)).sum
theorem typs_len (n : Nat) : ∀ (ts : List Tk) (l : List Ty), TS ts → TP en ts → typs nb en n ts = .ok l → zT l ≤ ts.length ∧ ∀ t ∈ l, t.at_ ≤ 100000 ∧ AtB t.l := by
  induction n with
  | zero =>
    intro ts l hT hP h
    cases ts with
    | nil => cases h; exact ⟨Nat.le_refl _, fun t ht => by cases ht⟩
    | cons t r => rw [typs] at h; split at h <;> cases h
  | succ n ih =>
    intro ts l hT hP h
    cases ts with
    | nil => cases h; exact ⟨Nat.zero_le _, fun t ht => by cases ht⟩
    | cons t r =>
      have s0 : Sb_ r (t :: r) := fun u hu => by simp [hu]
      have hT' := hT.sb s0
      rw [typs] at h
      split at h
      · split at h
        · cases h
        · rename_i m r1 h1
          have l1 := name_len h1
          obtain ⟨n1, s1⟩ := name_told hT' h1
          split at h
          · cases h
          · rename_i it r2 h2
            obtain ⟨g1, g2⟩ := blk_len 8 _ _ _ (hT'.sb s1) ((hP.sb s0).sb s1) h2
            obtain ⟨_, _, _, s2⟩ := blk_told 8 _ _ _ (hT'.sb s1) h2
            split at h
            · cases h
            · rename_i q h3
              obtain ⟨k1, k2⟩ := ih _ _ (hT'.sb (s2.trans s1)) ((hP.sb s0).sb (s2.trans s1)) h3
              injection h with h
              subst h
              refine ⟨?_, fun u hu => ?_⟩
              · unfold zT at k1 ⊢
                rw [List.map_cons, List.sum_cons, List.length_cons]
                show 3 + zI it + _ ≤ _
                omega
              · rw [List.mem_cons] at hu
                rcases hu with rfl | hu
                · exact ⟨(hP.sb s0).hd, g2⟩
                · exact k2 u hu
      · cases h
end
end Go.Proofs.YtococaecjecjgaaGreatDoor.tm
/- Whether templates fit together: a block. -/
namespace Go.Proofs.YtococaecjecjgaaGreatDoor.tm
set_option linter.unusedVariables false
open Go.ChangeShapes Go.WideShapes Go.ChangeAt Go.RowKit Go.Shelf
open mem lx ex

/-- What looking at a block does. -/
def DoneB (B : Nat) (w : World) (q : Except (Int × Nat) (List (List UInt8))) (P : List (List UInt8) → World → Prop) (e : Ending) (w' : World) : Prop := Below B w w' ∧ Kx w w' ∧ match q with
  | .ok n => e = .returned (.tuple #[]) ∧ P n w'
  | .error (c, p) => ∃ A : Nat, e = thrownY A ∧ B ≤ A ∧ AtX w' A c (p : Int)
theorem DoneB.of_err {B : Nat} {w w' : World} {q : Except (Int × Nat) (List (List UInt8))} {P : List (List UInt8) → World → Prop} {c : Int} {p A : Nat} (hq : q = .error (c, p)) (hb : Below B w w') (hx : Kx w w') (hA : B ≤ A) (h : AtX w' A c (p : Int)) : DoneB B w q P (thrownY A) w' := by
  rw [hq]
  exact ⟨hb, hx, A, rfl, hA, h⟩
/-- How far the items are looked at. -/
structure S1 (l : Its) (B K eb nb' sb : Nat) (earl names seen : List (List UInt8)) (ke kn ks : Nat) (w wr : World) (j : Nat) (names' seen' : List (List UInt8)) (kn' ks' : Nat) : Prop where
  BL : Below B w wr
  kx : Kx w wr
  ck : Ck wr K eb nb' sb earl names' seen' ke kn' ks'
  eq : chkI earl l names seen = chkI earl (l.dr j) names' seen'
  nmd : Nmd l j names seen names' seen'
  kn : kn' + tot (l.dr j) ≤ kn + tot l
  ks : ks' + tot (l.dr j) ≤ ks + tot l
theorem S1.bl {l : Its} {B K eb nb' sb : Nat} {earl names seen : List (List UInt8)} {ke kn ks : Nat} {w wr w' : World} {j : Nat} {names' seen' : List (List UInt8)} {kn' ks' : Nat} (h : S1 l B K eb nb' sb earl names seen ke kn ks w wr j names' seen' kn' ks') (hb : Bl wr w') (hB : B ≤ w.heap.size) : S1 l B K eb nb' sb earl names seen ke kn ks w w' j names' seen' kn' ks' :=
  ⟨h.BL.trans (hb.mono (Nat.le_trans hB h.BL.size)), h.kx.trans (Kx.bl hb), h.ck.bl hb, h.eq, h.nmd, h.kn, h.ks⟩
theorem chkB_err {earl names seen : List (List UInt8)} {l : Its} {e : Int × Nat} (h : chkI earl l names seen = .error e) : chkB earl l names seen = .error e := by unfold chkB; rw [h]
theorem wd_ok {d : D} (h : WD d) : (∀ x, d.ct = some x → Okb x) ∧ d.nm.length ≤ 5000 ∧ d.ty.length ≤ 5000 ∧ (d.kd = 4 → d.nm = []) ∧ (d.kd ≠ 4 → d.nm ≠ []) := by
  have nn : ∀ {t : List UInt8}, NM t → t ≠ [] ∧ t.length ≤ 5000 := fun {t} h => ⟨fun e => by have := h.2.1; rw [e] at this; revert this; decide, by have := h.2.2.1; omega⟩
  rcases h with h | h | h | h
  · obtain ⟨h1, ⟨x, hx, wx⟩, h3, _, _, h6, _⟩ := h
    exact ⟨fun y hy => by rw [hx] at hy; injection hy with hy; rw [← hy]; exact wx.1.okb, by rw [h3]; simp, by rw [h6]; simp, fun _ => h3, fun h4 => absurd h1 h4⟩
  · obtain ⟨h1, hn, ⟨x, hx, wx⟩, _, _, h6, _⟩ := h
    exact ⟨fun y hy => by rw [hx] at hy; injection hy with hy; rw [← hy]; exact wx.1.okb, (nn hn).2, by rw [h6]; simp, fun h4 => by omega, fun _ => (nn hn).1⟩
  · obtain ⟨h1, ht, hn, _, _, _, _, _, _, hm⟩ := h
    refine ⟨fun y hy => ?_, (nn hn).2, (nn ht).2, fun h4 => by omega, fun _ => (nn hn).1⟩
    rcases hm with ⟨_, x, hx, wx⟩ | ⟨_, hx⟩
    · rw [hx] at hy; injection hy with hy; rw [← hy]; exact wx.1.okb
    · rw [hx] at hy; cases hy
  · obtain ⟨h1, ht, _, hn, hm⟩ := h
    refine ⟨fun y hy => ?_, (nn hn).2, by rw [ht]; simp, fun h4 => by omega, fun _ => (nn hn).1⟩
    rcases hm with ⟨_, ⟨x, hx, wx⟩, _⟩ | ⟨_, hx, _⟩
    · rw [hx] at hy; injection hy with hy; rw [← hy]; exact wx.1.okb
    · rw [hx] at hy; cases hy
/-- How far what was seen is forgotten. -/
structure S2 (l : Its) (B K eb nb' sb : Nat) (earl names' seen' : List (List UInt8)) (ke kn' ks' : Nat) (w wr : World) (j : Nat) : Prop where
  BL : Below B w wr
  kx : Kx w wr
  ck : Ck wr K eb nb' sb earl names' (seen'.filter (fun y => y ∉ (l.ds.take j).map D.nm)) ke kn' ks'
theorem S2.step {l : Its} {B K eb nb' sb : Nat} {earl names' seen' : List (List UInt8)} {ke kn' ks' : Nat} {w wr w3 w' : World} {j : Nat} (h : S2 l B K eb nb' sb earl names' seen' ke kn' ks' w wr j) (hb : Bl wr w3) (hB : B ≤ w.heap.size) (hs : B ≤ sb) {d : D} (hd : l.ds[j]? = some d)
    (hn : SetM w' sb ((seen'.filter (fun y => y ∉ (l.ds.take j).map D.nm)).filter (fun y => y ≠ d.nm)) ks') (hg : w3.grownBy w' (some sb)) : S2 l B K eb nb' sb earl names' seen' ke kn' ks' w w' (j + 1) := by
  have hc := h.ck.bl hb
  have hs3 : B ≤ w3.heap.size := Nat.le_trans (Nat.le_trans hB h.BL.size) hb.size
  refine ⟨below_grown (h.BL.trans (hb.mono (Nat.le_trans hB h.BL.size))) hg hs hs3, (h.kx.trans (Kx.bl hb)).trans (Kx.map hc.s hg), hc.putS hg (hn.same (fun y => ?_))⟩
  rw [List.take_add_one, hd, List.map_append]
  simp only [List.mem_filter, List.mem_append, decide_eq_true_eq, Option.toList, List.map_cons, List.map_nil, List.mem_singleton, not_or]
  constructor
  · rintro ⟨⟨h1, h2⟩, h3⟩; exact ⟨h1, h2, h3⟩
  · rintro ⟨h1, h2, h3⟩; exact ⟨⟨h1, h2⟩, h3⟩
/-- How far rules are looked at. -/
structure S3 (g : Nat → D → Option (Int × Nat)) (l : Its) (B K eb nb' sb : Nat) (earl names' seen : List (List UInt8)) (ke kn' ks' : Nat) (w wr : World) (j : Nat) : Prop where
  BL : Below B w wr
  kx : Kx w wr
  ck : Ck wr K eb nb' sb earl names' seen ke kn' ks'
  eq : firstW g 0 l.ds = firstW g j (l.ds.drop j)
theorem S3.on {g : Nat → D → Option (Int × Nat)} {l : Its} {B K eb nb' sb : Nat} {earl names' seen : List (List UInt8)} {ke kn' ks' : Nat} {w wr w' : World} {j : Nat} (h : S3 g l B K eb nb' sb earl names' seen ke kn' ks' w wr j) (hb : Bl wr w') (hB : B ≤ w.heap.size) {d : D} (hd : l.ds[j]? = some d) (hg : g j d = none) : S3 g l B K eb nb' sb earl names' seen ke kn' ks' w w' (j + 1) :=
  ⟨h.BL.trans (hb.mono (Nat.le_trans hB h.BL.size)), h.kx.trans (Kx.bl hb), h.ck.bl hb, h.eq.trans ((firstW_step g l.ds j d hd).2 hg)⟩
theorem chkB_is {earl names seen names' : List (List UInt8)} {l : Its} (h : chkI earl l names seen = .ok names') : (∀ e, firstW (ruleW l.ds) 0 l.ds = some e → chkB earl l names seen = .error e) ∧ (firstW (ruleW l.ds) 0 l.ds = none → (∀ e, firstW (cycW l.ds) 0 l.ds = some e → chkB earl l names seen = .error e) ∧ (firstW (cycW l.ds) 0 l.ds = none → chkB earl l names seen = .ok names')) := by
  unfold chkB rulesW
  rw [h]
  dsimp only
  refine ⟨fun e he => by rw [he], fun hn => ?_⟩
  rw [hn]
  dsimp only
  exact ⟨fun e he => by rw [he], fun he => by rw [he]⟩
theorem cyc_is (ds : List D) (i : Nat) (d : D) : (¬ d.ru = 3 → cycW ds i d = none) ∧ (d.ru = 3 → (rnd ds i = true → cycW ds i d = some (11, d.at_)) ∧ (rnd ds i = false → cycW ds i d = none)) := by
  unfold cycW
  exact ⟨fun h => by rw [if_neg (fun hc => h hc.1)], fun h => ⟨fun hr => by rw [if_pos ⟨h, hr⟩], fun hr => by rw [if_neg (fun hc => by rw [hr] at hc; cases hc.2)]⟩⟩
end Go.Proofs.YtococaecjecjgaaGreatDoor.tm
/- Check of package types. -/
namespace Go.Proofs.YtococaecjecjgaaGreatDoor.tm
set_option linter.unusedVariables false
open Go.ChangeShapes Go.WideShapes Go.ChangeAt Go.RowKit Go.Shelf
open mem lx ex

/-- What Check answers. -/
def CkA (w : World) (q : Option (Int × Nat)) (e : Ending) (w' : World) : Prop := Bl w w' ∧ match q with
  | none => e = .returned .nilIface
  | some (c, p) => ∃ A : Nat, e = .returned (atV A) ∧ w.heap.size ≤ A ∧ AtX w' A c (p : Int)
theorem CkA.of_err {w w' : World} {q : Option (Int × Nat)} {c : Int} {p A : Nat} (hq : q = some (c, p)) (hb : Bl w w') (hA : w.heap.size ≤ A) (h : AtX w' A c (p : Int)) : CkA w q (.returned (atV A)) w' := by
  rw [hq]; exact ⟨hb, A, rfl, hA, h⟩
theorem CkA.of_ok {w w' : World} {q : Option (Int × Nat)} (hq : q = none) (hb : Bl w w') : CkA w q (.returned .nilIface) w' := by
  rw [hq]; exact ⟨hb, rfl⟩
theorem chkT_step (earl : List (List UInt8)) (l : List Ty) (j : Nat) (t : Ty) (h : l[j]? = some t) : (t.nm ∈ earl → chkT earl (l.drop j) = some (9, t.at_)) ∧ (t.nm ∉ earl → (∀ e, chkB earl t.l [] [] = .error e → chkT earl (l.drop j) = some e) ∧ ∀ n, chkB earl t.l [] [] = .ok n → chkT earl (l.drop j) = chkT (t.nm :: earl) (l.drop (j + 1))) := by
  obtain ⟨hl, he⟩ := List.getElem?_eq_some_iff.1 h
  rw [List.drop_eq_getElem_cons hl, he, chkT]
  refine ⟨fun hm => by rw [if_pos hm], fun hm => ?_⟩
  rw [if_neg hm]
  exact ⟨fun e hc => by rw [hc], fun n hc => by rw [hc]⟩
/-- What Check asks. -/
structure CI (l : List Ty) : Prop where
  wt : WT l
  at_ : ∀ t ∈ l, t.at_ ≤ 100000 ∧ AtB t.l ∧ tot t.l ≤ 4000
/-- How far Check has come. -/
structure Cs (l : List Ty) (w wr : World) (N eb : Nat) (earl : List (List UInt8)) (j : Nat) : Prop where
  v : Vr wr N .nilIface 34
  bl : Bl w wr
  e : SetM wr eb earl j
  eq : chkT [] l = chkT earl (l.drop j)
theorem Cs.bl' {l : List Ty} {w wr w' : World} {N eb : Nat} {earl : List (List UInt8)} {j : Nat} (h : Cs l w wr N eb earl j) (hb : Bl wr w') : Cs l w w' N eb earl j := ⟨h.v.step hb, h.bl.trans hb, h.e.bl hb, h.eq⟩
end Go.Proofs.YtococaecjecjgaaGreatDoor.tm
