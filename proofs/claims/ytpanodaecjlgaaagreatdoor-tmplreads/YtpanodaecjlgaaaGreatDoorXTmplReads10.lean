/- Texts laid together: TmC, TmS, TmW, TmX, TmY. -/
import Derived.Test.YtpanodaecjlgaaaGreatDoorXTmplReads9
import Derived.Test.YtpanodaecjlgaaaGreatDoorXTmplReads2
/- Templates: what is wrong with them; in which order rules are done (pure). -/
namespace Go.Proofs.YtpanodaecjlgaaaGreatDoor.tm
set_option linter.unusedVariables false
open lx ex

/-- Where a name stands that isn't seen. -/
def mis (seen : List (List UInt8)) : Ex → Option Nat
  | .num _ _ => none
  | .nam a t => if t ∈ seen then none else some a
  | .bin _ _ l r => match mis seen l with
    | some p => some p
    | none => mis seen r
def misO (seen : List (List UInt8)) : Option Ex → Option Nat
  | none => none
  | some x => mis seen x
def Its.ds : Its → List D
  | .nil => []
  | .cons d _ t => d :: t.ds
theorem Its.ds_len (l : Its) : l.ds.length = l.len := by
  induction l with
  | nil => rfl
  | cons d s t _ ih => show t.ds.length + 1 = t.len + 1; rw [ih]
/-- The item that is called so. -/
def nmd (ds : List D) (t : List UInt8) : Option Nat := ds.findIdx? (fun d => d.nm == t)
/-- The first and the last one on which a rule hangs. -/
def ends (ds : List D) (d : D) : Option Nat × Option Nat := (nmd ds d.f1, if d.ru = 3 then nmd ds d.l1 else nmd ds d.f1)
/-- A rule that is wrong. -/
def ruleW (ds : List D) (i : Nat) (d : D) : Option (Int × Nat) :=
  if d.ru = 0 then none
  else match ends ds d with
    | (some a, some b) =>
      if d.ru = 2 ∧ (ds[a]?.map (·.mn)) ≠ some true then some (13, d.at_)
      else if d.ru = 3 ∧ (d.wd ≠ 4 ∨ d.sg = true) then some (13, d.at_)
      else if b < a then some (10, d.at_)
      else if a ≤ i ∧ i ≤ b then some (6, d.at_)
      else none
    | _ => some (7, d.at_)
def isC (ds : List D) (k : Nat) : Bool := ds[k]?.map (·.ru) == some 3
/-- From one number to another one. -/
def upTo (a b : Nat) : List Nat := (List.range (b + 1)).drop a
/-- The Checks over which a Check's sum is taken. -/
def under (ds : List D) (i : Nat) : List Nat :=
  match ds[i]? with
  | none => []
  | some d => match ends ds d with
    | (some a, some b) => (upTo a b).filter (isC ds)
    | _ => []
/-- Whether one comes to one of them. -/
def bfs (ds : List D) (to : Nat) : Nat → List Nat → List Nat → Option Bool
  | 0, _, _ => none
  | _ + 1, _, [] => some false
  | f + 1, met, j :: r => if j = to then some true else if j ∈ met then bfs ds to f met r else bfs ds to f (j :: met) (r ++ under ds j)
def rnd (ds : List D) (i : Nat) : Bool := (bfs ds i ((ds.length + 1) * (ds.length + 1) + ds.length + 2) [] (under ds i)) == some true
/-- The first wrong one. -/
def firstW (g : Nat → D → Option (Int × Nat)) : Nat → List D → Option (Int × Nat)
  | _, [] => none
  | i, d :: r => match g i d with
    | some e => some e
    | none => firstW g (i + 1) r
def cycW (ds : List D) (i : Nat) (d : D) : Option (Int × Nat) := if d.ru = 3 ∧ rnd ds i = true then some (11, d.at_) else none
def rulesW (ds : List D) : Option (Int × Nat) :=
  match firstW (ruleW ds) 0 ds with
  | some e => some e
  | none => firstW (cycW ds) 0 ds
/-- A part that has a name. -/
def itemW (earl names seen : List (List UInt8)) (d : D) : Option (Int × Nat) :=
  if d.nm ∈ names then some (9, d.at_)
  else if d.kd = 3 ∧ d.ty ∉ earl then some (7, d.at_)
  else (misO seen d.ct).map fun p => (5, p)
/-- Parts, one behind the other: what is called so, behind them. -/
def chkI (earl : List (List UInt8)) : Its → List (List UInt8) → List (List UInt8) → Except (Int × Nat) (List (List UInt8))
  | .nil, names, _ => .ok names
  | .cons d s t, names, seen =>
    if d.kd = 4 then
      match misO seen d.ct with
      | some p => .error (5, p)
      | none => match chkI earl s names seen with
        | .error e => .error e
        | .ok names' => match rulesW s.ds with
          | some e => .error e
          | none => chkI earl t names' seen
    else match itemW earl names seen d with
      | some e => .error e
      | none => chkI earl t (d.nm :: names) (if d.kd = 1 ∧ d.mn = false then d.nm :: seen else seen)
def chkB (earl : List (List UInt8)) (l : Its) (names seen : List (List UInt8)) : Except (Int × Nat) (List (List UInt8)) :=
  match chkI earl l names seen with
  | .error e => .error e
  | .ok names' => match rulesW l.ds with
    | some e => .error e
    | none => .ok names'
/-- Structs. -/
def chkT : List (List UInt8) → List Ty → Option (Int × Nat)
  | _, [] => none
  | earl, t :: r =>
    if t.nm ∈ earl then some (9, t.at_)
    else match chkB earl t.l [] [] with
      | .error e => some e
      | .ok _ => chkT (t.nm :: earl) r
/- With other names. -/
section
variable {ρ : List UInt8 → List UInt8}
/-- What is told, but for where. -/
def code (o : Option (Int × Nat)) : Option Int := o.map (·.1)
/-- Parts' data. -/
inductive RL (ρ : List UInt8 → List UInt8) : List D → List D → Prop
  | nil : RL ρ [] []
  | cons {d d' : D} {l l' : List D} : RD ρ d d' → RL ρ l l' → RL ρ (d :: l) (d' :: l')
theorem RI.ds {l l' : Its} (h : RI ρ l l') : RL ρ l.ds l'.ds := by
  induction h with
  | nil => exact RL.nil
  | cons hd _ _ _ ih => exact RL.cons hd ih
theorem RL.len {l l' : List D} (h : RL ρ l l') : l'.length = l.length := by
  induction h with
  | nil => rfl
  | cons _ _ ih => simp [ih]
end
end Go.Proofs.YtpanodaecjlgaaaGreatDoor.tm
/- Tokens of a piece of a text, and of two texts; an expression up to a mark (pure). -/
namespace Go.Proofs.YtpanodaecjlgaaaGreatDoor.tm
set_option linter.unusedVariables false
open lx ex

theorem tw_take (p : UInt8 → Bool) (l : List UInt8) (k : Nat) (h : (l.takeWhile p).length ≤ k) : ((l.take k).takeWhile p).length = (l.takeWhile p).length := by
  induction l generalizing k with
  | nil => simp
  | cons c l ih =>
    by_cases hc : p c = true
    · rw [List.takeWhile_cons_of_pos hc] at h ⊢
      cases k with
      | zero => simp at h
      | succ k =>
        rw [List.take_succ_cons, List.takeWhile_cons_of_pos hc, List.length_cons, List.length_cons, ih k (by simpa using h)]
    · rw [List.takeWhile_cons_of_neg hc]
      cases k with
      | zero => simp
      | succ k => rw [List.take_succ_cons, List.takeWhile_cons_of_neg hc]
theorem gap_take (l : List UInt8) (k : Nat) (hk : 0 < k) (h : gap l ≤ k) : gap (l.take k) = gap l := by
  cases l with
  | nil => simp
  | cons c r =>
    cases k with
    | zero => omega
    | succ k =>
      rw [gap_cons] at h ⊢
      rw [List.take_succ_cons, gap_cons]
      split
      · rfl
      · rename_i h1
        rw [if_neg h1] at h
        split
        · rename_i h2
          rw [if_pos h2] at h
          have := tw_take (· != 10) (c :: r) (k + 1) h
          rw [List.take_succ_cons] at this
          exact this
        · rfl
theorem tl_take (l : List UInt8) (k : Nat) (hk : 0 < k) (h : tl l ≤ k) : tl (l.take k) = tl l := by
  unfold tl at h ⊢
  by_cases hw : wl l = 0
  · rw [if_pos hw] at h ⊢
    have hw' : wl (l.take k) = 0 := by
      have := tw_take isW l k (by show wl l ≤ k; omega)
      show ((l.take k).takeWhile isW).length = 0
      rw [this]; exact hw
    rw [if_pos hw']
    cases l with
    | nil => simp
    | cons c r =>
      cases k with
      | zero => omega
      | succ k =>
        rw [mk_cons] at h ⊢
        rw [List.take_succ_cons, mk_cons]
        by_cases h2 : ((c == 61 || c == 33) && r.head? == some 61) = true
        · rw [if_pos h2] at h ⊢
          rw [if_pos]
          cases r with
          | nil => simp at h2
          | cons e r =>
            cases k with
            | zero => omega
            | succ k => simpa using h2
        · rw [if_neg h2, if_neg]
          intro h3
          apply h2
          cases r with
          | nil => simp at h3
          | cons e r =>
            cases k with
            | zero => simp at h3
            | succ k => simpa using h3
  · rw [if_neg hw] at h ⊢
    have := tw_take isW l k h
    have e : wl (l.take k) = wl l := this
    rw [e, if_neg hw]
/-- Where a token begins a text may be cut. -/
theorem lx_cut (n : Nat) : ∀ (l : List UInt8) (a : Nat) (u v : List Tk), l.length ≤ n → lx l a = (u ++ v, none) →
    a ≤ (hd (a + l.length) v).a ∧ (hd (a + l.length) v).a ≤ a + l.length ∧ lx (l.take ((hd (a + l.length) v).a - a)) a = (u, none) ∧ lx (l.drop ((hd (a + l.length) v).a - a)) (hd (a + l.length) v).a = (v, none) := by
  induction n with
  | zero =>
    intro l a u v hl h
    obtain rfl : l = [] := List.eq_nil_of_length_eq_zero (by omega)
    rw [lx_nil] at h
    injection h with h _
    obtain ⟨rfl, rfl⟩ : u = [] ∧ v = [] := by simpa using h.symm
    simp [hd, lx_nil]
  | succ n ih =>
    intro l a u v hl h
    by_cases h0 : l = []
    · subst h0
      exact ih [] a u v (by simp) h
    by_cases hg : 0 < gap l
    · have hgl := gap_le l
      rw [lx_gap _ _ hg] at h
      obtain ⟨k1, k2, k3, k4⟩ := ih (l.drop (gap l)) (a + gap l) u v (by rw [List.length_drop]; omega) h
      have e : a + gap l + (l.drop (gap l)).length = a + l.length := by rw [List.length_drop]; omega
      rw [e] at k1 k2 k3 k4
      generalize (hd (a + l.length) v).a = p at *
      refine ⟨by omega, k2, ?_, ?_⟩
      · have e2 : gap (l.take (p - a)) = gap l := gap_take l (p - a) (by omega) (by omega)
        rw [lx_gap _ _ (by rw [e2]; exact hg), e2, List.drop_take, show p - a - gap l = p - (a + gap l) by omega]
        exact k3
      · rw [List.drop_drop, show gap l + (p - (a + gap l)) = p - a by omega] at k4
        exact k4
    · by_cases ht : 0 < tl l
      · have htl := tl_le l
        have h' := h
        rw [lx_tok _ _ (by omega) ht] at h
        cases u with
        | nil =>
          injection h with h1 h2
          rw [List.nil_append] at h1
          rw [← h1]
          show a ≤ a ∧ a ≤ a + l.length ∧ lx (l.take (a - a)) a = ([], none) ∧ lx (l.drop (a - a)) a = _
          rw [Nat.sub_self, List.take_zero, List.drop_zero, lx_nil]
          refine ⟨Nat.le_refl _, by omega, rfl, ?_⟩
          rw [h', List.nil_append, h1]
        | cons t u =>
          injection h with h1 h2
          rw [List.cons_append] at h1
          injection h1 with h1 h3
          have h4 : lx (l.drop (tl l)) (a + tl l) = (u ++ v, none) := by
            rw [← h3, ← h2]
          obtain ⟨k1, k2, k3, k4⟩ := ih (l.drop (tl l)) (a + tl l) u v (by rw [List.length_drop]; omega) h4
          have e : a + tl l + (l.drop (tl l)).length = a + l.length := by rw [List.length_drop]; omega
          rw [e] at k1 k2 k3 k4
          generalize (hd (a + l.length) v).a = p at *
          refine ⟨by omega, k2, ?_, ?_⟩
          · have e1 : gap (l.take (p - a)) = 0 := by rw [gap_take l (p - a) (by omega) (by omega)]; omega
            have e2 : tl (l.take (p - a)) = tl l := tl_take l (p - a) (by omega) (by omega)
            rw [lx_tok _ _ e1 (by rw [e2]; exact ht), e2, List.drop_take, show p - a - tl l = p - (a + tl l) by omega, k3]
            rw [List.take_take, Nat.min_eq_left (by omega), h1]
          · rw [List.drop_drop, show tl l + (p - (a + tl l)) = p - a by omega] at k4
            exact k4
      · rw [lx_bad _ _ h0 (by omega) (by omega)] at h
        injection h with _ h
        cases h
theorem lx_pad (k : Nat) : ∀ (x : List UInt8) (a : Nat), lx (List.replicate k 32 ++ x) a = lx x (a + k) := by
  induction k with
  | zero => intro x a; rfl
  | succ k ih =>
    intro x a
    rw [List.replicate_succ, List.cons_append, lx_blank _ _ _ (by decide), ih]
    congr 1
    omega
/-- What stands ahead of a mark, blanks ahead of it. -/
theorem lx_seg {l : List UInt8} {pre u v : List Tk} (h : lx l 0 = (pre ++ (u ++ v), none)) :
    (hd l.length (u ++ v)).a ≤ (hd l.length v).a ∧ (hd l.length v).a ≤ l.length ∧ lx (List.replicate (hd l.length (u ++ v)).a 32 ++ (l.drop (hd l.length (u ++ v)).a).take ((hd l.length v).a - (hd l.length (u ++ v)).a)) 0 = (u, none) := by
  obtain ⟨k1, k2, k3, k4⟩ := lx_cut _ l 0 pre (u ++ v) (Nat.le_refl _) h
  rw [Nat.zero_add, Nat.sub_zero] at k4
  rw [Nat.zero_add] at k2
  generalize (hd l.length (u ++ v)).a = q at *
  obtain ⟨j1, j2, j3, j4⟩ := lx_cut _ (l.drop q) q u v (Nat.le_refl _) k4
  have e : q + (l.drop q).length = l.length := by rw [List.length_drop]; omega
  rw [e] at j1 j2 j3 j4
  refine ⟨j1, j2, ?_⟩
  rw [lx_pad, Nat.zero_add]
  exact j3
section
variable {nb : List UInt8 → Int × Int} {en : Nat}
/-- A mark that ends an expression. -/
def Em (m : List UInt8) : Prop := m ≠ [] ∧ isN m = false ∧ isU m = false ∧ m ≠ [40] ∧ m ≠ [41] ∧ bd m = 0
theorem em_cb : Em [93] := by unfold Em; decide
theorem em_ob : Em [123] := by unfold Em; decide
/-- Reading ahead of the mark, and with it. -/
def ext (v : List Tk) : Res → Res
  | .ok (x, r) => .ok (x, r ++ v)
  | .error e => .error e
theorem row_upto {m : List UInt8} (hm : Em m) (v : List Tk) (hv : v = [] ∨ (hd en v).t = m) (f : Nat) :
    (∀ k d u q, 1 ≤ k → row nb (hd en v).a f k d u = some q → row nb en f k d (u ++ v) = some (ext v q)) ∧
    (∀ k d y u q, 1 ≤ k → lp nb (hd en v).a f k d y u = some q → lp nb en f k d y (u ++ v) = some (ext v q)) ∧
    (∀ d u q, one nb (hd en v).a f d u = some q → one nb en f d (u ++ v) = some (ext v q)) := by
  obtain ⟨m0, m1, m2, m3, m4, m5⟩ := hm
  obtain ⟨p, hp⟩ : ∃ p, p = (hd en v).a := ⟨_, rfl⟩
  rw [← hp]
  induction f with
  | zero => exact ⟨fun _ _ _ _ _ h => by simp [row] at h, fun _ _ _ _ _ _ h => by simp [lp] at h, fun _ _ _ h => by simp [one] at h⟩
  | succ f ih =>
    obtain ⟨i1, i2, i3⟩ := ih
    refine ⟨?_, ?_, ?_⟩
    · intro k d u q h0 h
      by_cases hk : 3 < k
      · rw [row_top _ _ _ _ hk] at h
        rw [row_top _ _ _ _ hk]
        exact i3 _ _ _ h
      · rw [row_low _ _ _ _ hk] at h
        rw [row_low _ _ _ _ hk]
        split at h
        · cases h
        · rename_i e hr
          injection h with h
          rw [i1 _ _ _ _ (by omega) hr, ← h]
          rfl
        · rename_i x r hr
          rw [i1 _ _ _ _ (by omega) hr]
          exact i2 _ _ _ _ _ h0 h
    · intro k d y u q h0 h
      cases u with
      | nil =>
        rw [lp] at h
        injection h with h
        subst h
        rw [List.nil_append]
        cases v with
        | nil => rw [lp]; rfl
        | cons t v =>
          have : t.t = m := by
            rcases hv with h | h
            · cases h
            · exact h
          rw [lp, if_neg (by rw [this, m5]; omega)]
          rfl
      | cons t u =>
        rw [lp] at h
        rw [List.cons_append, lp]
        split at h
        · rename_i hb
          rw [if_pos hb]
          split at h
          · cases h
          · rename_i e hr
            injection h with h
            rw [i1 _ _ _ _ (by omega) hr, ← h]
            rfl
          · rename_i x r hr
            rw [i1 _ _ _ _ (by omega) hr]
            exact i2 _ _ _ _ _ h0 h
        · rename_i hb
          rw [if_neg hb]
          injection h with h
          subst h
          rfl
    · intro d u q h
      cases u with
      | nil =>
        rw [one] at h
        injection h with h
        subst h
        rw [List.nil_append]
        cases v with
        | nil => rw [one, hp]; rfl
        | cons t v =>
          have : t.t = m := by
            rcases hv with h | h
            · cases h
            · exact h
          rw [one, if_neg (by rw [this, m1]; decide), if_neg (by rw [this, m2]; decide), if_neg (by rw [this]; exact m3), hp]
          rfl
      | cons t u =>
        rw [one] at h
        rw [List.cons_append, one]
        split at h
        · rename_i c1
          rw [if_pos c1]
          split at h
          · rename_i c2
            rw [if_pos c2]
            injection h with h
            rw [← h]; rfl
          · rename_i c2
            rw [if_neg c2]
            injection h with h
            rw [← h]; rfl
        · rename_i c1
          rw [if_neg c1]
          split at h
          · rename_i c2
            rw [if_pos c2]
            split at h
            · rename_i c3
              rw [if_pos c3]
              injection h with h
              rw [← h]; rfl
            · rename_i c3
              rw [if_neg c3]
              injection h with h
              rw [← h]; rfl
          · rename_i c2
            rw [if_neg c2]
            split at h
            · rename_i c3
              rw [if_pos c3]
              split at h
              · rename_i c4
                rw [if_pos c4]
                injection h with h
                rw [← h]; rfl
              · rename_i c4
                rw [if_neg c4]
                split at h
                · cases h
                · rename_i e hr
                  injection h with h
                  rw [i1 _ _ _ _ (by omega) hr, ← h]; rfl
                · rename_i x r hr
                  rw [i1 _ _ _ _ (by omega) hr]
                  dsimp only [ext]
                  cases r with
                  | nil =>
                    rw [if_neg (show ¬ (hd p ([] : List Tk)).t = [41] by show ¬ ([] : List UInt8) = [41]; decide)] at h
                    injection h with h
                    rw [List.nil_append, ← h]
                    have e1 : ¬ (hd en v).t = [41] := by
                      rcases hv with h | h
                      · rw [h]; show ¬ ([] : List UInt8) = [41]; decide
                      · rw [h]; exact m4
                    rw [if_neg e1, ← hp]
                    rfl
                  | cons t' r =>
                    rw [show hd p (t' :: r) = t' from rfl] at h
                    rw [List.cons_append, show hd en (t' :: (r ++ v)) = t' from rfl]
                    split at h
                    · rename_i c5
                      rw [if_pos c5]
                      injection h with h
                      rw [← h]; rfl
                    · rename_i c5
                      rw [if_neg c5]
                      injection h with h
                      rw [← h]
            · rename_i c3
              rw [if_neg c3]
              injection h with h
              rw [← h]; rfl
/-- Up to a mark, and from it on. -/
def upto (m : List UInt8) (ts : List Tk) : List Tk := ts.takeWhile (fun t => t.t != m)
def from_ (m : List UInt8) (ts : List Tk) : List Tk := ts.dropWhile (fun t => t.t != m)
theorem upto_from (m : List UInt8) (ts : List Tk) : upto m ts ++ from_ m ts = ts := List.takeWhile_append_dropWhile
theorem from_hd (m : List UInt8) (ts : List Tk) : from_ m ts = [] ∨ (hd en (from_ m ts)).t = m := by
  unfold from_
  induction ts with
  | nil => exact Or.inl rfl
  | cons t ts ih =>
    by_cases h : (t.t != m) = true
    · rw [List.dropWhile_cons_of_pos (p := fun t : Tk => t.t != m) h]; exact ih
    · rw [List.dropWhile_cons_of_neg (p := fun t : Tk => t.t != m) h]
      right
      show t.t = m
      simpa using h
theorem upto_not {m : List UInt8} {ts : List Tk} {t : Tk} (h : t ∈ upto m ts) : t.t ≠ m := by
  unfold upto at h
  induction ts with
  | nil => simp at h
  | cons u ts ih =>
    by_cases hu : (u.t != m) = true
    · rw [List.takeWhile_cons_of_pos (p := fun t : Tk => t.t != m) hu, List.mem_cons] at h
      rcases h with rfl | h
      · simpa using hu
      · exact ih h
    · rw [List.takeWhile_cons_of_neg (p := fun t : Tk => t.t != m) hu] at h
      simp at h
/-- What reading ahead of the mark comes to. -/
def rxq (en : Nat) (v : List Tk) : Res → Rs Ex
  | .ok (x, []) => if v = [] then .error (3, en) else .ok (x, v)
  | .ok (_, t :: _) => .error (3, t.a)
  | .error e => .error e
/-- What a piece's reading tells of the whole's. -/
theorem rx_upto {m : List UInt8} (hm : Em m) {ts : List Tk} {q : Res} {f : Nat} (h : row nb (hd en (from_ m ts)).a f 1 0 (upto m ts) = some q) (hmem : ∀ x r, q = .ok (x, r) → ∀ t ∈ r, t ∈ upto m ts) :
    rx nb en m ts = rxq en (from_ m ts) q := by
  have hv := from_hd (en := en) m ts
  have h1 := (row_upto hm (from_ m ts) hv f).1 _ _ _ _ (Nat.le_refl _) h
  rw [upto_from] at h1
  unfold rx
  cases hh : row nb en (10 * ts.length + 10) 1 0 ts with
  | none => exact absurd hh ((some_all _).1 1 0 ts (by omega) (by omega))
  | some q' =>
    have := row_one hh h1
    subst this
    cases q with
    | error e => rfl
    | ok xr =>
      obtain ⟨x, r⟩ := xr
      cases r with
      | nil =>
        dsimp only [ext, List.nil_append, rxq]
        rcases hv with h | h
        · rw [h, if_pos rfl, if_neg (show ¬ (hd en ([] : List Tk)).t = m from fun e => hm.1 e.symm)]
          rfl
        · rw [if_pos h, if_neg]
          intro e
          rw [e] at h
          exact hm.1 h.symm
      | cons t r =>
        dsimp only [ext, List.cons_append, rxq]
        rw [show hd en (t :: (r ++ from_ m ts)) = t from rfl, if_neg (upto_not (hmem x _ rfl t (by simp)))]
end
end Go.Proofs.YtpanodaecjlgaaaGreatDoor.tm
/- Templates, written (pure). -/
namespace Go.Proofs.YtpanodaecjlgaaaGreatDoor.tm
set_option linter.unusedVariables false
open lx ex

/-- The word that an item begins with. -/
def kw (d : D) : List UInt8 := if d.kd = 2 then wBytes else if d.kd = 3 then d.ty else ((numW.find? (fun p => p.2.1 == d.wd && p.2.2.1 == d.od && p.2.2.2 == d.sg)).map (·.1)).getD []
def rw_ (r : Nat) : List UInt8 := if r = 1 then wSize else if r = 2 then wCount else wCheck
def txO : Option Ex → List UInt8
  | none => []
  | some x => txt x
/-- An item that has no others, as text. -/
def ruT (d : D) : List UInt8 := if d.ru = 0 ∨ 4 ≤ d.ru then [] else [32, 61, 32] ++ rw_ d.ru ++ [32] ++ d.f1 ++ (if d.ru = 3 ∧ d.l1 ≠ d.f1 then [32] ++ d.l1 else [])
def mnT (d : D) : List UInt8 := if d.mn = true ∨ d.kd = 2 then [91] ++ txO d.ct ++ [93] else []
def paT (d : D) : List UInt8 := kw d ++ [32] ++ d.nm ++ mnT d ++ ruT d
/-- Items as text. -/
def itx (pad : List UInt8) : Its → List UInt8
  | .nil => []
  | .cons d s t => pad ++ [32, 32] ++ (if d.kd = 4 then wWhen ++ [32] ++ txO d.ct ++ [32, 123, 10] ++ itx (pad ++ [32, 32]) s ++ pad ++ [32, 32, 125, 10] else paT d ++ [59, 10]) ++ itx pad t
def tyx (t : Ty) : List UInt8 := wStruct ++ [32] ++ t.nm ++ [32, 123, 10] ++ itx [] t.l ++ [125, 10]
def ptxt (l : List Ty) : List UInt8 := l.flatMap tyx
/-- An expression that reading tells. -/
def WX (x : Ex) : Prop := Wf (nb := nb) Lib.itoa x ∧ Nw x ∧ dp x ≤ 8
/-- A name. -/
def NM (t : List UInt8) : Prop := resv t = false ∧ isN t = true ∧ t.length ≤ 12 ∧ (∀ c ∈ t, isW c = true)
/-- What a number hangs on. -/
def WR (d : D) : Prop := (d.ru = 0 ∧ d.f1 = [] ∧ d.l1 = []) ∨ ((d.ru = 1 ∨ d.ru = 2) ∧ NM d.f1 ∧ d.l1 = []) ∨ (d.ru = 3 ∧ NM d.f1 ∧ NM d.l1)
/-- An item that reading tells. -/
def WD (d : D) : Prop :=
  (d.kd = 4 ∧ (∃ x, d.ct = some x ∧ WX x) ∧ d.nm = [] ∧ d.mn = false ∧ d.ru = 0 ∧ d.ty = [] ∧ d.f1 = [] ∧ d.l1 = [] ∧ d.wd = 0 ∧ d.od = 0 ∧ d.sg = false) ∨
  (d.kd = 2 ∧ NM d.nm ∧ (∃ x, d.ct = some x ∧ WX x) ∧ d.mn = false ∧ d.ru = 0 ∧ d.ty = [] ∧ d.wd = 0 ∧ d.od = 0 ∧ d.sg = false ∧ d.f1 = [] ∧ d.l1 = []) ∨
  (d.kd = 3 ∧ NM d.ty ∧ NM d.nm ∧ d.wd = 0 ∧ d.od = 0 ∧ d.sg = false ∧ d.ru = 0 ∧ d.f1 = [] ∧ d.l1 = [] ∧ ((d.mn = true ∧ ∃ x, d.ct = some x ∧ WX x) ∨ (d.mn = false ∧ d.ct = none))) ∨
  (d.kd = 1 ∧ d.ty = [] ∧ (∃ t, numOf t = some (d.wd, d.od, d.sg)) ∧ NM d.nm ∧ ((d.mn = true ∧ (∃ x, d.ct = some x ∧ WX x) ∧ d.ru = 0 ∧ d.f1 = [] ∧ d.l1 = []) ∨ (d.mn = false ∧ d.ct = none ∧ WR d)))
def noSub : Its → Bool
  | .nil => true
  | .cons _ _ _ => false
/-- Items that reading tells, so many brackets deep. -/
def WI : Nat → Its → Prop
  | _, .nil => True
  | k, .cons d s t => WD d ∧ (d.kd ≠ 4 → noSub s = true) ∧ (d.kd = 4 → 0 < k ∧ s.len ≤ 16 ∧ WI (k - 1) s) ∧ WI k t
def WT (l : List Ty) : Prop := l.length ≤ 8 ∧ ∀ t ∈ l, NM t.nm ∧ t.l.len ≤ 16 ∧ WI 7 t.l
end Go.Proofs.YtpanodaecjlgaaaGreatDoor.tm
/- Templates, written: their tokens (pure). -/
namespace Go.Proofs.YtpanodaecjlgaaaGreatDoor.tm
set_option linter.unusedVariables false
open lx ex

/-- The tokens of a text, whatever stands behind it. -/
def CutF (t : List UInt8) (l : List (List UInt8)) : Prop := ∀ (y : List UInt8) (a : Nat), ∃ us : List Tk, us.map Tk.t = l ∧ lx (t ++ y) a = (us ++ (lx y (a + t.length)).1, (lx y (a + t.length)).2)
theorem CutF.cut {t : List UInt8} {l : List (List UInt8)} (h : CutF t l) : Cut t l := fun y a _ => h y a
theorem CutF.nil : CutF [] [] := fun y a => ⟨[], rfl, by simp⟩
theorem CutF.app {t u : List UInt8} {l m : List (List UInt8)} (h : CutF t l) (k : CutF u m) : CutF (t ++ u) (l ++ m) := by
  intro y a
  obtain ⟨us, h1, h2⟩ := h (u ++ y) a
  obtain ⟨vs, k1, k2⟩ := k y (a + t.length)
  refine ⟨us ++ vs, by simp [h1, k1], ?_⟩
  rw [List.append_assoc, h2, k2, List.length_append, Nat.add_assoc]
  simp
theorem CutF.then {t u : List UInt8} {l m : List (List UInt8)} (h : CutF t l) (k : Cut u m) : Cut (t ++ u) (l ++ m) := by
  intro y a hy
  obtain ⟨us, h1, h2⟩ := h (u ++ y) a
  obtain ⟨vs, k1, k2⟩ := k y (a + t.length) hy
  refine ⟨us ++ vs, by simp [h1, k1], ?_⟩
  rw [List.append_assoc, h2, k2, List.length_append, Nat.add_assoc]
  simp
end Go.Proofs.YtpanodaecjlgaaaGreatDoor.tm
namespace Go.Proofs.YtpanodaecjlgaaaGreatDoor.ex
open lx tm
theorem Cut.then {t : List UInt8} {c : UInt8} {u : List UInt8} {l m : List (List UInt8)} (h : Cut t l) (hc : isW c = false) (k : Cut (c :: u) m) : Cut (t ++ (c :: u)) (l ++ m) := by
  intro y a hy
  obtain ⟨us, h1, h2⟩ := h ((c :: u) ++ y) a (fun d hd => by simp at hd; rw [← hd]; exact hc)
  obtain ⟨vs, k1, k2⟩ := k y (a + t.length) hy
  refine ⟨us ++ vs, by simp [h1, k1], ?_⟩
  rw [List.append_assoc, h2, k2, List.length_append, Nat.add_assoc]
  simp
end Go.Proofs.YtpanodaecjlgaaaGreatDoor.ex
namespace Go.Proofs.YtpanodaecjlgaaaGreatDoor.tm
open lx ex
theorem mn_some {d : D} (h : WD d) (h4 : d.kd ≠ 4) (hm : d.mn = true ∨ d.kd = 2) : ∃ x, d.ct = some x ∧ WX x := by
  rcases h with h | h | h | h
  · exact absurd h.1 h4
  · exact h.2.2.1
  · rcases h.2.2.2.2.2.2.2.2.2 with h' | h'
    · exact h'.2
    · exfalso
      rcases hm with hm | hm
      · rw [h'.1] at hm; cases hm
      · rw [h.1] at hm; cases hm
  · rcases h.2.2.2.2 with h' | h'
    · exact h'.2.1
    · exfalso
      rcases hm with hm | hm
      · rw [h'.1] at hm; cases hm
      · rw [h.1] at hm; cases hm
theorem ru_wr {d : D} (h : WD d) (hr : d.ru ≠ 0) : WR d ∧ d.kd = 1 ∧ d.mn = false ∧ d.ct = none := by
  rcases h with h | h | h | h
  · exact absurd h.2.2.2.2.1 hr
  · exact absurd h.2.2.2.2.1 hr
  · exact absurd h.2.2.2.2.2.2.1 hr
  · rcases h.2.2.2.2 with h' | h'
    · exact absurd h'.2.2.1 hr
    · exact ⟨h'.2.2, h.1, h'.1, h'.2.1⟩
theorem wd_nm {d : D} (h : WD d) (h4 : d.kd ≠ 4) : NM d.nm := by
  rcases h with h | h | h | h
  · exact absurd h.1 h4
  · exact h.2.1
  · exact h.2.2.1
  · exact h.2.2.2.1
end Go.Proofs.YtpanodaecjlgaaaGreatDoor.tm
/- Templates: what reading tells; what is written is read (pure). -/
namespace Go.Proofs.YtpanodaecjlgaaaGreatDoor.tm
set_option linter.unusedVariables false
open lx ex
section
variable {en : Nat}
def TS (ts : List Tk) : Prop := ∀ t ∈ ts, IsT t.t
/-- What is left was there. -/
def Sb_ (r ts : List Tk) : Prop := ∀ t ∈ r, t ∈ ts
theorem Sb_.trans {a b c : List Tk} (h : Sb_ a b) (k : Sb_ b c) : Sb_ a c := fun t ht => k t (h t ht)
theorem sb_tail (ts : List Tk) : Sb_ ts.tail ts := fun t ht => List.mem_of_mem_tail ht
theorem TS.sb {r ts : List Tk} (h : TS ts) (k : Sb_ r ts) : TS r := fun t ht => h t (k t ht)
theorem name_told {ts r : List Tk} {t : List UInt8} (hT : TS ts) (h : name en ts = .ok (t, r)) : NM t ∧ Sb_ r ts := by
  unfold name at h
  split at h
  · cases h
  · rename_i h1
    split at h
    · cases h
    · rename_i h2
      injection h with h
      injection h with h3 h4
      subst h3 h4
      have n1 : isN (hd en ts).t = true := by
        cases hn : isN (hd en ts).t with
        | true => rfl
        | false => exact absurd (Or.inr hn) h1
      have n2 : resv (hd en ts).t = false := by
        cases hr : resv (hd en ts).t with
        | false => rfl
        | true => exact absurd (Or.inl hr) h1
      refine ⟨⟨n2, n1, by omega, ?_⟩, sb_tail ts⟩
      cases ts with
      | nil => exact absurd n1 (by show ¬ isN [] = true; decide)
      | cons u us => exact (word_of (hT u (by simp)) n1).1
theorem rx_told {m : List UInt8} {ts r : List Tk} {x : Ex} (hT : TS ts) (h : rx nb en m ts = .ok (x, r)) : WX x ∧ Sb_ r ts := by
  obtain ⟨h1, _⟩ := rx_is h
  obtain ⟨w1, w2⟩ := (told_all (dec := Lib.itoa) told_hdec _).1 _ _ _ _ _ (by omega) (by omega) (by omega) h1
  obtain ⟨n1, _⟩ := (nw_all _).1 _ _ _ _ _ hT h1
  rw [sd_one w1.okb] at w2
  exact ⟨⟨w1, n1, by omega⟩, (mem_all _).1 _ _ _ _ _ h1⟩
theorem want_told {m : List UInt8} {ts r : List Tk} (h : want en m ts = .ok r) : Sb_ r ts := by
  unfold want at h
  split at h
  · injection h with h; rw [← h]; exact sb_tail ts
  · cases h
theorem many_told {ts r : List Tk} {x : Ex} (hT : TS ts) (h : many nb en ts = .ok (x, r)) : WX x ∧ Sb_ r ts := by
  unfold many at h
  split at h
  · cases h
  · rename_i r1 h1
    split at h
    · cases h
    · rename_i x1 r2 h2
      injection h with h
      injection h with h3 h4
      subst h3 h4
      have s1 := want_told h1
      obtain ⟨w, s2⟩ := rx_told (hT.sb s1) h2
      exact ⟨w, (sb_tail _).trans (s2.trans s1)⟩
theorem rule_told {d e : D} {ts r : List Tk} (hT : TS ts) (h : rule en d ts = .ok (e, r)) (h0 : d.ru = 0 ∧ d.f1 = [] ∧ d.l1 = []) : WR e ∧ e.kd = d.kd ∧ e.nm = d.nm ∧ e.ty = d.ty ∧ e.wd = d.wd ∧ e.od = d.od ∧ e.sg = d.sg ∧ e.mn = d.mn ∧ e.ct = d.ct ∧ Sb_ r ts := by
  unfold rule at h
  split at h
  · cases h
  · rename_i h1
    have hru : ruleOf (hd en ts).t = 1 ∨ ruleOf (hd en ts).t = 2 ∨ ruleOf (hd en ts).t = 3 := by
      unfold ruleOf at h1 ⊢
      split
      · exact Or.inl rfl
      · split
        · exact Or.inr (Or.inl rfl)
        · split
          · exact Or.inr (Or.inr rfl)
          · rename_i a b c; rw [if_neg a, if_neg b, if_neg c] at h1; exact absurd rfl h1
    split at h
    · cases h
    · rename_i a r1 h2
      obtain ⟨n1, s1⟩ := name_told (hT.sb (sb_tail ts)) h2
      have s1' := s1.trans (sb_tail ts)
      split at h
      · rename_i h3
        split at h
        · injection h with h; injection h with h4 h5; subst h4 h5
          exact ⟨Or.inr (Or.inr ⟨rfl, n1, n1⟩), rfl, rfl, rfl, rfl, rfl, rfl, rfl, rfl, s1'⟩
        · split at h
          · cases h
          · rename_i b r2 h4
            obtain ⟨n2, s2⟩ := name_told (hT.sb s1') h4
            injection h with h; injection h with h5 h6; subst h5 h6
            exact ⟨Or.inr (Or.inr ⟨rfl, n1, n2⟩), rfl, rfl, rfl, rfl, rfl, rfl, rfl, rfl, s2.trans s1'⟩
      · rename_i h3
        injection h with h; injection h with h4 h5; subst h4 h5
        refine ⟨Or.inr (Or.inl ⟨?_, n1, h0.2.2⟩), rfl, rfl, rfl, rfl, rfl, rfl, rfl, rfl, s1'⟩
        show ruleOf (hd en ts).t = 1 ∨ ruleOf (hd en ts).t = 2
        omega
theorem part_told {ts r : List Tk} {e : D} (hT : TS ts) (h : part nb en ts = .ok (e, r)) : WD e ∧ e.kd ≠ 4 ∧ Sb_ r ts := by
  cases hk : kind en ts with
  | error e' => unfold part at h; rw [hk] at h; cases h
  | ok dr =>
    obtain ⟨d1, r1⟩ := dr
    unfold part at h
    rw [hk] at h
    dsimp only at h
    have hd1 : ((d1 = { D0 with kd := 1, wd := d1.wd, od := d1.od, sg := d1.sg } ∧ ∃ t, numOf t = some (d1.wd, d1.od, d1.sg)) ∨ (d1 = { D0 with kd := 3, ty := d1.ty } ∧ NM d1.ty)) ∧ Sb_ r1 ts := by
      unfold kind at hk
      split at hk
      · rename_i w o s hn
        injection hk with hk; injection hk with h1 h2; subst h1 h2
        exact ⟨Or.inl ⟨rfl, _, hn⟩, sb_tail ts⟩
      · split at hk
        · cases hk
        · rename_i t r' hn
          obtain ⟨n1, s1⟩ := name_told hT hn
          injection hk with hk; injection hk with h1 h2; subst h1 h2
          exact ⟨Or.inr ⟨rfl, n1⟩, s1⟩
    obtain ⟨hd1, s1⟩ := hd1
    have k4 : d1.kd ≠ 4 := by
      rcases hd1 with ⟨e1, _⟩ | ⟨e1, _⟩
      · have := congrArg D.kd e1
        rw [this]; show (1 : Nat) ≠ 4; decide
      · have := congrArg D.kd e1
        rw [this]; show (3 : Nat) ≠ 4; decide
    split at h
    · cases h
    · rename_i t r2 h2
      obtain ⟨n2, s2⟩ := name_told (hT.sb s1) h2
      have s2' := s2.trans s1
      split at h
      · cases h
      · rename_i d3 r3 h3
        split at h
        · cases h
        · rename_i r4 h4
          injection h with h; injection h with h5 h6; subst h5 h6
          have s4 := want_told h4
          unfold mark at h3
          split at h3
          · split at h3
            · cases h3
            · rename_i x r5 h5
              obtain ⟨w5, s5⟩ := many_told (hT.sb s2') h5
              injection h3 with h3; injection h3 with h6 h7; subst h6 h7
              refine ⟨?_, k4, s4.trans (s5.trans s2')⟩
              · rcases hd1 with ⟨e1, e2⟩ | ⟨e1, e2⟩
                · rw [e1]; exact Or.inr (Or.inr (Or.inr ⟨rfl, rfl, e2, n2, Or.inl ⟨rfl, ⟨x, rfl, w5⟩, rfl, rfl, rfl⟩⟩))
                · rw [e1]; exact Or.inr (Or.inr (Or.inl ⟨rfl, e2, n2, rfl, rfl, rfl, rfl, rfl, rfl, Or.inl ⟨rfl, x, rfl, w5⟩⟩))
          · split at h3
            · rename_i hc
              have hkd : d1.kd = 1 := hc.2
              rcases hd1 with ⟨e1, e2⟩ | ⟨e1, e2⟩
              · obtain ⟨w, f1, f2, f3, f4, f5, f6, f7, f8, s5⟩ := rule_told (hT.sb ((sb_tail _).trans s2')) h3 (by rw [e1]; exact ⟨rfl, rfl, rfl⟩)
                refine ⟨Or.inr (Or.inr (Or.inr ⟨by rw [f1]; exact hkd, by rw [f3, e1]; rfl, ?_, by rw [f2]; exact n2, Or.inr ⟨by rw [f7, e1]; rfl, by rw [f8, e1]; rfl, w⟩⟩)), by rw [f1]; exact k4, s4.trans (s5.trans ((sb_tail _).trans s2'))⟩
                rw [f4, f5, f6]; exact e2
              · rw [e1] at hkd; exact absurd hkd (by show ¬ (3 : Nat) = 1; decide)
            · injection h3 with h3; injection h3 with h6 h7; subst h6 h7
              refine ⟨?_, k4, s4.trans s2'⟩
              · rcases hd1 with ⟨e1, e2⟩ | ⟨e1, e2⟩
                · rw [e1]; exact Or.inr (Or.inr (Or.inr ⟨rfl, rfl, e2, n2, Or.inr ⟨rfl, rfl, Or.inl ⟨rfl, rfl, rfl⟩⟩⟩))
                · rw [e1]; exact Or.inr (Or.inr (Or.inl ⟨rfl, e2, n2, rfl, rfl, rfl, rfl, rfl, rfl, Or.inr ⟨rfl, rfl⟩⟩))
theorem byts_told {ts r : List Tk} {e : D} (hT : TS ts) (h : byts nb en ts = .ok (e, r)) : WD e ∧ e.kd ≠ 4 ∧ Sb_ r ts := by
  unfold byts at h
  split at h
  · cases h
  · rename_i t r1 h1
    obtain ⟨n1, s1⟩ := name_told hT h1
    split at h
    · cases h
    · rename_i x r2 h2
      obtain ⟨w2, s2⟩ := many_told (hT.sb s1) h2
      split at h
      · cases h
      · rename_i r3 h3
        injection h with h; injection h with h4 h5; subst h4 h5
        exact ⟨Or.inr (Or.inl ⟨rfl, n1, ⟨x, rfl, w2⟩, rfl, rfl, rfl, rfl, rfl, rfl, rfl, rfl⟩), by show (2 : Nat) ≠ 4; decide, (want_told h3).trans (s2.trans s1)⟩
/-- Where an item stands is nothing to it. -/
theorem wd_at {d : D} (h : WD d) (a : Nat) : WD { d with at_ := a } := h
theorem item_told {k : Nat} {ts r : List Tk} {d : D} {s : Its} (hT : TS ts) (hi : ∀ ts l r, TS ts → blk nb en k ts = .ok (l, r) → 0 < k ∧ l.len ≤ 16 ∧ WI (k - 1) l ∧ Sb_ r ts) (h : item nb en (blk nb en k) ts = .ok ((d, s), r)) : WD d ∧ (d.kd ≠ 4 → noSub s = true) ∧ (d.kd = 4 → 0 < k ∧ s.len ≤ 16 ∧ WI (k - 1) s) ∧ Sb_ r ts := by
  unfold item at h
  split at h
  · split at h
    · cases h
    · rename_i x r1 h1
      obtain ⟨w1, s1⟩ := rx_told (hT.sb (sb_tail ts)) h1
      have s1' := s1.trans (sb_tail ts)
      split at h
      · cases h
      · rename_i l r2 h2
        obtain ⟨g1, g2, g3, g4⟩ := hi _ _ _ (hT.sb s1') h2
        injection h with h; injection h with h3 h4; injection h3 with h5 h6; subst h5 h6 h4
        exact ⟨Or.inl ⟨rfl, ⟨x, rfl, w1⟩, rfl, rfl, rfl, rfl, rfl, rfl, rfl, rfl, rfl⟩, fun hn => absurd rfl hn, fun _ => ⟨g1, g2, g3⟩, g4.trans s1'⟩
  · split at h
    · split at h
      · cases h
      · rename_i d1 r1 h1
        obtain ⟨w1, w2, s1⟩ := byts_told (hT.sb (sb_tail ts)) h1
        injection h with h; injection h with h3 h4; injection h3 with h5 h6; subst h5 h6 h4
        exact ⟨wd_at w1 _, fun _ => rfl, fun h4 => absurd h4 w2, s1.trans (sb_tail ts)⟩
    · split at h
      · cases h
      · rename_i d1 r1 h1
        obtain ⟨w1, w2, s1⟩ := part_told hT h1
        injection h with h; injection h with h3 h4; injection h3 with h5 h6; subst h5 h6 h4
        exact ⟨wd_at w1 _, fun _ => rfl, fun h4 => absurd h4 w2, s1⟩
theorem loop_told {k : Nat} (hi : ∀ ts l r, TS ts → blk nb en k ts = .ok (l, r) → 0 < k ∧ l.len ≤ 16 ∧ WI (k - 1) l ∧ Sb_ r ts) (n : Nat) : ∀ (ts : List Tk) (l : Its) (r : List Tk), TS ts → loop nb en (blk nb en k) n ts = .ok (l, r) → l.len ≤ n ∧ WI k l ∧ Sb_ r ts := by
  induction n with
  | zero =>
    intro ts l r hT h
    rw [loop] at h
    split at h
    · injection h with h; injection h with h1 h2; subst h1 h2
      exact ⟨Nat.le_refl _, trivial, sb_tail ts⟩
    · cases h
  | succ n ih =>
    intro ts l r hT h
    rw [loop] at h
    split at h
    · injection h with h; injection h with h1 h2; subst h1 h2
      exact ⟨Nat.zero_le _, trivial, sb_tail ts⟩
    · split at h
      · cases h
      · rename_i d s r1 h1
        obtain ⟨g1, g2, g3, s1⟩ := item_told hT hi h1
        split at h
        · cases h
        · rename_i l1 r2 h2
          obtain ⟨k1, k2, s2⟩ := ih _ _ _ (hT.sb s1) h2
          injection h with h; injection h with h3 h4; subst h3 h4
          exact ⟨by show l1.len + 1 ≤ n + 1; omega, ⟨g1, g2, g3, k2⟩, s2.trans s1⟩
theorem blk_told (k : Nat) : ∀ (ts : List Tk) (l : Its) (r : List Tk), TS ts → blk nb en k ts = .ok (l, r) → 0 < k ∧ l.len ≤ 16 ∧ WI (k - 1) l ∧ Sb_ r ts := by
  induction k with
  | zero =>
    intro ts l r hT h
    rw [blk] at h
    split at h <;> cases h
  | succ k ih =>
    intro ts l r hT h
    rw [blk] at h
    split at h
    · obtain ⟨g1, g2, g3⟩ := loop_told ih 16 _ _ _ (hT.sb (sb_tail ts)) h
      exact ⟨Nat.succ_pos _, g1, g2, g3.trans (sb_tail ts)⟩
    · cases h
theorem typs_told (n : Nat) : ∀ (ts : List Tk) (l : List Ty), TS ts → typs nb en n ts = .ok l → l.length ≤ n ∧ ∀ t ∈ l, NM t.nm ∧ t.l.len ≤ 16 ∧ WI 7 t.l := by
  induction n with
  | zero =>
    intro ts l hT h
    cases ts with
    | nil => cases h; exact ⟨Nat.le_refl _, fun t ht => by cases ht⟩
    | cons t r => rw [typs] at h; split at h <;> cases h
  | succ n ih =>
    intro ts l hT h
    cases ts with
    | nil => cases h; exact ⟨Nat.zero_le _, fun t ht => by cases ht⟩
    | cons t r =>
      have hT' : TS r := fun u hu => hT u (by simp [hu])
      rw [typs] at h
      split at h
      · split at h
        · cases h
        · rename_i m r1 h1
          obtain ⟨n1, s1⟩ := name_told hT' h1
          split at h
          · cases h
          · rename_i it r2 h2
            obtain ⟨_, g2, g3, s2⟩ := blk_told 8 _ _ _ (hT'.sb s1) h2
            split at h
            · cases h
            · rename_i q h3
              obtain ⟨k1, k2⟩ := ih _ _ (hT'.sb (s2.trans s1)) h3
              injection h with h
              subst h
              refine ⟨by simp; omega, fun u hu => ?_⟩
              rw [List.mem_cons] at hu
              rcases hu with rfl | hu
              · exact ⟨n1, g2, g3⟩
              · exact k2 u hu
      · cases h
end
end Go.Proofs.YtpanodaecjlgaaaGreatDoor.tm
