/- Texts laid together: TmC, TmS, TmW, TmX, TmY. -/
import Derived.Test.YtococaecjecjgaaGreatDoorXLayoutBack9
import Derived.Test.YtococaecjecjgaaGreatDoorXLayoutBack2
/- Templates: what is wrong with them; in which order rules are done (pure). -/
namespace Go.Proofs.YtococaecjecjgaaGreatDoor.tm
set_option linter.unusedVariables false
open lx ex

/-- Where a name stands that isn't seen. -/
def mis (seen : List (List UInt8)) : Ex → Option Nat
  | .num _ _ => none
  | .nam a t => if t ∈ seen then none else some a
  | .bin _ _ l r => match mis seen l with
    | some p => some p
    | none => mis seen r
def misO (seen : List (List UInt8)) : Option Ex → Option Nat
  | none => none
  | some x => mis seen x
def Its.ds : Its → List D
  | .nil => []
  | .cons d _ t => d :: t.ds
theorem Its.ds_len (l : Its) : l.ds.length = l.len := by
  induction l with
  | nil => rfl
  | cons d s t _ ih => show t.ds.length + 1 = t.len + 1; rw [ih]
/-- The item that is called so. -/
def nmd (ds : List D) (t : List UInt8) : Option Nat := ds.findIdx? (fun d => d.nm == t)
/-- The first and the last one on which a rule hangs. -/
def ends (ds : List D) (d : D) : Option Nat × Option Nat := (nmd ds d.f1, if d.ru = 3 then nmd ds d.l1 else nmd ds d.f1)
/-- A rule that is wrong. -/
def ruleW (ds : List D) (i : Nat) (d : D) : Option (Int × Nat) :=
  if d.ru = 0 then none
  else match ends ds d with
    | (some a, some b) =>
      if d.ru = 2 ∧ (ds[a]?.map (·.mn)) ≠ some true then some (13, d.at_)
      else if d.ru = 3 ∧ (d.wd ≠ 4 ∨ d.sg = true) then some (13, d.at_)
      else if b < a then some (10, d.at_)
      else if a ≤ i ∧ i ≤ b then some (6, d.at_)
      else none
    | _ => some (7, d.at_)
def isC (ds : List D) (k : Nat) : Bool := ds[k]?.map (·.ru) == some 3
/-- From one number to another one. -/
def upTo (a b : Nat) : List Nat := (List.range (b + 1)).drop a
/-- The Checks over which a Check's sum is taken. -/
def under (ds : List D) (i : Nat) : List Nat :=
  match ds[i]? with
  | none => []
  | some d => match ends ds d with
    | (some a, some b) => (upTo a b).filter (isC ds)
    | _ => []
/-- Whether one comes to one of them. -/
def bfs (ds : List D) (to : Nat) : Nat → List Nat → List Nat → Option Bool
  | 0, _, _ => none
  | _ + 1, _, [] => some false
  | f + 1, met, j :: r => if j = to then some true else if j ∈ met then bfs ds to f met r else bfs ds to f (j :: met) (r ++ under ds j)
def rnd (ds : List D) (i : Nat) : Bool := (bfs ds i ((ds.length + 1) * (ds.length + 1) + ds.length + 2) [] (under ds i)) == some true
/-- The first wrong one. -/
def firstW (g : Nat → D → Option (Int × Nat)) : Nat → List D → Option (Int × Nat)
  | _, [] => none
  | i, d :: r => match g i d with
    | some e => some e
    | none => firstW g (i + 1) r
def cycW (ds : List D) (i : Nat) (d : D) : Option (Int × Nat) := if d.ru = 3 ∧ rnd ds i = true then some (11, d.at_) else none
def rulesW (ds : List D) : Option (Int × Nat) :=
  match firstW (ruleW ds) 0 ds with
  | some e => some e
  | none => firstW (cycW ds) 0 ds
/-- A part that has a name. -/
def itemW (earl names seen : List (List UInt8)) (d : D) : Option (Int × Nat) :=
  if d.nm ∈ names then some (9, d.at_)
  else if d.kd = 3 ∧ d.ty ∉ earl then some (7, d.at_)
  else (misO seen d.ct).map fun p => (5, p)
/-- Parts, one behind the other: what is called so, behind them. -/
def chkI (earl : List (List UInt8)) : Its → List (List UInt8) → List (List UInt8) → Except (Int × Nat) (List (List UInt8))
  | .nil, names, _ => .ok names
  | .cons d s t, names, seen =>
    if d.kd = 4 then
      match misO seen d.ct with
      | some p => .error (5, p)
      | none => match chkI earl s names seen with
        | .error e => .error e
        | .ok names' => match rulesW s.ds with
          | some e => .error e
          | none => chkI earl t names' seen
    else match itemW earl names seen d with
      | some e => .error e
      | none => chkI earl t (d.nm :: names) (if d.kd = 1 ∧ d.mn = false then d.nm :: seen else seen)
def chkB (earl : List (List UInt8)) (l : Its) (names seen : List (List UInt8)) : Except (Int × Nat) (List (List UInt8)) :=
  match chkI earl l names seen with
  | .error e => .error e
  | .ok names' => match rulesW l.ds with
    | some e => .error e
    | none => .ok names'
/-- Structs. -/
def chkT : List (List UInt8) → List Ty → Option (Int × Nat)
  | _, [] => none
  | earl, t :: r =>
    if t.nm ∈ earl then some (9, t.at_)
    else match chkB earl t.l [] [] with
      | .error e => some e
      | .ok _ => chkT (t.nm :: earl) r
def chk (l : List Ty) : Option (Int × Nat) := chkT [] l
/-- The order of rules. -/
def ready (ds : List D) (checks : List Nat) (i : Nat) : Bool := !((under ds i).any (fun j => checks.contains j))
/- With other names. -/
section
variable {ρ : List UInt8 → List UInt8}
/-- What is told, but for where. -/
def code (o : Option (Int × Nat)) : Option Int := o.map (·.1)
def codeE {α : Type} (o : Except (Int × Nat) α) : Option Int := match o with | .error e => some e.1 | .ok _ => none
/-- Unlike names are unlike. -/
def Inj (ρ : List UInt8 → List UInt8) : Prop := ∀ a b, ρ a = ρ b → a = b
theorem mem_ren (h : Inj ρ) (t : List UInt8) (l : List (List UInt8)) : ρ t ∈ l.map ρ ↔ t ∈ l := by
  constructor
  · intro hm
    obtain ⟨u, h1, h2⟩ := List.mem_map.1 hm
    rw [← h _ _ h2]; exact h1
  · exact List.mem_map_of_mem
theorem mis_ren (h : Inj ρ) (seen : List (List UInt8)) {x y : Ex} (hx : Rx ρ x y) : (mis (seen.map ρ) y).isSome = (mis seen x).isSome := by
  induction hx with
  | num => rfl
  | nam a b t =>
    rw [mis, mis]
    by_cases hm : t ∈ seen
    · rw [if_pos hm, if_pos ((mem_ren h t seen).2 hm)]
    · rw [if_neg hm, if_neg (fun hc => hm ((mem_ren h t seen).1 hc))]; rfl
  | bin a b o l l' r r' hl hr il ir =>
    rw [mis, mis]
    cases e1 : mis seen l with
    | some p =>
      rw [e1] at il
      cases e2 : mis (seen.map ρ) l' with
      | some q => rfl
      | none => rw [e2] at il; cases il
    | none =>
      rw [e1] at il
      cases e2 : mis (seen.map ρ) l' with
      | some q => rw [e2] at il; cases il
      | none => exact ir
theorem misO_ren (h : Inj ρ) (seen : List (List UInt8)) {x y : Option Ex} (hx : RO ρ x y) : (misO (seen.map ρ) y).isSome = (misO seen x).isSome := by
  cases hx with
  | none => rfl
  | some hx => exact mis_ren h seen hx
/-- Parts' data. -/
inductive RL (ρ : List UInt8 → List UInt8) : List D → List D → Prop
  | nil : RL ρ [] []
  | cons {d d' : D} {l l' : List D} : RD ρ d d' → RL ρ l l' → RL ρ (d :: l) (d' :: l')
theorem RI.ds {l l' : Its} (h : RI ρ l l') : RL ρ l.ds l'.ds := by
  induction h with
  | nil => exact RL.nil
  | cons hd _ _ _ ih => exact RL.cons hd ih
theorem RL.len {l l' : List D} (h : RL ρ l l') : l'.length = l.length := by
  induction h with
  | nil => rfl
  | cons _ _ ih => simp [ih]
theorem RL.get {l l' : List D} (h : RL ρ l l') (k : Nat) : (l[k]? = none ∧ l'[k]? = none) ∨ ∃ d d', l[k]? = some d ∧ l'[k]? = some d' ∧ RD ρ d d' := by
  induction h generalizing k with
  | nil => exact Or.inl ⟨by simp, by simp⟩
  | cons hd hl ih =>
    cases k with
    | zero => exact Or.inr ⟨_, _, rfl, rfl, hd⟩
    | succ k => simpa using ih k
theorem nmd_ren (h : Inj ρ) {l l' : List D} (hl : RL ρ l l') (t : List UInt8) : nmd l' (ρ t) = nmd l t := by
  unfold nmd
  induction hl with
  | nil => rfl
  | cons hd _ ih =>
    rename_i d d' l l' _
    rw [List.findIdx?_cons, List.findIdx?_cons, ih]
    have e : (d'.nm == ρ t) = (d.nm == t) := by
      rw [hd.nm, Bool.eq_iff_iff, beq_iff_eq, beq_iff_eq]
      exact ⟨fun e => h _ _ e, fun e => by rw [e]⟩
    rw [e]
theorem ends_ren (h : Inj ρ) {l l' : List D} (hl : RL ρ l l') {d d' : D} (hd : RD ρ d d') : ends l' d' = ends l d := by
  unfold ends
  rw [hd.f1, hd.l1, hd.ru, nmd_ren h hl, nmd_ren h hl]
theorem isC_ren {l l' : List D} (hl : RL ρ l l') (k : Nat) : isC l' k = isC l k := by
  unfold isC
  rcases hl.get k with ⟨h1, h2⟩ | ⟨d, d', h1, h2, hd⟩
  · rw [h1, h2]
  · rw [h1, h2]
    show (some d'.ru == some 3) = (some d.ru == some 3)
    rw [hd.ru]
theorem under_ren (h : Inj ρ) {l l' : List D} (hl : RL ρ l l') (i : Nat) : under l' i = under l i := by
  unfold under
  have e : isC l' = isC l := funext (isC_ren hl)
  rcases hl.get i with ⟨h1, h2⟩ | ⟨d, d', h1, h2, hd⟩
  · rw [h1, h2]
  · rw [h1, h2]
    dsimp only
    rw [ends_ren h hl hd, e]
theorem bfs_ren (h : Inj ρ) {l l' : List D} (hl : RL ρ l l') (to f : Nat) : ∀ met todo, bfs l' to f met todo = bfs l to f met todo := by
  induction f with
  | zero => intro met todo; rfl
  | succ f ih =>
    intro met todo
    cases todo with
    | nil => rfl
    | cons j r =>
      rw [bfs, bfs, under_ren h hl]
      split
      · rfl
      · split
        · exact ih _ _
        · exact ih _ _
theorem rnd_ren (h : Inj ρ) {l l' : List D} (hl : RL ρ l l') (i : Nat) : rnd l' i = rnd l i := by
  unfold rnd
  rw [under_ren h hl, hl.len, bfs_ren h hl]
theorem code_if {c c' : Prop} [Decidable c] [Decidable c'] (hc : c ↔ c') {k : Int} {p q : Nat} {x y : Option (Int × Nat)} (h : code x = code y) : code (if c then some (k, p) else x) = code (if c' then some (k, q) else y) := by
  by_cases h1 : c
  · rw [if_pos h1, if_pos (hc.1 h1)]; rfl
  · rw [if_neg h1, if_neg (fun h2 => h1 (hc.2 h2))]; exact h
theorem ruleW_ren (h : Inj ρ) {l l' : List D} (hl : RL ρ l l') (i : Nat) {d d' : D} (hd : RD ρ d d') : code (ruleW l' i d') = code (ruleW l i d) := by
  unfold ruleW
  rw [hd.ru, ends_ren h hl hd]
  by_cases h0 : d.ru = 0
  · rw [if_pos h0, if_pos h0]
  · rw [if_neg h0, if_neg h0]
    split
    · rename_i a b hab
      have e : (l'[a]?.map (·.mn)) = (l[a]?.map (·.mn)) := by
        rcases hl.get a with ⟨h1, h2⟩ | ⟨x, x', h1, h2, hx⟩
        · rw [h1, h2]
        · rw [h1, h2]
          show some x'.mn = some x.mn
          rw [hx.mn]
      rw [e, hd.wd, hd.sg]
      refine code_if Iff.rfl (code_if Iff.rfl (code_if Iff.rfl (code_if Iff.rfl rfl)))
    · rfl
theorem firstW_ren {g g' : Nat → D → Option (Int × Nat)} (hg : ∀ i d d', RD ρ d d' → code (g' i d') = code (g i d)) {l l' : List D} (hl : RL ρ l l') : ∀ i, code (firstW g' i l') = code (firstW g i l) := by
  induction hl with
  | nil => intro i; rfl
  | cons hd _ ih =>
    rename_i d d' l l' _
    intro i
    have e := hg i _ _ hd
    rw [firstW, firstW]
    cases h1 : g i d with
    | some x =>
      rw [h1] at e
      cases h2 : g' i d' with
      | some y => rw [h2] at e; exact e
      | none => rw [h2] at e; cases e
    | none =>
      rw [h1] at e
      cases h2 : g' i d' with
      | some y => rw [h2] at e; cases e
      | none => exact ih _
theorem code_none {o o' : Option (Int × Nat)} (h : code o' = code o) : (o = none ↔ o' = none) := by
  cases o <;> cases o' <;> simp_all [code]
theorem rulesW_ren (h : Inj ρ) {l l' : List D} (hl : RL ρ l l') : code (rulesW l') = code (rulesW l) := by
  have e1 := firstW_ren (g := ruleW l) (g' := ruleW l') (fun i d d' hd => ruleW_ren h hl i hd) hl 0
  have e2 := firstW_ren (g := cycW l) (g' := cycW l') (fun i d d' hd => by
    unfold cycW
    rw [hd.ru, rnd_ren h hl]
    exact code_if Iff.rfl rfl) hl 0
  unfold rulesW
  cases h1 : firstW (ruleW l) 0 l with
  | some x =>
    rw [h1] at e1
    cases h2 : firstW (ruleW l') 0 l' with
    | some y => rw [h2] at e1; exact e1
    | none => rw [h2] at e1; cases e1
  | none =>
    rw [h1] at e1
    cases h2 : firstW (ruleW l') 0 l' with
    | some y => rw [h2] at e1; cases e1
    | none => exact e2
theorem itemW_ren (h : Inj ρ) (earl names seen : List (List UInt8)) {d d' : D} (hd : RD ρ d d') : code (itemW (earl.map ρ) (names.map ρ) (seen.map ρ) d') = code (itemW earl names seen d) := by
  unfold itemW
  rw [hd.nm, hd.ty, hd.kd]
  refine code_if (mem_ren h _ _) (code_if ?_ ?_)
  · rw [mem_ren h]
  · have := misO_ren h seen hd.ct
    cases h1 : misO seen d.ct <;> cases h2 : misO (seen.map ρ) d'.ct <;> rw [h1, h2] at this <;> first | rfl | cases this
/-- Both are as right. -/
def SameE (a b : Except (Int × Nat) (List (List UInt8))) (ρ : List UInt8 → List UInt8) : Prop :=
  (∃ e e', a = .error e ∧ b = .error e' ∧ e'.1 = e.1) ∨ ∃ n, a = .ok n ∧ b = .ok (n.map ρ)
theorem chkI_ren (h : Inj ρ) (earl : List (List UInt8)) {l l' : Its} (hl : RI ρ l l') : ∀ names seen, SameE (chkI earl l names seen) (chkI (earl.map ρ) l' (names.map ρ) (seen.map ρ)) ρ := by
  induction hl with
  | nil => intro names seen; exact Or.inr ⟨names, rfl, rfl⟩
  | cons hd hs ht is it =>
    rename_i d d' s s' t t'
    intro names seen
    rw [chkI, chkI, hd.kd]
    by_cases h4 : d.kd = 4
    · rw [if_pos h4, if_pos h4]
      have em := misO_ren h seen hd.ct
      cases h1 : misO seen d.ct with
      | some p =>
        rw [h1] at em
        cases h2 : misO (seen.map ρ) d'.ct with
        | some q => exact Or.inl ⟨_, _, rfl, rfl, rfl⟩
        | none => rw [h2] at em; cases em
      | none =>
        rw [h1] at em
        cases h2 : misO (seen.map ρ) d'.ct with
        | some q => rw [h2] at em; cases em
        | none =>
          dsimp only
          rcases is names seen with ⟨e, e', g1, g2, g3⟩ | ⟨n, g1, g2⟩
          · rw [g1, g2]; exact Or.inl ⟨_, _, rfl, rfl, g3⟩
          · rw [g1, g2]
            dsimp only
            have er := rulesW_ren h hs.ds
            cases h3 : rulesW s.ds with
            | some x =>
              rw [h3] at er
              cases h5 : rulesW s'.ds with
              | some y =>
                rw [h5] at er
                simp only [code, Option.map_some, Option.some.injEq] at er
                exact Or.inl ⟨_, _, rfl, rfl, er⟩
              | none => rw [h5] at er; cases er
            | none =>
              rw [h3] at er
              cases h5 : rulesW s'.ds with
              | some y => rw [h5] at er; cases er
              | none => exact it n seen
    · rw [if_neg h4, if_neg h4]
      have ei := itemW_ren h earl names seen hd
      cases h1 : itemW earl names seen d with
      | some x =>
        rw [h1] at ei
        cases h2 : itemW (earl.map ρ) (names.map ρ) (seen.map ρ) d' with
        | some y =>
          rw [h2] at ei
          simp only [code, Option.map_some, Option.some.injEq] at ei
          exact Or.inl ⟨_, _, rfl, rfl, ei⟩
        | none => rw [h2] at ei; cases ei
      | none =>
        rw [h1] at ei
        cases h2 : itemW (earl.map ρ) (names.map ρ) (seen.map ρ) d' with
        | some y => rw [h2] at ei; cases ei
        | none =>
          dsimp only
          have := it (d.nm :: names) (if d.kd = 1 ∧ d.mn = false then d.nm :: seen else seen)
          rw [List.map_cons, ← hd.nm] at this
          have e2 : (if d.kd = 1 ∧ d.mn = false then d.nm :: seen else seen).map ρ = (if d.kd = 1 ∧ d'.mn = false then d'.nm :: seen.map ρ else seen.map ρ) := by
            rw [hd.mn, hd.nm]
            split <;> rfl
          rw [e2] at this
          exact this
theorem chkB_ren (h : Inj ρ) (earl : List (List UInt8)) {l l' : Its} (hl : RI ρ l l') : codeE (chkB (earl.map ρ) l' [] []) = codeE (chkB earl l [] []) := by
  unfold chkB
  have hI := chkI_ren h earl hl [] []
  rw [List.map_nil] at hI
  rcases hI with ⟨e, e', g1, g2, g3⟩ | ⟨n, g1, g2⟩
  · rw [g1, g2]; simp [codeE, g3]
  · rw [g1, g2]
    dsimp only
    have er := rulesW_ren h hl.ds
    cases h3 : rulesW l.ds <;> cases h5 : rulesW l'.ds <;> rw [h3, h5] at er
    · rfl
    · cases er
    · cases er
    · simpa [code, codeE] using er
/-- NAMES ARE BUT NAMES. -/
theorem chkT_ren (h : Inj ρ) {l l' : List Ty} (hl : RT ρ l l') : ∀ earl, code (chkT (earl.map ρ) l') = code (chkT earl l) := by
  induction hl with
  | nil => intro earl; rfl
  | cons hn hi _ ih =>
    rename_i t t' l l' _
    intro earl
    rw [chkT, chkT, hn]
    refine code_if (mem_ren h _ _) ?_
    have eb := chkB_ren h earl hi
    cases h1 : chkB earl t.l [] [] with
    | error e =>
      rw [h1] at eb
      cases h2 : chkB (earl.map ρ) t'.l [] [] with
      | error e' => rw [h2] at eb; simpa [code, codeE] using eb
      | ok _ => rw [h2] at eb; cases eb
    | ok n =>
      rw [h1] at eb
      cases h2 : chkB (earl.map ρ) t'.l [] [] with
      | error e' => rw [h2] at eb; cases eb
      | ok _ => exact ih (t.nm :: earl)
theorem chk_ren (h : Inj ρ) {l l' : List Ty} (hl : RT ρ l l') : code (chk l') = code (chk l) := chkT_ren h hl []
end
end Go.Proofs.YtococaecjecjgaaGreatDoor.tm
/- Tokens of a piece of a text, and of two texts; an expression up to a mark (pure). -/
namespace Go.Proofs.YtococaecjecjgaaGreatDoor.tm
set_option linter.unusedVariables false
open lx ex

theorem tw_take (p : UInt8 → Bool) (l : List UInt8) (k : Nat) (h : (l.takeWhile p).length ≤ k) : ((l.take k).takeWhile p).length = (l.takeWhile p).length := by
  induction l generalizing k with
  | nil => simp
  | cons c l ih =>
    by_cases hc : p c = true
    · rw [List.takeWhile_cons_of_pos hc] at h ⊢
      cases k with
      | zero => simp at h
      | succ k =>
        rw [List.take_succ_cons, List.takeWhile_cons_of_pos hc, List.length_cons, List.length_cons, ih k (by simpa using h)]
    · rw [List.takeWhile_cons_of_neg hc]
      cases k with
      | zero => simp
      | succ k => rw [List.take_succ_cons, List.takeWhile_cons_of_neg hc]
theorem gap_take (l : List UInt8) (k : Nat) (hk : 0 < k) (h : gap l ≤ k) : gap (l.take k) = gap l := by
  cases l with
  | nil => simp
  | cons c r =>
    cases k with
    | zero => omega
    | succ k =>
      rw [gap_cons] at h ⊢
      rw [List.take_succ_cons, gap_cons]
      split
      · rfl
      · rename_i h1
        rw [if_neg h1] at h
        split
        · rename_i h2
          rw [if_pos h2] at h
          have := tw_take (· != 10) (c :: r) (k + 1) h
          rw [List.take_succ_cons] at this
          exact this
        · rfl
theorem tl_take (l : List UInt8) (k : Nat) (hk : 0 < k) (h : tl l ≤ k) : tl (l.take k) = tl l := by
  unfold tl at h ⊢
  by_cases hw : wl l = 0
  · rw [if_pos hw] at h ⊢
    have hw' : wl (l.take k) = 0 := by
      have := tw_take isW l k (by show wl l ≤ k; omega)
      show ((l.take k).takeWhile isW).length = 0
      rw [this]; exact hw
    rw [if_pos hw']
    cases l with
    | nil => simp
    | cons c r =>
      cases k with
      | zero => omega
      | succ k =>
        rw [mk_cons] at h ⊢
        rw [List.take_succ_cons, mk_cons]
        by_cases h2 : ((c == 61 || c == 33) && r.head? == some 61) = true
        · rw [if_pos h2] at h ⊢
          rw [if_pos]
          cases r with
          | nil => simp at h2
          | cons e r =>
            cases k with
            | zero => omega
            | succ k => simpa using h2
        · rw [if_neg h2, if_neg]
          intro h3
          apply h2
          cases r with
          | nil => simp at h3
          | cons e r =>
            cases k with
            | zero => simp at h3
            | succ k => simpa using h3
  · rw [if_neg hw] at h ⊢
    have := tw_take isW l k h
    have e : wl (l.take k) = wl l := this
    rw [e, if_neg hw]
/-- Where a token begins a text may be cut. -/
theorem lx_cut (n : Nat) : ∀ (l : List UInt8) (a : Nat) (u v : List Tk), l.length ≤ n → lx l a = (u ++ v, none) →
    a ≤ (hd (a + l.length) v).a ∧ (hd (a + l.length) v).a ≤ a + l.length ∧ lx (l.take ((hd (a + l.length) v).a - a)) a = (u, none) ∧ lx (l.drop ((hd (a + l.length) v).a - a)) (hd (a + l.length) v).a = (v, none) := by
  induction n with
  | zero =>
    intro l a u v hl h
    obtain rfl : l = [] := List.eq_nil_of_length_eq_zero (by omega)
    rw [lx_nil] at h
    injection h with h _
    obtain ⟨rfl, rfl⟩ : u = [] ∧ v = [] := by simpa using h.symm
    simp [hd, lx_nil]
  | succ n ih =>
    intro l a u v hl h
    by_cases h0 : l = []
    · subst h0
      exact ih [] a u v (by simp) h
    by_cases hg : 0 < gap l
    · have hgl := gap_le l
      rw [lx_gap _ _ hg] at h
      obtain ⟨k1, k2, k3, k4⟩ := ih (l.drop (gap l)) (a + gap l) u v (by rw [List.length_drop]; omega) h
      have e : a + gap l + (l.drop (gap l)).length = a + l.length := by rw [List.length_drop]; omega
      rw [e] at k1 k2 k3 k4
      generalize (hd (a + l.length) v).a = p at *
      refine ⟨by omega, k2, ?_, ?_⟩
      · have e2 : gap (l.take (p - a)) = gap l := gap_take l (p - a) (by omega) (by omega)
        rw [lx_gap _ _ (by rw [e2]; exact hg), e2, List.drop_take, show p - a - gap l = p - (a + gap l) by omega]
        exact k3
      · rw [List.drop_drop, show gap l + (p - (a + gap l)) = p - a by omega] at k4
        exact k4
    · by_cases ht : 0 < tl l
      · have htl := tl_le l
        have h' := h
        rw [lx_tok _ _ (by omega) ht] at h
        cases u with
        | nil =>
          injection h with h1 h2
          rw [List.nil_append] at h1
          rw [← h1]
          show a ≤ a ∧ a ≤ a + l.length ∧ lx (l.take (a - a)) a = ([], none) ∧ lx (l.drop (a - a)) a = _
          rw [Nat.sub_self, List.take_zero, List.drop_zero, lx_nil]
          refine ⟨Nat.le_refl _, by omega, rfl, ?_⟩
          rw [h', List.nil_append, h1]
        | cons t u =>
          injection h with h1 h2
          rw [List.cons_append] at h1
          injection h1 with h1 h3
          have h4 : lx (l.drop (tl l)) (a + tl l) = (u ++ v, none) := by
            rw [← h3, ← h2]
          obtain ⟨k1, k2, k3, k4⟩ := ih (l.drop (tl l)) (a + tl l) u v (by rw [List.length_drop]; omega) h4
          have e : a + tl l + (l.drop (tl l)).length = a + l.length := by rw [List.length_drop]; omega
          rw [e] at k1 k2 k3 k4
          generalize (hd (a + l.length) v).a = p at *
          refine ⟨by omega, k2, ?_, ?_⟩
          · have e1 : gap (l.take (p - a)) = 0 := by rw [gap_take l (p - a) (by omega) (by omega)]; omega
            have e2 : tl (l.take (p - a)) = tl l := tl_take l (p - a) (by omega) (by omega)
            rw [lx_tok _ _ e1 (by rw [e2]; exact ht), e2, List.drop_take, show p - a - tl l = p - (a + tl l) by omega, k3]
            rw [List.take_take, Nat.min_eq_left (by omega), h1]
          · rw [List.drop_drop, show tl l + (p - (a + tl l)) = p - a by omega] at k4
            exact k4
      · rw [lx_bad _ _ h0 (by omega) (by omega)] at h
        injection h with _ h
        cases h
theorem lx_pad (k : Nat) : ∀ (x : List UInt8) (a : Nat), lx (List.replicate k 32 ++ x) a = lx x (a + k) := by
  induction k with
  | zero => intro x a; rfl
  | succ k ih =>
    intro x a
    rw [List.replicate_succ, List.cons_append, lx_blank _ _ _ (by decide), ih]
    congr 1
    omega
/-- What stands ahead of a mark, blanks ahead of it. -/
theorem lx_seg {l : List UInt8} {pre u v : List Tk} (h : lx l 0 = (pre ++ (u ++ v), none)) :
    (hd l.length (u ++ v)).a ≤ (hd l.length v).a ∧ (hd l.length v).a ≤ l.length ∧ lx (List.replicate (hd l.length (u ++ v)).a 32 ++ (l.drop (hd l.length (u ++ v)).a).take ((hd l.length v).a - (hd l.length (u ++ v)).a)) 0 = (u, none) := by
  obtain ⟨k1, k2, k3, k4⟩ := lx_cut _ l 0 pre (u ++ v) (Nat.le_refl _) h
  rw [Nat.zero_add, Nat.sub_zero] at k4
  rw [Nat.zero_add] at k2
  generalize (hd l.length (u ++ v)).a = q at *
  obtain ⟨j1, j2, j3, j4⟩ := lx_cut _ (l.drop q) q u v (Nat.le_refl _) k4
  have e : q + (l.drop q).length = l.length := by rw [List.length_drop]; omega
  rw [e] at j1 j2 j3 j4
  refine ⟨j1, j2, ?_⟩
  rw [lx_pad, Nat.zero_add]
  exact j3
section
variable {nb : List UInt8 → Int × Int} {en : Nat}
/-- A mark that ends an expression. -/
def Em (m : List UInt8) : Prop := m ≠ [] ∧ isN m = false ∧ isU m = false ∧ m ≠ [40] ∧ m ≠ [41] ∧ bd m = 0
theorem em_cb : Em [93] := by unfold Em; decide
theorem em_ob : Em [123] := by unfold Em; decide
/-- Reading ahead of the mark, and with it. -/
def ext (v : List Tk) : Res → Res
  | .ok (x, r) => .ok (x, r ++ v)
  | .error e => .error e
theorem row_upto {m : List UInt8} (hm : Em m) (v : List Tk) (hv : v = [] ∨ (hd en v).t = m) (f : Nat) :
    (∀ k d u q, 1 ≤ k → row nb (hd en v).a f k d u = some q → row nb en f k d (u ++ v) = some (ext v q)) ∧
    (∀ k d y u q, 1 ≤ k → lp nb (hd en v).a f k d y u = some q → lp nb en f k d y (u ++ v) = some (ext v q)) ∧
    (∀ d u q, one nb (hd en v).a f d u = some q → one nb en f d (u ++ v) = some (ext v q)) := by
  obtain ⟨m0, m1, m2, m3, m4, m5⟩ := hm
  obtain ⟨p, hp⟩ : ∃ p, p = (hd en v).a := ⟨_, rfl⟩
  rw [← hp]
  induction f with
  | zero => exact ⟨fun _ _ _ _ _ h => by simp [row] at h, fun _ _ _ _ _ _ h => by simp [lp] at h, fun _ _ _ h => by simp [one] at h⟩
  | succ f ih =>
    obtain ⟨i1, i2, i3⟩ := ih
    refine ⟨?_, ?_, ?_⟩
    · intro k d u q h0 h
      by_cases hk : 3 < k
      · rw [row_top _ _ _ _ hk] at h
        rw [row_top _ _ _ _ hk]
        exact i3 _ _ _ h
      · rw [row_low _ _ _ _ hk] at h
        rw [row_low _ _ _ _ hk]
        split at h
        · cases h
        · rename_i e hr
          injection h with h
          rw [i1 _ _ _ _ (by omega) hr, ← h]
          rfl
        · rename_i x r hr
          rw [i1 _ _ _ _ (by omega) hr]
          exact i2 _ _ _ _ _ h0 h
    · intro k d y u q h0 h
      cases u with
      | nil =>
        rw [lp] at h
        injection h with h
        subst h
        rw [List.nil_append]
        cases v with
        | nil => rw [lp]; rfl
        | cons t v =>
          have : t.t = m := by
            rcases hv with h | h
            · cases h
            · exact h
          rw [lp, if_neg (by rw [this, m5]; omega)]
          rfl
      | cons t u =>
        rw [lp] at h
        rw [List.cons_append, lp]
        split at h
        · rename_i hb
          rw [if_pos hb]
          split at h
          · cases h
          · rename_i e hr
            injection h with h
            rw [i1 _ _ _ _ (by omega) hr, ← h]
            rfl
          · rename_i x r hr
            rw [i1 _ _ _ _ (by omega) hr]
            exact i2 _ _ _ _ _ h0 h
        · rename_i hb
          rw [if_neg hb]
          injection h with h
          subst h
          rfl
    · intro d u q h
      cases u with
      | nil =>
        rw [one] at h
        injection h with h
        subst h
        rw [List.nil_append]
        cases v with
        | nil => rw [one, hp]; rfl
        | cons t v =>
          have : t.t = m := by
            rcases hv with h | h
            · cases h
            · exact h
          rw [one, if_neg (by rw [this, m1]; decide), if_neg (by rw [this, m2]; decide), if_neg (by rw [this]; exact m3), hp]
          rfl
      | cons t u =>
        rw [one] at h
        rw [List.cons_append, one]
        split at h
        · rename_i c1
          rw [if_pos c1]
          split at h
          · rename_i c2
            rw [if_pos c2]
            injection h with h
            rw [← h]; rfl
          · rename_i c2
            rw [if_neg c2]
            injection h with h
            rw [← h]; rfl
        · rename_i c1
          rw [if_neg c1]
          split at h
          · rename_i c2
            rw [if_pos c2]
            split at h
            · rename_i c3
              rw [if_pos c3]
              injection h with h
              rw [← h]; rfl
            · rename_i c3
              rw [if_neg c3]
              injection h with h
              rw [← h]; rfl
          · rename_i c2
            rw [if_neg c2]
            split at h
            · rename_i c3
              rw [if_pos c3]
              split at h
              · rename_i c4
                rw [if_pos c4]
                injection h with h
                rw [← h]; rfl
              · rename_i c4
                rw [if_neg c4]
                split at h
                · cases h
                · rename_i e hr
                  injection h with h
                  rw [i1 _ _ _ _ (by omega) hr, ← h]; rfl
                · rename_i x r hr
                  rw [i1 _ _ _ _ (by omega) hr]
                  dsimp only [ext]
                  cases r with
                  | nil =>
                    rw [if_neg (show ¬ (hd p ([] : List Tk)).t = [41] by show ¬ ([] : List UInt8) = [41]; decide)] at h
                    injection h with h
                    rw [List.nil_append, ← h]
                    have e1 : ¬ (hd en v).t = [41] := by
                      rcases hv with h | h
                      · rw [h]; show ¬ ([] : List UInt8) = [41]; decide
                      · rw [h]; exact m4
                    rw [if_neg e1, ← hp]
                    rfl
                  | cons t' r =>
                    rw [show hd p (t' :: r) = t' from rfl] at h
                    rw [List.cons_append, show hd en (t' :: (r ++ v)) = t' from rfl]
                    split at h
                    · rename_i c5
                      rw [if_pos c5]
                      injection h with h
                      rw [← h]; rfl
                    · rename_i c5
                      rw [if_neg c5]
                      injection h with h
                      rw [← h]
            · rename_i c3
              rw [if_neg c3]
              injection h with h
              rw [← h]; rfl
/-- Up to a mark, and from it on. -/
def upto (m : List UInt8) (ts : List Tk) : List Tk := ts.takeWhile (fun t => t.t != m)
def from_ (m : List UInt8) (ts : List Tk) : List Tk := ts.dropWhile (fun t => t.t != m)
theorem upto_from (m : List UInt8) (ts : List Tk) : upto m ts ++ from_ m ts = ts := List.takeWhile_append_dropWhile
theorem from_hd (m : List UInt8) (ts : List Tk) : from_ m ts = [] ∨ (hd en (from_ m ts)).t = m := by
  unfold from_
  induction ts with
  | nil => exact Or.inl rfl
  | cons t ts ih =>
    by_cases h : (t.t != m) = true
    · rw [List.dropWhile_cons_of_pos (p := fun t : Tk => t.t != m) h]; exact ih
    · rw [List.dropWhile_cons_of_neg (p := fun t : Tk => t.t != m) h]
      right
      show t.t = m
      simpa using h
theorem upto_not {m : List UInt8} {ts : List Tk} {t : Tk} (h : t ∈ upto m ts) : t.t ≠ m := by
  unfold upto at h
  induction ts with
  | nil => simp at h
  | cons u ts ih =>
    by_cases hu : (u.t != m) = true
    · rw [List.takeWhile_cons_of_pos (p := fun t : Tk => t.t != m) hu, List.mem_cons] at h
      rcases h with rfl | h
      · simpa using hu
      · exact ih h
    · rw [List.takeWhile_cons_of_neg (p := fun t : Tk => t.t != m) hu] at h
      simp at h
/-- What reading ahead of the mark comes to. -/
def rxq (en : Nat) (v : List Tk) : Res → Rs Ex
  | .ok (x, []) => if v = [] then .error (3, en) else .ok (x, v)
  | .ok (_, t :: _) => .error (3, t.a)
  | .error e => .error e
/-- What a piece's reading tells of the whole's. -/
theorem rx_upto {m : List UInt8} (hm : Em m) {ts : List Tk} {q : Res} {f : Nat} (h : row nb (hd en (from_ m ts)).a f 1 0 (upto m ts) = some q) (hmem : ∀ x r, q = .ok (x, r) → ∀ t ∈ r, t ∈ upto m ts) :
    rx nb en m ts = rxq en (from_ m ts) q := by
  have hv := from_hd (en := en) m ts
  have h1 := (row_upto hm (from_ m ts) hv f).1 _ _ _ _ (Nat.le_refl _) h
  rw [upto_from] at h1
  unfold rx
  cases hh : row nb en (10 * ts.length + 10) 1 0 ts with
  | none => exact absurd hh ((some_all _).1 1 0 ts (by omega) (by omega))
  | some q' =>
    have := row_one hh h1
    subst this
    cases q with
    | error e => rfl
    | ok xr =>
      obtain ⟨x, r⟩ := xr
      cases r with
      | nil =>
        dsimp only [ext, List.nil_append, rxq]
        rcases hv with h | h
        · rw [h, if_pos rfl, if_neg (show ¬ (hd en ([] : List Tk)).t = m from fun e => hm.1 e.symm)]
          rfl
        · rw [if_pos h, if_neg]
          intro e
          rw [e] at h
          exact hm.1 h.symm
      | cons t r =>
        dsimp only [ext, List.cons_append, rxq]
        rw [show hd en (t :: (r ++ from_ m ts)) = t from rfl, if_neg (upto_not (hmem x _ rfl t (by simp)))]
end
end Go.Proofs.YtococaecjecjgaaGreatDoor.tm
/- Templates, written (pure). -/
namespace Go.Proofs.YtococaecjecjgaaGreatDoor.tm
set_option linter.unusedVariables false
open lx ex

/-- The word that an item begins with. -/
def kw (d : D) : List UInt8 := if d.kd = 2 then wBytes else if d.kd = 3 then d.ty else ((numW.find? (fun p => p.2.1 == d.wd && p.2.2.1 == d.od && p.2.2.2 == d.sg)).map (·.1)).getD []
def rw_ (r : Nat) : List UInt8 := if r = 1 then wSize else if r = 2 then wCount else wCheck
def txO : Option Ex → List UInt8
  | none => []
  | some x => txt x
/-- An item that has no others, as text. -/
def ruT (d : D) : List UInt8 := if d.ru = 0 ∨ 4 ≤ d.ru then [] else [32, 61, 32] ++ rw_ d.ru ++ [32] ++ d.f1 ++ (if d.ru = 3 ∧ d.l1 ≠ d.f1 then [32] ++ d.l1 else [])
def mnT (d : D) : List UInt8 := if d.mn = true ∨ d.kd = 2 then [91] ++ txO d.ct ++ [93] else []
def paT (d : D) : List UInt8 := kw d ++ [32] ++ d.nm ++ mnT d ++ ruT d
/-- Items as text. -/
def itx (pad : List UInt8) : Its → List UInt8
  | .nil => []
  | .cons d s t => pad ++ [32, 32] ++ (if d.kd = 4 then wWhen ++ [32] ++ txO d.ct ++ [32, 123, 10] ++ itx (pad ++ [32, 32]) s ++ pad ++ [32, 32, 125, 10] else paT d ++ [59, 10]) ++ itx pad t
def tyx (t : Ty) : List UInt8 := wStruct ++ [32] ++ t.nm ++ [32, 123, 10] ++ itx [] t.l ++ [125, 10]
def ptxt (l : List Ty) : List UInt8 := l.flatMap tyx
/-- The tokens of what is written. -/
def tkO : Option Ex → List (List UInt8)
  | none => []
  | some x => tk Lib.itoa x
def mnK (d : D) : List (List UInt8) := if d.mn = true ∨ d.kd = 2 then [91] :: tkO d.ct ++ [[93]] else []
def ruK (d : D) : List (List UInt8) := if d.ru = 0 ∨ 4 ≤ d.ru then [] else [61] :: rw_ d.ru :: d.f1 :: (if d.ru = 3 ∧ d.l1 ≠ d.f1 then [d.l1] else [])
def tkD (d : D) : List (List UInt8) := kw d :: d.nm :: (mnK d ++ ruK d ++ [[59]])
def tkI : Its → List (List UInt8)
  | .nil => []
  | .cons d s t => (if d.kd = 4 then wWhen :: tkO d.ct ++ [123] :: tkI s ++ [[125]] else tkD d) ++ tkI t
def tkT (t : Ty) : List (List UInt8) := wStruct :: t.nm :: [123] :: tkI t.l ++ [[125]]
/-- An expression that reading tells. -/
def WX (x : Ex) : Prop := Wf (nb := nb) Lib.itoa x ∧ Nw x ∧ dp x ≤ 8
/-- A name. -/
def NM (t : List UInt8) : Prop := resv t = false ∧ isN t = true ∧ t.length ≤ 12 ∧ (∀ c ∈ t, isW c = true)
/-- What a number hangs on. -/
def WR (d : D) : Prop := (d.ru = 0 ∧ d.f1 = [] ∧ d.l1 = []) ∨ ((d.ru = 1 ∨ d.ru = 2) ∧ NM d.f1 ∧ d.l1 = []) ∨ (d.ru = 3 ∧ NM d.f1 ∧ NM d.l1)
/-- An item that reading tells. -/
def WD (d : D) : Prop :=
  (d.kd = 4 ∧ (∃ x, d.ct = some x ∧ WX x) ∧ d.nm = [] ∧ d.mn = false ∧ d.ru = 0 ∧ d.ty = [] ∧ d.f1 = [] ∧ d.l1 = [] ∧ d.wd = 0 ∧ d.od = 0 ∧ d.sg = false) ∨
  (d.kd = 2 ∧ NM d.nm ∧ (∃ x, d.ct = some x ∧ WX x) ∧ d.mn = false ∧ d.ru = 0 ∧ d.ty = [] ∧ d.wd = 0 ∧ d.od = 0 ∧ d.sg = false ∧ d.f1 = [] ∧ d.l1 = []) ∨
  (d.kd = 3 ∧ NM d.ty ∧ NM d.nm ∧ d.wd = 0 ∧ d.od = 0 ∧ d.sg = false ∧ d.ru = 0 ∧ d.f1 = [] ∧ d.l1 = [] ∧ ((d.mn = true ∧ ∃ x, d.ct = some x ∧ WX x) ∨ (d.mn = false ∧ d.ct = none))) ∨
  (d.kd = 1 ∧ d.ty = [] ∧ (∃ t, numOf t = some (d.wd, d.od, d.sg)) ∧ NM d.nm ∧ ((d.mn = true ∧ (∃ x, d.ct = some x ∧ WX x) ∧ d.ru = 0 ∧ d.f1 = [] ∧ d.l1 = []) ∨ (d.mn = false ∧ d.ct = none ∧ WR d)))
def noSub : Its → Bool
  | .nil => true
  | .cons _ _ _ => false
/-- Items that reading tells, so many brackets deep. -/
def WI : Nat → Its → Prop
  | _, .nil => True
  | k, .cons d s t => WD d ∧ (d.kd ≠ 4 → noSub s = true) ∧ (d.kd = 4 → 0 < k ∧ s.len ≤ 16 ∧ WI (k - 1) s) ∧ WI k t
def WT (l : List Ty) : Prop := l.length ≤ 8 ∧ ∀ t ∈ l, NM t.nm ∧ t.l.len ≤ 16 ∧ WI 7 t.l
end Go.Proofs.YtococaecjecjgaaGreatDoor.tm
/- Templates, written: their tokens (pure). -/
namespace Go.Proofs.YtococaecjecjgaaGreatDoor.tm
set_option linter.unusedVariables false
open lx ex

/-- The tokens of a text, whatever stands behind it. -/
def CutF (t : List UInt8) (l : List (List UInt8)) : Prop := ∀ (y : List UInt8) (a : Nat), ∃ us : List Tk, us.map Tk.t = l ∧ lx (t ++ y) a = (us ++ (lx y (a + t.length)).1, (lx y (a + t.length)).2)
theorem CutF.cut {t : List UInt8} {l : List (List UInt8)} (h : CutF t l) : Cut t l := fun y a _ => h y a
theorem CutF.nil : CutF [] [] := fun y a => ⟨[], rfl, by simp⟩
theorem CutF.app {t u : List UInt8} {l m : List (List UInt8)} (h : CutF t l) (k : CutF u m) : CutF (t ++ u) (l ++ m) := by
  intro y a
  obtain ⟨us, h1, h2⟩ := h (u ++ y) a
  obtain ⟨vs, k1, k2⟩ := k y (a + t.length)
  refine ⟨us ++ vs, by simp [h1, k1], ?_⟩
  rw [List.append_assoc, h2, k2, List.length_append, Nat.add_assoc]
  simp
theorem CutF.then {t u : List UInt8} {l m : List (List UInt8)} (h : CutF t l) (k : Cut u m) : Cut (t ++ u) (l ++ m) := by
  intro y a hy
  obtain ⟨us, h1, h2⟩ := h (u ++ y) a
  obtain ⟨vs, k1, k2⟩ := k y (a + t.length) hy
  refine ⟨us ++ vs, by simp [h1, k1], ?_⟩
  rw [List.append_assoc, h2, k2, List.length_append, Nat.add_assoc]
  simp
end Go.Proofs.YtococaecjecjgaaGreatDoor.tm
namespace Go.Proofs.YtococaecjecjgaaGreatDoor.ex
open lx tm
theorem Cut.thenF {t : List UInt8} {c : UInt8} {u : List UInt8} {l m : List (List UInt8)} (h : Cut t l) (hc : isW c = false) (k : tm.CutF (c :: u) m) : tm.CutF (t ++ (c :: u)) (l ++ m) := by
  intro y a
  obtain ⟨us, h1, h2⟩ := h ((c :: u) ++ y) a (fun d hd => by simp at hd; rw [← hd]; exact hc)
  obtain ⟨vs, k1, k2⟩ := k y (a + t.length)
  refine ⟨us ++ vs, by simp [h1, k1], ?_⟩
  rw [List.append_assoc, h2, k2, List.length_append, Nat.add_assoc]
  simp
theorem Cut.then {t : List UInt8} {c : UInt8} {u : List UInt8} {l m : List (List UInt8)} (h : Cut t l) (hc : isW c = false) (k : Cut (c :: u) m) : Cut (t ++ (c :: u)) (l ++ m) := by
  intro y a hy
  obtain ⟨us, h1, h2⟩ := h ((c :: u) ++ y) a (fun d hd => by simp at hd; rw [← hd]; exact hc)
  obtain ⟨vs, k1, k2⟩ := k y (a + t.length) hy
  refine ⟨us ++ vs, by simp [h1, k1], ?_⟩
  rw [List.append_assoc, h2, k2, List.length_append, Nat.add_assoc]
  simp
end Go.Proofs.YtococaecjecjgaaGreatDoor.ex
namespace Go.Proofs.YtococaecjecjgaaGreatDoor.tm
open lx ex
theorem cutF_blank (c : UInt8) (h : isB c = true) : CutF [c] [] := fun y a => ⟨[], rfl, by rw [List.singleton_append, lx_blank _ _ _ h]; simp⟩
theorem cutF_mark (c : UInt8) (h : isM c = true) (hw : isW c = false) (h61 : c ≠ 61) : CutF [c] [[c]] := fun y a => by
  refine ⟨[⟨[c], a⟩], rfl, ?_⟩
  rw [lx_app [c] y a (Or.inr (Or.inl ⟨c, rfl, h⟩)) (fun hx => by have := hx c (by simp); rw [hw] at this; cases this) (fun e => by simp at e; exact absurd e h61)]
  simp
theorem cut_nm {t : List UInt8} (h : NM t) : Cut t [t] := by
  obtain ⟨_, h2, _, h4⟩ := h
  refine cut_word h4 ?_
  intro e
  rw [e] at h2
  revert h2; decide
theorem kw_word (d : D) (h : WD d) (h4 : d.kd ≠ 4) : (∀ c ∈ kw d, isW c = true) ∧ kw d ≠ [] := by
  have key : ∀ p ∈ numW, (∀ c ∈ p.1, isW c = true) ∧ p.1 ≠ [] := by decide
  unfold kw
  rcases h with h | h | h | h
  · exact absurd h.1 h4
  · rw [if_pos h.1]
    exact ⟨by decide, by decide⟩
  · rw [if_neg (by rw [h.1]; decide), if_pos h.1]
    obtain ⟨_, h2, _, h5⟩ := h.2.1
    exact ⟨h5, fun e => by rw [e] at h2; revert h2; decide⟩
  · rw [if_neg (by rw [h.1]; decide), if_neg (by rw [h.1]; decide)]
    obtain ⟨t, ht⟩ := h.2.2.1
    unfold numOf at ht
    cases hf : numW.find? (fun p => p.1 == t) with
    | none => rw [hf] at ht; cases ht
    | some p =>
      rw [hf] at ht
      injection ht with ht
      have hp := List.mem_of_find?_eq_some hf
      cases hg : numW.find? (fun p => p.2.1 == d.wd && p.2.2.1 == d.od && p.2.2.2 == d.sg) with
      | none =>
        rw [List.find?_eq_none] at hg
        have := hg p hp
        have ht' : p.2 = (d.wd, d.od, d.sg) := ht
        rw [ht'] at this
        simp at this
      | some q => exact key q (List.mem_of_find?_eq_some hg)
theorem cut_kw (d : D) (h : WD d) (h4 : d.kd ≠ 4) : Cut (kw d) [kw d] := by
  obtain ⟨h1, h2⟩ := kw_word d h h4
  exact cut_word h1 h2
theorem cut_wx {x : Ex} (h : WX x) : Cut (txt x) (tk Lib.itoa x) := cut_txt h.2.1 h.1.okb
theorem cut_rw (r : Nat) : Cut (rw_ r) [rw_ r] := by
  unfold rw_
  split
  · exact cut_word (by decide) (by decide)
  · split
    · exact cut_word (by decide) (by decide)
    · exact cut_word (by decide) (by decide)
theorem mn_some {d : D} (h : WD d) (h4 : d.kd ≠ 4) (hm : d.mn = true ∨ d.kd = 2) : ∃ x, d.ct = some x ∧ WX x := by
  rcases h with h | h | h | h
  · exact absurd h.1 h4
  · exact h.2.2.1
  · rcases h.2.2.2.2.2.2.2.2.2 with h' | h'
    · exact h'.2
    · exfalso
      rcases hm with hm | hm
      · rw [h'.1] at hm; cases hm
      · rw [h.1] at hm; cases hm
  · rcases h.2.2.2.2 with h' | h'
    · exact h'.2.1
    · exfalso
      rcases hm with hm | hm
      · rw [h'.1] at hm; cases hm
      · rw [h.1] at hm; cases hm
theorem ru_wr {d : D} (h : WD d) (hr : d.ru ≠ 0) : WR d ∧ d.kd = 1 ∧ d.mn = false ∧ d.ct = none := by
  rcases h with h | h | h | h
  · exact absurd h.2.2.2.2.1 hr
  · exact absurd h.2.2.2.2.1 hr
  · exact absurd h.2.2.2.2.2.2.1 hr
  · rcases h.2.2.2.2 with h' | h'
    · exact absurd h'.2.2.1 hr
    · exact ⟨h'.2.2, h.1, h'.1, h'.2.1⟩
/-- What stands behind the name: how many, and the mark at the end. -/
theorem cut_tail (d : D) (h : WD d) (h4 : d.kd ≠ 4) : ∃ c u, mnT d ++ ruT d ++ [59, 10] = c :: u ∧ isW c = false ∧ CutF (mnT d ++ ruT d ++ [59, 10]) (mnK d ++ ruK d ++ [[59]]) := by
  have e59 : CutF [59, 10] [[59]] := by
    have := (cutF_mark 59 (by decide) (by decide) (by decide)).app (cutF_blank 10 (by decide))
    exact this
  have hru : ∃ c u, ruT d ++ [59, 10] = c :: u ∧ isW c = false ∧ CutF (ruT d ++ [59, 10]) (ruK d ++ [[59]]) := by
    by_cases hr : d.ru = 0 ∨ 4 ≤ d.ru
    · unfold ruT ruK
      rw [if_pos hr, if_pos hr]
      exact ⟨59, [10], rfl, by decide, e59⟩
    · obtain ⟨wr, _⟩ := ru_wr h (fun e => hr (Or.inl e))
      have hf : NM d.f1 := by
        rcases wr with h0 | h1 | h2
        · exact absurd (Or.inl h0.1) hr
        · exact h1.2.1
        · exact h2.2.1
      unfold ruT ruK
      rw [if_neg hr, if_neg hr]
      have c1 : CutF [32, 61, 32] [[61]] := by
        intro y a
        refine ⟨[⟨[61], a + 1⟩], rfl, ?_⟩
        rw [show ([32, 61, 32] : List UInt8) ++ y = 32 :: ([61] ++ (32 :: y)) from rfl, lx_blank _ _ _ (by decide)]
        rw [lx_app [61] (32 :: y) (a + 1) (Or.inr (Or.inl ⟨61, rfl, by decide⟩)) (fun hx => absurd (hx 61 (by simp)) (by decide)) (fun _ hc => by simp at hc)]
        rw [lx_blank _ _ _ (by decide)]
        rfl
      have c2 : Cut ([32] ++ d.f1) [d.f1] := (cutF_blank 32 (by decide)).then (cut_nm hf)
      have c3 : CutF ([32, 61, 32] ++ rw_ d.ru ++ [32] ++ d.f1 ++ (if d.ru = 3 ∧ d.l1 ≠ d.f1 then [32] ++ d.l1 else []) ++ [59, 10]) ([61] :: rw_ d.ru :: d.f1 :: (if d.ru = 3 ∧ d.l1 ≠ d.f1 then [d.l1] else []) ++ [[59]]) := by
        have k1 : Cut ([32, 61, 32] ++ (rw_ d.ru ++ ([32] ++ d.f1))) ([[61]] ++ ([rw_ d.ru] ++ [d.f1])) := c1.then ((cut_rw d.ru).then (c := 32) (by decide) c2)
        by_cases hl : d.ru = 3 ∧ d.l1 ≠ d.f1
        · rw [if_pos hl, if_pos hl]
          have hl1 : NM d.l1 := by
            rcases wr with h0 | h1 | h2
            · exact absurd (Or.inl h0.1) hr
            · exfalso; rcases h1.1 with e | e <;> omega
            · exact h2.2.2
          have k2 : Cut ([32] ++ d.l1) [d.l1] := (cutF_blank 32 (by decide)).then (cut_nm hl1)
          have k3 := (k1.then (c := 32) (by decide) k2).thenF (c := 59) (by decide) e59
          simpa using k3
        · rw [if_neg hl, if_neg hl]
          have k3 := k1.thenF (c := 59) (by decide) e59
          simpa using k3
      refine ⟨32, [61, 32] ++ rw_ d.ru ++ [32] ++ d.f1 ++ (if d.ru = 3 ∧ d.l1 ≠ d.f1 then [32] ++ d.l1 else []) ++ [59, 10], by simp, by decide, ?_⟩
      simpa using c3
  obtain ⟨c, u, e1, e2, e3⟩ := hru
  by_cases hm : d.mn = true ∨ d.kd = 2
  · obtain ⟨x, hx, wx⟩ := mn_some h h4 hm
    unfold mnT mnK
    rw [if_pos hm, if_pos hm, hx]
    have k1 : CutF ([91] ++ (txt x ++ [93])) ([[91]] ++ (tk Lib.itoa x ++ [[93]])) := (cutF_mark 91 (by decide) (by decide) (by decide)).app ((cut_wx wx).thenF (c := 93) (by decide) (cutF_mark 93 (by decide) (by decide) (by decide)))
    have k2 := k1.app e3
    refine ⟨91, txO (some x) ++ [93] ++ ruT d ++ [59, 10], by simp, by decide, ?_⟩
    have e4 : [91] ++ txO (some x) ++ [93] ++ ruT d ++ [59, 10] = [91] ++ (txt x ++ [93]) ++ (ruT d ++ [59, 10]) := by simp [txO]
    have e5 : [91] :: tkO (some x) ++ [[93]] ++ ruK d ++ [[59]] = [[91]] ++ (tk Lib.itoa x ++ [[93]]) ++ (ruK d ++ [[59]]) := by simp [tkO]
    rw [e4, e5]
    exact k2
  · unfold mnT mnK
    rw [if_neg hm, if_neg hm]
    exact ⟨c, u, by simpa using e1, e2, by simpa using e3⟩
theorem wd_nm {d : D} (h : WD d) (h4 : d.kd ≠ 4) : NM d.nm := by
  rcases h with h | h | h | h
  · exact absurd h.1 h4
  · exact h.2.1
  · exact h.2.2.1
  · exact h.2.2.2.1
theorem cut_pad (pad : List UInt8) (h : ∀ c ∈ pad, isB c = true) : CutF pad [] := by
  induction pad with
  | nil => exact CutF.nil
  | cons c p ih =>
    have := (cutF_blank c (h c (by simp))).app (ih (fun d hd => h d (by simp [hd])))
    exact this
/-- A line. -/
theorem cut_line (d : D) (h : WD d) (h4 : d.kd ≠ 4) : CutF (paT d ++ [59, 10]) (tkD d) := by
  obtain ⟨c, u, e1, e2, e3⟩ := cut_tail d h h4
  have k1 : Cut ([32] ++ d.nm) [d.nm] := (cutF_blank 32 (by decide)).then (cut_nm (wd_nm h h4))
  have k2 : Cut (kw d ++ ([32] ++ d.nm)) ([kw d] ++ [d.nm]) := (cut_kw d h h4).then (c := 32) (by decide) k1
  rw [e1] at e3
  have k3 := k2.thenF e2 e3
  rw [← e1] at k3
  unfold paT tkD
  have e4 : kw d ++ [32] ++ d.nm ++ mnT d ++ ruT d ++ [59, 10] = kw d ++ ([32] ++ d.nm) ++ (mnT d ++ ruT d ++ [59, 10]) := by simp
  have e5 : kw d :: d.nm :: (mnK d ++ ruK d ++ [[59]]) = [kw d] ++ [d.nm] ++ (mnK d ++ ruK d ++ [[59]]) := by simp
  rw [e4, e5]
  exact k3
theorem cut_items (l : Its) : ∀ (k : Nat) (pad : List UInt8), WI k l → (∀ c ∈ pad, isB c = true) → CutF (itx pad l) (tkI l) := by
  induction l with
  | nil => intro k pad _ _; exact CutF.nil
  | cons d s t is it =>
    intro k pad hw hp
    obtain ⟨w1, w2, w3, w4⟩ := hw
    have hp2 : ∀ c ∈ pad ++ [32, 32], isB c = true := by
      intro c hc
      rw [List.mem_append] at hc
      rcases hc with hc | hc
      · exact hp c hc
      · simp at hc; rw [hc]; decide
    have c0 := cut_pad (pad ++ [32, 32]) hp2
    have ct := it k pad w4 hp
    rw [itx, tkI]
    by_cases h4 : d.kd = 4
    · rw [if_pos h4, if_pos h4]
      obtain ⟨x, hx, wx⟩ : ∃ x, d.ct = some x ∧ WX x := by
        rcases w1 with h | h | h | h
        · exact h.2.1
        · rw [h.1] at h4; cases h4
        · rw [h.1] at h4; cases h4
        · rw [h.1] at h4; cases h4
      rw [hx]
      have cs := is (k - 1) (pad ++ [32, 32]) (w3 h4).2.2 hp2
      have k1 : Cut (wWhen ++ ([32] ++ txt x)) ([wWhen] ++ tk Lib.itoa x) := (cut_word (t := wWhen) (by decide) (by decide)).then (c := 32) (by decide) ((cutF_blank 32 (by decide)).then (cut_wx wx))
      have e123 : CutF [32, 123, 10] [[123]] := by
        have := ((cutF_blank 32 (by decide)).app (cutF_mark 123 (by decide) (by decide) (by decide))).app (cutF_blank 10 (by decide))
        exact this
      have e125 : CutF [32, 32, 125, 10] [[125]] := by
        have := (((cutF_blank 32 (by decide)).app (cutF_blank 32 (by decide))).app (cutF_mark 125 (by decide) (by decide) (by decide))).app (cutF_blank 10 (by decide))
        exact this
      have k2 := (((c0.app (k1.thenF (c := 32) (by decide) e123)).app cs).app ((cut_pad pad hp).app e125)).app ct
      have e4 : pad ++ [32, 32] ++ (wWhen ++ [32] ++ txO (some x) ++ [32, 123, 10] ++ itx (pad ++ [32, 32]) s ++ pad ++ [32, 32, 125, 10]) ++ itx pad t = pad ++ [32, 32] ++ (wWhen ++ ([32] ++ txt x) ++ [32, 123, 10]) ++ itx (pad ++ [32, 32]) s ++ (pad ++ [32, 32, 125, 10]) ++ itx pad t := by simp [txO]
      have e5 : wWhen :: tkO (some x) ++ [123] :: tkI s ++ [[125]] ++ tkI t = [] ++ ([wWhen] ++ tk Lib.itoa x ++ [[123]]) ++ tkI s ++ ([] ++ [[125]]) ++ tkI t := by simp [tkO]
      rw [e4, e5]
      exact k2
    · rw [if_neg h4, if_neg h4]
      have k2 := (c0.app (cut_line d w1 h4)).app ct
      exact k2
end Go.Proofs.YtococaecjecjgaaGreatDoor.tm
/- Templates: what reading tells; what is written is read (pure). -/
namespace Go.Proofs.YtococaecjecjgaaGreatDoor.tm
set_option linter.unusedVariables false
open lx ex
section
variable {en : Nat}
def TS (ts : List Tk) : Prop := ∀ t ∈ ts, IsT t.t
/-- What is left was there. -/
def Sb_ (r ts : List Tk) : Prop := ∀ t ∈ r, t ∈ ts
theorem Sb_.trans {a b c : List Tk} (h : Sb_ a b) (k : Sb_ b c) : Sb_ a c := fun t ht => k t (h t ht)
theorem sb_tail (ts : List Tk) : Sb_ ts.tail ts := fun t ht => List.mem_of_mem_tail ht
theorem TS.sb {r ts : List Tk} (h : TS ts) (k : Sb_ r ts) : TS r := fun t ht => h t (k t ht)
theorem name_told {ts r : List Tk} {t : List UInt8} (hT : TS ts) (h : name en ts = .ok (t, r)) : NM t ∧ Sb_ r ts := by
  unfold name at h
  split at h
  · cases h
  · rename_i h1
    split at h
    · cases h
    · rename_i h2
      injection h with h
      injection h with h3 h4
      subst h3 h4
      have n1 : isN (hd en ts).t = true := by
        cases hn : isN (hd en ts).t with
        | true => rfl
        | false => exact absurd (Or.inr hn) h1
      have n2 : resv (hd en ts).t = false := by
        cases hr : resv (hd en ts).t with
        | false => rfl
        | true => exact absurd (Or.inl hr) h1
      refine ⟨⟨n2, n1, by omega, ?_⟩, sb_tail ts⟩
      cases ts with
      | nil => exact absurd n1 (by show ¬ isN [] = true; decide)
      | cons u us => exact (word_of (hT u (by simp)) n1).1
theorem rx_told {m : List UInt8} {ts r : List Tk} {x : Ex} (hT : TS ts) (h : rx nb en m ts = .ok (x, r)) : WX x ∧ Sb_ r ts := by
  obtain ⟨h1, _⟩ := rx_is h
  obtain ⟨w1, w2⟩ := (told_all (dec := Lib.itoa) told_hdec _).1 _ _ _ _ _ (by omega) (by omega) (by omega) h1
  obtain ⟨n1, _⟩ := (nw_all _).1 _ _ _ _ _ hT h1
  rw [sd_one w1.okb] at w2
  exact ⟨⟨w1, n1, by omega⟩, (mem_all _).1 _ _ _ _ _ h1⟩
theorem want_told {m : List UInt8} {ts r : List Tk} (h : want en m ts = .ok r) : Sb_ r ts := by
  unfold want at h
  split at h
  · injection h with h; rw [← h]; exact sb_tail ts
  · cases h
theorem many_told {ts r : List Tk} {x : Ex} (hT : TS ts) (h : many nb en ts = .ok (x, r)) : WX x ∧ Sb_ r ts := by
  unfold many at h
  split at h
  · cases h
  · rename_i r1 h1
    split at h
    · cases h
    · rename_i x1 r2 h2
      injection h with h
      injection h with h3 h4
      subst h3 h4
      have s1 := want_told h1
      obtain ⟨w, s2⟩ := rx_told (hT.sb s1) h2
      exact ⟨w, (sb_tail _).trans (s2.trans s1)⟩
theorem rule_told {d e : D} {ts r : List Tk} (hT : TS ts) (h : rule en d ts = .ok (e, r)) (h0 : d.ru = 0 ∧ d.f1 = [] ∧ d.l1 = []) : WR e ∧ e.kd = d.kd ∧ e.nm = d.nm ∧ e.ty = d.ty ∧ e.wd = d.wd ∧ e.od = d.od ∧ e.sg = d.sg ∧ e.mn = d.mn ∧ e.ct = d.ct ∧ Sb_ r ts := by
  unfold rule at h
  split at h
  · cases h
  · rename_i h1
    have hru : ruleOf (hd en ts).t = 1 ∨ ruleOf (hd en ts).t = 2 ∨ ruleOf (hd en ts).t = 3 := by
      unfold ruleOf at h1 ⊢
      split
      · exact Or.inl rfl
      · split
        · exact Or.inr (Or.inl rfl)
        · split
          · exact Or.inr (Or.inr rfl)
          · rename_i a b c; rw [if_neg a, if_neg b, if_neg c] at h1; exact absurd rfl h1
    split at h
    · cases h
    · rename_i a r1 h2
      obtain ⟨n1, s1⟩ := name_told (hT.sb (sb_tail ts)) h2
      have s1' := s1.trans (sb_tail ts)
      split at h
      · rename_i h3
        split at h
        · injection h with h; injection h with h4 h5; subst h4 h5
          exact ⟨Or.inr (Or.inr ⟨rfl, n1, n1⟩), rfl, rfl, rfl, rfl, rfl, rfl, rfl, rfl, s1'⟩
        · split at h
          · cases h
          · rename_i b r2 h4
            obtain ⟨n2, s2⟩ := name_told (hT.sb s1') h4
            injection h with h; injection h with h5 h6; subst h5 h6
            exact ⟨Or.inr (Or.inr ⟨rfl, n1, n2⟩), rfl, rfl, rfl, rfl, rfl, rfl, rfl, rfl, s2.trans s1'⟩
      · rename_i h3
        injection h with h; injection h with h4 h5; subst h4 h5
        refine ⟨Or.inr (Or.inl ⟨?_, n1, h0.2.2⟩), rfl, rfl, rfl, rfl, rfl, rfl, rfl, rfl, s1'⟩
        show ruleOf (hd en ts).t = 1 ∨ ruleOf (hd en ts).t = 2
        omega
theorem part_told {ts r : List Tk} {e : D} (hT : TS ts) (h : part nb en ts = .ok (e, r)) : WD e ∧ e.kd ≠ 4 ∧ Sb_ r ts := by
  cases hk : kind en ts with
  | error e' => unfold part at h; rw [hk] at h; cases h
  | ok dr =>
    obtain ⟨d1, r1⟩ := dr
    unfold part at h
    rw [hk] at h
    dsimp only at h
    have hd1 : ((d1 = { D0 with kd := 1, wd := d1.wd, od := d1.od, sg := d1.sg } ∧ ∃ t, numOf t = some (d1.wd, d1.od, d1.sg)) ∨ (d1 = { D0 with kd := 3, ty := d1.ty } ∧ NM d1.ty)) ∧ Sb_ r1 ts := by
      unfold kind at hk
      split at hk
      · rename_i w o s hn
        injection hk with hk; injection hk with h1 h2; subst h1 h2
        exact ⟨Or.inl ⟨rfl, _, hn⟩, sb_tail ts⟩
      · split at hk
        · cases hk
        · rename_i t r' hn
          obtain ⟨n1, s1⟩ := name_told hT hn
          injection hk with hk; injection hk with h1 h2; subst h1 h2
          exact ⟨Or.inr ⟨rfl, n1⟩, s1⟩
    obtain ⟨hd1, s1⟩ := hd1
    have k4 : d1.kd ≠ 4 := by
      rcases hd1 with ⟨e1, _⟩ | ⟨e1, _⟩
      · have := congrArg D.kd e1
        rw [this]; show (1 : Nat) ≠ 4; decide
      · have := congrArg D.kd e1
        rw [this]; show (3 : Nat) ≠ 4; decide
    split at h
    · cases h
    · rename_i t r2 h2
      obtain ⟨n2, s2⟩ := name_told (hT.sb s1) h2
      have s2' := s2.trans s1
      split at h
      · cases h
      · rename_i d3 r3 h3
        split at h
        · cases h
        · rename_i r4 h4
          injection h with h; injection h with h5 h6; subst h5 h6
          have s4 := want_told h4
          unfold mark at h3
          split at h3
          · split at h3
            · cases h3
            · rename_i x r5 h5
              obtain ⟨w5, s5⟩ := many_told (hT.sb s2') h5
              injection h3 with h3; injection h3 with h6 h7; subst h6 h7
              refine ⟨?_, k4, s4.trans (s5.trans s2')⟩
              · rcases hd1 with ⟨e1, e2⟩ | ⟨e1, e2⟩
                · rw [e1]; exact Or.inr (Or.inr (Or.inr ⟨rfl, rfl, e2, n2, Or.inl ⟨rfl, ⟨x, rfl, w5⟩, rfl, rfl, rfl⟩⟩))
                · rw [e1]; exact Or.inr (Or.inr (Or.inl ⟨rfl, e2, n2, rfl, rfl, rfl, rfl, rfl, rfl, Or.inl ⟨rfl, x, rfl, w5⟩⟩))
          · split at h3
            · rename_i hc
              have hkd : d1.kd = 1 := hc.2
              rcases hd1 with ⟨e1, e2⟩ | ⟨e1, e2⟩
              · obtain ⟨w, f1, f2, f3, f4, f5, f6, f7, f8, s5⟩ := rule_told (hT.sb ((sb_tail _).trans s2')) h3 (by rw [e1]; exact ⟨rfl, rfl, rfl⟩)
                refine ⟨Or.inr (Or.inr (Or.inr ⟨by rw [f1]; exact hkd, by rw [f3, e1]; rfl, ?_, by rw [f2]; exact n2, Or.inr ⟨by rw [f7, e1]; rfl, by rw [f8, e1]; rfl, w⟩⟩)), by rw [f1]; exact k4, s4.trans (s5.trans ((sb_tail _).trans s2'))⟩
                rw [f4, f5, f6]; exact e2
              · rw [e1] at hkd; exact absurd hkd (by show ¬ (3 : Nat) = 1; decide)
            · injection h3 with h3; injection h3 with h6 h7; subst h6 h7
              refine ⟨?_, k4, s4.trans s2'⟩
              · rcases hd1 with ⟨e1, e2⟩ | ⟨e1, e2⟩
                · rw [e1]; exact Or.inr (Or.inr (Or.inr ⟨rfl, rfl, e2, n2, Or.inr ⟨rfl, rfl, Or.inl ⟨rfl, rfl, rfl⟩⟩⟩))
                · rw [e1]; exact Or.inr (Or.inr (Or.inl ⟨rfl, e2, n2, rfl, rfl, rfl, rfl, rfl, rfl, Or.inr ⟨rfl, rfl⟩⟩))
theorem byts_told {ts r : List Tk} {e : D} (hT : TS ts) (h : byts nb en ts = .ok (e, r)) : WD e ∧ e.kd ≠ 4 ∧ Sb_ r ts := by
  unfold byts at h
  split at h
  · cases h
  · rename_i t r1 h1
    obtain ⟨n1, s1⟩ := name_told hT h1
    split at h
    · cases h
    · rename_i x r2 h2
      obtain ⟨w2, s2⟩ := many_told (hT.sb s1) h2
      split at h
      · cases h
      · rename_i r3 h3
        injection h with h; injection h with h4 h5; subst h4 h5
        exact ⟨Or.inr (Or.inl ⟨rfl, n1, ⟨x, rfl, w2⟩, rfl, rfl, rfl, rfl, rfl, rfl, rfl, rfl⟩), by show (2 : Nat) ≠ 4; decide, (want_told h3).trans (s2.trans s1)⟩
/-- Where an item stands is nothing to it. -/
theorem wd_at {d : D} (h : WD d) (a : Nat) : WD { d with at_ := a } := h
theorem item_told {k : Nat} {ts r : List Tk} {d : D} {s : Its} (hT : TS ts) (hi : ∀ ts l r, TS ts → blk nb en k ts = .ok (l, r) → 0 < k ∧ l.len ≤ 16 ∧ WI (k - 1) l ∧ Sb_ r ts) (h : item nb en (blk nb en k) ts = .ok ((d, s), r)) : WD d ∧ (d.kd ≠ 4 → noSub s = true) ∧ (d.kd = 4 → 0 < k ∧ s.len ≤ 16 ∧ WI (k - 1) s) ∧ Sb_ r ts := by
  unfold item at h
  split at h
  · split at h
    · cases h
    · rename_i x r1 h1
      obtain ⟨w1, s1⟩ := rx_told (hT.sb (sb_tail ts)) h1
      have s1' := s1.trans (sb_tail ts)
      split at h
      · cases h
      · rename_i l r2 h2
        obtain ⟨g1, g2, g3, g4⟩ := hi _ _ _ (hT.sb s1') h2
        injection h with h; injection h with h3 h4; injection h3 with h5 h6; subst h5 h6 h4
        exact ⟨Or.inl ⟨rfl, ⟨x, rfl, w1⟩, rfl, rfl, rfl, rfl, rfl, rfl, rfl, rfl, rfl⟩, fun hn => absurd rfl hn, fun _ => ⟨g1, g2, g3⟩, g4.trans s1'⟩
  · split at h
    · split at h
      · cases h
      · rename_i d1 r1 h1
        obtain ⟨w1, w2, s1⟩ := byts_told (hT.sb (sb_tail ts)) h1
        injection h with h; injection h with h3 h4; injection h3 with h5 h6; subst h5 h6 h4
        exact ⟨wd_at w1 _, fun _ => rfl, fun h4 => absurd h4 w2, s1.trans (sb_tail ts)⟩
    · split at h
      · cases h
      · rename_i d1 r1 h1
        obtain ⟨w1, w2, s1⟩ := part_told hT h1
        injection h with h; injection h with h3 h4; injection h3 with h5 h6; subst h5 h6 h4
        exact ⟨wd_at w1 _, fun _ => rfl, fun h4 => absurd h4 w2, s1⟩
theorem loop_told {k : Nat} (hi : ∀ ts l r, TS ts → blk nb en k ts = .ok (l, r) → 0 < k ∧ l.len ≤ 16 ∧ WI (k - 1) l ∧ Sb_ r ts) (n : Nat) : ∀ (ts : List Tk) (l : Its) (r : List Tk), TS ts → loop nb en (blk nb en k) n ts = .ok (l, r) → l.len ≤ n ∧ WI k l ∧ Sb_ r ts := by
  induction n with
  | zero =>
    intro ts l r hT h
    rw [loop] at h
    split at h
    · injection h with h; injection h with h1 h2; subst h1 h2
      exact ⟨Nat.le_refl _, trivial, sb_tail ts⟩
    · cases h
  | succ n ih =>
    intro ts l r hT h
    rw [loop] at h
    split at h
    · injection h with h; injection h with h1 h2; subst h1 h2
      exact ⟨Nat.zero_le _, trivial, sb_tail ts⟩
    · split at h
      · cases h
      · rename_i d s r1 h1
        obtain ⟨g1, g2, g3, s1⟩ := item_told hT hi h1
        split at h
        · cases h
        · rename_i l1 r2 h2
          obtain ⟨k1, k2, s2⟩ := ih _ _ _ (hT.sb s1) h2
          injection h with h; injection h with h3 h4; subst h3 h4
          exact ⟨by show l1.len + 1 ≤ n + 1; omega, ⟨g1, g2, g3, k2⟩, s2.trans s1⟩
theorem blk_told (k : Nat) : ∀ (ts : List Tk) (l : Its) (r : List Tk), TS ts → blk nb en k ts = .ok (l, r) → 0 < k ∧ l.len ≤ 16 ∧ WI (k - 1) l ∧ Sb_ r ts := by
  induction k with
  | zero =>
    intro ts l r hT h
    rw [blk] at h
    split at h <;> cases h
  | succ k ih =>
    intro ts l r hT h
    rw [blk] at h
    split at h
    · obtain ⟨g1, g2, g3⟩ := loop_told ih 16 _ _ _ (hT.sb (sb_tail ts)) h
      exact ⟨Nat.succ_pos _, g1, g2, g3.trans (sb_tail ts)⟩
    · cases h
theorem typs_told (n : Nat) : ∀ (ts : List Tk) (l : List Ty), TS ts → typs nb en n ts = .ok l → l.length ≤ n ∧ ∀ t ∈ l, NM t.nm ∧ t.l.len ≤ 16 ∧ WI 7 t.l := by
  induction n with
  | zero =>
    intro ts l hT h
    cases ts with
    | nil => cases h; exact ⟨Nat.le_refl _, fun t ht => by cases ht⟩
    | cons t r => rw [typs] at h; split at h <;> cases h
  | succ n ih =>
    intro ts l hT h
    cases ts with
    | nil => cases h; exact ⟨Nat.zero_le _, fun t ht => by cases ht⟩
    | cons t r =>
      have hT' : TS r := fun u hu => hT u (by simp [hu])
      rw [typs] at h
      split at h
      · split at h
        · cases h
        · rename_i m r1 h1
          obtain ⟨n1, s1⟩ := name_told hT' h1
          split at h
          · cases h
          · rename_i it r2 h2
            obtain ⟨_, g2, g3, s2⟩ := blk_told 8 _ _ _ (hT'.sb s1) h2
            split at h
            · cases h
            · rename_i q h3
              obtain ⟨k1, k2⟩ := ih _ _ (hT'.sb (s2.trans s1)) h3
              injection h with h
              subst h
              refine ⟨by simp; omega, fun u hu => ?_⟩
              rw [List.mem_cons] at hu
              rcases hu with rfl | hu
              · exact ⟨n1, g2, g3⟩
              · exact k2 u hu
      · cases h
end
end Go.Proofs.YtococaecjecjgaaGreatDoor.tm
