/- Texts laid together: TrQ, LayQ, TrM, Tr3, Tr4. -/
import Derived.Test.YtpanodaecjlgaaaGreatDoorXTmplReads23
import Derived.Test.YtpanodaecjlgaaaGreatDoorChecked
import Derived.Shelf.Strings.Prefix
import Derived.Maps.OwnSet
import Derived.Test.YtpanodaecjlgaaaGreatDoorXTmplReads14
/- The document's reader of templates: what an item comes to, way by way (pure). -/
namespace Go.Proofs.YtpanodaecjlgaaaGreatDoor.tr
set_option linter.unusedVariables false
open lx ex tm

/-- What is told of a state. -/
def Rl {α : Type} (R : Rs α) (σ : Sg) (d : α) : Prop := R = match σ with | .ok r => .ok (d, r) | .error e => .error e
theorem Rl.okk {α : Type} {R : Rs α} {r : List Tk} {d : α} (h : Rl R (.ok r) d) : R = .ok (d, r) := h
theorem Rl.err {α : Type} {R : Rs α} {e : Int × Nat} {d : α} (h : Rl R (.error e) d) : R = .error e := h
theorem see_ok {en : Nat} {σ : Sg} {m : List UInt8} (hm : m ≠ []) (h : seeT en σ = m) : ∃ t r, σ = .ok (t :: r) ∧ t.t = m := by
  match σ, h with
  | .error e, h => exact absurd h.symm hm
  | .ok [], h => exact absurd h.symm hm
  | .ok (t :: r), h => exact ⟨t, r, rfl, h⟩
theorem name_rl {en : Nat} {us : List Tk} : Rl (name en us) (nmS en (.ok us)) (hd en us).t := by
  unfold Rl nmS
  dsimp only
  cases h : name en us with
  | error e => rfl
  | ok tr =>
    obtain ⟨t, r⟩ := tr
    rw [name_see h]
/-- What may be read of an expression, and where. -/
def Xq (en : Nat) (σ : Sg) (x : Ex) : Prop := ∃ us r, σ = .ok us ∧ many nb en us = .ok (x, r)
theorem br_rl {en : Nat} {us : List Tk} : (∃ x, Xq en (.ok us) x ∧ Rl (many nb en us) (brS en (.ok us)) x) ∨ ∃ e, many nb en us = .error e ∧ brS en (.ok us) = .error e := by
  unfold brS
  dsimp only
  cases h : many nb en us with
  | error e => exact Or.inr ⟨e, rfl, rfl⟩
  | ok xr =>
    obtain ⟨x, r⟩ := xr
    exact Or.inl ⟨x, ⟨us, r, rfl, h⟩, rfl⟩
/-- bytes. -/
theorem byts_way {en : Nat} {us : List Tk} :
    (∃ x, Xq en (nmS en (.ok us)) x ∧ Rl (byts nb en us) (mu en [59] (brS en (nmS en (.ok us)))) { D0 with kd := 2, nm := (hd en us).t, ct := some x }) ∨ ∃ e, byts nb en us = .error e ∧ mu en [59] (brS en (nmS en (.ok us))) = .error e := by
  have h1 := name_rl (en := en) (us := us)
  unfold byts
  cases h : nmS en (.ok us) with
  | error e =>
    rw [h] at h1
    rw [h1.err]
    exact Or.inr ⟨e, rfl, rfl⟩
  | ok r =>
    rw [h] at h1
    rw [h1.okk]
    dsimp only
    rcases br_rl (en := en) (us := r) with ⟨x, k1, k2⟩ | ⟨e, k1, k2⟩
    · refine Or.inl ⟨x, k1, ?_⟩
      cases h3 : brS en (.ok r) with
      | error e =>
        rw [h3] at k2
        rw [k2.err]
        rfl
      | ok r3 =>
        rw [h3] at k2
        rw [k2.okk]
        unfold Rl mu
        dsimp only
        cases want en [59] r3 <;> rfl
    · rw [k1, k2]
      exact Or.inr ⟨e, rfl, rfl⟩
/-- What may come behind a name: [. -/
theorem part_br {en : Nat} {ts : List Tk} {σ1 : Sg} {d1 : D} (h0 : Rl (kind en ts) σ1 d1) (hT : seeT en (nmS en σ1) = [91]) :
    (∃ x, Xq en (nmS en σ1) x ∧ Rl (tm.part nb en ts) (mu en [59] (brS en (nmS en σ1))) { d1 with nm := seeT en σ1, mn := true, ct := some x }) ∨ ∃ e, tm.part nb en ts = .error e ∧ mu en [59] (brS en (nmS en σ1)) = .error e := by
  obtain ⟨t, r, h2, h3⟩ := see_ok (by simp) hT
  cases σ1 with
  | error e => cases h2
  | ok us =>
    have h1 := name_rl (en := en) (us := us)
    rw [h2] at h1 ⊢
    unfold tm.part
    rw [h0.okk]
    dsimp only
    rw [h1.okk]
    dsimp only
    unfold tm.mark
    rw [if_pos (show (hd en (t :: r)).t = [91] from h3)]
    rcases br_rl (en := en) (us := t :: r) with ⟨x, k1, k2⟩ | ⟨e, k1, k2⟩
    · refine Or.inl ⟨x, k1, ?_⟩
      cases h4 : brS en (.ok (t :: r)) with
      | error e =>
        rw [h4] at k2
        rw [k2.err]
        rfl
      | ok r3 =>
        rw [h4] at k2
        rw [k2.okk]
        unfold Rl mu
        dsimp only
        cases want en [59] r3 <;> rfl
    · rw [k1, k2]
      exact Or.inr ⟨e, rfl, rfl⟩
/-- .. nothing. -/
theorem part_no {en : Nat} {ts : List Tk} {σ1 : Sg} {d1 : D} (h0 : Rl (kind en ts) σ1 d1) (hT : seeT en (nmS en σ1) ≠ [91]) (hE : d1.kd ≠ 1 ∨ seeT en (nmS en σ1) ≠ [61]) :
    Rl (tm.part nb en ts) (mu en [59] (nmS en σ1)) { d1 with nm := seeT en σ1 } := by
  unfold tm.part
  cases σ1 with
  | error e => rw [h0.err]; rfl
  | ok us =>
    have h1 := name_rl (en := en) (us := us)
    rw [h0.okk]
    dsimp only
    cases h : nmS en (.ok us) with
    | error e => rw [h] at h1; rw [h1.err]; rfl
    | ok r =>
      rw [h] at h1 hT hE
      rw [h1.okk]
      dsimp only
      unfold tm.mark
      rw [if_neg (show ¬ (hd en r).t = [91] from hT), if_neg (show ¬ ((hd en r).t = [61] ∧ d1.kd = 1) from fun hc => by
        rcases hE with hE | hE
        · exact hE hc.2
        · exact hE hc.1)]
      unfold Rl mu
      dsimp only
      cases want en [59] r <;> rfl
/-- .. a rule. -/
def ruS (en : Nat) (a : Nat) (σ : Sg) : Sg :=
  if ruleOf (seeT en σ) = 0 then nmS en (fl 3 a (ps en σ))
  else if ruleOf (seeT en σ) = 3 then (if seeT en (nmS en (ps en σ)) = [59] then nmS en (ps en σ) else nmS en (nmS en (ps en σ)))
  else nmS en (ps en σ)
theorem rule_rl {en : Nat} {us : List Tk} (d : D) (a : Nat) (ha : a = (hd en us).a) :
    Rl (rule en d us) (ruS en a (.ok us)) (if ruleOf (hd en us).t = 3 then { d with ru := 3, f1 := seeT en (ps en (.ok us)), l1 := (if seeT en (nmS en (ps en (.ok us))) = [59] then seeT en (ps en (.ok us)) else seeT en (nmS en (ps en (.ok us)))) } else { d with ru := ruleOf (hd en us).t, f1 := seeT en (ps en (.ok us)) }) := by
  cases us with
  | nil =>
    rw [ha]
    clear ha
    have : rule en d [] = .error (3, en) := by unfold tm.rule; rw [if_pos (show ruleOf (hd en ([] : List Tk)).t = 0 by show ruleOf [] = 0; decide)]; rfl
    rw [this]
    unfold ruS
    rw [if_pos (show ruleOf (seeT en (.ok [])) = 0 by show ruleOf [] = 0; decide)]
    rfl
  | cons t r =>
    rw [ha]
    clear ha
    rw [show ps en (.ok (t :: r)) = .ok r from rfl]
    unfold ruS tm.rule
    rw [show ps en (.ok (t :: r)) = .ok r from rfl, show seeT en (.ok (t :: r)) = t.t from rfl, show (hd en (t :: r)).t = t.t from rfl, show (hd en (t :: r)).a = t.a from rfl, show seeT en (.ok r) = (hd en r).t from rfl]
    have h1 := name_rl (en := en) (us := r)
    by_cases h0 : ruleOf t.t = 0
    · rw [if_pos h0, if_pos h0]; rfl
    rw [if_neg h0, if_neg h0]
    rw [show (t :: r).tail = r from rfl]
    cases h : nmS en (.ok r) with
    | error e =>
      rw [h] at h1
      rw [h1.err]
      dsimp only
      by_cases h3 : ruleOf t.t = 3
      · rw [if_pos h3]
        rw [if_neg (show ¬ seeT en (.error e) = [59] by show ¬ ([] : List UInt8) = [59]; decide)]; rfl
      · rw [if_neg h3]; rfl
    | ok r2 =>
      rw [h] at h1
      rw [h1.okk]
      dsimp only
      rw [show seeT en (.ok r2) = (hd en r2).t from rfl]
      by_cases h3 : ruleOf t.t = 3
      · rw [if_pos h3, if_pos h3, if_pos h3]
        by_cases h4 : (hd en r2).t = [59]
        · rw [if_pos h4, if_pos h4, if_pos h4]; rfl
        · rw [if_neg h4, if_neg h4, if_neg h4]
          have h5 := name_rl (en := en) (us := r2)
          cases h6 : nmS en (.ok r2) with
          | error e => rw [h6] at h5; rw [h5.err]; rfl
          | ok r3 => rw [h6] at h5; rw [h5.okk]; rfl
      · rw [if_neg h3, if_neg h3, if_neg h3]; rfl
theorem part_ru {en : Nat} {ts : List Tk} {σ1 : Sg} {d1 : D} (h0 : Rl (kind en ts) σ1 d1) (hk : d1.kd = 1) (hT : seeT en (nmS en σ1) = [61]) (a : Nat) (ha : ∀ us, ps en (nmS en σ1) = .ok us → a = (hd en us).a) :
    Rl (tm.part nb en ts) (mu en [59] (ruS en a (ps en (nmS en σ1)))) (if ruleOf (seeT en (ps en (nmS en σ1))) = 3 then { d1 with nm := seeT en σ1, ru := 3, f1 := seeT en (ps en (ps en (nmS en σ1))), l1 := (if seeT en (nmS en (ps en (ps en (nmS en σ1)))) = [59] then seeT en (ps en (ps en (nmS en σ1))) else seeT en (nmS en (ps en (ps en (nmS en σ1))))) } else { d1 with nm := seeT en σ1, ru := ruleOf (seeT en (ps en (nmS en σ1))), f1 := seeT en (ps en (ps en (nmS en σ1))) }) := by
  obtain ⟨t, r, h2, h3⟩ := see_ok (by simp) hT
  cases σ1 with
  | error e => cases h2
  | ok us =>
    have h1 := name_rl (en := en) (us := us)
    rw [h2] at h1 ha ⊢
    rw [show ps en (.ok (t :: r)) = .ok r from rfl] at ha ⊢
    unfold tm.part
    rw [h0.okk]
    dsimp only
    rw [h1.okk]
    dsimp only
    unfold tm.mark
    rw [if_neg (show ¬ (hd en (t :: r)).t = [91] by show ¬ t.t = [91]; rw [h3]; decide), if_pos ⟨show (hd en (t :: r)).t = [61] from h3, hk⟩]
    rw [show (t :: r).tail = r from rfl]
    have h5 := rule_rl (en := en) (us := r) { d1 with nm := (hd en us).t } a (ha r rfl)
    rw [show seeT en (.ok us) = (hd en us).t from rfl, show seeT en (.ok r) = (hd en r).t from rfl]
    cases h6 : ruS en a (.ok r) with
    | error e => rw [h6] at h5; rw [h5.err]; rfl
    | ok r3 =>
      rw [h6] at h5
      rw [h5.okk]
      unfold Rl mu
      dsimp only
      cases want en [59] r3 <;> rfl
end Go.Proofs.YtpanodaecjlgaaaGreatDoor.tr
/- The library's own texts that a call comes to, as this program has them: laid on the shelf's. -/
namespace Go.Proofs.YtpanodaecjlgaaaGreatDoor.layQ
open Go.Shelf
def rf : FuncId → FuncId
  | 100 => 88
  | 207 => 110
  | x => x
def rt : TypeId → TypeId
  | 3 => 3
  | 4 => 4
  | 9 => 9
  | x => x
def rg : Nat → Nat

  | x => x
def ren : Ren := ⟨rf, rt, rg⟩
set_option maxRecDepth 100000 in
theorem laid : Lays.n100 Tryz.prog ren where
  mixed := by kernel_rfl
  f100 := by kernel_rfl
  f207 := by kernel_rfl
  t3 := by kernel_rfl
  a3 := fun _ => by kernel_rfl
  z3 := fun _ => by kernel_rfl
  v3 := fun _ => by kernel_rfl
  t4 := by kernel_rfl
  a4 := fun _ => by kernel_rfl
  z4 := fun _ => by kernel_rfl
  v4 := fun _ => by kernel_rfl
  t9 := by kernel_rfl
  a9 := fun _ => by kernel_rfl
  z9 := fun _ => by kernel_rfl
  v9 := fun _ => by kernel_rfl
end Go.Proofs.YtpanodaecjlgaaaGreatDoor.layQ
/- A map of bytes that a statement makes. -/
namespace Go.Proofs.YtpanodaecjlgaaaGreatDoor.tr
set_option linter.unusedVariables false
open Go.ChangeShapes Go.WideShapes Go.ChangeAt Go.RowKit Go.Maps
open mem lx ex tm

theorem lawB : Keyed Tryz.prog 5 := int_keyed Tryz.underlying5
def keyB (n : Int) : Lit := .int .u8 n
theorem keyB_of {n : Int} (h : (Lit.int .u8 n).wf = true) : keyOf Tryz.prog 5 (.int .u8 n) = some (keyB n) := keyOf_int_mk Tryz.underlying5 h
theorem isKeyB (z : Int) : WideAt.IsKeyLit (keyB z) := trivial
theorem keyB_inj {a b : Int} (h : a ≠ b) : keyB a ≠ keyB b := fun e => h (by unfold keyB at e; injection e)
/-- A map of the call's own that tells these numbers. -/
def Mb (w : World) (b : Nat) (f : Int → Int) (n : Nat) : Prop :=
  ∃ (D : DataW Unit) (c : Nat), c ≤ n ∧ w.ownsMap Tryz.prog 5 (plainElem Tryz.prog 3) b c D ∧ ∀ c, D.atKey (keyB c) (.lit (.int .i64 0)) = .lit (.int .i64 (f c))
theorem zero_int (w : World) : (zeroValue 3).run Tryz.prog w = .ok (.int .i64 0) w := by kernel_rfl
theorem Mb.step {w w' : World} {b n : Nat} {f : Int → Int} {row : Option Nat} (h : Mb w b f n) (hg : w.grownBy w' row) (hne : some b ≠ row) : Mb w' b f n := by
  obtain ⟨D, c, hc, h1, h2⟩ := h
  exact ⟨D, c, hc, h1.kept hg hne, h2⟩
set_option maxRecDepth 10000 in
theorem Mb.look {w : World} {b n : Nat} {f : Int → Int} (h : Mb w b f n) (c : Int) (hc : (Lit.int .u8 c).wf = true) :
    (Instr.lookup 149 (.map (some b)) (.int .u8 c) false).run Tryz.prog w = .ok (.int .i64 (f c)) w := by
  obtain ⟨D, c', hc', h1, h2⟩ := h
  obtain ⟨z, hrun, hz, _⟩ := h1.lookup_int lawB Tryz.underlying149 Tryz.underlying3 (zero_int w) (keyB_of hc)
  rw [h2 c] at hz
  have e4 : f c = z := by injection hz with e; injection e
  rw [hrun, e4]
set_option maxRecDepth 10000 in
theorem Mb.put {w : World} {b n : Nat} {f : Int → Int} (h : Mb w b f n) (c j : Int) (hc : (Lit.int .u8 c).wf = true) (hn : n ≤ 100000000) (hj : -1 ≤ j ∧ j ≤ 1000000) :
    ∃ w', (Instr.mapUpdate 149 (.map (some b)) (.int .u8 c) (.int .i64 j)).run Tryz.prog w = .ok () w' ∧ Mb w' b (fun d => if d = c then j else f d) (n + 1) ∧ w.grownBy w' (some b) := by
  obtain ⟨D, c', hc', h1, h2⟩ := h
  obtain ⟨w', hr, ho, hg⟩ := h1.update lawB Tryz.underlying149 (by unfold maxLen; omega) (keyB_of hc) (plainElem_int Tryz.underlying3 (a := j) (WalkArith.wf_i64 (by omega)))
  refine ⟨w', hr, ⟨_, c' + 1, by omega, ho, fun d => ?_⟩, hg⟩
  dsimp only
  by_cases e : d = c
  · subst e
    rw [atKey_put_same h1.isMap (isKeyB d), if_pos rfl]
  · rw [atKey_put_other (keyB_inj e), if_neg e]
    exact h2 d
theorem Mb.made (w : World) : Mb (w.alloc (.map #[] 0)) w.heap.size (fun _ => 0) 0 :=
  ⟨_, 0, Nat.le_refl _, World.ownsMap_made w Tryz.prog 5 _, fun c => rfl⟩
def kvb (w w' : World) (t n : Int) (b : Nat) : Prop := (Instr.mapUpdate 149 (.map (some b)) (.int .u8 t) (.int .i64 n)).run Tryz.prog w = .ok () w'
/-- The map that is made. -/
theorem fourB (w : World) (b : UInt8) (nw : Nat) (hb : (b = 56 ∧ nw = 1) ∨ (b = 49 ∧ nw = 2) ∨ (b = 51 ∧ nw = 4) ∨ (b = 54 ∧ nw = 8)) : ∃ w1 w2 w3 w4 : World, kvb (w.alloc (.map #[] 0)) w1 56 1 w.heap.size ∧ kvb w1 w2 49 2 w.heap.size ∧ kvb w2 w3 51 4 w.heap.size ∧ kvb w3 w4 54 8 w.heap.size ∧ Bl w w4 ∧
    (Instr.lookup 149 (.map (some w.heap.size)) (.int .u8 (b.toNat : Int)) false).run Tryz.prog w4 = .ok (.int .i64 (nw : Int)) w4 := by
  obtain ⟨w1, r1, o1, g1⟩ := (Mb.made w).put 56 1 (by decide) (by omega) (by omega)
  obtain ⟨w2, r2, o2, g2⟩ := o1.put 49 2 (by decide) (by omega) (by omega)
  obtain ⟨w3, r3, o3, g3⟩ := o2.put 51 4 (by decide) (by omega) (by omega)
  obtain ⟨w4, r4, o4, g4⟩ := o3.put 54 8 (by decide) (by omega) (by omega)
  refine ⟨w1, w2, w3, w4, r1, r2, r3, r4, ?_, ?_⟩
  · have b0 : Bl w (w.alloc (.map #[] 0)) := (Bl.refl w).alloc _
    have ne : ∀ k, some w.heap.size = some k → w.heap.size ≤ k := fun k hk => by injection hk with hk; omega
    exact bl_grown (bl_grown (bl_grown (bl_grown b0 g1 ne) g2 ne) g3 ne) g4 ne
  · rcases hb with ⟨rfl, rfl⟩ | ⟨rfl, rfl⟩ | ⟨rfl, rfl⟩ | ⟨rfl, rfl⟩
    · exact o4.look 56 (by decide)
    · exact o4.look 49 (by decide)
    · exact o4.look 51 (by decide)
    · exact o4.look 54 (by decide)
end Go.Proofs.YtpanodaecjlgaaaGreatDoor.tr
/- The document's reader of templates: an item. -/
namespace Go.Proofs.YtpanodaecjlgaaaGreatDoor.tr
set_option linter.unusedVariables false
open Go.ChangeShapes Go.WideShapes Go.ChangeAt Go.RowKit Go.Shelf
open mem lx ex tm

theorem Ml.gp {P : Nat} {w w' : World} (h : Ml w) (hg : Gp P w w') (hP : 4 < P) (hlt : P < w.heap.size) : Ml w' := by
  obtain ⟨m, hm⟩ := h
  refine ⟨m, ?_⟩
  unfold World.cell? at hm ⊢
  simp only [hg.block 4 (by omega) (by omega)]
  exact hm
/-- The item under way, and the one that is answered. -/
structure It (w0 w : World) (P X N en : Nat) (σ : Sg) (c : C) : Prop where
  gp : Gp P w0 w
  es : Es w P en σ
  iv : Iv w X c
  n : Iv w N ⟨D0, none, none, 0, 0⟩
  ml : Ml w
  ord : 4 < P ∧ P < N ∧ N < X ∧ w0.heap.size ≤ N
theorem It.go {w0 w w' : World} {P X N en : Nat} {σ σ' : Sg} {c : C} (h : It w0 w P X N en σ c) (he : Es w' P en σ') (hg : Gp P w w') : It w0 w' P X N en σ' c :=
  ⟨h.gp.trans hg, he, h.iv.gp hg (by have := h.ord; omega), h.n.gp hg (by have := h.ord; omega), h.ml.gp hg h.ord.1 h.es.lt, h.ord⟩
theorem It.bl {w0 w w' : World} {P X N en : Nat} {σ : Sg} {c : C} (h : It w0 w P X N en σ c) (hb : Bl w w') : It w0 w' P X N en σ c := h.go (h.es.bl hb) (Gp.bl hb)
theorem It.put {w0 w : World} {P X N en j : Nat} {σ : Sg} {c c' : C} {u : Value} (h : It w0 w P X N en σ c) (he : (cl c).toArray.setIfInBounds j u = (cl c').toArray) : It w0 (w.setCell ⟨X, j, none⟩ u) P X N en σ c' := by
  have ho := h.ord
  have hg := grown_set w X j u
  refine ⟨h.gp.setNew (by omega) u, h.es.put (by omega) u, h.iv.set he, ⟨?_⟩, ?_, ho⟩
  · rw [hg.block N h.n.lt (fun e => by injection e with e; omega)]; exact h.n.h
  · obtain ⟨m, hm⟩ := h.ml
    refine ⟨m, ?_⟩
    have := h.es.lt
    unfold World.cell? at hm ⊢
    simp only [hg.block 4 (by omega) (fun e => by injection e with e; omega)]
    exact hm
def C.kd (c : C) (k : Nat) : C := { c with d := { c.d with kd := k } }
def C.ty (c : C) (t : List UInt8) : C := { c with d := { c.d with ty := t } }
def C.wd (c : C) (k : Nat) : C := { c with d := { c.d with wd := k } }
def C.od (c : C) (k : Nat) : C := { c with d := { c.d with od := k } }
def C.sg (c : C) (b : Bool) : C := { c with d := { c.d with sg := b } }
def C.mn (c : C) (b : Bool) : C := { c with d := { c.d with mn := b } }
def C.px (c : C) (o : Option Addr) : C := { c with pc := o }
def C.sl (c : C) (p : Option Addr) (n k : Nat) : C := { c with p := p, n := n, c := k }
theorem set_kd (c : C) (k : Nat) : (cl c).toArray.setIfInBounds 0 (.int .i64 (k : Int)) = (cl (C.kd c k)).toArray := rfl
theorem set_ty (c : C) (t : List UInt8) : (cl c).toArray.setIfInBounds 3 (.string (tx t)) = (cl (C.ty c t)).toArray := rfl
theorem set_wd (c : C) (k : Nat) : (cl c).toArray.setIfInBounds 4 (.int .i64 (k : Int)) = (cl (C.wd c k)).toArray := rfl
theorem set_od (c : C) (k : Nat) : (cl c).toArray.setIfInBounds 5 (.int .i64 (k : Int)) = (cl (C.od c k)).toArray := rfl
theorem set_sg (c : C) (b : Bool) : (cl c).toArray.setIfInBounds 6 (.bool b) = (cl (C.sg c b)).toArray := rfl
theorem set_mn (c : C) (b : Bool) : (cl c).toArray.setIfInBounds 7 (.bool b) = (cl (C.mn c b)).toArray := rfl
theorem set_px (c : C) (o : Option Addr) : (cl c).toArray.setIfInBounds 8 (.pointer o) = (cl (C.px c o)).toArray := rfl
theorem set_sl (c : C) (p : Option Addr) (n k : Nat) : (cl c).toArray.setIfInBounds 12 (.slice p n k) = (cl (C.sl c p n k)).toArray := rfl
theorem It.kput {w0 w : World} {P X N en j : Nat} {σ : Sg} {c : C} {u : Value} (h : It w0 w P X N en σ c) : Kx w (w.setCell ⟨X, j, none⟩ u) := kx_item h.iv (grown_set w X j u)
theorem It.fin {w0 w : World} {P X N en : Nat} {σ : Sg} {c : C} (h : It w0 w P X N en σ c) : Gp P w0 (st13 w N c) ∧ Es (st13 w N c) P en σ ∧ Iv (st13 w N c) N c ∧ Kx w (st13 w N c) ∧ (∀ g, g ≠ N → g < w.heap.size → (st13 w N c).heap[g]? = w.heap[g]?) ∧ w.heap.size ≤ (st13 w N c).heap.size := by
  have ho := h.ord
  have hs := (st_rest w N c).2.2.2
  have hl := h.es.lt
  exact ⟨st_gp (c := c) h.gp ho.2.2.2, h.es.keep (fun g hg => st_other w N c g (by omega) (by omega)) hs, h.n.store c, kx_st (c' := c) h.n, fun g h1 h2 => st_other w N c g h2 h1, hs⟩
/-- What a pointer is, if all was right. -/
def Po (w : World) (o : Option Addr) (φ : Ex → Prop) : Prop := ∀ x, φ x → IsX w (.pointer o) x
theorem Po.keep {w w' : World} {o : Option Addr} {φ : Ex → Prop} (h : Po w o φ) (hk : Kx w w') : Po w' o φ := fun x hx => (h x hx).keep hk
/-- A block's parts, whatever was seen. -/
noncomputable def bkS (k en : Nat) (σ : Sg) : Sg := match σ with
  | .ok ts => (match blk nb en k ts with | .ok (_, r) => .ok r | .error e => .error e)
  | .error e => .error e
def BlkR (k : Nat) : Prop := ∀ (w : World) (P en dp : Nat) (σ : Sg), dp + k = 9 → Es w P en σ → Ml w → 4 < P →
  Calls Tryz.prog 31 #[.pointer (some ⟨P, 0, none⟩), .int .i64 (dp : Int)] w fun e w' =>
    (∃ p n c, e = .returned (.slice p n c) ∧ ∀ ts l r, σ = .ok ts → blk nb en k ts = .ok (l, r) → LV w.heap.size w' (.slice p n c) l) ∧ Es w' P en (bkS k en σ) ∧ Gp P w w'
/-- An item, whatever was seen. -/
noncomputable def itS (k en : Nat) (σ : Sg) : Sg := match σ with
  | .ok ts => (match item nb en (blk nb en k) ts with | .ok (_, r) => .ok r | .error e => .error e)
  | .error e => .error e
theorem when_way {k en : Nat} {t : Tk} {us : List Tk} (ht : t.t = wWhen) :
    (∃ x l r1 r2, exR en us = .ok (x, r1) ∧ blk nb en k r1 = .ok (l, r2) ∧ item nb en (blk nb en k) (t :: us) = .ok (({ D0 with kd := 4, at_ := t.a, ct := some x }, l), r2) ∧ bkS k en (exS en (.ok us)) = .ok r2) ∨ ∃ e, item nb en (blk nb en k) (t :: us) = .error e ∧ bkS k en (exS en (.ok us)) = .error e := by
  have e2 : rx nb en [123] us = match exR en us with | .ok (x, r) => (if (hd en r).t = [123] then .ok (x, r) else .error (3, (hd en r).a)) | .error e => .error e := by
    unfold rx exR
    cases row nb en (10 * us.length + 10) 1 0 us with
    | none => rfl
    | some q => cases q <;> rfl
  unfold item exS
  rw [if_pos (show (hd en (t :: us)).t = wWhen from ht), show (t :: us).tail = us from rfl, e2]
  dsimp only
  cases h : exR en us with
  | error e => exact Or.inr ⟨e, rfl, rfl⟩
  | ok xr =>
    obtain ⟨x, r⟩ := xr
    dsimp only
    unfold bkS
    dsimp only
    by_cases hc : (hd en r).t = [123]
    · rw [if_pos hc]
      dsimp only
      cases h2 : blk nb en k r with
      | error e => exact Or.inr ⟨e, rfl, rfl⟩
      | ok lr =>
        obtain ⟨l, r2⟩ := lr
        exact Or.inl ⟨x, l, r, r2, rfl, h2, rfl, rfl⟩
    · rw [if_neg hc]
      have : blk nb en k r = .error (3, (hd en r).a) := by
        cases k with
        | zero => rw [blk, if_neg hc]
        | succ k => rw [blk, if_neg hc]
      rw [this]
      exact Or.inr ⟨_, rfl, rfl⟩
/-- What an item's reading answers. -/
def ItA (w : World) (P en k : Nat) (σ : Sg) (e : Ending) (w' : World) : Prop :=
  (∃ c : C, e = .returned (itV c) ∧ ∀ ts x r, σ = .ok ts → item nb en (blk nb en k) ts = .ok (x, r) → IV w.heap.size w' (itV c) x) ∧ Es w' P en (itS k en σ) ∧ Gp P w w'
theorem ItA.when {w wz : World} {P X N en k a B : Nat} {σ : Sg} {cz : C} {t : Tk} {us : List Tk} {o lp : Option Addr} {ln lc : Nat} (hσ : σ = .ok (t :: us)) (ht : t.t = wWhen) (hat : a = t.a)
    (HZ : It w wz P X N en (bkS k en (exS en (.ok us))) cz) (hcz : cz = ⟨{ D0 with at_ := a, kd := 4 }, o, lp, ln, lc⟩) (hPo : Po wz o (fun x => ∃ r, exR en us = .ok (x, r)))
    (hLV : ∀ ts l r, exS en (.ok us) = .ok ts → blk nb en k ts = .ok (l, r) → LV B wz (.slice lp ln lc) l) (hB : w.heap.size ≤ B) (hN : N < B) : ItA w P en k σ (.returned (itV cz)) (st13 wz N cz) := by
  obtain ⟨f1, f2, f3, f4, f5, f6⟩ := HZ.fin
  rcases when_way (k := k) (en := en) (us := us) ht with ⟨x, l, r1, r2, m1, m2, m3, m4⟩ | ⟨e, m3, m4⟩
  · refine ⟨⟨cz, rfl, fun ts y r hts hy => ?_⟩, ?_, f1⟩
    · rw [hσ] at hts
      injection hts with hts
      subst hts
      rw [m3] at hy
      injection hy with hy
      injection hy with hy _
      subst hy
      have k0 : exS en (.ok us) = .ok r1 := by unfold exS; dsimp only; rw [m1]
      obtain ⟨p, c, cs, k1, k2, k3⟩ := hLV r1 l r2 k0 m2
      injection k1 with k1 k4 k5
      subst k1 k4 k5
      refine ⟨⟨{ D0 with kd := 4, at_ := t.a, ct := some x }, o, lp, l.len, lc⟩, ?_, rfl, (hPo x ⟨r1, m1⟩).keep f4, cs, ?_, ?_⟩
      · rw [hcz, hat]; rfl
      · exact (k2.keep (fun g h1 h2 => f5 g (by omega) h2) f6).mono (fun g h1 _ => Nat.le_trans hB h1)
      · exact (k3.keep (fun g h1 h2 => f5 g (by omega) h2) f6 f4).mono (fun g h1 _ => Nat.le_trans hB h1)
    · unfold itS
      rw [hσ]
      dsimp only
      rw [m3]
      rw [m4] at f2
      exact f2
  · refine ⟨⟨cz, rfl, fun ts y r hts hy => ?_⟩, ?_, f1⟩
    · rw [hσ] at hts
      injection hts with hts
      subst hts
      rw [m3] at hy
      cases hy
    · unfold itS
      rw [hσ]
      dsimp only
      rw [m3]
      rw [m4] at f2
      exact f2
/-- An item without others. -/
theorem ItA.flat {w wz : World} {P X N en k a : Nat} {σ σf : Sg} {cz : C} {ts : List Tk} (hσ : σ = .ok ts) (HZ : It w wz P X N en σf cz) (hn : cz.n = 0 ∧ cz.c = 0)
    (hi : (∃ d : D, Rl (item nb en (blk nb en k) ts) σf (({ d with at_ := a } : D), Its.nil) ∧ itV cz = itV { cz with d := { d with at_ := a } } ∧ (∀ r, σf = .ok r → IsO wz cz.pc d.ct)) ∨ ∃ e, item nb en (blk nb en k) ts = .error e ∧ σf = .error e) :
    ItA w P en k σ (.returned (itV cz)) (st13 wz N cz) := by
  obtain ⟨f1, f2, f3, f4, f5, f6⟩ := HZ.fin
  subst hσ
  rcases hi with ⟨d, h1, h2, h3⟩ | ⟨e, h1, h2⟩
  · cases σf with
    | ok r =>
      refine ⟨⟨cz, rfl, fun us y r' hts hy => ?_⟩, ?_, f1⟩
      · injection hts with hts
        subst hts
        rw [h1.okk] at hy
        injection hy with hy
        injection hy with hy _
        subst hy
        exact ⟨_, h2, rfl, (h3 r rfl).keep f4, Sub.nil _ _ _ hn⟩
      · unfold itS
        dsimp only
        rw [h1.okk]
        exact f2
    | error e =>
      refine ⟨⟨cz, rfl, fun us y r' hts hy => ?_⟩, ?_, f1⟩
      · injection hts with hts
        subst hts
        rw [h1.err] at hy
        cases hy
      · unfold itS
        dsimp only
        rw [h1.err]
        exact f2
  · subst h2
    refine ⟨⟨cz, rfl, fun us y r' hts hy => ?_⟩, ?_, f1⟩
    · injection hts with hts
      subst hts
      rw [h1] at hy
      cases hy
    · unfold itS
      dsimp only
      rw [h1]
      exact f2
theorem ItA.off {w wz : World} {P X N en k : Nat} {e : Int × Nat} {cz : C} (HZ : It w wz P X N en (.error e) cz) : ItA w P en k (.error e) (.returned (itV cz)) (st13 wz N cz) := by
  obtain ⟨f1, f2, f3, f4, f5, f6⟩ := HZ.fin
  exact ⟨⟨cz, rfl, fun us y r' hts hy => by cases hts⟩, f2, f1⟩
theorem ItA.bytes {w wz : World} {P X N en k a : Nat} {σ : Sg} {cz : C} {t : Tk} {us : List Tk} {o : Option Addr} (hσ : σ = .ok (t :: us)) (ht : t.t = wBytes) (hat : a = t.a)
    (HZ : It w wz P X N en (mu en [59] (brS en (nmS en (.ok us)))) cz) (hcz : cz = ⟨{ D0 with at_ := a, kd := 2, nm := seeT en (.ok us) }, o, none, 0, 0⟩) (hPo : Po wz o (Xq en (nmS en (.ok us)))) : ItA w P en k σ (.returned (itV cz)) (st13 wz N cz) := by
  have hit : item nb en (blk nb en k) (t :: us) = match byts nb en us with | .error e => .error e | .ok (d, r) => .ok (({ d with at_ := t.a }, .nil), r) := by
    unfold item
    rw [if_neg (show ¬ (hd en (t :: us)).t = wWhen by show ¬ t.t = wWhen; rw [ht]; decide), if_pos (show (hd en (t :: us)).t = wBytes from ht)]
    rfl
  refine ItA.flat (a := a) hσ HZ (by rw [hcz]; exact ⟨rfl, rfl⟩) ?_
  rcases byts_way (en := en) (us := us) with ⟨x, h1, h2⟩ | ⟨e, h1, h2⟩
  · refine Or.inl ⟨{ D0 with kd := 2, nm := (hd en us).t, ct := some x }, ?_, ?_, fun r hr => ?_⟩
    · rw [hit]
      cases hf : mu en [59] (brS en (nmS en (.ok us))) with
      | ok r => rw [hf] at h2; rw [h2.okk, hat]; rfl
      | error e => rw [hf] at h2; rw [h2.err]; rfl
    · rw [hcz]; rfl
    · rw [hcz]; exact hPo x h1
  · exact Or.inr ⟨e, by rw [hit, h1], h2⟩
theorem item_part {k en : Nat} {ts : List Tk} (h1 : (hd en ts).t ≠ wWhen) (h2 : (hd en ts).t ≠ wBytes) : item nb en (blk nb en k) ts = match tm.part nb en ts with | .error e => .error e | .ok (d, r) => .ok (({ d with at_ := (hd en ts).a }, .nil), r) := by
  unfold item
  rw [if_neg h1, if_neg h2]
  rfl
theorem ItA.pbr {w wz : World} {P X N en k a : Nat} {σ σ1 : Sg} {cz : C} {d1 : D} {ts : List Tk} {o : Option Addr} (hσ : σ = .ok ts) (h1 : (hd en ts).t ≠ wWhen) (h2 : (hd en ts).t ≠ wBytes) (hat : a = (hd en ts).a) (h0 : Rl (kind en ts) σ1 d1) (hT : seeT en (nmS en σ1) = [91])
    (HZ : It w wz P X N en (mu en [59] (brS en (nmS en σ1))) cz) (hcz : cz = ⟨{ d1 with at_ := a, nm := seeT en σ1, mn := true }, o, none, 0, 0⟩) (hPo : Po wz o (Xq en (nmS en σ1))) : ItA w P en k σ (.returned (itV cz)) (st13 wz N cz) := by
  have hit := item_part (k := k) h1 h2
  refine ItA.flat (a := a) hσ HZ (by rw [hcz]; exact ⟨rfl, rfl⟩) ?_
  rcases part_br h0 hT with ⟨x, k1, k2⟩ | ⟨e, k1, k2⟩
  · refine Or.inl ⟨{ d1 with nm := seeT en σ1, mn := true, ct := some x }, ?_, ?_, fun r hr => ?_⟩
    · rw [hit]
      cases hf : mu en [59] (brS en (nmS en σ1)) with
      | ok r => rw [hf] at k2; rw [k2.okk, hat]; rfl
      | error e => rw [hf] at k2; rw [k2.err]; rfl
    · rw [hcz]; rfl
    · rw [hcz]; exact hPo x k1
  · exact Or.inr ⟨e, by rw [hit, k1], k2⟩
theorem ItA.pno {w wz : World} {P X N en k a : Nat} {σ σf : Sg} {cz : C} {d : D} {ts : List Tk} (hσ : σ = .ok ts) (h1 : (hd en ts).t ≠ wWhen) (h2 : (hd en ts).t ≠ wBytes) (hat : a = (hd en ts).a) (h0 : Rl (tm.part nb en ts) σf d) (hct : d.ct = none)
    (HZ : It w wz P X N en σf cz) (hcz : cz = ⟨{ d with at_ := a }, none, none, 0, 0⟩) : ItA w P en k σ (.returned (itV cz)) (st13 wz N cz) := by
  have hit := item_part (k := k) h1 h2
  refine ItA.flat (a := a) hσ HZ (by rw [hcz]; exact ⟨rfl, rfl⟩) (Or.inl ⟨d, ?_, ?_, fun r hr => ?_⟩)
  · rw [hit]
    cases hf : σf with
    | ok r => rw [hf] at h0; rw [h0.okk, hat]; rfl
    | error e => rw [hf] at h0; rw [h0.err]; rfl
  · rw [hcz]
  · rw [hcz, hct]; rfl
theorem ItA.any {w wz : World} {P X N en k : Nat} {σ σf : Sg} {cz : C} (hoff : ∀ e, σ = .error e → σf = .error e) (HZ : It w wz P X N en σf cz) (hon : ∀ ts, σ = .ok ts → ItA w P en k σ (.returned (itV cz)) (st13 wz N cz)) : ItA w P en k σ (.returned (itV cz)) (st13 wz N cz) := by
  cases σ with
  | ok ts => exact hon ts rfl
  | error e => rw [hoff e rfl] at HZ; exact ItA.off HZ
theorem ru_none {en : Nat} {ts : List Tk} {σ1 : Sg} {d1 d : D} (h0 : Rl (kind en ts) σ1 d1) (hk : d1.kd = 1) (hT : seeT en (nmS en σ1) = [61]) (a : Nat) (ha : ∀ us, ps en (nmS en σ1) = .ok us → a = (hd en us).a) (hr : ruleOf (seeT en (ps en (nmS en σ1))) = 0) :
    Rl (tm.part nb en ts) (mu en [59] (nmS en (fl 3 a (ps en (ps en (nmS en σ1)))))) d := by
  have h := part_ru h0 hk hT a ha
  rw [show ruS en a (ps en (nmS en σ1)) = nmS en (fl 3 a (ps en (ps en (nmS en σ1)))) by unfold ruS; rw [if_pos hr]] at h
  cases hf : ps en (ps en (nmS en σ1)) with
  | ok r => rw [hf] at h; exact h
  | error e => rw [hf] at h; exact h
theorem ru_plain {en n : Nat} {ts : List Tk} {σ1 : Sg} {d1 : D} (h0 : Rl (kind en ts) σ1 d1) (hk : d1.kd = 1) (hT : seeT en (nmS en σ1) = [61]) (a : Nat) (ha : ∀ us, ps en (nmS en σ1) = .ok us → a = (hd en us).a) (hr : ruleOf (seeT en (ps en (nmS en σ1))) = n) (h1 : n ≠ 0) (h3 : n ≠ 3) :
    Rl (tm.part nb en ts) (mu en [59] (nmS en (ps en (ps en (nmS en σ1))))) { d1 with nm := seeT en σ1, ru := n, f1 := seeT en (ps en (ps en (nmS en σ1))) } := by
  have h := part_ru h0 hk hT a ha
  unfold ruS at h
  rw [hr, if_neg h1, if_neg h3, if_neg h3] at h
  exact h
theorem ru_one {en : Nat} {ts : List Tk} {σ1 : Sg} {d1 : D} (h0 : Rl (kind en ts) σ1 d1) (hk : d1.kd = 1) (hT : seeT en (nmS en σ1) = [61]) (a : Nat) (ha : ∀ us, ps en (nmS en σ1) = .ok us → a = (hd en us).a) (hr : ruleOf (seeT en (ps en (nmS en σ1))) = 3) (hs : seeT en (nmS en (ps en (ps en (nmS en σ1)))) = [59]) :
    Rl (tm.part nb en ts) (mu en [59] (nmS en (ps en (ps en (nmS en σ1))))) { d1 with nm := seeT en σ1, ru := 3, f1 := seeT en (ps en (ps en (nmS en σ1))), l1 := seeT en (ps en (ps en (nmS en σ1))) } := by
  have h := part_ru h0 hk hT a ha
  unfold ruS at h
  rw [hr, if_neg (by decide), if_pos rfl, if_pos rfl, if_pos hs, if_pos hs] at h
  exact h
theorem ru_two {en : Nat} {ts : List Tk} {σ1 : Sg} {d1 : D} (h0 : Rl (kind en ts) σ1 d1) (hk : d1.kd = 1) (hT : seeT en (nmS en σ1) = [61]) (a : Nat) (ha : ∀ us, ps en (nmS en σ1) = .ok us → a = (hd en us).a) (hr : ruleOf (seeT en (ps en (nmS en σ1))) = 3) (hs : seeT en (nmS en (ps en (ps en (nmS en σ1)))) ≠ [59]) :
    Rl (tm.part nb en ts) (mu en [59] (nmS en (nmS en (ps en (ps en (nmS en σ1)))))) { d1 with nm := seeT en σ1, ru := 3, f1 := seeT en (ps en (ps en (nmS en σ1))), l1 := seeT en (nmS en (ps en (ps en (nmS en σ1)))) } := by
  have h := part_ru h0 hk hT a ha
  unfold ruS at h
  rw [hr, if_neg (by decide), if_pos rfl, if_pos rfl, if_neg hs, if_neg hs] at h
  exact h
theorem kind_name {en : Nat} {ts : List Tk} (h : numOf (hd en ts).t = none) : Rl (kind en ts) (nmS en (.ok ts)) { D0 with kd := 3, ty := (hd en ts).t } := by
  have h1 := name_rl (en := en) (us := ts)
  unfold kind
  rw [h]
  dsimp only
  cases hf : nmS en (.ok ts) with
  | ok r => rw [hf] at h1; rw [h1.okk]; rfl
  | error e => rw [hf] at h1; rw [h1.err]; rfl
theorem kind_num {en : Nat} {t : Tk} {us : List Tk} {w o : Nat} {s : Bool} (h : numOf t.t = some (w, o, s)) : Rl (kind en (t :: us)) (.ok us) { D0 with kd := 1, wd := w, od := o, sg := s } := by
  unfold kind
  rw [show (hd en (t :: us)).t = t.t from rfl, h]
  rfl
theorem suf_at (S : ByteArray) (w : World) (h : S.size ≤ 5) : Calls Tryz.prog 88 #[.string S, .string ⟨#[98, 101]⟩] w fun e w' => e = .returned (.bool (Lib.hasSuffix (L S) [98, 101])) ∧ w' = w :=
  Any.strings_HasSuffix layQ.laid S ⟨#[98, 101]⟩ w (by omega)
theorem oneb_at (b : Bool) (J : Nat) (w : World) (h : (if b = true then 1 else 0) = J) : Calls Tryz.prog 87 #[.bool b] w fun e w' => e = .returned (.int .i64 (J : Int)) ∧ w' = w := by
  cases b with
  | true =>
    obtain rfl : J = 1 := by rw [← h]; rfl
    go_enter Tryz.func87, Tryz.ntmps87
    go_wp2
    go_ret
    exact ⟨rfl, rfl⟩
  | false =>
    obtain rfl : J = 0 := by rw [← h]; rfl
    go_enter Tryz.func87, Tryz.ntmps87
    go_wp2
    go_ret
    exact ⟨rfl, rfl⟩
theorem two_bytes {S : ByteArray} {a b : UInt8} {r : List UInt8} (h : S.toList = a :: b :: r) (h0 : 0 < S.size) (h1 : 1 < S.size) : S[0] = a ∧ S[1] = b := by
  rw [ByteArray.toList_eq] at h
  have k0 : S.data.toList[0]? = some a := by rw [h]; rfl
  have k1 : S.data.toList[1]? = some b := by rw [h]; rfl
  rw [Array.getElem?_toList] at k0 k1
  obtain ⟨_, k0⟩ := Array.getElem?_eq_some_iff.1 k0
  obtain ⟨_, k1⟩ := Array.getElem?_eq_some_iff.1 k1
  exact ⟨k0, k1⟩
/-- Is it a number's word: which bytes it begins with, and how it ends. -/
theorem num_bytes {T : List UInt8} (h : (numOf T).isSome = true) : ∃ (w o : Nat) (s : Bool) (a b : UInt8) (r : List UInt8), numOf T = some (w, o, s) ∧ T = a :: b :: r ∧ T.length ≤ 5 ∧ ((a.toNat : Int) == 105) = s ∧ ((b = 56 ∧ w = 1) ∨ (b = 49 ∧ w = 2) ∨ (b = 51 ∧ w = 4) ∨ (b = 54 ∧ w = 8)) ∧ (if Lib.hasSuffix T [98, 101] then 1 else 0) = o := by
  rw [num_mem, decide_eq_true_eq] at h
  have key : ∀ T ∈ numK, ∃ (w o : Nat) (s : Bool) (a b : UInt8) (r : List UInt8), numOf T = some (w, o, s) ∧ T = a :: b :: r ∧ T.length ≤ 5 ∧ ((a.toNat : Int) == 105) = s ∧ ((b = 56 ∧ w = 1) ∨ (b = 49 ∧ w = 2) ∨ (b = 51 ∧ w = 4) ∨ (b = 54 ∧ w = 8)) ∧ (if Lib.hasSuffix T [98, 101] then 1 else 0) = o := by
    intro T hT
    unfold numK numW at hT
    simp only [List.map_cons, List.map_nil, List.mem_cons, List.not_mem_nil, or_false] at hT
    rcases hT with rfl | rfl | rfl | rfl | rfl | rfl | rfl | rfl | rfl | rfl | rfl | rfl <;> exact ⟨_, _, _, _, _, _, rfl, rfl, by decide, rfl, by decide, rfl⟩
  exact key T h
set_option maxRecDepth 10000 in
set_option maxHeartbeats 4000000 in
theorem item_es (k : Nat) (cB : BlkR k) (w : World) (P en dp : Nat) (σ : Sg) (hk : dp + 1 + k = 9) (h : Es w P en σ) (hm : Ml w) (hP : 4 < P) :
    Calls Tryz.prog 56 #[.pointer (some ⟨P, 0, none⟩), .int .i64 (dp : Int)] w fun e w' => ItA w P en k σ e w' := by
  have hmm : ∀ w, (Instr.makeMap 149 none).run Tryz.prog w = .ok (.map (some w.heap.size)) (w.alloc (.map #[] 0)) := fun w => by kernel_rfl
  have hPw := h.lt
  obtain ⟨N, hN⟩ : ∃ N, N = w.heap.size := ⟨_, rfl⟩
  obtain ⟨w1, hw1⟩ : ∃ w1, w1 = w.alloc (.cells z13 75) := ⟨_, rfl⟩
  have hb1 : Bl w w1 := by rw [hw1]; exact (Bl.refl _).alloc _
  have hv1 : Iv w1 N ⟨D0, none, none, 0, 0⟩ := ⟨by rw [hw1, hN]; exact new_at _ _⟩
  have cP := place_es w1 P en σ (h.bl hb1)
  have HR : Hid (Es w P en σ ∧ Ml w ∧ N = w.heap.size ∧ Bl w w1 ∧ Iv w1 N ⟨D0, none, none, 0, 0⟩ ∧ BlkR k) := ⟨h, hm, hN, hb1, hv1, cB⟩
  clear h hm cB hb1 hv1
  go_enter Tryz.func56, Tryz.ntmps56
  go_upto_region 1 with fail
  change Code.wp _ _ _ _ (w.alloc (.cells z13 75))
  rw [← hw1, ← hN]
  clear hw1 hN
  go_wp2_with fail
  refine cP.mono ?_
  rintro e w2 ⟨⟨a, rfl, ha⟩, rfl⟩
  go_upto_region 2 with fail
  obtain ⟨X, hX⟩ : ∃ X, X = w2.heap.size := ⟨_, rfl⟩
  obtain ⟨w3, hw3⟩ : ∃ w3, w3 = w2.alloc (.cells (cl ⟨{ D0 with at_ := a }, none, none, 0, 0⟩).toArray 75) := ⟨_, rfl⟩
  change Code.wp _ _ _ _ (w2.alloc (.cells (cl ⟨{ D0 with at_ := a }, none, none, 0, 0⟩).toArray 75))
  rw [← hw3, ← hX]
  have hb3 : Bl w2 w3 := by rw [hw3]; exact (Bl.refl _).alloc _
  have hv3 : Iv w3 X ⟨{ D0 with at_ := a }, none, none, 0, 0⟩ := ⟨by rw [hw3, hX]; exact new_at _ _⟩
  have hNX : N < X := by rw [hX]; exact HR.out.2.2.2.2.1.lt
  have hPN : P < N := by rw [HR.out.2.2.1]; exact hPw
  have H3 : Hid (It w w3 P X N en σ ⟨{ D0 with at_ := a }, none, none, 0, 0⟩) := ⟨Gp.bl (HR.out.2.2.2.1.trans hb3), HR.out.1.bl (HR.out.2.2.2.1.trans hb3), hv3, HR.out.2.2.2.2.1.bl hb3, HR.out.2.1.step (HR.out.2.2.2.1.trans hb3), hP, hPN, hNX, by rw [HR.out.2.2.1]; exact Nat.le_refl _⟩
  have HA : Hid ((∀ ts, σ = .ok ts → a = (hd en ts).a) ∧ N = w.heap.size ∧ BlkR k ∧ w.heap.size ≤ w3.heap.size) := ⟨ha, HR.out.2.2.1, HR.out.2.2.2.2.2, (HR.out.2.2.2.1.trans hb3).size⟩
  have cT := text_es w3 P en σ H3.out.es
  clear hw3 hX hb3 hv3 cP ha HR
  go_wp2_with fail
  refine cT.mono ?_
  rintro e w4 ⟨rfl, hb4⟩
  have H4 : Hid (It w w4 P X N en σ ⟨{ D0 with at_ := a }, none, none, 0, 0⟩) := H3.out.bl hb4
  clear hb4 cT H3
  have hSl : (tx (seeT en σ)).size = (seeT en σ).length := tx_size _
  have hTl := H4.out.es.tok
  have htl := tl_tx (seeT en σ)
  obtain ⟨S, hS⟩ : ∃ S, S = tx (seeT en σ) := ⟨_, rfl⟩
  rw [← hS] at hSl htl ⊢
  have HS : Hid (S = tx (seeT en σ)) := hS
  obtain ⟨x0, x1, x2, x3, x4, x5, x6, x7, x8, x9, x10, x11, x12⟩ := H4.out.iv.facts
  obtain ⟨z0, z1, z2, z3, z4, z5, z6, z7, z8, z9, z10, z11, z12⟩ := H4.out.iv.fzs
  have cQ := pass_es w4 P en σ H4.out.es
  by_cases hW : seeT en σ = wWhen
  · have hq : (S.toList == [119, 104, 101, 110]) = true := by rw [htl, hW]; rfl
    obtain ⟨t, us, hσ, ht⟩ := see_ok (by decide) hW
    rw [hσ, show ps en (.ok (t :: us)) = .ok us from rfl] at cQ
    rw [hσ] at H4 HA
    have HW : Hid (σ = .ok (t :: us) ∧ t.t = wWhen) := ⟨hσ, ht⟩
    clear htl hW hσ hSl hTl hS ht x0 x1 x2 x3 x4 x5 x6 x7 x8 x9 x10 x11 x12 z0 z1 z2 z3 z4 z5 z6 z7 z8 z9 z10 z11 z12
    go_wp2_with fail
    refine cQ.mono ?_
    rintro e w5 ⟨rfl, hE, hg⟩
    have H5 : Hid (It w w5 P X N en (.ok us) ⟨{ D0 with at_ := a }, none, none, 0, 0⟩) := H4.out.go hE hg
    have cX := expr_es w5 P en _ hE
    clear hE hg cQ H4
    go_upto_region 7 with fail
    go_wp2_with fail
    refine cX.mono ?_
    rintro e w6 ⟨⟨o, rfl, ho⟩, hE, hg⟩
    have H6 : Hid (It w w6 P X N en (exS en (.ok us)) ⟨{ D0 with at_ := a }, none, none, 0, 0⟩ ∧ Po w6 o (fun x => ∃ r, exR en us = .ok (x, r))) := ⟨H5.out.go hE hg, fun x ⟨r, hr⟩ => ho us x r rfl hr⟩
    obtain ⟨x0, x1, x2, x3, x4, x5, x6, x7, x8, x9, x10, x11, x12⟩ := H6.out.1.iv.facts
    obtain ⟨z0, z1, z2, z3, z4, z5, z6, z7, z8, z9, z10, z11, z12⟩ := H6.out.1.iv.fzs
    have hXs := H6.out.1.iv.lt
    obtain ⟨wx, hwx⟩ : ∃ wx, wx = (w6.setCell ⟨X, 0, none⟩ (.int .i64 4)).setCell ⟨X, 8, none⟩ (.pointer o) := ⟨_, rfl⟩
    have HX : Hid (It w wx P X N en (exS en (.ok us)) ⟨{ D0 with at_ := a, kd := 4 }, o, none, 0, 0⟩ ∧ Po wx o (fun x => ∃ r, exR en us = .ok (x, r)) ∧ w.heap.size ≤ wx.heap.size) := by
      have j1 := H6.out.1.put (set_kd _ 4)
      have j2 := j1.put (set_px _ o)
      rw [hwx]
      exact ⟨j2, (H6.out.2.keep H6.out.1.kput).keep j1.kput, j2.gp.size⟩
    have cB := HA.out.2.2.1 wx P en (dp + 1) _ (by omega) HX.out.1.es HX.out.1.ml hP
    rw [show ((dp + 1 : Nat) : Int) = (dp : Int) + 1 by omega] at cB
    have hdp : (dp : Int) + 1 ≤ 9223372036854775807 := by omega
    clear hE hg ho cX H5
    go_upto_region 8 with fail
    rw [← hwx]
    clear hwx x0 x1 x2 x3 x4 x5 x6 x7 x8 x9 x10 x11 x12 z0 z1 z2 z3 z4 z5 z6 z7 z8 z9 z10 z11 z12 hXs
    go_wp2_with fail
    refine cB.mono ?_
    rintro e w7 ⟨⟨lp, ln, lc, rfl, hl⟩, hE, hg⟩
    have H7 : Hid (It w w7 P X N en (bkS k en (exS en (.ok us))) ⟨{ D0 with at_ := a, kd := 4 }, o, none, 0, 0⟩ ∧ Po w7 o (fun x => ∃ r, exR en us = .ok (x, r)) ∧ ∀ ts l r, exS en (.ok us) = .ok ts → blk nb en k ts = .ok (l, r) → LV wx.heap.size w7 (.slice lp ln lc) l) := ⟨HX.out.1.go hE hg, HX.out.2.1.keep (HX.out.1.es.kx hg), hl⟩
    have x12 : w7.cell? ⟨X, 12, none⟩ = some (.slice none 0 0) := H7.out.1.iv.cell 12
    have z12 := H7.out.1.iv.fz 12
    have hXs := H7.out.1.iv.lt
    obtain ⟨wz, hwz⟩ : ∃ wz, wz = w7.setCell ⟨X, 12, none⟩ (.slice lp ln lc) := ⟨_, rfl⟩
    obtain ⟨cz, hcz⟩ : ∃ cz : C, cz = ⟨{ D0 with at_ := a, kd := 4 }, o, lp, ln, lc⟩ := ⟨_, rfl⟩
    have HZ : Hid (It w wz P X N en (bkS k en (exS en (.ok us))) cz ∧ cz = ⟨{ D0 with at_ := a, kd := 4 }, o, lp, ln, lc⟩ ∧ Po wz o (fun x => ∃ r, exR en us = .ok (x, r)) ∧ ∀ ts l r, exS en (.ok us) = .ok ts → blk nb en k ts = .ok (l, r) → LV wx.heap.size wz (.slice lp ln lc) l) := by
      have j1 := H7.out.1.put (set_sl _ lp ln lc)
      rw [hwz, hcz]
      refine ⟨j1, rfl, H7.out.2.1.keep H7.out.1.kput, fun ts l r h1 h2 => ?_⟩
      have hg := grown_set w7 X 12 (.slice lp ln lc)
      have hXx := HX.out.1.iv.lt
      obtain ⟨p, c, cs, k1, k2, k3⟩ := H7.out.2.2 ts l r h1 h2
      exact ⟨p, c, cs, k1, k2.keep (fun g h1 h2 => hg.block g h2 (fun e => by injection e with e; omega)) hg.size, k3.keep (fun g h1 h2 => hg.block g h2 (fun e => by injection e with e; omega)) hg.size H7.out.1.kput⟩
    clear hE hg hl hcz H7 H6 cB
    go_upto_region 9 with fail
    rw [← hwz]
    clear hwz x12 z12 hXs
    obtain ⟨q0, q1, q2, q3, q4, q5, q6, q7, q8, q9, q10, q11, q12⟩ := HZ.out.1.n.facts
    obtain ⟨z0, z1, z2, z3, z4, z5, z6, z7, z8, z9, z10, z11, z12⟩ := HZ.out.1.n.fzs
    obtain ⟨x0, x1, x2, x3, x4, x5, x6, x7, x8, x9, x10, x11, x12⟩ := HZ.out.1.iv.facts
    have hNy := HZ.out.1.n.lt
    have hXy := HZ.out.1.iv.lt
    go_wp2
    have hst := HZ.out.1.fin.2.2.1
    exact bodyPost_ret (v := itV cz) (results_cell_row rfl _ _ N 75 (cl cz).toArray (0, 0) _ rfl hst.h Tryz.underlying75 rfl infoI) rfl (ItA.when HW.out.1 HW.out.2 (HA.out.1 _ rfl) HZ.out.1 HZ.out.2.1 HZ.out.2.2.1 HZ.out.2.2.2 HX.out.2.2 HX.out.1.n.lt)
  by_cases hY : seeT en σ = wBytes
  · have hq : (S.toList == [119, 104, 101, 110]) = false := by rw [htl, beq_eq_false_iff_ne]; exact hW
    have hq1 : (S.toList == [98, 121, 116, 101, 115]) = true := by rw [htl, hY]; rfl
    obtain ⟨t, us, hσ, ht⟩ := see_ok (by decide) hY
    rw [hσ, show ps en (.ok (t :: us)) = .ok us from rfl] at cQ
    rw [hσ] at H4 HA
    have HW : Hid (σ = .ok (t :: us) ∧ t.t = wBytes) := ⟨hσ, ht⟩
    clear htl hW hY hσ hSl hTl hS ht x0 x1 x2 x3 x4 x5 x6 x7 x8 x9 x10 x11 x12 z0 z1 z2 z3 z4 z5 z6 z7 z8 z9 z10 z11 z12
    go_wp2_with fail
    refine cQ.mono ?_
    rintro e w5 ⟨rfl, hE, hg⟩
    have H5 : Hid (It w w5 P X N en (.ok us) ⟨{ D0 with at_ := a }, none, none, 0, 0⟩) := H4.out.go hE hg
    have cX := name_es w5 P en _ hE H5.out.ml
    clear hE hg cQ H4
    go_upto_region 12 with fail
    go_wp2_with fail
    refine cX.mono ?_
    rintro e w6 ⟨rfl, hE, hg⟩
    have H6 : Hid (It w w6 P X N en (nmS en (.ok us)) ⟨{ D0 with at_ := a }, none, none, 0, 0⟩) := H5.out.go hE hg
    obtain ⟨V, hV⟩ : ∃ V, V = tx (seeT en (.ok us)) := ⟨_, rfl⟩
    rw [← hV]
    obtain ⟨x0, x1, x2, x3, x4, x5, x6, x7, x8, x9, x10, x11, x12⟩ := H6.out.iv.facts
    obtain ⟨z0, z1, z2, z3, z4, z5, z6, z7, z8, z9, z10, z11, z12⟩ := H6.out.iv.fzs
    have hXs := H6.out.iv.lt
    obtain ⟨wx, hwx⟩ : ∃ wx, wx = (w6.setCell ⟨X, 0, none⟩ (.int .i64 2)).setCell ⟨X, 2, none⟩ (.string V) := ⟨_, rfl⟩
    have HX : Hid (It w wx P X N en (nmS en (.ok us)) ⟨{ D0 with at_ := a, kd := 2, nm := seeT en (.ok us) }, none, none, 0, 0⟩) := by
      rw [hwx, hV]
      exact (H6.out.put (set_kd _ 2)).put (set_nm _ (seeT en (.ok us)))
    have cB := bracket_es wx P en _ HX.out.es
    clear hE hg cX H5 hV
    go_upto_region 13 with fail
    rw [← hwx]
    clear hwx x0 x1 x2 x3 x4 x5 x6 x7 x8 x9 x10 x11 x12 z0 z1 z2 z3 z4 z5 z6 z7 z8 z9 z10 z11 z12 hXs
    go_wp2_with fail
    refine cB.mono ?_
    rintro e w7 ⟨⟨o, rfl, ho⟩, hE, hg⟩
    have H7 : Hid (It w w7 P X N en (brS en (nmS en (.ok us))) ⟨{ D0 with at_ := a, kd := 2, nm := seeT en (.ok us) }, none, none, 0, 0⟩ ∧ Po w7 o (Xq en (nmS en (.ok us)))) := ⟨HX.out.go hE hg, fun x ⟨vs, r, h1, h2⟩ => ho vs x r h1 h2⟩
    have x8 : w7.cell? ⟨X, 8, none⟩ = some (.pointer none) := H7.out.1.iv.cell 8
    have z8 := H7.out.1.iv.fz 8
    have hXs := H7.out.1.iv.lt
    obtain ⟨wy, hwy⟩ : ∃ wy, wy = w7.setCell ⟨X, 8, none⟩ (.pointer o) := ⟨_, rfl⟩
    have HY : Hid (It w wy P X N en (brS en (nmS en (.ok us))) ⟨{ D0 with at_ := a, kd := 2, nm := seeT en (.ok us) }, o, none, 0, 0⟩ ∧ Po wy o (Xq en (nmS en (.ok us)))) := by
      rw [hwy]
      exact ⟨H7.out.1.put (set_px _ o), H7.out.2.keep H7.out.1.kput⟩
    have cM := must_es wy P en _ [59] (by simp) HY.out.1.es
    clear hE hg ho cB H7 H6
    go_upto_region 20 with fail
    rw [← hwy]
    clear hwy x8 z8 hXs
    have x0 : wy.cell? ⟨X, 0, none⟩ = some (.int .i64 2) := HY.out.1.iv.cell 0
    have hXs := HY.out.1.iv.lt
    go_wp2_with fail
    refine cM.mono ?_
    rintro e w8 ⟨rfl, hE, hg⟩
    obtain ⟨cz, hcz⟩ : ∃ cz : C, cz = ⟨{ D0 with at_ := a, kd := 2, nm := seeT en (.ok us) }, o, none, 0, 0⟩ := ⟨_, rfl⟩
    have HZ : Hid (It w w8 P X N en (mu en [59] (brS en (nmS en (.ok us)))) cz ∧ cz = ⟨{ D0 with at_ := a, kd := 2, nm := seeT en (.ok us) }, o, none, 0, 0⟩ ∧ Po w8 o (Xq en (nmS en (.ok us)))) := by
      rw [hcz]
      exact ⟨HY.out.1.go hE hg, rfl, HY.out.2.keep (HY.out.1.es.kx hg)⟩
    clear hE hg cM hcz x0 hXs
    obtain ⟨q0, q1, q2, q3, q4, q5, q6, q7, q8, q9, q10, q11, q12⟩ := HZ.out.1.n.facts
    obtain ⟨z0, z1, z2, z3, z4, z5, z6, z7, z8, z9, z10, z11, z12⟩ := HZ.out.1.n.fzs
    obtain ⟨x0, x1, x2, x3, x4, x5, x6, x7, x8, x9, x10, x11, x12⟩ := HZ.out.1.iv.facts
    have hNy := HZ.out.1.n.lt
    have hXy := HZ.out.1.iv.lt
    go_wp2
    have hst := HZ.out.1.fin.2.2.1
    exact bodyPost_ret (v := itV cz) (results_cell_row rfl _ _ N 75 (cl cz).toArray (0, 0) _ rfl hst.h Tryz.underlying75 rfl infoI) rfl (ItA.bytes HW.out.1 HW.out.2 (HA.out.1 _ rfl) HZ.out.1 HZ.out.2.1 HZ.out.2.2)
  have hq : (S.toList == [119, 104, 101, 110]) = false := by rw [htl, beq_eq_false_iff_ne]; exact hW
  have hq1 : (S.toList == [98, 121, 116, 101, 115]) = false := by rw [htl, beq_eq_false_iff_ne]; exact hY
  have cI := isNum_at (seeT en σ) w4 H4.out.es.gap hTl H4.out.ml
  rw [← hS] at cI
  cases hn : (numOf (seeT en σ)).isSome with
  | false =>
    rw [hn] at cI
    obtain ⟨σ1, hσ1⟩ : ∃ σ1, σ1 = nmS en σ := ⟨_, rfl⟩
    obtain ⟨d1, hd1⟩ : ∃ d1 : D, d1 = { D0 with kd := 3, ty := seeT en σ } := ⟨_, rfl⟩
    have HK : Hid (d1.kd = 3 ∧ d1.ct = none) := by rw [hd1]; exact ⟨rfl, rfl⟩
    have HF : Hid ((∀ e, σ = .error e → σ1 = .error e) ∧ ∀ ts, σ = .ok ts → (hd en ts).t ≠ wWhen ∧ (hd en ts).t ≠ wBytes ∧ a = (hd en ts).a ∧ Rl (kind en ts) σ1 d1) := by
      refine ⟨fun e he => by rw [hσ1, he]; rfl, fun ts hts => ?_⟩
      rw [hts] at hW hY hn
      refine ⟨hW, hY, HA.out.1 ts hts, ?_⟩
      rw [hσ1, hd1, hts]
      refine kind_name ?_
      cases h : numOf (hd en ts).t with
      | none => rfl
      | some q => have hn : (numOf (hd en ts).t).isSome = false := hn; rw [h] at hn; cases hn
    have cN := name_es w4 P en _ H4.out.es H4.out.ml
    rw [← hσ1, ← hS] at cN
    clear htl hW hY hSl hTl hn hS cQ x0 x1 x2 x3 x4 x5 x6 x7 x8 x9 x10 x11 x12 z0 z1 z2 z3 z4 z5 z6 z7 z8 z9 z10 z11 z12
    go_wp2_with fail
    refine (cI).mono ?_
    rintro e w5 ⟨rfl, hw5⟩
    obtain rfl := hw5.symm
    go_wp2_with fail
    refine cN.mono ?_
    rintro e w5 ⟨rfl, hE, hg⟩
    have H5 : Hid (It w w5 P X N en σ1 ⟨{ D0 with at_ := a }, none, none, 0, 0⟩) := H4.out.go hE hg
    clear hE hg cN cI H4
    obtain ⟨x0, x1, x2, x3, x4, x5, x6, x7, x8, x9, x10, x11, x12⟩ := H5.out.iv.facts
    obtain ⟨z0, z1, z2, z3, z4, z5, z6, z7, z8, z9, z10, z11, z12⟩ := H5.out.iv.fzs
    have hXs := H5.out.iv.lt
    obtain ⟨wx, hwx⟩ : ∃ wx, wx = (w5.setCell ⟨X, 0, none⟩ (.int .i64 3)).setCell ⟨X, 3, none⟩ (.string S) := ⟨_, rfl⟩
    have HX : Hid (It w wx P X N en σ1 ⟨{ d1 with at_ := a }, none, none, 0, 0⟩) := by
      rw [hwx, hd1, HS.out]
      exact (H5.out.put (set_kd _ 3)).put (set_ty _ (seeT en σ))
    have cN := name_es wx P en _ HX.out.es HX.out.ml
    clear hσ1 hd1
    go_upto_region 4 with fail
    rw [← hwx]
    clear hwx x0 x1 x2 x3 x4 x5 x6 x7 x8 x9 x10 x11 x12 z0 z1 z2 z3 z4 z5 z6 z7 z8 z9 z10 z11 z12 hXs H5
    go_wp2_with fail
    refine cN.mono ?_
    rintro e w5 ⟨rfl, hE, hg⟩
    have H5 : Hid (It w w5 P X N en (nmS en σ1) ⟨{ d1 with at_ := a }, none, none, 0, 0⟩) := HX.out.go hE hg
    clear hE hg cN HX
    obtain ⟨V, hV⟩ : ∃ V, V = tx (seeT en σ1) := ⟨_, rfl⟩
    rw [← hV]
    have HV : Hid (V = _) := hV
    clear hV
    have x2 : w5.cell? ⟨X, 2, none⟩ = some (.string (tx d1.nm)) := H5.out.iv.cell 2
    have z2 := H5.out.iv.fz 2
    have hXs := H5.out.iv.lt
    obtain ⟨w6, hw6⟩ : ∃ w6, w6 = w5.setCell ⟨X, 2, none⟩ (.string V) := ⟨_, rfl⟩
    have H6 : Hid (It w w6 P X N en (nmS en σ1) ⟨{ d1 with at_ := a, nm := seeT en σ1 }, none, none, 0, 0⟩) := by rw [hw6, HV.out]; exact H5.out.put (set_nm _ _)
    go_upto_region 20 with fail
    rw [← hw6]
    clear hw6 x2 z2 hXs H5
    have x0 : w6.cell? ⟨X, 0, none⟩ = some (.int .i64 3) := by
      have := H6.out.iv.cell 0
      rw [this]
      show some (Value.int .i64 ((d1.kd : Nat) : Int)) = _
      rw [HK.out.1]
      rfl
    have hXs := H6.out.iv.lt
    have cT := text_es w6 P en _ H6.out.es
    go_wp2_with fail
    refine cT.mono ?_
    rintro e w7 ⟨rfl, hb7⟩
    have H7 : Hid (It w w7 P X N en (nmS en σ1) ⟨{ d1 with at_ := a, nm := seeT en σ1 }, none, none, 0, 0⟩) := H6.out.bl hb7
    have htl2 := tl_tx (seeT en (nmS en σ1))
    obtain ⟨S2, hS2⟩ : ∃ S2, S2 = tx (seeT en (nmS en σ1)) := ⟨_, rfl⟩
    rw [← hS2] at htl2 ⊢
    clear hb7 cT x0 hS2 H6
    have x0 : w7.cell? ⟨X, 0, none⟩ = some (.int .i64 3) := by
      have := H7.out.iv.cell 0
      rw [this]
      show some (Value.int .i64 ((d1.kd : Nat) : Int)) = _
      rw [HK.out.1]
      rfl
    have hXs := H7.out.iv.lt
    by_cases hB : seeT en (nmS en σ1) = [91]
    · have hq2 : (S2.toList == [91]) = true := by rw [htl2, hB]; rfl
      have HB : Hid (seeT en (nmS en σ1) = [91]) := hB
      have cB := bracket_es w7 P en _ H7.out.es
      clear htl2 hB
      go_wp2_with fail
      refine cB.mono ?_
      rintro e w8 ⟨⟨o, rfl, ho⟩, hE, hg⟩
      have H8 : Hid (It w w8 P X N en (brS en (nmS en σ1)) ⟨{ d1 with at_ := a, nm := seeT en σ1 }, none, none, 0, 0⟩ ∧ Po w8 o (Xq en (nmS en σ1))) := ⟨H7.out.go hE hg, fun x ⟨vs, r, h1, h2⟩ => ho vs x r h1 h2⟩
      clear x0 hXs H7 cB hE hg ho
      obtain ⟨x0, x1, x2, x3, x4, x5, x6, x7, x8, x9, x10, x11, x12⟩ := H8.out.1.iv.facts
      obtain ⟨z0, z1, z2, z3, z4, z5, z6, z7, z8, z9, z10, z11, z12⟩ := H8.out.1.iv.fzs
      have hXs := H8.out.1.iv.lt
      obtain ⟨wy, hwy⟩ : ∃ wy, wy = (w8.setCell ⟨X, 7, none⟩ (.bool true)).setCell ⟨X, 8, none⟩ (.pointer o) := ⟨_, rfl⟩
      have HY : Hid (It w wy P X N en (brS en (nmS en σ1)) ⟨{ d1 with at_ := a, nm := seeT en σ1, mn := true }, o, none, 0, 0⟩ ∧ Po wy o (Xq en (nmS en σ1))) := by
        have j1 := H8.out.1.put (set_mn _ true)
        rw [hwy]
        exact ⟨j1.put (set_px _ o), (H8.out.2.keep H8.out.1.kput).keep j1.kput⟩
      have cM := must_es wy P en _ [59] (by simp) HY.out.1.es
      clear H8
      go_upto_region 37 with fail
      rw [← hwy]
      clear hwy x0 x1 x2 x3 x4 x5 x6 x7 x8 x9 x10 x11 x12 z0 z1 z2 z3 z4 z5 z6 z7 z8 z9 z10 z11 z12 hXs
      go_wp2_with fail
      refine cM.mono ?_
      rintro e wm ⟨rfl, hE, hg⟩
      obtain ⟨cz, hcz⟩ : ∃ cz : C, cz = ⟨{ d1 with at_ := a, nm := seeT en σ1, mn := true }, o, none, 0, 0⟩ := ⟨_, rfl⟩
      have HZ : Hid (It w wm P X N en (mu en [59] (brS en (nmS en σ1))) cz ∧ cz = ⟨{ d1 with at_ := a, nm := seeT en σ1, mn := true }, o, none, 0, 0⟩ ∧ Po wm o (Xq en (nmS en σ1))) := by
        rw [hcz]
        exact ⟨HY.out.1.go hE hg, rfl, HY.out.2.keep (HY.out.1.es.kx hg)⟩
      clear hE hg cM hcz
      obtain ⟨q0, q1, q2, q3, q4, q5, q6, q7, q8, q9, q10, q11, q12⟩ := HZ.out.1.n.facts
      obtain ⟨z0, z1, z2, z3, z4, z5, z6, z7, z8, z9, z10, z11, z12⟩ := HZ.out.1.n.fzs
      obtain ⟨x0, x1, x2, x3, x4, x5, x6, x7, x8, x9, x10, x11, x12⟩ := HZ.out.1.iv.facts
      have hNy := HZ.out.1.n.lt
      have hXy := HZ.out.1.iv.lt
      go_wp2
      have hst := HZ.out.1.fin.2.2.1
      exact bodyPost_ret (v := itV cz) (results_cell_row rfl _ _ N 75 (cl cz).toArray (0, 0) _ rfl hst.h Tryz.underlying75 rfl infoI) rfl (ItA.any (fun e he => by rw [HF.out.1 e he]; rfl) HZ.out.1 (fun ts hts => ItA.pbr hts (HF.out.2 ts hts).1 (HF.out.2 ts hts).2.1 (HF.out.2 ts hts).2.2.1 (HF.out.2 ts hts).2.2.2 HB.out HZ.out.1 HZ.out.2.1 HZ.out.2.2))
    · have hq2 : (S2.toList == [91]) = false := by rw [htl2, beq_eq_false_iff_ne]; exact hB
      have HB : Hid (seeT en (nmS en σ1) ≠ [91]) := hB
      clear htl2 hB
      have cM := must_es w7 P en _ [59] (by simp) H7.out.es
      go_wp2_with fail
      refine cM.mono ?_
      rintro e wm ⟨rfl, hE, hg⟩
      obtain ⟨cz, hcz⟩ : ∃ cz : C, cz = ⟨{ d1 with at_ := a, nm := seeT en σ1 }, none, none, 0, 0⟩ := ⟨_, rfl⟩
      have HZ : Hid (It w wm P X N en (mu en [59] (nmS en σ1)) cz ∧ cz = ⟨{ d1 with at_ := a, nm := seeT en σ1 }, none, none, 0, 0⟩) := by
        rw [hcz]
        exact ⟨H7.out.go hE hg, rfl⟩
      clear hE hg cM hcz
      clear x0 hXs
      obtain ⟨q0, q1, q2, q3, q4, q5, q6, q7, q8, q9, q10, q11, q12⟩ := HZ.out.1.n.facts
      obtain ⟨z0, z1, z2, z3, z4, z5, z6, z7, z8, z9, z10, z11, z12⟩ := HZ.out.1.n.fzs
      obtain ⟨x0, x1, x2, x3, x4, x5, x6, x7, x8, x9, x10, x11, x12⟩ := HZ.out.1.iv.facts
      have hNy := HZ.out.1.n.lt
      have hXy := HZ.out.1.iv.lt
      go_wp2
      have hst := HZ.out.1.fin.2.2.1
      exact bodyPost_ret (v := itV cz) (results_cell_row rfl _ _ N 75 (cl cz).toArray (0, 0) _ rfl hst.h Tryz.underlying75 rfl infoI) rfl (ItA.any (fun e he => by rw [HF.out.1 e he]; rfl) HZ.out.1 (fun ts hts => ItA.pno hts (HF.out.2 ts hts).1 (HF.out.2 ts hts).2.1 (HF.out.2 ts hts).2.2.1 (part_no (HF.out.2 ts hts).2.2.2 HB.out (Or.inl (by rw [HK.out.1]; decide))) HK.out.2 HZ.out.1 HZ.out.2))
  | true =>
    rw [hn] at cI
    obtain ⟨nw, no, ns, c0, c1, cr, n1, n2, n3, n4, n5, n6⟩ := num_bytes hn
    obtain ⟨t, us, hσ, ht⟩ := see_ok (m := c0 :: c1 :: cr) (by simp) n2
    have hps : ps en σ = .ok us := by rw [hσ]; rfl
    rw [hps] at cQ
    obtain ⟨d1, hd1⟩ : ∃ d1 : D, d1 = { D0 with kd := 1, wd := nw, od := no, sg := ns } := ⟨_, rfl⟩
    obtain ⟨σ1, hσ1⟩ : ∃ σ1 : Sg, σ1 = .ok us := ⟨_, rfl⟩
    rw [← hσ1] at cQ
    have HK : Hid (d1.kd = 1 ∧ d1.ct = none ∧ d1.ru = 0) := by rw [hd1]; exact ⟨rfl, rfl, rfl⟩
    have HF : Hid ((∀ e, σ = .error e → σ1 = .error e) ∧ ∀ ts, σ = .ok ts → (hd en ts).t ≠ wWhen ∧ (hd en ts).t ≠ wBytes ∧ a = (hd en ts).a ∧ Rl (kind en ts) σ1 d1) := by
      refine ⟨fun e he => (by rw [hσ] at he; cases he), fun ts hts => ?_⟩
      have n1 : numOf (seeT en σ) = some (nw, no, ns) := n1
      rw [hts] at hW hY n1
      refine ⟨hW, hY, HA.out.1 ts hts, ?_⟩
      rw [hσ] at hts
      injection hts with hts
      subst hts
      rw [hσ1, hd1]
      exact kind_num n1
    have HS2 : Hid (S.toList = c0 :: c1 :: cr) := by show S.toList = _; rw [htl]; exact n2
    have HD : Hid (d1 = { D0 with kd := 1, wd := nw, od := no, sg := ns } ∧ (if Lib.hasSuffix (c0 :: c1 :: cr) [98, 101] then 1 else 0) = no ∧ L S = c0 :: c1 :: cr) := ⟨hd1, by rw [n2] at n6; exact n6, by rw [HS.out, L_tx]; exact n2⟩
    have hSz : 2 ≤ S.size := by rw [hSl, n2]; simp
    have hSz5 : S.size ≤ 5 := by rw [hSl]; exact n3
    clear htl hW hY hSl hTl hn hS n1 n2 n3 n6 hσ ht hps hd1 hσ1 x0 x1 x2 x3 x4 x5 x6 x7 x8 x9 x10 x11 x12 z0 z1 z2 z3 z4 z5 z6 z7 z8 z9 z10 z11 z12
    go_wp2_with fail
    refine (cI).mono ?_
    rintro e w5 ⟨rfl, hw5⟩
    obtain rfl := hw5.symm
    go_wp2_with fail
    refine cQ.mono ?_
    rintro e w5 ⟨rfl, hE, hg⟩
    have H5 : Hid (It w w5 P X N en σ1 ⟨{ D0 with at_ := a }, none, none, 0, 0⟩) := H4.out.go hE hg
    clear hE hg cQ cI H4
    obtain ⟨x0, x1, x2, x3, x4, x5, x6, x7, x8, x9, x10, x11, x12⟩ := H5.out.iv.facts
    obtain ⟨z0, z1, z2, z3, z4, z5, z6, z7, z8, z9, z10, z11, z12⟩ := H5.out.iv.fzs
    have hXs := H5.out.iv.lt
    go_upto_region 16 with fail
    have hi0 : 0 < S.size := by omega
    have hi1 : 1 < S.size := by omega
    obtain ⟨e0, e1⟩ := two_bytes HS2.out hi0 hi1
    go_region
    clear e0 hi0 x0 x1 x2 x3 x4 x5 x6 x7 x8 x9 x10 x11 x12 z0 z1 z2 z3 z4 z5 z6 z7 z8 z9 z10 z11 z12 hXs
    have H6a : Hid (It w ((w5.setCell ⟨X, 0, none⟩ (.int .i64 1)).setCell ⟨X, 6, none⟩ (.bool ns)).drew P X N en σ1 ⟨{ D0 with at_ := a, kd := 1, sg := ns }, none, none, 0, 0⟩) := ((H5.out.put (set_kd _ 1)).put (set_sg _ ns)).bl ((Bl.refl _).drew)
    generalize ((w5.setCell ⟨X, 0, none⟩ (.int .i64 1)).setCell ⟨X, 6, none⟩ (.bool ns)).drew = v6 at *
    obtain ⟨v7, v8, v9, v10, r1, r2, r3, r4, hb10, hlk⟩ := fourB v6 c1 nw n5
    have H10 : Hid (It w v10 P X N en σ1 ⟨{ D0 with at_ := a, kd := 1, sg := ns }, none, none, 0, 0⟩) := H6a.out.bl hb10
    unfold kvb at r1 r2 r3 r4
    have x4 : v10.cell? ⟨X, 4, none⟩ = some (.int .i64 0) := H10.out.iv.cell 4
    have z4 := H10.out.iv.fz 4
    have hXs := H10.out.iv.lt
    clear hb10 H5 n5 n4
    obtain ⟨v11, hv11⟩ : ∃ v11, v11 = v10.setCell ⟨X, 4, none⟩ (.int .i64 (nw : Int)) := ⟨_, rfl⟩
    have H11 : Hid (It w v11 P X N en σ1 ⟨{ D0 with at_ := a, kd := 1, sg := ns, wd := nw }, none, none, 0, 0⟩) := by rw [hv11]; exact H10.out.put (set_wd _ nw)
    go_upto_region 18 with fail
    rw [← hv11]
    clear hv11 r1 r2 r3 r4 hlk x4 z4 hXs H10 H6a e1 hi1
    have x5 : v11.cell? ⟨X, 5, none⟩ = some (.int .i64 0) := H11.out.iv.cell 5
    have z5 := H11.out.iv.fz 5
    have hXs := H11.out.iv.lt
    have cH := suf_at S v11 hSz5
    rw [HD.out.2.2] at cH
    have cO := oneb_at _ no v11 HD.out.2.1
    generalize Lib.hasSuffix (c0 :: c1 :: cr) [98, 101] = bh at cH cO
    go_wp2_with fail
    refine cH.mono ?_
    rintro e w5 ⟨rfl, hw5⟩
    obtain rfl := hw5.symm
    go_wp2_with fail
    refine cO.mono ?_
    rintro e w5 ⟨rfl, hw5⟩
    obtain rfl := hw5.symm
    obtain ⟨wx, hwx⟩ : ∃ wx, wx = v11.setCell ⟨X, 5, none⟩ (.int .i64 (no : Int)) := ⟨_, rfl⟩
    have HX : Hid (It w wx P X N en σ1 ⟨{ d1 with at_ := a }, none, none, 0, 0⟩) := by
      rw [hwx, HD.out.1]
      exact H11.out.put (set_od _ no)
    have cN := name_es wx P en _ HX.out.es HX.out.ml
    go_upto_region 19 with fail
    rw [← hwx]
    clear hwx x5 z5 hXs H11 cH cO
    go_wp2_with fail
    refine cN.mono ?_
    rintro e w5 ⟨rfl, hE, hg⟩
    have H5 : Hid (It w w5 P X N en (nmS en σ1) ⟨{ d1 with at_ := a }, none, none, 0, 0⟩) := HX.out.go hE hg
    clear hE hg cN HX
    obtain ⟨V, hV⟩ : ∃ V, V = tx (seeT en σ1) := ⟨_, rfl⟩
    rw [← hV]
    have HV : Hid (V = _) := hV
    clear hV
    have x2 : w5.cell? ⟨X, 2, none⟩ = some (.string (tx d1.nm)) := H5.out.iv.cell 2
    have z2 := H5.out.iv.fz 2
    have hXs := H5.out.iv.lt
    obtain ⟨w6, hw6⟩ : ∃ w6, w6 = w5.setCell ⟨X, 2, none⟩ (.string V) := ⟨_, rfl⟩
    have H6 : Hid (It w w6 P X N en (nmS en σ1) ⟨{ d1 with at_ := a, nm := seeT en σ1 }, none, none, 0, 0⟩) := by rw [hw6, HV.out]; exact H5.out.put (set_nm _ _)
    go_upto_region 20 with fail
    rw [← hw6]
    clear hw6 x2 z2 hXs H5
    have x0 : w6.cell? ⟨X, 0, none⟩ = some (.int .i64 1) := by
      have := H6.out.iv.cell 0
      rw [this]
      show some (Value.int .i64 ((d1.kd : Nat) : Int)) = _
      rw [HK.out.1]
      rfl
    have hXs := H6.out.iv.lt
    have cT := text_es w6 P en _ H6.out.es
    go_wp2_with fail
    refine cT.mono ?_
    rintro e w7 ⟨rfl, hb7⟩
    have H7 : Hid (It w w7 P X N en (nmS en σ1) ⟨{ d1 with at_ := a, nm := seeT en σ1 }, none, none, 0, 0⟩) := H6.out.bl hb7
    have htl2 := tl_tx (seeT en (nmS en σ1))
    obtain ⟨S2, hS2⟩ : ∃ S2, S2 = tx (seeT en (nmS en σ1)) := ⟨_, rfl⟩
    rw [← hS2] at htl2 ⊢
    clear hb7 cT x0 hS2 H6
    have x0 : w7.cell? ⟨X, 0, none⟩ = some (.int .i64 1) := by
      have := H7.out.iv.cell 0
      rw [this]
      show some (Value.int .i64 ((d1.kd : Nat) : Int)) = _
      rw [HK.out.1]
      rfl
    have hXs := H7.out.iv.lt
    by_cases hB : seeT en (nmS en σ1) = [91]
    · have hq2 : (S2.toList == [91]) = true := by rw [htl2, hB]; rfl
      have HB : Hid (seeT en (nmS en σ1) = [91]) := hB
      have cB := bracket_es w7 P en _ H7.out.es
      clear htl2 hB
      go_wp2_with fail
      refine cB.mono ?_
      rintro e w8 ⟨⟨o, rfl, ho⟩, hE, hg⟩
      have H8 : Hid (It w w8 P X N en (brS en (nmS en σ1)) ⟨{ d1 with at_ := a, nm := seeT en σ1 }, none, none, 0, 0⟩ ∧ Po w8 o (Xq en (nmS en σ1))) := ⟨H7.out.go hE hg, fun x ⟨vs, r, h1, h2⟩ => ho vs x r h1 h2⟩
      clear x0 hXs H7 cB hE hg ho
      obtain ⟨x0, x1, x2, x3, x4, x5, x6, x7, x8, x9, x10, x11, x12⟩ := H8.out.1.iv.facts
      obtain ⟨z0, z1, z2, z3, z4, z5, z6, z7, z8, z9, z10, z11, z12⟩ := H8.out.1.iv.fzs
      have hXs := H8.out.1.iv.lt
      obtain ⟨wy, hwy⟩ : ∃ wy, wy = (w8.setCell ⟨X, 7, none⟩ (.bool true)).setCell ⟨X, 8, none⟩ (.pointer o) := ⟨_, rfl⟩
      have HY : Hid (It w wy P X N en (brS en (nmS en σ1)) ⟨{ d1 with at_ := a, nm := seeT en σ1, mn := true }, o, none, 0, 0⟩ ∧ Po wy o (Xq en (nmS en σ1))) := by
        have j1 := H8.out.1.put (set_mn _ true)
        rw [hwy]
        exact ⟨j1.put (set_px _ o), (H8.out.2.keep H8.out.1.kput).keep j1.kput⟩
      have cM := must_es wy P en _ [59] (by simp) HY.out.1.es
      clear H8
      go_upto_region 37 with fail
      rw [← hwy]
      clear hwy x0 x1 x2 x3 x4 x5 x6 x7 x8 x9 x10 x11 x12 z0 z1 z2 z3 z4 z5 z6 z7 z8 z9 z10 z11 z12 hXs
      go_wp2_with fail
      refine cM.mono ?_
      rintro e wm ⟨rfl, hE, hg⟩
      obtain ⟨cz, hcz⟩ : ∃ cz : C, cz = ⟨{ d1 with at_ := a, nm := seeT en σ1, mn := true }, o, none, 0, 0⟩ := ⟨_, rfl⟩
      have HZ : Hid (It w wm P X N en (mu en [59] (brS en (nmS en σ1))) cz ∧ cz = ⟨{ d1 with at_ := a, nm := seeT en σ1, mn := true }, o, none, 0, 0⟩ ∧ Po wm o (Xq en (nmS en σ1))) := by
        rw [hcz]
        exact ⟨HY.out.1.go hE hg, rfl, HY.out.2.keep (HY.out.1.es.kx hg)⟩
      clear hE hg cM hcz
      obtain ⟨q0, q1, q2, q3, q4, q5, q6, q7, q8, q9, q10, q11, q12⟩ := HZ.out.1.n.facts
      obtain ⟨z0, z1, z2, z3, z4, z5, z6, z7, z8, z9, z10, z11, z12⟩ := HZ.out.1.n.fzs
      obtain ⟨x0, x1, x2, x3, x4, x5, x6, x7, x8, x9, x10, x11, x12⟩ := HZ.out.1.iv.facts
      have hNy := HZ.out.1.n.lt
      have hXy := HZ.out.1.iv.lt
      go_wp2
      have hst := HZ.out.1.fin.2.2.1
      exact bodyPost_ret (v := itV cz) (results_cell_row rfl _ _ N 75 (cl cz).toArray (0, 0) _ rfl hst.h Tryz.underlying75 rfl infoI) rfl (ItA.any (fun e he => by rw [HF.out.1 e he]; rfl) HZ.out.1 (fun ts hts => ItA.pbr hts (HF.out.2 ts hts).1 (HF.out.2 ts hts).2.1 (HF.out.2 ts hts).2.2.1 (HF.out.2 ts hts).2.2.2 HB.out HZ.out.1 HZ.out.2.1 HZ.out.2.2))
    · have hq2 : (S2.toList == [91]) = false := by rw [htl2, beq_eq_false_iff_ne]; exact hB
      have HB : Hid (seeT en (nmS en σ1) ≠ [91]) := hB
      have cK := take_es w7 P en _ [61] (by simp) H7.out.es
      clear htl2 hB
      by_cases hE1 : seeT en (nmS en σ1) = [61]
      · rw [decide_eq_true hE1, show tk en [61] (nmS en σ1) = ps en (nmS en σ1) from if_pos hE1] at cK
        have HE1 : Hid (seeT en (nmS en σ1) = [61]) := hE1
        clear hE1
        go_wp2_with fail
        refine cK.mono ?_
        rintro e w8 ⟨rfl, hE, hg⟩
        have H8 : Hid (It w w8 P X N en (ps en (nmS en σ1)) ⟨{ d1 with at_ := a, nm := seeT en σ1 }, none, none, 0, 0⟩) := H7.out.go hE hg
        clear hE hg cK x0 hXs H7 hq2
        have cA := place_es w8 P en _ H8.out.es
        go_wp2_with fail
        refine cA.mono ?_
        rintro e w9 ⟨⟨a2, rfl, ha2⟩, hw9⟩
        obtain rfl := hw9.symm
        have HA2 : Hid (∀ us, ps en (nmS en σ1) = .ok us → a2 = (hd en us).a) := ha2
        clear ha2 cA
        have cW := pass_es w8 P en _ H8.out.es
        have hWl : (seeT en (ps en (nmS en σ1))).length ≤ 3000 := H8.out.es.tok
        go_wp2_with fail
        refine cW.mono ?_
        rintro e w10 ⟨rfl, hE, hg⟩
        have H10 : Hid (It w w10 P X N en (ps en (ps en (nmS en σ1))) ⟨{ d1 with at_ := a, nm := seeT en σ1 }, none, none, 0, 0⟩) := H8.out.go hE hg
        clear hE hg cW H8
        have htl3 := tl_tx (seeT en (ps en (nmS en σ1)))
        obtain ⟨S3, hS3⟩ : ∃ S3, S3 = tx (seeT en (ps en (nmS en σ1))) := ⟨_, rfl⟩
        rw [← hS3] at htl3 ⊢
        clear hS3 hWl
        obtain ⟨W, hW0⟩ : ∃ W, seeT en (ps en (nmS en σ1)) = W := ⟨_, rfl⟩
        have HWW : Hid (seeT en (ps en (nmS en σ1)) = W) := hW0
        rw [hW0] at htl3
        clear hW0
        obtain ⟨x0, x1, x2, x3, x4, x5, x6, x7, x8, x9, x10, x11, x12⟩ := H10.out.iv.facts
        obtain ⟨z0, z1, z2, z3, z4, z5, z6, z7, z8, z9, z10, z11, z12⟩ := H10.out.iv.fzs
        have hXs := H10.out.iv.lt
        by_cases hw0 : W = [115, 105, 122, 101]
        · have hqa0 : (S3.toList == [115, 105, 122, 101]) = true := by rw [htl3, hw0]; rfl
          have HN : Hid (ruleOf W = 1) := by show ruleOf W = _; rw [hw0]; decide
          clear htl3
          obtain ⟨w11, hw11⟩ : ∃ w11, w11 = w10.setCell ⟨X, 9, none⟩ (.int .i64 1) := ⟨_, rfl⟩
          have H11 : Hid (It w w11 P X N en (ps en (ps en (nmS en σ1))) ⟨{ d1 with at_ := a, nm := seeT en σ1, ru := 1 }, none, none, 0, 0⟩) := by rw [hw11]; exact H10.out.put (set_ru _ 1)
          have cN := name_es w11 P en _ H11.out.es H11.out.ml
          go_upto_region 32 with fail
          rw [← hw11]
          clear hw11 x0 x1 x2 x3 x4 x5 x6 x7 x8 x9 x10 x11 x12 z0 z1 z2 z3 z4 z5 z6 z7 z8 z9 z10 z11 z12 hXs hqa0 hw0
          go_wp2_with fail
          refine cN.mono ?_
          rintro e w12 ⟨rfl, hE, hg⟩
          have H12 : Hid (It w w12 P X N en (nmS en (ps en (ps en (nmS en σ1)))) ⟨{ d1 with at_ := a, nm := seeT en σ1, ru := 1 }, none, none, 0, 0⟩) := H11.out.go hE hg
          clear hE hg cN H11 H10
          obtain ⟨V, hV⟩ : ∃ V, V = tx (seeT en (ps en (ps en (nmS en σ1)))) := ⟨_, rfl⟩
          rw [← hV]
          have HV : Hid (V = _) := hV
          clear hV
          obtain ⟨x0, x1, x2, x3, x4, x5, x6, x7, x8, x9, x10, x11, x12⟩ := H12.out.iv.facts
          obtain ⟨z0, z1, z2, z3, z4, z5, z6, z7, z8, z9, z10, z11, z12⟩ := H12.out.iv.fzs
          have hXs := H12.out.iv.lt
          obtain ⟨w13, hw13⟩ : ∃ w13, w13 = w12.setCell ⟨X, 10, none⟩ (.string V) := ⟨_, rfl⟩
          have H13 : Hid (It w w13 P X N en (nmS en (ps en (ps en (nmS en σ1)))) ⟨{ d1 with at_ := a, nm := seeT en σ1, ru := 1, f1 := seeT en (ps en (ps en (nmS en σ1))) }, none, none, 0, 0⟩) := by rw [hw13, HV.out]; exact H12.out.put (set_f1 _ _)
          go_upto_region 33 with fail
          rw [← hw13]
          clear hw13 x0 x1 x2 x3 x4 x5 x6 x7 x8 x9 x10 x11 x12 z0 z1 z2 z3 z4 z5 z6 z7 z8 z9 z10 z11 z12 hXs H12
          have x9 : w13.cell? ⟨X, 9, none⟩ = some (.int .i64 1) := H13.out.iv.cell 9
          have hXs := H13.out.iv.lt
          have cM := must_es w13 P en _ [59] (by simp) H13.out.es
          go_wp2_with fail
          refine cM.mono ?_
          rintro e wm ⟨rfl, hE, hg⟩
          obtain ⟨cz, hcz⟩ : ∃ cz : C, cz = ⟨{ d1 with at_ := a, nm := seeT en σ1, ru := 1, f1 := seeT en (ps en (ps en (nmS en σ1))) }, none, none, 0, 0⟩ := ⟨_, rfl⟩
          have HZ : Hid (It w wm P X N en (mu en [59] (nmS en (ps en (ps en (nmS en σ1))))) cz ∧ cz = ⟨{ d1 with at_ := a, nm := seeT en σ1, ru := 1, f1 := seeT en (ps en (ps en (nmS en σ1))) }, none, none, 0, 0⟩) := by
            rw [hcz]
            exact ⟨H13.out.go hE hg, rfl⟩
          clear hE hg cM hcz
          clear x9 hXs
          obtain ⟨q0, q1, q2, q3, q4, q5, q6, q7, q8, q9, q10, q11, q12⟩ := HZ.out.1.n.facts
          obtain ⟨z0, z1, z2, z3, z4, z5, z6, z7, z8, z9, z10, z11, z12⟩ := HZ.out.1.n.fzs
          obtain ⟨x0, x1, x2, x3, x4, x5, x6, x7, x8, x9, x10, x11, x12⟩ := HZ.out.1.iv.facts
          have hNy := HZ.out.1.n.lt
          have hXy := HZ.out.1.iv.lt
          go_wp2
          have hst := HZ.out.1.fin.2.2.1
          exact bodyPost_ret (v := itV cz) (results_cell_row rfl _ _ N 75 (cl cz).toArray (0, 0) _ rfl hst.h Tryz.underlying75 rfl infoI) rfl (ItA.any (fun e he => by rw [HF.out.1 e he]; rfl) HZ.out.1 (fun ts hts => ItA.pno (d := { d1 with nm := seeT en σ1, ru := 1, f1 := seeT en (ps en (ps en (nmS en σ1))) }) hts (HF.out.2 ts hts).1 (HF.out.2 ts hts).2.1 (HF.out.2 ts hts).2.2.1 (ru_plain (HF.out.2 ts hts).2.2.2 HK.out.1 HE1.out a2 HA2.out (by rw [HWW.out]; exact HN.out) (by decide) (by decide)) HK.out.2.1 HZ.out.1 HZ.out.2))
        · have hqa0 : (S3.toList == [115, 105, 122, 101]) = false := by rw [htl3, beq_eq_false_iff_ne]; exact hw0
          by_cases hw1 : W = [99, 111, 117, 110, 116]
          · have hqa1 : (S3.toList == [99, 111, 117, 110, 116]) = true := by rw [htl3, hw1]; rfl
            have HN : Hid (ruleOf W = 2) := by show ruleOf W = _; rw [hw1]; decide
            clear htl3
            obtain ⟨w11, hw11⟩ : ∃ w11, w11 = w10.setCell ⟨X, 9, none⟩ (.int .i64 2) := ⟨_, rfl⟩
            have H11 : Hid (It w w11 P X N en (ps en (ps en (nmS en σ1))) ⟨{ d1 with at_ := a, nm := seeT en σ1, ru := 2 }, none, none, 0, 0⟩) := by rw [hw11]; exact H10.out.put (set_ru _ 2)
            have cN := name_es w11 P en _ H11.out.es H11.out.ml
            go_upto_region 32 with fail
            rw [← hw11]
            clear hw11 x0 x1 x2 x3 x4 x5 x6 x7 x8 x9 x10 x11 x12 z0 z1 z2 z3 z4 z5 z6 z7 z8 z9 z10 z11 z12 hXs hqa0 hqa1 hw0 hw1
            go_wp2_with fail
            refine cN.mono ?_
            rintro e w12 ⟨rfl, hE, hg⟩
            have H12 : Hid (It w w12 P X N en (nmS en (ps en (ps en (nmS en σ1)))) ⟨{ d1 with at_ := a, nm := seeT en σ1, ru := 2 }, none, none, 0, 0⟩) := H11.out.go hE hg
            clear hE hg cN H11 H10
            obtain ⟨V, hV⟩ : ∃ V, V = tx (seeT en (ps en (ps en (nmS en σ1)))) := ⟨_, rfl⟩
            rw [← hV]
            have HV : Hid (V = _) := hV
            clear hV
            obtain ⟨x0, x1, x2, x3, x4, x5, x6, x7, x8, x9, x10, x11, x12⟩ := H12.out.iv.facts
            obtain ⟨z0, z1, z2, z3, z4, z5, z6, z7, z8, z9, z10, z11, z12⟩ := H12.out.iv.fzs
            have hXs := H12.out.iv.lt
            obtain ⟨w13, hw13⟩ : ∃ w13, w13 = w12.setCell ⟨X, 10, none⟩ (.string V) := ⟨_, rfl⟩
            have H13 : Hid (It w w13 P X N en (nmS en (ps en (ps en (nmS en σ1)))) ⟨{ d1 with at_ := a, nm := seeT en σ1, ru := 2, f1 := seeT en (ps en (ps en (nmS en σ1))) }, none, none, 0, 0⟩) := by rw [hw13, HV.out]; exact H12.out.put (set_f1 _ _)
            go_upto_region 33 with fail
            rw [← hw13]
            clear hw13 x0 x1 x2 x3 x4 x5 x6 x7 x8 x9 x10 x11 x12 z0 z1 z2 z3 z4 z5 z6 z7 z8 z9 z10 z11 z12 hXs H12
            have x9 : w13.cell? ⟨X, 9, none⟩ = some (.int .i64 2) := H13.out.iv.cell 9
            have hXs := H13.out.iv.lt
            have cM := must_es w13 P en _ [59] (by simp) H13.out.es
            go_wp2_with fail
            refine cM.mono ?_
            rintro e wm ⟨rfl, hE, hg⟩
            obtain ⟨cz, hcz⟩ : ∃ cz : C, cz = ⟨{ d1 with at_ := a, nm := seeT en σ1, ru := 2, f1 := seeT en (ps en (ps en (nmS en σ1))) }, none, none, 0, 0⟩ := ⟨_, rfl⟩
            have HZ : Hid (It w wm P X N en (mu en [59] (nmS en (ps en (ps en (nmS en σ1))))) cz ∧ cz = ⟨{ d1 with at_ := a, nm := seeT en σ1, ru := 2, f1 := seeT en (ps en (ps en (nmS en σ1))) }, none, none, 0, 0⟩) := by
              rw [hcz]
              exact ⟨H13.out.go hE hg, rfl⟩
            clear hE hg cM hcz
            clear x9 hXs
            obtain ⟨q0, q1, q2, q3, q4, q5, q6, q7, q8, q9, q10, q11, q12⟩ := HZ.out.1.n.facts
            obtain ⟨z0, z1, z2, z3, z4, z5, z6, z7, z8, z9, z10, z11, z12⟩ := HZ.out.1.n.fzs
            obtain ⟨x0, x1, x2, x3, x4, x5, x6, x7, x8, x9, x10, x11, x12⟩ := HZ.out.1.iv.facts
            have hNy := HZ.out.1.n.lt
            have hXy := HZ.out.1.iv.lt
            go_wp2
            have hst := HZ.out.1.fin.2.2.1
            exact bodyPost_ret (v := itV cz) (results_cell_row rfl _ _ N 75 (cl cz).toArray (0, 0) _ rfl hst.h Tryz.underlying75 rfl infoI) rfl (ItA.any (fun e he => by rw [HF.out.1 e he]; rfl) HZ.out.1 (fun ts hts => ItA.pno (d := { d1 with nm := seeT en σ1, ru := 2, f1 := seeT en (ps en (ps en (nmS en σ1))) }) hts (HF.out.2 ts hts).1 (HF.out.2 ts hts).2.1 (HF.out.2 ts hts).2.2.1 (ru_plain (HF.out.2 ts hts).2.2.2 HK.out.1 HE1.out a2 HA2.out (by rw [HWW.out]; exact HN.out) (by decide) (by decide)) HK.out.2.1 HZ.out.1 HZ.out.2))
          · have hqa1 : (S3.toList == [99, 111, 117, 110, 116]) = false := by rw [htl3, beq_eq_false_iff_ne]; exact hw1
            by_cases hw2 : W = [99, 104, 101, 99, 107]
            · have hqa2 : (S3.toList == [99, 104, 101, 99, 107]) = true := by rw [htl3, hw2]; rfl
              have HN : Hid (ruleOf W = 3) := by show ruleOf W = _; rw [hw2]; decide
              clear htl3
              obtain ⟨w11, hw11⟩ : ∃ w11, w11 = w10.setCell ⟨X, 9, none⟩ (.int .i64 3) := ⟨_, rfl⟩
              have H11 : Hid (It w w11 P X N en (ps en (ps en (nmS en σ1))) ⟨{ d1 with at_ := a, nm := seeT en σ1, ru := 3 }, none, none, 0, 0⟩) := by rw [hw11]; exact H10.out.put (set_ru _ 3)
              have cN := name_es w11 P en _ H11.out.es H11.out.ml
              go_upto_region 32 with fail
              rw [← hw11]
              clear hw11 x0 x1 x2 x3 x4 x5 x6 x7 x8 x9 x10 x11 x12 z0 z1 z2 z3 z4 z5 z6 z7 z8 z9 z10 z11 z12 hXs hqa0 hqa1 hqa2 hw0 hw1 hw2
              go_wp2_with fail
              refine cN.mono ?_
              rintro e w12 ⟨rfl, hE, hg⟩
              have H12 : Hid (It w w12 P X N en (nmS en (ps en (ps en (nmS en σ1)))) ⟨{ d1 with at_ := a, nm := seeT en σ1, ru := 3 }, none, none, 0, 0⟩) := H11.out.go hE hg
              clear hE hg cN H11 H10
              obtain ⟨V, hV⟩ : ∃ V, V = tx (seeT en (ps en (ps en (nmS en σ1)))) := ⟨_, rfl⟩
              rw [← hV]
              have HV : Hid (V = _) := hV
              clear hV
              obtain ⟨x0, x1, x2, x3, x4, x5, x6, x7, x8, x9, x10, x11, x12⟩ := H12.out.iv.facts
              obtain ⟨z0, z1, z2, z3, z4, z5, z6, z7, z8, z9, z10, z11, z12⟩ := H12.out.iv.fzs
              have hXs := H12.out.iv.lt
              obtain ⟨w13, hw13⟩ : ∃ w13, w13 = w12.setCell ⟨X, 10, none⟩ (.string V) := ⟨_, rfl⟩
              have H13 : Hid (It w w13 P X N en (nmS en (ps en (ps en (nmS en σ1)))) ⟨{ d1 with at_ := a, nm := seeT en σ1, ru := 3, f1 := seeT en (ps en (ps en (nmS en σ1))) }, none, none, 0, 0⟩) := by rw [hw13, HV.out]; exact H12.out.put (set_f1 _ _)
              go_upto_region 33 with fail
              rw [← hw13]
              clear hw13 x0 x1 x2 x3 x4 x5 x6 x7 x8 x9 x10 x11 x12 z0 z1 z2 z3 z4 z5 z6 z7 z8 z9 z10 z11 z12 hXs H12
              have x9 : w13.cell? ⟨X, 9, none⟩ = some (.int .i64 3) := H13.out.iv.cell 9
              have hXs := H13.out.iv.lt
              have x10 : w13.cell? ⟨X, 10, none⟩ = some (.string V) := by rw [HV.out]; exact H13.out.iv.cell 10
              have x11 : w13.cell? ⟨X, 11, none⟩ = some (.string (tx d1.l1)) := H13.out.iv.cell 11
              have z11 := H13.out.iv.fz 11
              obtain ⟨w14, hw14⟩ : ∃ w14, w14 = w13.setCell ⟨X, 11, none⟩ (.string V) := ⟨_, rfl⟩
              have H14 : Hid (It w w14 P X N en (nmS en (ps en (ps en (nmS en σ1)))) ⟨{ d1 with at_ := a, nm := seeT en σ1, ru := 3, f1 := seeT en (ps en (ps en (nmS en σ1))), l1 := seeT en (ps en (ps en (nmS en σ1))) }, none, none, 0, 0⟩) := by rw [hw14, HV.out]; exact H13.out.put (set_l1 _ _)
              have cT := text_es w14 P en _ H14.out.es
              go_upto_region 35 with fail
              rw [← hw14]
              clear hw14 x9 x10 x11 z11 hXs H13
              go_wp2_with fail
              refine cT.mono ?_
              rintro e w15 ⟨rfl, hb15⟩
              have H15 : Hid (It w w15 P X N en (nmS en (ps en (ps en (nmS en σ1)))) ⟨{ d1 with at_ := a, nm := seeT en σ1, ru := 3, f1 := seeT en (ps en (ps en (nmS en σ1))), l1 := seeT en (ps en (ps en (nmS en σ1))) }, none, none, 0, 0⟩) := H14.out.bl hb15
              clear hb15 cT H14
              have htl4 := tl_tx (seeT en (nmS en (ps en (ps en (nmS en σ1)))))
              obtain ⟨S4, hS4⟩ : ∃ S4, S4 = tx (seeT en (nmS en (ps en (ps en (nmS en σ1))))) := ⟨_, rfl⟩
              rw [← hS4] at htl4 ⊢
              clear hS4
              by_cases hsc : seeT en (nmS en (ps en (ps en (nmS en σ1)))) = [59]
              · have hq4 : (S4.toList == [59]) = true := by rw [htl4, hsc]; rfl
                have HSC : Hid (seeT en (nmS en (ps en (ps en (nmS en σ1)))) = [59]) := hsc
                clear htl4 hsc
                have cM := must_es w15 P en _ [59] (by simp) H15.out.es
                go_wp2_with fail
                refine cM.mono ?_
                rintro e wm ⟨rfl, hE, hg⟩
                obtain ⟨cz, hcz⟩ : ∃ cz : C, cz = ⟨{ d1 with at_ := a, nm := seeT en σ1, ru := 3, f1 := seeT en (ps en (ps en (nmS en σ1))), l1 := seeT en (ps en (ps en (nmS en σ1))) }, none, none, 0, 0⟩ := ⟨_, rfl⟩
                have HZ : Hid (It w wm P X N en (mu en [59] (nmS en (ps en (ps en (nmS en σ1))))) cz ∧ cz = ⟨{ d1 with at_ := a, nm := seeT en σ1, ru := 3, f1 := seeT en (ps en (ps en (nmS en σ1))), l1 := seeT en (ps en (ps en (nmS en σ1))) }, none, none, 0, 0⟩) := by
                  rw [hcz]
                  exact ⟨H15.out.go hE hg, rfl⟩
                clear hE hg cM hcz
                obtain ⟨q0, q1, q2, q3, q4, q5, q6, q7, q8, q9, q10, q11, q12⟩ := HZ.out.1.n.facts
                obtain ⟨z0, z1, z2, z3, z4, z5, z6, z7, z8, z9, z10, z11, z12⟩ := HZ.out.1.n.fzs
                obtain ⟨x0, x1, x2, x3, x4, x5, x6, x7, x8, x9, x10, x11, x12⟩ := HZ.out.1.iv.facts
                have hNy := HZ.out.1.n.lt
                have hXy := HZ.out.1.iv.lt
                go_wp2
                have hst := HZ.out.1.fin.2.2.1
                exact bodyPost_ret (v := itV cz) (results_cell_row rfl _ _ N 75 (cl cz).toArray (0, 0) _ rfl hst.h Tryz.underlying75 rfl infoI) rfl (ItA.any (fun e he => by rw [HF.out.1 e he]; rfl) HZ.out.1 (fun ts hts => ItA.pno (d := { d1 with nm := seeT en σ1, ru := 3, f1 := seeT en (ps en (ps en (nmS en σ1))), l1 := seeT en (ps en (ps en (nmS en σ1))) }) hts (HF.out.2 ts hts).1 (HF.out.2 ts hts).2.1 (HF.out.2 ts hts).2.2.1 (ru_one (HF.out.2 ts hts).2.2.2 HK.out.1 HE1.out a2 HA2.out (by rw [HWW.out]; exact HN.out) HSC.out) HK.out.2.1 HZ.out.1 HZ.out.2))
              · have hq4 : (S4.toList == [59]) = false := by rw [htl4, beq_eq_false_iff_ne]; exact hsc
                have HSC : Hid (seeT en (nmS en (ps en (ps en (nmS en σ1)))) ≠ [59]) := hsc
                clear htl4 hsc
                have cN := name_es w15 P en _ H15.out.es H15.out.ml
                go_wp2_with fail
                refine cN.mono ?_
                rintro e w16 ⟨rfl, hE, hg⟩
                have H16 : Hid (It w w16 P X N en (nmS en (nmS en (ps en (ps en (nmS en σ1))))) ⟨{ d1 with at_ := a, nm := seeT en σ1, ru := 3, f1 := seeT en (ps en (ps en (nmS en σ1))), l1 := seeT en (ps en (ps en (nmS en σ1))) }, none, none, 0, 0⟩) := H15.out.go hE hg
                clear hE hg cN H15
                obtain ⟨V2, hV2⟩ : ∃ V2, V2 = tx (seeT en (nmS en (ps en (ps en (nmS en σ1))))) := ⟨_, rfl⟩
                rw [← hV2]
                have HV2 : Hid (V2 = _) := hV2
                clear hV2
                obtain ⟨x0, x1, x2, x3, x4, x5, x6, x7, x8, x9, x10, x11, x12⟩ := H16.out.iv.facts
                obtain ⟨z0, z1, z2, z3, z4, z5, z6, z7, z8, z9, z10, z11, z12⟩ := H16.out.iv.fzs
                have hXs := H16.out.iv.lt
                obtain ⟨w17, hw17⟩ : ∃ w17, w17 = w16.setCell ⟨X, 11, none⟩ (.string V2) := ⟨_, rfl⟩
                have H17 : Hid (It w w17 P X N en (nmS en (nmS en (ps en (ps en (nmS en σ1))))) ⟨{ d1 with at_ := a, nm := seeT en σ1, ru := 3, f1 := seeT en (ps en (ps en (nmS en σ1))), l1 := seeT en (nmS en (ps en (ps en (nmS en σ1)))) }, none, none, 0, 0⟩) := by rw [hw17, HV2.out]; exact H16.out.put (set_l1 _ _)
                have cM := must_es w17 P en _ [59] (by simp) H17.out.es
                go_upto_region 37 with fail
                rw [← hw17]
                clear hw17 x0 x1 x2 x3 x4 x5 x6 x7 x8 x9 x10 x11 x12 z0 z1 z2 z3 z4 z5 z6 z7 z8 z9 z10 z11 z12 hXs H16
                go_wp2_with fail
                refine cM.mono ?_
                rintro e wm ⟨rfl, hE, hg⟩
                obtain ⟨cz, hcz⟩ : ∃ cz : C, cz = ⟨{ d1 with at_ := a, nm := seeT en σ1, ru := 3, f1 := seeT en (ps en (ps en (nmS en σ1))), l1 := seeT en (nmS en (ps en (ps en (nmS en σ1)))) }, none, none, 0, 0⟩ := ⟨_, rfl⟩
                have HZ : Hid (It w wm P X N en (mu en [59] (nmS en (nmS en (ps en (ps en (nmS en σ1)))))) cz ∧ cz = ⟨{ d1 with at_ := a, nm := seeT en σ1, ru := 3, f1 := seeT en (ps en (ps en (nmS en σ1))), l1 := seeT en (nmS en (ps en (ps en (nmS en σ1)))) }, none, none, 0, 0⟩) := by
                  rw [hcz]
                  exact ⟨H17.out.go hE hg, rfl⟩
                clear hE hg cM hcz
                obtain ⟨q0, q1, q2, q3, q4, q5, q6, q7, q8, q9, q10, q11, q12⟩ := HZ.out.1.n.facts
                obtain ⟨z0, z1, z2, z3, z4, z5, z6, z7, z8, z9, z10, z11, z12⟩ := HZ.out.1.n.fzs
                obtain ⟨x0, x1, x2, x3, x4, x5, x6, x7, x8, x9, x10, x11, x12⟩ := HZ.out.1.iv.facts
                have hNy := HZ.out.1.n.lt
                have hXy := HZ.out.1.iv.lt
                go_wp2
                have hst := HZ.out.1.fin.2.2.1
                exact bodyPost_ret (v := itV cz) (results_cell_row rfl _ _ N 75 (cl cz).toArray (0, 0) _ rfl hst.h Tryz.underlying75 rfl infoI) rfl (ItA.any (fun e he => by rw [HF.out.1 e he]; rfl) HZ.out.1 (fun ts hts => ItA.pno (d := { d1 with nm := seeT en σ1, ru := 3, f1 := seeT en (ps en (ps en (nmS en σ1))), l1 := seeT en (nmS en (ps en (ps en (nmS en σ1)))) }) hts (HF.out.2 ts hts).1 (HF.out.2 ts hts).2.1 (HF.out.2 ts hts).2.2.1 (ru_two (HF.out.2 ts hts).2.2.2 HK.out.1 HE1.out a2 HA2.out (by rw [HWW.out]; exact HN.out) HSC.out) HK.out.2.1 HZ.out.1 HZ.out.2))
            · have hqa2 : (S3.toList == [99, 104, 101, 99, 107]) = false := by rw [htl3, beq_eq_false_iff_ne]; exact hw2
              have HN : Hid (ruleOf W = 0) := by show ruleOf W = _; unfold ruleOf; rw [if_neg (show ¬ W = wSize from hw0), if_neg (show ¬ W = wCount from hw1), if_neg (show ¬ W = wCheck from hw2)]
              have cR := wrong_es w10 P en _ 3 a2 (by decide) H10.out.es
              clear htl3 hw0 hw1 hw2
              go_wp2_with fail
              refine cR.mono ?_
              rintro e w11 ⟨rfl, hE, hg⟩
              have H11 : Hid (It w w11 P X N en (fl 3 a2 (ps en (ps en (nmS en σ1)))) ⟨{ d1 with at_ := a, nm := seeT en σ1 }, none, none, 0, 0⟩) := H10.out.go hE hg
              clear hE hg cR x0 x1 x2 x3 x4 x5 x6 x7 x8 x9 x10 x11 x12 z0 z1 z2 z3 z4 z5 z6 z7 z8 z9 z10 z11 z12 hXs
              have cN := name_es w11 P en _ H11.out.es H11.out.ml
              go_wp2_with fail
              refine cN.mono ?_
              rintro e w12 ⟨rfl, hE, hg⟩
              have H12 : Hid (It w w12 P X N en (nmS en (fl 3 a2 (ps en (ps en (nmS en σ1))))) ⟨{ d1 with at_ := a, nm := seeT en σ1 }, none, none, 0, 0⟩) := H11.out.go hE hg
              clear hE hg cN H11 H10
              obtain ⟨V, hV⟩ : ∃ V, V = tx (seeT en (fl 3 a2 (ps en (ps en (nmS en σ1))))) := ⟨_, rfl⟩
              rw [← hV]
              have HV : Hid (V = _) := hV
              clear hV
              obtain ⟨x0, x1, x2, x3, x4, x5, x6, x7, x8, x9, x10, x11, x12⟩ := H12.out.iv.facts
              obtain ⟨z0, z1, z2, z3, z4, z5, z6, z7, z8, z9, z10, z11, z12⟩ := H12.out.iv.fzs
              have hXs := H12.out.iv.lt
              obtain ⟨w13, hw13⟩ : ∃ w13, w13 = w12.setCell ⟨X, 10, none⟩ (.string V) := ⟨_, rfl⟩
              have H13 : Hid (It w w13 P X N en (nmS en (fl 3 a2 (ps en (ps en (nmS en σ1))))) ⟨{ d1 with at_ := a, nm := seeT en σ1, f1 := seeT en (fl 3 a2 (ps en (ps en (nmS en σ1)))) }, none, none, 0, 0⟩) := by rw [hw13, HV.out]; exact H12.out.put (set_f1 _ _)
              go_upto_region 33 with fail
              rw [← hw13]
              clear hw13 x0 x1 x2 x3 x4 x5 x6 x7 x8 x9 x10 x11 x12 z0 z1 z2 z3 z4 z5 z6 z7 z8 z9 z10 z11 z12 hXs H12
              have x9 : w13.cell? ⟨X, 9, none⟩ = some (.int .i64 (d1.ru : Int)) := H13.out.iv.cell 9
              rw [HK.out.2.2] at x9
              have hXs := H13.out.iv.lt
              have cM := must_es w13 P en _ [59] (by simp) H13.out.es
              go_wp2_with fail
              refine cM.mono ?_
              rintro e wm ⟨rfl, hE, hg⟩
              obtain ⟨cz, hcz⟩ : ∃ cz : C, cz = ⟨{ d1 with at_ := a, nm := seeT en σ1, f1 := seeT en (fl 3 a2 (ps en (ps en (nmS en σ1)))) }, none, none, 0, 0⟩ := ⟨_, rfl⟩
              have HZ : Hid (It w wm P X N en (mu en [59] (nmS en (fl 3 a2 (ps en (ps en (nmS en σ1)))))) cz ∧ cz = ⟨{ d1 with at_ := a, nm := seeT en σ1, f1 := seeT en (fl 3 a2 (ps en (ps en (nmS en σ1)))) }, none, none, 0, 0⟩) := by
                rw [hcz]
                exact ⟨H13.out.go hE hg, rfl⟩
              clear hE hg cM hcz
              clear x9 hXs
              obtain ⟨q0, q1, q2, q3, q4, q5, q6, q7, q8, q9, q10, q11, q12⟩ := HZ.out.1.n.facts
              obtain ⟨z0, z1, z2, z3, z4, z5, z6, z7, z8, z9, z10, z11, z12⟩ := HZ.out.1.n.fzs
              obtain ⟨x0, x1, x2, x3, x4, x5, x6, x7, x8, x9, x10, x11, x12⟩ := HZ.out.1.iv.facts
              have hNy := HZ.out.1.n.lt
              have hXy := HZ.out.1.iv.lt
              go_wp2
              have hst := HZ.out.1.fin.2.2.1
              exact bodyPost_ret (v := itV cz) (results_cell_row rfl _ _ N 75 (cl cz).toArray (0, 0) _ rfl hst.h Tryz.underlying75 rfl infoI) rfl (ItA.any (fun e he => by rw [HF.out.1 e he]; rfl) HZ.out.1 (fun ts hts => ItA.pno (d := { d1 with nm := seeT en σ1, f1 := seeT en (fl 3 a2 (ps en (ps en (nmS en σ1)))) }) hts (HF.out.2 ts hts).1 (HF.out.2 ts hts).2.1 (HF.out.2 ts hts).2.2.1 (ru_none (HF.out.2 ts hts).2.2.2 HK.out.1 HE1.out a2 HA2.out (by rw [HWW.out]; exact HN.out)) HK.out.2.1 HZ.out.1 HZ.out.2))
      · rw [decide_eq_false hE1, show tk en [61] (nmS en σ1) = nmS en σ1 from if_neg hE1] at cK
        have HE1 : Hid (seeT en (nmS en σ1) ≠ [61]) := hE1
        clear hE1
        go_wp2_with fail
        refine cK.mono ?_
        rintro e w8 ⟨rfl, hE, hg⟩
        have H8 : Hid (It w w8 P X N en (nmS en σ1) ⟨{ d1 with at_ := a, nm := seeT en σ1 }, none, none, 0, 0⟩) := H7.out.go hE hg
        clear hE hg cK x0 hXs H7 hq2
        have cM := must_es w8 P en _ [59] (by simp) H8.out.es
        go_wp2_with fail
        refine cM.mono ?_
        rintro e wm ⟨rfl, hE, hg⟩
        obtain ⟨cz, hcz⟩ : ∃ cz : C, cz = ⟨{ d1 with at_ := a, nm := seeT en σ1 }, none, none, 0, 0⟩ := ⟨_, rfl⟩
        have HZ : Hid (It w wm P X N en (mu en [59] (nmS en σ1)) cz ∧ cz = ⟨{ d1 with at_ := a, nm := seeT en σ1 }, none, none, 0, 0⟩) := by
          rw [hcz]
          exact ⟨H8.out.go hE hg, rfl⟩
        clear hE hg cM hcz
        obtain ⟨q0, q1, q2, q3, q4, q5, q6, q7, q8, q9, q10, q11, q12⟩ := HZ.out.1.n.facts
        obtain ⟨z0, z1, z2, z3, z4, z5, z6, z7, z8, z9, z10, z11, z12⟩ := HZ.out.1.n.fzs
        obtain ⟨x0, x1, x2, x3, x4, x5, x6, x7, x8, x9, x10, x11, x12⟩ := HZ.out.1.iv.facts
        have hNy := HZ.out.1.n.lt
        have hXy := HZ.out.1.iv.lt
        go_wp2
        have hst := HZ.out.1.fin.2.2.1
        exact bodyPost_ret (v := itV cz) (results_cell_row rfl _ _ N 75 (cl cz).toArray (0, 0) _ rfl hst.h Tryz.underlying75 rfl infoI) rfl (ItA.any (fun e he => by rw [HF.out.1 e he]; rfl) HZ.out.1 (fun ts hts => ItA.pno hts (HF.out.2 ts hts).1 (HF.out.2 ts hts).2.1 (HF.out.2 ts hts).2.2.1 (part_no (HF.out.2 ts hts).2.2.2 HB.out (Or.inr HE1.out)) HK.out.2.1 HZ.out.1 HZ.out.2))
end Go.Proofs.YtpanodaecjlgaaaGreatDoor.tr
/- The document's reader of templates: a block. -/
namespace Go.Proofs.YtpanodaecjlgaaaGreatDoor.tr
set_option linter.unusedVariables false
open Go.ChangeShapes Go.WideShapes Go.ChangeAt Go.RowKit Go.Shelf
open mem lx ex tm

/-- The row of a block, under way. -/
structure Bs (w0 w : World) (P en : Nat) (σ : Sg) (base : Nat) (v : Value) (cs : List C) : Prop where
  gp : Gp P w0 w
  es : Es w P en σ
  ml : Ml w
  own : ir.Own w base v cs
  ord : 4 < P ∧ P < base ∧ w0.heap.size ≤ base ∧ base ≤ w.heap.size
theorem Bs.go {w0 w w' : World} {P en base : Nat} {σ σ' : Sg} {v : Value} {cs : List C} (h : Bs w0 w P en σ base v cs) (he : Es w' P en σ') (hg : Gp P w w') : Bs w0 w' P en σ' base v cs :=
  ⟨h.gp.trans hg, he, h.ml.gp hg h.ord.1 h.es.lt, h.own.gp hg h.ord.2.1, h.ord.1, h.ord.2.1, h.ord.2.2.1, Nat.le_trans h.ord.2.2.2 hg.size⟩
theorem Bs.bl {w0 w w' : World} {P en base : Nat} {σ : Sg} {v : Value} {cs : List C} (h : Bs w0 w P en σ base v cs) (hb : Bl w w') : Bs w0 w' P en σ base v cs := h.go (h.es.bl hb) (Gp.bl hb)
abbrev RepB (w0 w : World) (v : Value) (l : Its) (cs : List C) : Prop := Rep w (fun g => w0.heap.size ≤ g ∧ v.ownBlock ≠ some g) l cs
theorem RepB.go {w0 w w' : World} {P en base : Nat} {σ : Sg} {v : Value} {cs : List C} {l : Its} (h : Bs w0 w P en σ base v cs) (hr : RepB w0 w v l cs) (hg : Gp P w w') (hP : P < w0.heap.size) : RepB w0 w' v l cs :=
  hr.keep (fun g h1 h2 => hg.block g h2 (by omega)) hg.size (h.es.kx hg)
theorem own_kx {w6 w' : World} {base : Nat} {v : Value} {cs : List C} (h6 : ir.Own w6 base v cs) (hg : w6.grownBy w' v.ownBlock) : Kx w6 w' := fun b cs' hb => by
  rw [hg.block b (lt_of_heap hb) (fun e => by
    obtain ⟨cap, hv⟩ : ∃ cap, v = .slice (some ⟨b, 0, none⟩) cs.length cap := by
      rcases h6.shape with ⟨rfl, _⟩ | ⟨g, cap, rfl, _⟩
      · cases e
      · have : g = b := by
          have : (Value.slice (some ⟨g, 0, none⟩) cs.length cap).ownBlock = some g := rfl
          rw [this] at e; injection e with e; exact e.symm
        subst this; exact ⟨cap, rfl⟩
    rw [hv] at h6
    obtain ⟨cur, hcur⟩ := h6.kind
    rw [hb] at hcur
    simp at hcur)]
  exact hb
/-- One item more. -/
theorem Bs.app {w0 w w6 w' : World} {P en base : Nat} {σ : Sg} {v v' : Value} {cs : List C} {c : C} (h : Bs w0 w P en σ base v cs) (hb6 : w6 = w.alloc (.cells (cl c).toArray 75))
    (ho' : ir.Own w' base v' (cs ++ [c])) (hg : w6.grownBy w' v.ownBlock) : Bs w0 w' P en σ base v' (cs ++ [c]) := by
  have hbl : Bl w w6 := by rw [hb6]; exact (Bl.refl _).alloc _
  have h6 := h.bl hbl
  have hbk : ∀ k, v.ownBlock = some k → base ≤ k := fun k hk => (h.own.block k hk).1
  have ho := h.ord
  have keep : ∀ k, k < w6.heap.size → k < base → w'.heap[k]? = w6.heap[k]? := fun k hk hne => hg.block k hk (fun e => by have := hbk k e.symm; omega)
  have hlt := h6.es.lt
  refine ⟨⟨hg.os.trans h6.gp.os, hg.tape.trans h6.gp.tape, hg.output.trans h6.gp.output, Nat.le_trans h6.gp.size hg.size, fun k hk hne => (keep k (Nat.lt_of_lt_of_le hk h6.gp.size) (by omega)).trans (h6.gp.block k hk hne)⟩, h6.es.keep (fun g hg' => keep g (by omega) (by omega)) hg.size, ?_, ho', ho.1, ho.2.1, ho.2.2.1, Nat.le_trans h6.ord.2.2.2 hg.size⟩
  obtain ⟨m, hm⟩ := h6.ml
  refine ⟨m, ?_⟩
  unfold World.cell? at hm ⊢
  simp only [keep 4 (by omega) (by omega)]
  exact hm
theorem RepB.app {w0 w w6 w' : World} {P en base M : Nat} {σ : Sg} {v v' : Value} {cs : List C} {c : C} {l it : Its} (h : Bs w0 w P en σ base v cs) (hr : RepB w0 w v l cs) (hio : IsO w c.pc c.d.ct) (hs : Sub w M c it) (hM : w0.heap.size ≤ M) (hvM : ∀ k, v.ownBlock = some k → k < M)
    (hb6 : w6 = w.alloc (.cells (cl c).toArray 75)) (hg : w6.grownBy w' v.ownBlock) (hw : v'.ownBlock = v.ownBlock ∨ v'.ownBlock = some w6.heap.size) : RepB w0 w' v' (l.app c.d it) (cs ++ [c]) := by
  have hbl : Bl w w6 := by rw [hb6]; exact (Bl.refl _).alloc _
  have h6 := h.bl hbl
  have keep : ∀ k, k < w6.heap.size → v.ownBlock ≠ some k → w'.heap[k]? = w6.heap[k]? := fun k hk hne => hg.block k hk (fun e => hne e.symm)
  have hkx : Kx w6 w' := own_kx h6.own hg
  have hsz : w6.heap.size = w.heap.size + 1 := by rw [hb6]; simp
  have r7 : Rep w' (fun g => w0.heap.size ≤ g ∧ v'.ownBlock ≠ some g) l cs := by
    have r5 : Rep w (fun g => (w0.heap.size ≤ g ∧ v.ownBlock ≠ some g) ∧ g < w.heap.size) l cs := hr.mono (fun g h1 h2 => ⟨h1, h2⟩)
    have r5' : Rep w' (fun g => (w0.heap.size ≤ g ∧ v.ownBlock ≠ some g) ∧ g < w.heap.size) l cs := (r5.keep (fun g h1 hg' => Below.block hbl g hg') hbl.size (Kx.bl hbl)).keep (fun g h1 hg' => keep g hg' h1.1.2) hg.size hkx
    refine r5'.mono (fun g h1 _ => ⟨h1.1.1, fun e => ?_⟩)
    rcases hw with hw | hw
    · rw [hw] at e; exact h1.1.2 e
    · rw [hw] at e; injection e with e; have := h1.2; omega
  refine Rep.app ((hio.keep (Kx.bl hbl)).keep hkx) ?_ r7
  obtain ⟨cs2, k1, k2⟩ := hs
  have hlt : ∀ g, M ≤ g → g < w.heap.size → v'.ownBlock ≠ some g := fun g h1 h2 e => by
    rcases hw with hw | hw
    · rw [hw] at e; have := hvM g e; omega
    · rw [hw] at e; injection e with e; omega
  have k1' := k1.mono (ok' := fun g => M ≤ g ∧ g < w.heap.size) (fun g h1 h2 => ⟨h1, h2⟩)
  have k2' := k2.mono (ok' := fun g => M ≤ g ∧ g < w.heap.size) (fun g h1 h2 => ⟨h1, h2⟩)
  refine ⟨cs2, ?_, ?_⟩
  · exact ((k1'.keep (fun g _ hg' => Below.block hbl g hg') hbl.size).keep (fun g h1 hg' => keep g hg' (fun e => by have := hvM g e; omega)) hg.size).mono (fun g h1 _ => ⟨by omega, hlt g h1.1 h1.2⟩)
  · exact ((k2'.keep (fun g _ hg' => Below.block hbl g hg') hbl.size (Kx.bl hbl)).keep (fun g h1 hg' => keep g hg' (fun e => by have := hvM g e; omega)) hg.size hkx).mono (fun g h1 _ => ⟨by omega, hlt g h1.1 h1.2⟩)
/-- What is left to be read of a block. -/
def Lf (k en : Nat) (σ0 σ : Sg) (l : Its) (n : Nat) : Prop := match σ with
  | .ok ts => ∃ ts0, σ0 = .ok ts0 ∧ pre l (loop nb en (blk nb en k) n ts) = blk nb en (k + 1) ts0
  | .error e => bkS (k + 1) en σ0 = .error e
theorem Lf.start {k en : Nat} {σ0 : Sg} : Lf k en σ0 (mu en [123] σ0) .nil 16 := by
  cases σ0 with
  | error e => rfl
  | ok ts =>
    unfold mu Lf
    dsimp only
    unfold want
    by_cases hc : (hd en ts).t = [123]
    · rw [if_pos hc]
      refine ⟨ts, rfl, ?_⟩
      rw [blk, if_pos hc]
      cases loop nb en (blk nb en k) 16 ts.tail with
      | error e => rfl
      | ok lr => rfl
    · rw [if_neg hc]
      show bkS (k + 1) en (.ok ts) = _
      unfold bkS
      dsimp only
      rw [blk, if_neg hc]
theorem Lf.done {k en n : Nat} {σ0 : Sg} {ts : List Tk} {l : Its} (h : Lf k en σ0 (.ok ts) l n) (hc : (hd en ts).t = [125]) : bkS (k + 1) en σ0 = .ok ts.tail ∧ ∀ ts0 m r, σ0 = .ok ts0 → blk nb en (k + 1) ts0 = .ok (m, r) → m = l := by
  obtain ⟨ts0, h1, h2⟩ := h
  rw [(loop_is en (blk nb en k) n ts l).1 hc] at h2
  subst h1
  refine ⟨by unfold bkS; dsimp only; rw [← h2], fun ts1 m r e1 e2 => ?_⟩
  injection e1 with e1
  subst e1
  rw [← h2] at e2
  injection e2 with e2
  injection e2 with e2
  exact e2.symm
theorem Lf.full {k en : Nat} {σ0 : Sg} {ts : List Tk} {l : Its} (h : Lf k en σ0 (.ok ts) l 0) (hc : ¬ (hd en ts).t = [125]) : bkS (k + 1) en σ0 = .error (4, (hd en ts).a) := by
  obtain ⟨ts0, h1, h2⟩ := h
  rw [(loop_is en (blk nb en k) 0 ts l).2.1 hc rfl] at h2
  subst h1
  unfold bkS
  dsimp only
  rw [← h2]
theorem Lf.item {k en n : Nat} {σ0 : Sg} {ts : List Tk} {l : Its} (h : Lf k en σ0 (.ok ts) l (n + 1)) (hc : ¬ (hd en ts).t = [125]) :
    (∀ e, tm.item nb en (blk nb en k) ts = .error e → Lf k en σ0 (itS k en (.ok ts)) l n) ∧ ∀ d s r, tm.item nb en (blk nb en k) ts = .ok ((d, s), r) → itS k en (.ok ts) = .ok r ∧ Lf k en σ0 (.ok r) (l.app d s) n := by
  obtain ⟨ts0, h1, h2⟩ := h
  obtain ⟨o1, o2⟩ := (loop_is en (blk nb en k) (n + 1) ts l).2.2 hc n rfl
  refine ⟨fun e he => ?_, fun d s r hi => ⟨by unfold itS; dsimp only; rw [hi], ts0, h1, ?_⟩⟩
  · have e1 : itS k en (.ok ts) = .error e := by unfold itS; dsimp only; rw [he]
    rw [e1]
    rw [o1 e he] at h2
    subst h1
    show bkS (k + 1) en (.ok ts0) = _
    unfold bkS
    dsimp only
    rw [← h2]
  · rw [← h2, o2 d s r hi]
/-- What a block's reading answers. -/
def BkA (w : World) (P en k : Nat) (σ : Sg) (e : Ending) (w' : World) : Prop :=
  (∃ p n c, e = .returned (.slice p n c) ∧ ∀ ts l r, σ = .ok ts → blk nb en k ts = .ok (l, r) → LV w.heap.size w' (.slice p n c) l) ∧ Es w' P en (bkS k en σ) ∧ Gp P w w'
theorem BkA.bad {w w' : World} {P en k n : Nat} {σ : Sg} {x : Int × Nat} {p : Option Addr} {c : Nat} (hE : Es w' P en (.error x)) (hb : bkS k en σ = .error x) (hg : Gp P w w') : BkA w P en k σ (.returned (.slice p n c)) w' := by
  refine ⟨⟨p, n, c, rfl, fun ts l r h1 h2 => ?_⟩, by rw [hb]; exact hE, hg⟩
  subst h1
  unfold bkS at hb
  dsimp only at hb
  rw [h2] at hb
  cases hb
theorem blk0 {en : Nat} {σ : Sg} (a : Nat) (ha : ∀ ts, σ = .ok ts → a = (hd en ts).a) : (seeT en σ = [123] → bkS 0 en σ = .error (4, a) ∧ fl 4 a σ = .error (4, a)) ∧ (seeT en σ ≠ [123] → ∃ x, bkS 0 en σ = .error x ∧ mu en [123] σ = .error x) := by
  refine ⟨fun h => ?_, fun h => ?_⟩
  · obtain ⟨t, r, h1, h2⟩ := see_ok (by simp) h
    rw [ha _ h1]
    subst h1
    refine ⟨?_, rfl⟩
    unfold bkS
    dsimp only
    rw [blk, if_pos (show (hd en (t :: r)).t = [123] from h2)]
  · cases σ with
    | error x => exact ⟨x, rfl, rfl⟩
    | ok ts =>
      have h : ¬ (hd en ts).t = [123] := h
      refine ⟨(3, (hd en ts).a), ?_, ?_⟩
      · unfold bkS; dsimp only; rw [blk, if_neg h]
      · unfold mu want; dsimp only; rw [if_neg h]
theorem block_zero : BlkR 0 := by
  intro w P en dp σ hk h hm hP
  show Calls _ _ _ _ fun e w' => BkA w P en 0 σ e w'
  obtain rfl : dp = 9 := by omega
  have cT := text_es w P en σ h
  have HE : Hid (Es w P en σ) := h
  have htl := tl_tx (seeT en σ)
  obtain ⟨S, hS⟩ : ∃ S, S = tx (seeT en σ) := ⟨_, rfl⟩
  rw [← hS] at cT htl
  clear h hm hS
  rw [show ((9 : Nat) : Int) = 9 from rfl]
  by_cases hc : seeT en σ = [123]
  · have hq : (S.toList == [123]) = true := by rw [htl, hc]; rfl
    have HC : Hid (seeT en σ = [123]) := hc
    clear htl hc
    go_enter Tryz.func31, Tryz.ntmps31
    go_wp2_with fail
    refine cT.mono ?_
    rintro e w1 ⟨rfl, hb1⟩
    have HE1 : Hid (Es w1 P en σ ∧ Bl w w1) := ⟨HE.out.bl hb1, hb1⟩
    have cA := place_es w1 P en σ HE1.out.1
    clear hb1 cT
    go_wp2_with fail
    refine cA.mono ?_
    rintro e w2 ⟨⟨a, rfl, ha⟩, hw2⟩
    obtain rfl := hw2.symm
    have HA : Hid (bkS 0 en σ = .error (4, a) ∧ fl 4 a σ = .error (4, a)) := (blk0 a ha).1 HC.out
    have cW := wrong_es w1 P en σ 4 a (by decide) HE1.out.1
    rw [HA.out.2] at cW
    clear ha cA hw2
    go_wp2_with fail
    refine cW.mono ?_
    rintro e w2 ⟨rfl, hE, hg⟩
    have H2 : Hid (Es w2 P en (.error (4, a)) ∧ Gp P w w2) := ⟨hE, (Gp.bl HE1.out.2).trans hg⟩
    have cM := must_es w2 P en _ [123] (by simp) hE
    clear hE hg cW
    go_wp2_with fail
    refine cM.mono ?_
    rintro e w3 ⟨rfl, hE, hg⟩
    have H3 : Hid (Es w3 P en (.error (4, a)) ∧ Gp P w w3) := ⟨hE, H2.out.2.trans hg⟩
    have cS := fun wx (hb : Bl w3 wx) => stop_es wx P en _ (H3.out.1.bl hb)
    clear hE hg cM
    go_wp2
    go_loopw [5] (fun v5 wr => v5 = .slice none 0 0 ∧ Hid (Bl w3 wr)) (fun _ _ => 0)
    case atStart => exact ⟨rfl, Bl.refl _⟩
    case round =>
      obtain ⟨rfl, HB⟩ := hrel
      go_wp2_with fail
      refine (cS _ HB.out).mono ?_
      rintro e w4 ⟨rfl, hb4⟩
      have HB4 : Hid (Bl w3 w4) := HB.out.trans hb4
      clear hb4 cS
      go_wp2
      go_ret
      exact BkA.bad (H3.out.1.bl HB4.out) HA.out.1 (H3.out.2.trans (Gp.bl HB4.out))
  · have hq : (S.toList == [123]) = false := by rw [htl, beq_eq_false_iff_ne]; exact hc
    obtain ⟨x, hx1, hx2⟩ := (blk0 (en := en) (σ := σ) (match σ with | .ok ts => (hd en ts).a | .error _ => 0) (fun ts hts => by subst hts; rfl)).2 hc
    have HA : Hid (bkS 0 en σ = .error x) := hx1
    clear htl hc hx1
    go_enter Tryz.func31, Tryz.ntmps31
    go_wp2_with fail
    refine cT.mono ?_
    rintro e w1 ⟨rfl, hb1⟩
    have HE1 : Hid (Es w1 P en σ ∧ Bl w w1) := ⟨HE.out.bl hb1, hb1⟩
    have cM := must_es w1 P en _ [123] (by simp) HE1.out.1
    rw [hx2] at cM
    clear hb1 cT hx2
    go_wp2_with fail
    refine cM.mono ?_
    rintro e w3 ⟨rfl, hE, hg⟩
    have H3 : Hid (Es w3 P en (.error x) ∧ Gp P w w3) := ⟨hE, (Gp.bl HE1.out.2).trans hg⟩
    have cS := fun wx (hb : Bl w3 wx) => stop_es wx P en _ (H3.out.1.bl hb)
    clear hE hg cM
    go_wp2
    go_loopw [5] (fun v5 wr => v5 = .slice none 0 0 ∧ Hid (Bl w3 wr)) (fun _ _ => 0)
    case atStart => exact ⟨rfl, Bl.refl _⟩
    case round =>
      obtain ⟨rfl, HB⟩ := hrel
      go_wp2_with fail
      refine (cS _ HB.out).mono ?_
      rintro e w4 ⟨rfl, hb4⟩
      have HB4 : Hid (Bl w3 w4) := HB.out.trans hb4
      clear hb4 cS
      go_wp2
      go_ret
      exact BkA.bad (H3.out.1.bl HB4.out) HA.out (H3.out.2.trans (Gp.bl HB4.out))
end Go.Proofs.YtpanodaecjlgaaaGreatDoor.tr
