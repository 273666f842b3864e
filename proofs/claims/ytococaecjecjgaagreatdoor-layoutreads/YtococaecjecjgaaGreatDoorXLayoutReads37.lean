/- Texts laid together: Tr3, Tr4, Tr5, Tr6, Tr7. -/
import Derived.Test.YtococaecjecjgaaGreatDoorXLayoutReads36
import Derived.Test.YtococaecjecjgaaGreatDoorXLayoutReads17
import Derived.Test.YtococaecjecjgaaGreatDoorXLayoutReads18
import Derived.Test.YtococaecjecjgaaGreatDoorXLayoutReads20
namespace Go.Proofs.YtococaecjecjgaaGreatDoor.tr
set_option linter.unusedVariables false
open Go.ChangeShapes Go.WideShapes Go.ChangeAt Go.RowKit Go.Shelf
open mem lx ex tm

theorem Ml.gp {P : Nat} {w w' : World} (h : Ml w) (hg : Gp P w w') (hP : 4 < P) (hlt : P < w.heap.size) : Ml w' := by
  obtain ⟨m, hm⟩ := h
  refine ⟨m, ?_⟩
  unfold World.cell? at hm ⊢
  simp only [hg.block 4 (by omega) (by omega)]
  exact hm
structure It (w0 w : World) (P X N en : Nat) (σ : Sg) (c : C) : Prop where
  gp : Gp P w0 w
  es : Es w P en σ
  iv : Iv w X c
  n : Iv w N ⟨D0, none, none, 0, 0⟩
  ml : Ml w
  ord : 4 < P ∧ P < N ∧ N < X ∧ w0.heap.size ≤ N
theorem It.go {w0 w w' : World} {P X N en : Nat} {σ σ' : Sg} {c : C} (h : It w0 w P X N en σ c) (he : Es w' P en σ') (hg : Gp P w w') : It w0 w' P X N en σ' c :=
  ⟨h.gp.trans hg, he, h.iv.gp hg (by have := h.ord; omega), h.n.gp hg (by have := h.ord; omega), h.ml.gp hg h.ord.1 h.es.lt, h.ord⟩
theorem It.bl {w0 w w' : World} {P X N en : Nat} {σ : Sg} {c : C} (h : It w0 w P X N en σ c) (hb : Bl w w') : It w0 w' P X N en σ c := h.go (h.es.bl hb) (Gp.bl hb)
theorem It.put {w0 w : World} {P X N en j : Nat} {σ : Sg} {c c' : C} {u : Value} (h : It w0 w P X N en σ c) (he : (cl c).toArray.setIfInBounds j u = (cl c').toArray) : It w0 (w.setCell ⟨X, j, none⟩ u) P X N en σ c' := by
  have ho := h.ord
  have hg := grown_set w X j u
  refine ⟨h.gp.setNew (by omega) u, h.es.put (by omega) u, h.iv.set he, ⟨?_⟩, ?_, ho⟩
  · rw [hg.block N h.n.lt (fun e => by injection e with e; omega)]; exact h.n.h
  · obtain ⟨m, hm⟩ := h.ml
    refine ⟨m, ?_⟩
    have := h.es.lt
    unfold World.cell? at hm ⊢
    simp only [hg.block 4 (by omega) (fun e => by injection e with e; omega)]
    exact hm
def C.kd (c : C) (k : Nat) : C := { c with d := { c.d with kd := k } }
def C.ty (c : C) (t : List UInt8) : C := { c with d := { c.d with ty := t } }
def C.wd (c : C) (k : Nat) : C := { c with d := { c.d with wd := k } }
def C.od (c : C) (k : Nat) : C := { c with d := { c.d with od := k } }
def C.sg (c : C) (b : Bool) : C := { c with d := { c.d with sg := b } }
def C.mn (c : C) (b : Bool) : C := { c with d := { c.d with mn := b } }
def C.px (c : C) (o : Option Addr) : C := { c with pc := o }
def C.sl (c : C) (p : Option Addr) (n k : Nat) : C := { c with p := p, n := n, c := k }
theorem set_kd (c : C) (k : Nat) : (cl c).toArray.setIfInBounds 0 (.int .i64 (k : Int)) = (cl (C.kd c k)).toArray := rfl
theorem set_ty (c : C) (t : List UInt8) : (cl c).toArray.setIfInBounds 3 (.string (tx t)) = (cl (C.ty c t)).toArray := rfl
theorem set_wd (c : C) (k : Nat) : (cl c).toArray.setIfInBounds 4 (.int .i64 (k : Int)) = (cl (C.wd c k)).toArray := rfl
theorem set_od (c : C) (k : Nat) : (cl c).toArray.setIfInBounds 5 (.int .i64 (k : Int)) = (cl (C.od c k)).toArray := rfl
theorem set_sg (c : C) (b : Bool) : (cl c).toArray.setIfInBounds 6 (.bool b) = (cl (C.sg c b)).toArray := rfl
theorem set_mn (c : C) (b : Bool) : (cl c).toArray.setIfInBounds 7 (.bool b) = (cl (C.mn c b)).toArray := rfl
theorem set_px (c : C) (o : Option Addr) : (cl c).toArray.setIfInBounds 8 (.pointer o) = (cl (C.px c o)).toArray := rfl
theorem set_sl (c : C) (p : Option Addr) (n k : Nat) : (cl c).toArray.setIfInBounds 12 (.slice p n k) = (cl (C.sl c p n k)).toArray := rfl
theorem It.kput {w0 w : World} {P X N en j : Nat} {σ : Sg} {c : C} {u : Value} (h : It w0 w P X N en σ c) : Kx w (w.setCell ⟨X, j, none⟩ u) := kx_item h.iv (grown_set w X j u)
theorem It.fin {w0 w : World} {P X N en : Nat} {σ : Sg} {c : C} (h : It w0 w P X N en σ c) : Gp P w0 (st13 w N c) ∧ Es (st13 w N c) P en σ ∧ Iv (st13 w N c) N c ∧ Kx w (st13 w N c) ∧ (∀ g, g ≠ N → g < w.heap.size → (st13 w N c).heap[g]? = w.heap[g]?) ∧ w.heap.size ≤ (st13 w N c).heap.size := by
  have ho := h.ord
  have hs := (st_rest w N c).2.2.2
  have hl := h.es.lt
  exact ⟨st_gp (c := c) h.gp ho.2.2.2, h.es.keep (fun g hg => st_other w N c g (by omega) (by omega)) hs, h.n.store c, kx_st (c' := c) h.n, fun g h1 h2 => st_other w N c g h2 h1, hs⟩
def Po (w : World) (o : Option Addr) (φ : Ex → Prop) : Prop := ∀ x, φ x → IsX w (.pointer o) x
theorem Po.keep {w w' : World} {o : Option Addr} {φ : Ex → Prop} (h : Po w o φ) (hk : Kx w w') : Po w' o φ := fun x hx => (h x hx).keep hk
noncomputable def bkS (k en : Nat) (σ : Sg) : Sg := match σ with
  | .ok ts => (match blk nb en k ts with | .ok (_, r) => .ok r | .error e => .error e)
  | .error e => .error e
def BlkR (k : Nat) : Prop := ∀ (w : World) (P en dp : Nat) (σ : Sg), dp + k = 9 → Es w P en σ → Ml w → 4 < P →
  Calls Tryz.prog 43 #[.pointer (some ⟨P, 0, none⟩), .int .i64 (dp : Int)] w fun e w' =>
    (∃ p n c, e = .returned (.slice p n c) ∧ ∀ ts l r, σ = .ok ts → blk nb en k ts = .ok (l, r) → LV w.heap.size w' (.slice p n c) l) ∧ Es w' P en (bkS k en σ) ∧ Gp P w w'
noncomputable def itS (k en : Nat) (σ : Sg) : Sg := match σ with
  | .ok ts => (match item nb en (blk nb en k) ts with | .ok (_, r) => .ok r | .error e => .error e)
  | .error e => .error e
theorem when_way {k en : Nat} {t : Tk} {us : List Tk} (ht : t.t = wWhen) :
    (∃ x l r1 r2, exR en us = .ok (x, r1) ∧ blk nb en k r1 = .ok (l, r2) ∧ item nb en (blk nb en k) (t :: us) = .ok (({ D0 with kd := 4, at_ := t.a, ct := some x }, l), r2) ∧ bkS k en (exS en (.ok us)) = .ok r2) ∨ ∃ e, item nb en (blk nb en k) (t :: us) = .error e ∧ bkS k en (exS en (.ok us)) = .error e := by
  have e2 : rx nb en [123] us = match exR en us with | .ok (x, r) => (if (hd en r).t = [123] then .ok (x, r) else .error (3, (hd en r).a)) | .error e => .error e := by
    unfold rx exR
    cases row nb en (10 * us.length + 10) 1 0 us with
    | none => rfl
    | some q => cases q <;> rfl
  unfold item exS
  rw [if_pos (show (hd en (t :: us)).t = wWhen from ht), show (t :: us).tail = us from rfl, e2]
  dsimp only
  cases h : exR en us with
  | error e => exact Or.inr ⟨e, rfl, rfl⟩
  | ok xr =>
    obtain ⟨x, r⟩ := xr
    dsimp only
    unfold bkS
    dsimp only
    by_cases hc : (hd en r).t = [123]
    · rw [if_pos hc]
      dsimp only
      cases h2 : blk nb en k r with
      | error e => exact Or.inr ⟨e, rfl, rfl⟩
      | ok lr =>
        obtain ⟨l, r2⟩ := lr
        exact Or.inl ⟨x, l, r, r2, rfl, h2, rfl, rfl⟩
    · rw [if_neg hc]
      have : blk nb en k r = .error (3, (hd en r).a) := by
        cases k with
        | zero => rw [blk, if_neg hc]
        | succ k => rw [blk, if_neg hc]
      rw [this]
      exact Or.inr ⟨_, rfl, rfl⟩
def ItA (w : World) (P en k : Nat) (σ : Sg) (e : Ending) (w' : World) : Prop :=
  (∃ c : C, e = .returned (itV c) ∧ ∀ ts x r, σ = .ok ts → item nb en (blk nb en k) ts = .ok (x, r) → IV w.heap.size w' (itV c) x) ∧ Es w' P en (itS k en σ) ∧ Gp P w w'
theorem ItA.when {w wz : World} {P X N en k a B : Nat} {σ : Sg} {cz : C} {t : Tk} {us : List Tk} {o lp : Option Addr} {ln lc : Nat} (hσ : σ = .ok (t :: us)) (ht : t.t = wWhen) (hat : a = t.a)
    (HZ : It w wz P X N en (bkS k en (exS en (.ok us))) cz) (hcz : cz = ⟨{ D0 with at_ := a, kd := 4 }, o, lp, ln, lc⟩) (hPo : Po wz o (fun x => ∃ r, exR en us = .ok (x, r)))
    (hLV : ∀ ts l r, exS en (.ok us) = .ok ts → blk nb en k ts = .ok (l, r) → LV B wz (.slice lp ln lc) l) (hB : w.heap.size ≤ B) (hN : N < B) : ItA w P en k σ (.returned (itV cz)) (st13 wz N cz) := by
  obtain ⟨f1, f2, f3, f4, f5, f6⟩ := HZ.fin
  rcases when_way (k := k) (en := en) (us := us) ht with ⟨x, l, r1, r2, m1, m2, m3, m4⟩ | ⟨e, m3, m4⟩
  · refine ⟨⟨cz, rfl, fun ts y r hts hy => ?_⟩, ?_, f1⟩
    · rw [hσ] at hts
      injection hts with hts
      subst hts
      rw [m3] at hy
      injection hy with hy
      injection hy with hy _
      subst hy
      have k0 : exS en (.ok us) = .ok r1 := by unfold exS; dsimp only; rw [m1]
      obtain ⟨p, c, cs, k1, k2, k3⟩ := hLV r1 l r2 k0 m2
      injection k1 with k1 k4 k5
      subst k1 k4 k5
      refine ⟨⟨{ D0 with kd := 4, at_ := t.a, ct := some x }, o, lp, l.len, lc⟩, ?_, rfl, (hPo x ⟨r1, m1⟩).keep f4, cs, ?_, ?_⟩
      · rw [hcz, hat]; rfl
      · exact (k2.keep (fun g h1 h2 => f5 g (by omega) h2) f6).mono (fun g h1 _ => Nat.le_trans hB h1)
      · exact (k3.keep (fun g h1 h2 => f5 g (by omega) h2) f6 f4).mono (fun g h1 _ => Nat.le_trans hB h1)
    · unfold itS
      rw [hσ]
      dsimp only
      rw [m3]
      rw [m4] at f2
      exact f2
  · refine ⟨⟨cz, rfl, fun ts y r hts hy => ?_⟩, ?_, f1⟩
    · rw [hσ] at hts
      injection hts with hts
      subst hts
      rw [m3] at hy
      cases hy
    · unfold itS
      rw [hσ]
      dsimp only
      rw [m3]
      rw [m4] at f2
      exact f2
theorem ItA.flat {w wz : World} {P X N en k a : Nat} {σ σf : Sg} {cz : C} {ts : List Tk} (hσ : σ = .ok ts) (HZ : It w wz P X N en σf cz) (hn : cz.n = 0 ∧ cz.c = 0)
    (hi : (∃ d : D, Rl (item nb en (blk nb en k) ts) σf (({ d with at_ := a } : D), Its.nil) ∧ itV cz = itV { cz with d := { d with at_ := a } } ∧ (∀ r, σf = .ok r → IsO wz cz.pc d.ct)) ∨ ∃ e, item nb en (blk nb en k) ts = .error e ∧ σf = .error e) :
    ItA w P en k σ (.returned (itV cz)) (st13 wz N cz) := by
  obtain ⟨f1, f2, f3, f4, f5, f6⟩ := HZ.fin
  subst hσ
  rcases hi with ⟨d, h1, h2, h3⟩ | ⟨e, h1, h2⟩
  · cases σf with
    | ok r =>
      refine ⟨⟨cz, rfl, fun us y r' hts hy => ?_⟩, ?_, f1⟩
      · injection hts with hts
        subst hts
        rw [h1.okk] at hy
        injection hy with hy
        injection hy with hy _
        subst hy
        exact ⟨_, h2, rfl, (h3 r rfl).keep f4, Sub.nil _ _ _ hn⟩
      · unfold itS
        dsimp only
        rw [h1.okk]
        exact f2
    | error e =>
      refine ⟨⟨cz, rfl, fun us y r' hts hy => ?_⟩, ?_, f1⟩
      · injection hts with hts
        subst hts
        rw [h1.err] at hy
        cases hy
      · unfold itS
        dsimp only
        rw [h1.err]
        exact f2
  · subst h2
    refine ⟨⟨cz, rfl, fun us y r' hts hy => ?_⟩, ?_, f1⟩
    · injection hts with hts
      subst hts
      rw [h1] at hy
      cases hy
    · unfold itS
      dsimp only
      rw [h1]
      exact f2
theorem ItA.off {w wz : World} {P X N en k : Nat} {e : Int × Nat} {cz : C} (HZ : It w wz P X N en (.error e) cz) : ItA w P en k (.error e) (.returned (itV cz)) (st13 wz N cz) := by
  obtain ⟨f1, f2, f3, f4, f5, f6⟩ := HZ.fin
  exact ⟨⟨cz, rfl, fun us y r' hts hy => by cases hts⟩, f2, f1⟩
theorem ItA.bytes {w wz : World} {P X N en k a : Nat} {σ : Sg} {cz : C} {t : Tk} {us : List Tk} {o : Option Addr} (hσ : σ = .ok (t :: us)) (ht : t.t = wBytes) (hat : a = t.a)
    (HZ : It w wz P X N en (mu en [59] (brS en (nmS en (.ok us)))) cz) (hcz : cz = ⟨{ D0 with at_ := a, kd := 2, nm := seeT en (.ok us) }, o, none, 0, 0⟩) (hPo : Po wz o (Xq en (nmS en (.ok us)))) : ItA w P en k σ (.returned (itV cz)) (st13 wz N cz) := by
  have hit : item nb en (blk nb en k) (t :: us) = match byts nb en us with | .error e => .error e | .ok (d, r) => .ok (({ d with at_ := t.a }, .nil), r) := by
    unfold item
    rw [if_neg (show ¬ (hd en (t :: us)).t = wWhen by show ¬ t.t = wWhen; rw [ht]; decide), if_pos (show (hd en (t :: us)).t = wBytes from ht)]
    rfl
  refine ItA.flat (a := a) hσ HZ (by rw [hcz]; exact ⟨rfl, rfl⟩) ?_
  rcases byts_way (en := en) (us := us) with ⟨x, h1, h2⟩ | ⟨e, h1, h2⟩
  · refine Or.inl ⟨{ D0 with kd := 2, nm := (hd en us).t, ct := some x }, ?_, ?_, fun r hr => ?_⟩
    · rw [hit]
      cases hf : mu en [59] (brS en (nmS en (.ok us))) with
      | ok r => rw [hf] at h2; rw [h2.okk, hat]; rfl
      | error e => rw [hf] at h2; rw [h2.err]; rfl
    · rw [hcz]; rfl
    · rw [hcz]; exact hPo x h1
  · exact Or.inr ⟨e, by rw [hit, h1], h2⟩
theorem item_part {k en : Nat} {ts : List Tk} (h1 : (hd en ts).t ≠ wWhen) (h2 : (hd en ts).t ≠ wBytes) : item nb en (blk nb en k) ts = match tm.part nb en ts with | .error e => .error e | .ok (d, r) => .ok (({ d with at_ := (hd en ts).a }, .nil), r) := by
  unfold item
  rw [if_neg h1, if_neg h2]
  rfl
theorem ItA.pbr {w wz : World} {P X N en k a : Nat} {σ σ1 : Sg} {cz : C} {d1 : D} {ts : List Tk} {o : Option Addr} (hσ : σ = .ok ts) (h1 : (hd en ts).t ≠ wWhen) (h2 : (hd en ts).t ≠ wBytes) (hat : a = (hd en ts).a) (h0 : Rl (kind en ts) σ1 d1) (hT : seeT en (nmS en σ1) = [91])
    (HZ : It w wz P X N en (mu en [59] (brS en (nmS en σ1))) cz) (hcz : cz = ⟨{ d1 with at_ := a, nm := seeT en σ1, mn := true }, o, none, 0, 0⟩) (hPo : Po wz o (Xq en (nmS en σ1))) : ItA w P en k σ (.returned (itV cz)) (st13 wz N cz) := by
  have hit := item_part (k := k) h1 h2
  refine ItA.flat (a := a) hσ HZ (by rw [hcz]; exact ⟨rfl, rfl⟩) ?_
  rcases part_br h0 hT with ⟨x, k1, k2⟩ | ⟨e, k1, k2⟩
  · refine Or.inl ⟨{ d1 with nm := seeT en σ1, mn := true, ct := some x }, ?_, ?_, fun r hr => ?_⟩
    · rw [hit]
      cases hf : mu en [59] (brS en (nmS en σ1)) with
      | ok r => rw [hf] at k2; rw [k2.okk, hat]; rfl
      | error e => rw [hf] at k2; rw [k2.err]; rfl
    · rw [hcz]; rfl
    · rw [hcz]; exact hPo x k1
  · exact Or.inr ⟨e, by rw [hit, k1], k2⟩
theorem ItA.pno {w wz : World} {P X N en k a : Nat} {σ σf : Sg} {cz : C} {d : D} {ts : List Tk} (hσ : σ = .ok ts) (h1 : (hd en ts).t ≠ wWhen) (h2 : (hd en ts).t ≠ wBytes) (hat : a = (hd en ts).a) (h0 : Rl (tm.part nb en ts) σf d) (hct : d.ct = none)
    (HZ : It w wz P X N en σf cz) (hcz : cz = ⟨{ d with at_ := a }, none, none, 0, 0⟩) : ItA w P en k σ (.returned (itV cz)) (st13 wz N cz) := by
  have hit := item_part (k := k) h1 h2
  refine ItA.flat (a := a) hσ HZ (by rw [hcz]; exact ⟨rfl, rfl⟩) (Or.inl ⟨d, ?_, ?_, fun r hr => ?_⟩)
  · rw [hit]
    cases hf : σf with
    | ok r => rw [hf] at h0; rw [h0.okk, hat]; rfl
    | error e => rw [hf] at h0; rw [h0.err]; rfl
  · rw [hcz]
  · rw [hcz, hct]; rfl
theorem ItA.any {w wz : World} {P X N en k : Nat} {σ σf : Sg} {cz : C} (hoff : ∀ e, σ = .error e → σf = .error e) (HZ : It w wz P X N en σf cz) (hon : ∀ ts, σ = .ok ts → ItA w P en k σ (.returned (itV cz)) (st13 wz N cz)) : ItA w P en k σ (.returned (itV cz)) (st13 wz N cz) := by
  cases σ with
  | ok ts => exact hon ts rfl
  | error e => rw [hoff e rfl] at HZ; exact ItA.off HZ
theorem ru_none {en : Nat} {ts : List Tk} {σ1 : Sg} {d1 d : D} (h0 : Rl (kind en ts) σ1 d1) (hk : d1.kd = 1) (hT : seeT en (nmS en σ1) = [61]) (a : Nat) (ha : ∀ us, ps en (nmS en σ1) = .ok us → a = (hd en us).a) (hr : ruleOf (seeT en (ps en (nmS en σ1))) = 0) :
    Rl (tm.part nb en ts) (mu en [59] (nmS en (fl 3 a (ps en (ps en (nmS en σ1)))))) d := by
  have h := part_ru h0 hk hT a ha
  rw [show ruS en a (ps en (nmS en σ1)) = nmS en (fl 3 a (ps en (ps en (nmS en σ1)))) by unfold ruS; rw [if_pos hr]] at h
  cases hf : ps en (ps en (nmS en σ1)) with
  | ok r => rw [hf] at h; exact h
  | error e => rw [hf] at h; exact h
theorem ru_plain {en n : Nat} {ts : List Tk} {σ1 : Sg} {d1 : D} (h0 : Rl (kind en ts) σ1 d1) (hk : d1.kd = 1) (hT : seeT en (nmS en σ1) = [61]) (a : Nat) (ha : ∀ us, ps en (nmS en σ1) = .ok us → a = (hd en us).a) (hr : ruleOf (seeT en (ps en (nmS en σ1))) = n) (h1 : n ≠ 0) (h3 : n ≠ 3) :
    Rl (tm.part nb en ts) (mu en [59] (nmS en (ps en (ps en (nmS en σ1))))) { d1 with nm := seeT en σ1, ru := n, f1 := seeT en (ps en (ps en (nmS en σ1))) } := by
  have h := part_ru h0 hk hT a ha
  unfold ruS at h
  rw [hr, if_neg h1, if_neg h3, if_neg h3] at h
  exact h
theorem ru_one {en : Nat} {ts : List Tk} {σ1 : Sg} {d1 : D} (h0 : Rl (kind en ts) σ1 d1) (hk : d1.kd = 1) (hT : seeT en (nmS en σ1) = [61]) (a : Nat) (ha : ∀ us, ps en (nmS en σ1) = .ok us → a = (hd en us).a) (hr : ruleOf (seeT en (ps en (nmS en σ1))) = 3) (hs : seeT en (nmS en (ps en (ps en (nmS en σ1)))) = [59]) :
    Rl (tm.part nb en ts) (mu en [59] (nmS en (ps en (ps en (nmS en σ1))))) { d1 with nm := seeT en σ1, ru := 3, f1 := seeT en (ps en (ps en (nmS en σ1))), l1 := seeT en (ps en (ps en (nmS en σ1))) } := by
  have h := part_ru h0 hk hT a ha
  unfold ruS at h
  rw [hr, if_neg (by decide), if_pos rfl, if_pos rfl, if_pos hs, if_pos hs] at h
  exact h
theorem ru_two {en : Nat} {ts : List Tk} {σ1 : Sg} {d1 : D} (h0 : Rl (kind en ts) σ1 d1) (hk : d1.kd = 1) (hT : seeT en (nmS en σ1) = [61]) (a : Nat) (ha : ∀ us, ps en (nmS en σ1) = .ok us → a = (hd en us).a) (hr : ruleOf (seeT en (ps en (nmS en σ1))) = 3) (hs : seeT en (nmS en (ps en (ps en (nmS en σ1)))) ≠ [59]) :
    Rl (tm.part nb en ts) (mu en [59] (nmS en (nmS en (ps en (ps en (nmS en σ1)))))) { d1 with nm := seeT en σ1, ru := 3, f1 := seeT en (ps en (ps en (nmS en σ1))), l1 := seeT en (nmS en (ps en (ps en (nmS en σ1)))) } := by
  have h := part_ru h0 hk hT a ha
  unfold ruS at h
  rw [hr, if_neg (by decide), if_pos rfl, if_pos rfl, if_neg hs, if_neg hs] at h
  exact h
theorem kind_name {en : Nat} {ts : List Tk} (h : numOf (hd en ts).t = none) : Rl (kind en ts) (nmS en (.ok ts)) { D0 with kd := 3, ty := (hd en ts).t } := by
  have h1 := name_rl (en := en) (us := ts)
  unfold kind
  rw [h]
  dsimp only
  cases hf : nmS en (.ok ts) with
  | ok r => rw [hf] at h1; rw [h1.okk]; rfl
  | error e => rw [hf] at h1; rw [h1.err]; rfl
theorem kind_num {en : Nat} {t : Tk} {us : List Tk} {w o : Nat} {s : Bool} (h : numOf t.t = some (w, o, s)) : Rl (kind en (t :: us)) (.ok us) { D0 with kd := 1, wd := w, od := o, sg := s } := by
  unfold kind
  rw [show (hd en (t :: us)).t = t.t from rfl, h]
  rfl
theorem suf_at (S : ByteArray) (w : World) (h : S.size ≤ 5) : Calls Tryz.prog 114 #[.string S, .string ⟨#[98, 101]⟩] w fun e w' => e = .returned (.bool (Lib.hasSuffix (L S) [98, 101])) ∧ w' = w :=
  Any.strings_HasSuffix layQ.laid S ⟨#[98, 101]⟩ w (by omega)
theorem oneb_at (b : Bool) (J : Nat) (w : World) (h : (if b = true then 1 else 0) = J) : Calls Tryz.prog 113 #[.bool b] w fun e w' => e = .returned (.int .i64 (J : Int)) ∧ w' = w := by
  cases b with
  | true =>
    obtain rfl : J = 1 := by rw [← h]; rfl
    go_enter Tryz.func113, Tryz.ntmps113
    go_wp2
    go_ret
    exact ⟨rfl, rfl⟩
  | false =>
    obtain rfl : J = 0 := by rw [← h]; rfl
    go_enter Tryz.func113, Tryz.ntmps113
    go_wp2
    go_ret
    exact ⟨rfl, rfl⟩
theorem two_bytes {S : ByteArray} {a b : UInt8} {r : List UInt8} (h : S.toList = a :: b :: r) (h0 : 0 < S.size) (h1 : 1 < S.size) : S[0] = a ∧ S[1] = b := by
  rw [ByteArray.toList_eq] at h
  have k0 : S.data.toList[0]? = some a := by rw [h]; rfl
  have k1 : S.data.toList[1]? = some b := by rw [h]; rfl
  rw [Array.getElem?_toList] at k0 k1
  obtain ⟨_, k0⟩ := Array.getElem?_eq_some_iff.1 k0
  obtain ⟨_, k1⟩ := Array.getElem?_eq_some_iff.1 k1
  exact ⟨k0, k1⟩
theorem num_bytes {T : List UInt8} (h : (numOf T).isSome = true) : ∃ (w o : Nat) (s : Bool) (a b : UInt8) (r : List UInt8), numOf T = some (w, o, s) ∧ T = a :: b :: r ∧ T.length ≤ 5 ∧ ((a.toNat : Int) == 105) = s ∧ ((b = 56 ∧ w = 1) ∨ (b = 49 ∧ w = 2) ∨ (b = 51 ∧ w = 4) ∨ (b = 54 ∧ w = 8)) ∧ (if Lib.hasSuffix T [98, 101] then 1 else 0) = o := by
  rw [num_mem, decide_eq_true_eq] at h
  have key : ∀ T ∈ numK, ∃ (w o : Nat) (s : Bool) (a b : UInt8) (r : List UInt8), numOf T = some (w, o, s) ∧ T = a :: b :: r ∧ T.length ≤ 5 ∧ ((a.toNat : Int) == 105) = s ∧ ((b = 56 ∧ w = 1) ∨ (b = 49 ∧ w = 2) ∨ (b = 51 ∧ w = 4) ∨ (b = 54 ∧ w = 8)) ∧ (if Lib.hasSuffix T [98, 101] then 1 else 0) = o := by
    intro T hT
    unfold numK numW at hT
    simp only [List.map_cons, List.map_nil, List.mem_cons, List.not_mem_nil, or_false] at hT
    rcases hT with rfl | rfl | rfl | rfl | rfl | rfl | rfl | rfl | rfl | rfl | rfl | rfl <;> exact ⟨_, _, _, _, _, _, rfl, rfl, by decide, rfl, by decide, rfl⟩
  exact key T h
set_option maxRecDepth 10000 in
set_option maxHeartbeats 4000000 in
theorem item_es (k : Nat) (cB : BlkR k) (w : World) (P en dp : Nat) (σ : Sg) (hk : dp + 1 + k = 9) (h : Es w P en σ) (hm : Ml w) (hP : 4 < P) :
    Calls Tryz.prog 73 #[.pointer (some ⟨P, 0, none⟩), .int .i64 (dp : Int)] w fun e w' => ItA w P en k σ e w' := by
  have hmm : ∀ w, (Instr.makeMap 195 none).run Tryz.prog w = .ok (.map (some w.heap.size)) (w.alloc (.map #[] 0)) := fun w => by kernel_rfl
  have hPw := h.lt
  obtain ⟨N, hN⟩ : ∃ N, N = w.heap.size := ⟨_, rfl⟩
  obtain ⟨w1, hw1⟩ : ∃ w1, w1 = w.alloc (.cells z13 60) := ⟨_, rfl⟩
  have hb1 : Bl w w1 := by rw [hw1]; exact (Bl.refl _).alloc _
  have hv1 : Iv w1 N ⟨D0, none, none, 0, 0⟩ := ⟨by rw [hw1, hN]; exact new_at _ _⟩
  have cP := place_es w1 P en σ (h.bl hb1)
  have HR : Hid (Es w P en σ ∧ Ml w ∧ N = w.heap.size ∧ Bl w w1 ∧ Iv w1 N ⟨D0, none, none, 0, 0⟩ ∧ BlkR k) := ⟨h, hm, hN, hb1, hv1, cB⟩
  clear h hm cB hb1 hv1
  go_enter Tryz.func73, Tryz.ntmps73
  go_upto_region 1 with fail
  change Code.wp _ _ _ _ (w.alloc (.cells z13 60))
  rw [← hw1, ← hN]
  clear hw1 hN
  go_wp2_with fail
  refine cP.mono ?_
  rintro e w2 ⟨⟨a, rfl, ha⟩, rfl⟩
  go_upto_region 2 with fail
  obtain ⟨X, hX⟩ : ∃ X, X = w2.heap.size := ⟨_, rfl⟩
  obtain ⟨w3, hw3⟩ : ∃ w3, w3 = w2.alloc (.cells (cl ⟨{ D0 with at_ := a }, none, none, 0, 0⟩).toArray 60) := ⟨_, rfl⟩
  change Code.wp _ _ _ _ (w2.alloc (.cells (cl ⟨{ D0 with at_ := a }, none, none, 0, 0⟩).toArray 60))
  rw [← hw3, ← hX]
  have hb3 : Bl w2 w3 := by rw [hw3]; exact (Bl.refl _).alloc _
  have hv3 : Iv w3 X ⟨{ D0 with at_ := a }, none, none, 0, 0⟩ := ⟨by rw [hw3, hX]; exact new_at _ _⟩
  have hNX : N < X := by rw [hX]; exact HR.out.2.2.2.2.1.lt
  have hPN : P < N := by rw [HR.out.2.2.1]; exact hPw
  have H3 : Hid (It w w3 P X N en σ ⟨{ D0 with at_ := a }, none, none, 0, 0⟩) := ⟨Gp.bl (HR.out.2.2.2.1.trans hb3), HR.out.1.bl (HR.out.2.2.2.1.trans hb3), hv3, HR.out.2.2.2.2.1.bl hb3, HR.out.2.1.step (HR.out.2.2.2.1.trans hb3), hP, hPN, hNX, by rw [HR.out.2.2.1]; exact Nat.le_refl _⟩
  have HA : Hid ((∀ ts, σ = .ok ts → a = (hd en ts).a) ∧ N = w.heap.size ∧ BlkR k ∧ w.heap.size ≤ w3.heap.size) := ⟨ha, HR.out.2.2.1, HR.out.2.2.2.2.2, (HR.out.2.2.2.1.trans hb3).size⟩
  have cT := text_es w3 P en σ H3.out.es
  clear hw3 hX hb3 hv3 cP ha HR
  go_wp2_with fail
  refine cT.mono ?_
  rintro e w4 ⟨rfl, hb4⟩
  have H4 : Hid (It w w4 P X N en σ ⟨{ D0 with at_ := a }, none, none, 0, 0⟩) := H3.out.bl hb4
  clear hb4 cT H3
  have hSl : (tx (seeT en σ)).size = (seeT en σ).length := tx_size _
  have hTl := H4.out.es.tok
  have htl := tl_tx (seeT en σ)
  obtain ⟨S, hS⟩ : ∃ S, S = tx (seeT en σ) := ⟨_, rfl⟩
  rw [← hS] at hSl htl ⊢
  have HS : Hid (S = tx (seeT en σ)) := hS
  obtain ⟨x0, x1, x2, x3, x4, x5, x6, x7, x8, x9, x10, x11, x12⟩ := H4.out.iv.facts
  obtain ⟨z0, z1, z2, z3, z4, z5, z6, z7, z8, z9, z10, z11, z12⟩ := H4.out.iv.fzs
  have cQ := pass_es w4 P en σ H4.out.es
  by_cases hW : seeT en σ = wWhen
  · have hq : (S.toList == [119, 104, 101, 110]) = true := by rw [htl, hW]; rfl
    obtain ⟨t, us, hσ, ht⟩ := see_ok (by decide) hW
    rw [hσ, show ps en (.ok (t :: us)) = .ok us from rfl] at cQ
    rw [hσ] at H4 HA
    have HW : Hid (σ = .ok (t :: us) ∧ t.t = wWhen) := ⟨hσ, ht⟩
    clear htl hW hσ hSl hTl hS ht x0 x1 x2 x3 x4 x5 x6 x7 x8 x9 x10 x11 x12 z0 z1 z2 z3 z4 z5 z6 z7 z8 z9 z10 z11 z12
    go_wp2_with fail
    refine cQ.mono ?_
    rintro e w5 ⟨rfl, hE, hg⟩
    have H5 : Hid (It w w5 P X N en (.ok us) ⟨{ D0 with at_ := a }, none, none, 0, 0⟩) := H4.out.go hE hg
    have cX := expr_es w5 P en _ hE
    clear hE hg cQ H4
    go_upto_region 7 with fail
    go_wp2_with fail
    refine cX.mono ?_
    rintro e w6 ⟨⟨o, rfl, ho⟩, hE, hg⟩
    have H6 : Hid (It w w6 P X N en (exS en (.ok us)) ⟨{ D0 with at_ := a }, none, none, 0, 0⟩ ∧ Po w6 o (fun x => ∃ r, exR en us = .ok (x, r))) := ⟨H5.out.go hE hg, fun x ⟨r, hr⟩ => ho us x r rfl hr⟩
    obtain ⟨x0, x1, x2, x3, x4, x5, x6, x7, x8, x9, x10, x11, x12⟩ := H6.out.1.iv.facts
    obtain ⟨z0, z1, z2, z3, z4, z5, z6, z7, z8, z9, z10, z11, z12⟩ := H6.out.1.iv.fzs
    have hXs := H6.out.1.iv.lt
    obtain ⟨wx, hwx⟩ : ∃ wx, wx = (w6.setCell ⟨X, 0, none⟩ (.int .i64 4)).setCell ⟨X, 8, none⟩ (.pointer o) := ⟨_, rfl⟩
    have HX : Hid (It w wx P X N en (exS en (.ok us)) ⟨{ D0 with at_ := a, kd := 4 }, o, none, 0, 0⟩ ∧ Po wx o (fun x => ∃ r, exR en us = .ok (x, r)) ∧ w.heap.size ≤ wx.heap.size) := by
      have j1 := H6.out.1.put (set_kd _ 4)
      have j2 := j1.put (set_px _ o)
      rw [hwx]
      exact ⟨j2, (H6.out.2.keep H6.out.1.kput).keep j1.kput, j2.gp.size⟩
    have cB := HA.out.2.2.1 wx P en (dp + 1) _ (by omega) HX.out.1.es HX.out.1.ml hP
    rw [show ((dp + 1 : Nat) : Int) = (dp : Int) + 1 by omega] at cB
    have hdp : (dp : Int) + 1 ≤ 9223372036854775807 := by omega
    clear hE hg ho cX H5
    go_upto_region 8 with fail
    rw [← hwx]
    clear hwx x0 x1 x2 x3 x4 x5 x6 x7 x8 x9 x10 x11 x12 z0 z1 z2 z3 z4 z5 z6 z7 z8 z9 z10 z11 z12 hXs
    go_wp2_with fail
    refine cB.mono ?_
    rintro e w7 ⟨⟨lp, ln, lc, rfl, hl⟩, hE, hg⟩
    have H7 : Hid (It w w7 P X N en (bkS k en (exS en (.ok us))) ⟨{ D0 with at_ := a, kd := 4 }, o, none, 0, 0⟩ ∧ Po w7 o (fun x => ∃ r, exR en us = .ok (x, r)) ∧ ∀ ts l r, exS en (.ok us) = .ok ts → blk nb en k ts = .ok (l, r) → LV wx.heap.size w7 (.slice lp ln lc) l) := ⟨HX.out.1.go hE hg, HX.out.2.1.keep (HX.out.1.es.kx hg), hl⟩
    have x12 : w7.cell? ⟨X, 12, none⟩ = some (.slice none 0 0) := H7.out.1.iv.cell 12
    have z12 := H7.out.1.iv.fz 12
    have hXs := H7.out.1.iv.lt
    obtain ⟨wz, hwz⟩ : ∃ wz, wz = w7.setCell ⟨X, 12, none⟩ (.slice lp ln lc) := ⟨_, rfl⟩
    obtain ⟨cz, hcz⟩ : ∃ cz : C, cz = ⟨{ D0 with at_ := a, kd := 4 }, o, lp, ln, lc⟩ := ⟨_, rfl⟩
    have HZ : Hid (It w wz P X N en (bkS k en (exS en (.ok us))) cz ∧ cz = ⟨{ D0 with at_ := a, kd := 4 }, o, lp, ln, lc⟩ ∧ Po wz o (fun x => ∃ r, exR en us = .ok (x, r)) ∧ ∀ ts l r, exS en (.ok us) = .ok ts → blk nb en k ts = .ok (l, r) → LV wx.heap.size wz (.slice lp ln lc) l) := by
      have j1 := H7.out.1.put (set_sl _ lp ln lc)
      rw [hwz, hcz]
      refine ⟨j1, rfl, H7.out.2.1.keep H7.out.1.kput, fun ts l r h1 h2 => ?_⟩
      have hg := grown_set w7 X 12 (.slice lp ln lc)
      have hXx := HX.out.1.iv.lt
      obtain ⟨p, c, cs, k1, k2, k3⟩ := H7.out.2.2 ts l r h1 h2
      exact ⟨p, c, cs, k1, k2.keep (fun g h1 h2 => hg.block g h2 (fun e => by injection e with e; omega)) hg.size, k3.keep (fun g h1 h2 => hg.block g h2 (fun e => by injection e with e; omega)) hg.size H7.out.1.kput⟩
    clear hE hg hl hcz H7 H6 cB
    go_upto_region 9 with fail
    rw [← hwz]
    clear hwz x12 z12 hXs
    obtain ⟨q0, q1, q2, q3, q4, q5, q6, q7, q8, q9, q10, q11, q12⟩ := HZ.out.1.n.facts
    obtain ⟨z0, z1, z2, z3, z4, z5, z6, z7, z8, z9, z10, z11, z12⟩ := HZ.out.1.n.fzs
    obtain ⟨x0, x1, x2, x3, x4, x5, x6, x7, x8, x9, x10, x11, x12⟩ := HZ.out.1.iv.facts
    have hNy := HZ.out.1.n.lt
    have hXy := HZ.out.1.iv.lt
    go_wp2
    have hst := HZ.out.1.fin.2.2.1
    exact bodyPost_ret (v := itV cz) (results_cell_row rfl _ _ N 60 (cl cz).toArray (0, 0) _ rfl hst.h Tryz.underlying60 rfl infoI) rfl (ItA.when HW.out.1 HW.out.2 (HA.out.1 _ rfl) HZ.out.1 HZ.out.2.1 HZ.out.2.2.1 HZ.out.2.2.2 HX.out.2.2 HX.out.1.n.lt)
  by_cases hY : seeT en σ = wBytes
  · have hq : (S.toList == [119, 104, 101, 110]) = false := by rw [htl, beq_eq_false_iff_ne]; exact hW
    have hq1 : (S.toList == [98, 121, 116, 101, 115]) = true := by rw [htl, hY]; rfl
    obtain ⟨t, us, hσ, ht⟩ := see_ok (by decide) hY
    rw [hσ, show ps en (.ok (t :: us)) = .ok us from rfl] at cQ
    rw [hσ] at H4 HA
    have HW : Hid (σ = .ok (t :: us) ∧ t.t = wBytes) := ⟨hσ, ht⟩
    clear htl hW hY hσ hSl hTl hS ht x0 x1 x2 x3 x4 x5 x6 x7 x8 x9 x10 x11 x12 z0 z1 z2 z3 z4 z5 z6 z7 z8 z9 z10 z11 z12
    go_wp2_with fail
    refine cQ.mono ?_
    rintro e w5 ⟨rfl, hE, hg⟩
    have H5 : Hid (It w w5 P X N en (.ok us) ⟨{ D0 with at_ := a }, none, none, 0, 0⟩) := H4.out.go hE hg
    have cX := name_es w5 P en _ hE H5.out.ml
    clear hE hg cQ H4
    go_upto_region 12 with fail
    go_wp2_with fail
    refine cX.mono ?_
    rintro e w6 ⟨rfl, hE, hg⟩
    have H6 : Hid (It w w6 P X N en (nmS en (.ok us)) ⟨{ D0 with at_ := a }, none, none, 0, 0⟩) := H5.out.go hE hg
    obtain ⟨V, hV⟩ : ∃ V, V = tx (seeT en (.ok us)) := ⟨_, rfl⟩
    rw [← hV]
    obtain ⟨x0, x1, x2, x3, x4, x5, x6, x7, x8, x9, x10, x11, x12⟩ := H6.out.iv.facts
    obtain ⟨z0, z1, z2, z3, z4, z5, z6, z7, z8, z9, z10, z11, z12⟩ := H6.out.iv.fzs
    have hXs := H6.out.iv.lt
    obtain ⟨wx, hwx⟩ : ∃ wx, wx = (w6.setCell ⟨X, 0, none⟩ (.int .i64 2)).setCell ⟨X, 2, none⟩ (.string V) := ⟨_, rfl⟩
    have HX : Hid (It w wx P X N en (nmS en (.ok us)) ⟨{ D0 with at_ := a, kd := 2, nm := seeT en (.ok us) }, none, none, 0, 0⟩) := by
      rw [hwx, hV]
      exact (H6.out.put (set_kd _ 2)).put (set_nm _ (seeT en (.ok us)))
    have cB := bracket_es wx P en _ HX.out.es
    clear hE hg cX H5 hV
    go_upto_region 13 with fail
    rw [← hwx]
    clear hwx x0 x1 x2 x3 x4 x5 x6 x7 x8 x9 x10 x11 x12 z0 z1 z2 z3 z4 z5 z6 z7 z8 z9 z10 z11 z12 hXs
    go_wp2_with fail
    refine cB.mono ?_
    rintro e w7 ⟨⟨o, rfl, ho⟩, hE, hg⟩
    have H7 : Hid (It w w7 P X N en (brS en (nmS en (.ok us))) ⟨{ D0 with at_ := a, kd := 2, nm := seeT en (.ok us) }, none, none, 0, 0⟩ ∧ Po w7 o (Xq en (nmS en (.ok us)))) := ⟨HX.out.go hE hg, fun x ⟨vs, r, h1, h2⟩ => ho vs x r h1 h2⟩
    have x8 : w7.cell? ⟨X, 8, none⟩ = some (.pointer none) := H7.out.1.iv.cell 8
    have z8 := H7.out.1.iv.fz 8
    have hXs := H7.out.1.iv.lt
    obtain ⟨wy, hwy⟩ : ∃ wy, wy = w7.setCell ⟨X, 8, none⟩ (.pointer o) := ⟨_, rfl⟩
    have HY : Hid (It w wy P X N en (brS en (nmS en (.ok us))) ⟨{ D0 with at_ := a, kd := 2, nm := seeT en (.ok us) }, o, none, 0, 0⟩ ∧ Po wy o (Xq en (nmS en (.ok us)))) := by
      rw [hwy]
      exact ⟨H7.out.1.put (set_px _ o), H7.out.2.keep H7.out.1.kput⟩
    have cM := must_es wy P en _ [59] (by simp) HY.out.1.es
    clear hE hg ho cB H7 H6
    go_upto_region 20 with fail
    rw [← hwy]
    clear hwy x8 z8 hXs
    have x0 : wy.cell? ⟨X, 0, none⟩ = some (.int .i64 2) := HY.out.1.iv.cell 0
    have hXs := HY.out.1.iv.lt
    go_wp2_with fail
    refine cM.mono ?_
    rintro e w8 ⟨rfl, hE, hg⟩
    obtain ⟨cz, hcz⟩ : ∃ cz : C, cz = ⟨{ D0 with at_ := a, kd := 2, nm := seeT en (.ok us) }, o, none, 0, 0⟩ := ⟨_, rfl⟩
    have HZ : Hid (It w w8 P X N en (mu en [59] (brS en (nmS en (.ok us)))) cz ∧ cz = ⟨{ D0 with at_ := a, kd := 2, nm := seeT en (.ok us) }, o, none, 0, 0⟩ ∧ Po w8 o (Xq en (nmS en (.ok us)))) := by
      rw [hcz]
      exact ⟨HY.out.1.go hE hg, rfl, HY.out.2.keep (HY.out.1.es.kx hg)⟩
    clear hE hg cM hcz x0 hXs
    obtain ⟨q0, q1, q2, q3, q4, q5, q6, q7, q8, q9, q10, q11, q12⟩ := HZ.out.1.n.facts
    obtain ⟨z0, z1, z2, z3, z4, z5, z6, z7, z8, z9, z10, z11, z12⟩ := HZ.out.1.n.fzs
    obtain ⟨x0, x1, x2, x3, x4, x5, x6, x7, x8, x9, x10, x11, x12⟩ := HZ.out.1.iv.facts
    have hNy := HZ.out.1.n.lt
    have hXy := HZ.out.1.iv.lt
    go_wp2
    have hst := HZ.out.1.fin.2.2.1
    exact bodyPost_ret (v := itV cz) (results_cell_row rfl _ _ N 60 (cl cz).toArray (0, 0) _ rfl hst.h Tryz.underlying60 rfl infoI) rfl (ItA.bytes HW.out.1 HW.out.2 (HA.out.1 _ rfl) HZ.out.1 HZ.out.2.1 HZ.out.2.2)
  have hq : (S.toList == [119, 104, 101, 110]) = false := by rw [htl, beq_eq_false_iff_ne]; exact hW
  have hq1 : (S.toList == [98, 121, 116, 101, 115]) = false := by rw [htl, beq_eq_false_iff_ne]; exact hY
  have cI := isNum_at (seeT en σ) w4 H4.out.es.gap hTl H4.out.ml
  rw [← hS] at cI
  cases hn : (numOf (seeT en σ)).isSome with
  | false =>
    rw [hn] at cI
    obtain ⟨σ1, hσ1⟩ : ∃ σ1, σ1 = nmS en σ := ⟨_, rfl⟩
    obtain ⟨d1, hd1⟩ : ∃ d1 : D, d1 = { D0 with kd := 3, ty := seeT en σ } := ⟨_, rfl⟩
    have HK : Hid (d1.kd = 3 ∧ d1.ct = none) := by rw [hd1]; exact ⟨rfl, rfl⟩
    have HF : Hid ((∀ e, σ = .error e → σ1 = .error e) ∧ ∀ ts, σ = .ok ts → (hd en ts).t ≠ wWhen ∧ (hd en ts).t ≠ wBytes ∧ a = (hd en ts).a ∧ Rl (kind en ts) σ1 d1) := by
      refine ⟨fun e he => by rw [hσ1, he]; rfl, fun ts hts => ?_⟩
      rw [hts] at hW hY hn
      refine ⟨hW, hY, HA.out.1 ts hts, ?_⟩
      rw [hσ1, hd1, hts]
      refine kind_name ?_
      cases h : numOf (hd en ts).t with
      | none => rfl
      | some q => have hn : (numOf (hd en ts).t).isSome = false := hn; rw [h] at hn; cases hn
    have cN := name_es w4 P en _ H4.out.es H4.out.ml
    rw [← hσ1, ← hS] at cN
    clear htl hW hY hSl hTl hn hS cQ x0 x1 x2 x3 x4 x5 x6 x7 x8 x9 x10 x11 x12 z0 z1 z2 z3 z4 z5 z6 z7 z8 z9 z10 z11 z12
    go_wp2_with fail
    refine (cI).mono ?_
    rintro e w5 ⟨rfl, hw5⟩
    obtain rfl := hw5.symm
    go_wp2_with fail
    refine cN.mono ?_
    rintro e w5 ⟨rfl, hE, hg⟩
    have H5 : Hid (It w w5 P X N en σ1 ⟨{ D0 with at_ := a }, none, none, 0, 0⟩) := H4.out.go hE hg
    clear hE hg cN cI H4
    obtain ⟨x0, x1, x2, x3, x4, x5, x6, x7, x8, x9, x10, x11, x12⟩ := H5.out.iv.facts
    obtain ⟨z0, z1, z2, z3, z4, z5, z6, z7, z8, z9, z10, z11, z12⟩ := H5.out.iv.fzs
    have hXs := H5.out.iv.lt
    obtain ⟨wx, hwx⟩ : ∃ wx, wx = (w5.setCell ⟨X, 0, none⟩ (.int .i64 3)).setCell ⟨X, 3, none⟩ (.string S) := ⟨_, rfl⟩
    have HX : Hid (It w wx P X N en σ1 ⟨{ d1 with at_ := a }, none, none, 0, 0⟩) := by
      rw [hwx, hd1, HS.out]
      exact (H5.out.put (set_kd _ 3)).put (set_ty _ (seeT en σ))
    have cN := name_es wx P en _ HX.out.es HX.out.ml
    clear hσ1 hd1
    go_upto_region 4 with fail
    rw [← hwx]
    clear hwx x0 x1 x2 x3 x4 x5 x6 x7 x8 x9 x10 x11 x12 z0 z1 z2 z3 z4 z5 z6 z7 z8 z9 z10 z11 z12 hXs H5
    go_wp2_with fail
    refine cN.mono ?_
    rintro e w5 ⟨rfl, hE, hg⟩
    have H5 : Hid (It w w5 P X N en (nmS en σ1) ⟨{ d1 with at_ := a }, none, none, 0, 0⟩) := HX.out.go hE hg
    clear hE hg cN HX
    obtain ⟨V, hV⟩ : ∃ V, V = tx (seeT en σ1) := ⟨_, rfl⟩
    rw [← hV]
    have HV : Hid (V = _) := hV
    clear hV
    have x2 : w5.cell? ⟨X, 2, none⟩ = some (.string (tx d1.nm)) := H5.out.iv.cell 2
    have z2 := H5.out.iv.fz 2
    have hXs := H5.out.iv.lt
    obtain ⟨w6, hw6⟩ : ∃ w6, w6 = w5.setCell ⟨X, 2, none⟩ (.string V) := ⟨_, rfl⟩
    have H6 : Hid (It w w6 P X N en (nmS en σ1) ⟨{ d1 with at_ := a, nm := seeT en σ1 }, none, none, 0, 0⟩) := by rw [hw6, HV.out]; exact H5.out.put (set_nm _ _)
    go_upto_region 20 with fail
    rw [← hw6]
    clear hw6 x2 z2 hXs H5
    have x0 : w6.cell? ⟨X, 0, none⟩ = some (.int .i64 3) := by
      have := H6.out.iv.cell 0
      rw [this]
      show some (Value.int .i64 ((d1.kd : Nat) : Int)) = _
      rw [HK.out.1]
      rfl
    have hXs := H6.out.iv.lt
    have cT := text_es w6 P en _ H6.out.es
    go_wp2_with fail
    refine cT.mono ?_
    rintro e w7 ⟨rfl, hb7⟩
    have H7 : Hid (It w w7 P X N en (nmS en σ1) ⟨{ d1 with at_ := a, nm := seeT en σ1 }, none, none, 0, 0⟩) := H6.out.bl hb7
    have htl2 := tl_tx (seeT en (nmS en σ1))
    obtain ⟨S2, hS2⟩ : ∃ S2, S2 = tx (seeT en (nmS en σ1)) := ⟨_, rfl⟩
    rw [← hS2] at htl2 ⊢
    clear hb7 cT x0 hS2 H6
    have x0 : w7.cell? ⟨X, 0, none⟩ = some (.int .i64 3) := by
      have := H7.out.iv.cell 0
      rw [this]
      show some (Value.int .i64 ((d1.kd : Nat) : Int)) = _
      rw [HK.out.1]
      rfl
    have hXs := H7.out.iv.lt
    by_cases hB : seeT en (nmS en σ1) = [91]
    · have hq2 : (S2.toList == [91]) = true := by rw [htl2, hB]; rfl
      have HB : Hid (seeT en (nmS en σ1) = [91]) := hB
      have cB := bracket_es w7 P en _ H7.out.es
      clear htl2 hB
      go_wp2_with fail
      refine cB.mono ?_
      rintro e w8 ⟨⟨o, rfl, ho⟩, hE, hg⟩
      have H8 : Hid (It w w8 P X N en (brS en (nmS en σ1)) ⟨{ d1 with at_ := a, nm := seeT en σ1 }, none, none, 0, 0⟩ ∧ Po w8 o (Xq en (nmS en σ1))) := ⟨H7.out.go hE hg, fun x ⟨vs, r, h1, h2⟩ => ho vs x r h1 h2⟩
      clear x0 hXs H7 cB hE hg ho
      obtain ⟨x0, x1, x2, x3, x4, x5, x6, x7, x8, x9, x10, x11, x12⟩ := H8.out.1.iv.facts
      obtain ⟨z0, z1, z2, z3, z4, z5, z6, z7, z8, z9, z10, z11, z12⟩ := H8.out.1.iv.fzs
      have hXs := H8.out.1.iv.lt
      obtain ⟨wy, hwy⟩ : ∃ wy, wy = (w8.setCell ⟨X, 7, none⟩ (.bool true)).setCell ⟨X, 8, none⟩ (.pointer o) := ⟨_, rfl⟩
      have HY : Hid (It w wy P X N en (brS en (nmS en σ1)) ⟨{ d1 with at_ := a, nm := seeT en σ1, mn := true }, o, none, 0, 0⟩ ∧ Po wy o (Xq en (nmS en σ1))) := by
        have j1 := H8.out.1.put (set_mn _ true)
        rw [hwy]
        exact ⟨j1.put (set_px _ o), (H8.out.2.keep H8.out.1.kput).keep j1.kput⟩
      have cM := must_es wy P en _ [59] (by simp) HY.out.1.es
      clear H8
      go_upto_region 37 with fail
      rw [← hwy]
      clear hwy x0 x1 x2 x3 x4 x5 x6 x7 x8 x9 x10 x11 x12 z0 z1 z2 z3 z4 z5 z6 z7 z8 z9 z10 z11 z12 hXs
      go_wp2_with fail
      refine cM.mono ?_
      rintro e wm ⟨rfl, hE, hg⟩
      obtain ⟨cz, hcz⟩ : ∃ cz : C, cz = ⟨{ d1 with at_ := a, nm := seeT en σ1, mn := true }, o, none, 0, 0⟩ := ⟨_, rfl⟩
      have HZ : Hid (It w wm P X N en (mu en [59] (brS en (nmS en σ1))) cz ∧ cz = ⟨{ d1 with at_ := a, nm := seeT en σ1, mn := true }, o, none, 0, 0⟩ ∧ Po wm o (Xq en (nmS en σ1))) := by
        rw [hcz]
        exact ⟨HY.out.1.go hE hg, rfl, HY.out.2.keep (HY.out.1.es.kx hg)⟩
      clear hE hg cM hcz
      obtain ⟨q0, q1, q2, q3, q4, q5, q6, q7, q8, q9, q10, q11, q12⟩ := HZ.out.1.n.facts
      obtain ⟨z0, z1, z2, z3, z4, z5, z6, z7, z8, z9, z10, z11, z12⟩ := HZ.out.1.n.fzs
      obtain ⟨x0, x1, x2, x3, x4, x5, x6, x7, x8, x9, x10, x11, x12⟩ := HZ.out.1.iv.facts
      have hNy := HZ.out.1.n.lt
      have hXy := HZ.out.1.iv.lt
      go_wp2
      have hst := HZ.out.1.fin.2.2.1
      exact bodyPost_ret (v := itV cz) (results_cell_row rfl _ _ N 60 (cl cz).toArray (0, 0) _ rfl hst.h Tryz.underlying60 rfl infoI) rfl (ItA.any (fun e he => by rw [HF.out.1 e he]; rfl) HZ.out.1 (fun ts hts => ItA.pbr hts (HF.out.2 ts hts).1 (HF.out.2 ts hts).2.1 (HF.out.2 ts hts).2.2.1 (HF.out.2 ts hts).2.2.2 HB.out HZ.out.1 HZ.out.2.1 HZ.out.2.2))
    · have hq2 : (S2.toList == [91]) = false := by rw [htl2, beq_eq_false_iff_ne]; exact hB
      have HB : Hid (seeT en (nmS en σ1) ≠ [91]) := hB
      clear htl2 hB
      have cM := must_es w7 P en _ [59] (by simp) H7.out.es
      go_wp2_with fail
      refine cM.mono ?_
      rintro e wm ⟨rfl, hE, hg⟩
      obtain ⟨cz, hcz⟩ : ∃ cz : C, cz = ⟨{ d1 with at_ := a, nm := seeT en σ1 }, none, none, 0, 0⟩ := ⟨_, rfl⟩
      have HZ : Hid (It w wm P X N en (mu en [59] (nmS en σ1)) cz ∧ cz = ⟨{ d1 with at_ := a, nm := seeT en σ1 }, none, none, 0, 0⟩) := by
        rw [hcz]
        exact ⟨H7.out.go hE hg, rfl⟩
      clear hE hg cM hcz
      clear x0 hXs
      obtain ⟨q0, q1, q2, q3, q4, q5, q6, q7, q8, q9, q10, q11, q12⟩ := HZ.out.1.n.facts
      obtain ⟨z0, z1, z2, z3, z4, z5, z6, z7, z8, z9, z10, z11, z12⟩ := HZ.out.1.n.fzs
      obtain ⟨x0, x1, x2, x3, x4, x5, x6, x7, x8, x9, x10, x11, x12⟩ := HZ.out.1.iv.facts
      have hNy := HZ.out.1.n.lt
      have hXy := HZ.out.1.iv.lt
      go_wp2
      have hst := HZ.out.1.fin.2.2.1
      exact bodyPost_ret (v := itV cz) (results_cell_row rfl _ _ N 60 (cl cz).toArray (0, 0) _ rfl hst.h Tryz.underlying60 rfl infoI) rfl (ItA.any (fun e he => by rw [HF.out.1 e he]; rfl) HZ.out.1 (fun ts hts => ItA.pno hts (HF.out.2 ts hts).1 (HF.out.2 ts hts).2.1 (HF.out.2 ts hts).2.2.1 (part_no (HF.out.2 ts hts).2.2.2 HB.out (Or.inl (by rw [HK.out.1]; decide))) HK.out.2 HZ.out.1 HZ.out.2))
  | true =>
    rw [hn] at cI
    obtain ⟨nw, no, ns, c0, c1, cr, n1, n2, n3, n4, n5, n6⟩ := num_bytes hn
    obtain ⟨t, us, hσ, ht⟩ := see_ok (m := c0 :: c1 :: cr) (by simp) n2
    have hps : ps en σ = .ok us := by rw [hσ]; rfl
    rw [hps] at cQ
    obtain ⟨d1, hd1⟩ : ∃ d1 : D, d1 = { D0 with kd := 1, wd := nw, od := no, sg := ns } := ⟨_, rfl⟩
    obtain ⟨σ1, hσ1⟩ : ∃ σ1 : Sg, σ1 = .ok us := ⟨_, rfl⟩
    rw [← hσ1] at cQ
    have HK : Hid (d1.kd = 1 ∧ d1.ct = none ∧ d1.ru = 0) := by rw [hd1]; exact ⟨rfl, rfl, rfl⟩
    have HF : Hid ((∀ e, σ = .error e → σ1 = .error e) ∧ ∀ ts, σ = .ok ts → (hd en ts).t ≠ wWhen ∧ (hd en ts).t ≠ wBytes ∧ a = (hd en ts).a ∧ Rl (kind en ts) σ1 d1) := by
      refine ⟨fun e he => (by rw [hσ] at he; cases he), fun ts hts => ?_⟩
      have n1 : numOf (seeT en σ) = some (nw, no, ns) := n1
      rw [hts] at hW hY n1
      refine ⟨hW, hY, HA.out.1 ts hts, ?_⟩
      rw [hσ] at hts
      injection hts with hts
      subst hts
      rw [hσ1, hd1]
      exact kind_num n1
    have HS2 : Hid (S.toList = c0 :: c1 :: cr) := by show S.toList = _; rw [htl]; exact n2
    have HD : Hid (d1 = { D0 with kd := 1, wd := nw, od := no, sg := ns } ∧ (if Lib.hasSuffix (c0 :: c1 :: cr) [98, 101] then 1 else 0) = no ∧ L S = c0 :: c1 :: cr) := ⟨hd1, by rw [n2] at n6; exact n6, by rw [HS.out, L_tx]; exact n2⟩
    have hSz : 2 ≤ S.size := by rw [hSl, n2]; simp
    have hSz5 : S.size ≤ 5 := by rw [hSl]; exact n3
    clear htl hW hY hSl hTl hn hS n1 n2 n3 n6 hσ ht hps hd1 hσ1 x0 x1 x2 x3 x4 x5 x6 x7 x8 x9 x10 x11 x12 z0 z1 z2 z3 z4 z5 z6 z7 z8 z9 z10 z11 z12
    go_wp2_with fail
    refine (cI).mono ?_
    rintro e w5 ⟨rfl, hw5⟩
    obtain rfl := hw5.symm
    go_wp2_with fail
    refine cQ.mono ?_
    rintro e w5 ⟨rfl, hE, hg⟩
    have H5 : Hid (It w w5 P X N en σ1 ⟨{ D0 with at_ := a }, none, none, 0, 0⟩) := H4.out.go hE hg
    clear hE hg cQ cI H4
    obtain ⟨x0, x1, x2, x3, x4, x5, x6, x7, x8, x9, x10, x11, x12⟩ := H5.out.iv.facts
    obtain ⟨z0, z1, z2, z3, z4, z5, z6, z7, z8, z9, z10, z11, z12⟩ := H5.out.iv.fzs
    have hXs := H5.out.iv.lt
    go_upto_region 16 with fail
    have hi0 : 0 < S.size := by omega
    have hi1 : 1 < S.size := by omega
    obtain ⟨e0, e1⟩ := two_bytes HS2.out hi0 hi1
    go_region
    clear e0 hi0 x0 x1 x2 x3 x4 x5 x6 x7 x8 x9 x10 x11 x12 z0 z1 z2 z3 z4 z5 z6 z7 z8 z9 z10 z11 z12 hXs
    have H6a : Hid (It w ((w5.setCell ⟨X, 0, none⟩ (.int .i64 1)).setCell ⟨X, 6, none⟩ (.bool ns)).drew P X N en σ1 ⟨{ D0 with at_ := a, kd := 1, sg := ns }, none, none, 0, 0⟩) := ((H5.out.put (set_kd _ 1)).put (set_sg _ ns)).bl ((Bl.refl _).drew)
    generalize ((w5.setCell ⟨X, 0, none⟩ (.int .i64 1)).setCell ⟨X, 6, none⟩ (.bool ns)).drew = v6 at *
    obtain ⟨v7, v8, v9, v10, r1, r2, r3, r4, hb10, hlk⟩ := fourB v6 c1 nw n5
    have H10 : Hid (It w v10 P X N en σ1 ⟨{ D0 with at_ := a, kd := 1, sg := ns }, none, none, 0, 0⟩) := H6a.out.bl hb10
    unfold kvb at r1 r2 r3 r4
    have x4 : v10.cell? ⟨X, 4, none⟩ = some (.int .i64 0) := H10.out.iv.cell 4
    have z4 := H10.out.iv.fz 4
    have hXs := H10.out.iv.lt
    clear hb10 H5 n5 n4
    obtain ⟨v11, hv11⟩ : ∃ v11, v11 = v10.setCell ⟨X, 4, none⟩ (.int .i64 (nw : Int)) := ⟨_, rfl⟩
    have H11 : Hid (It w v11 P X N en σ1 ⟨{ D0 with at_ := a, kd := 1, sg := ns, wd := nw }, none, none, 0, 0⟩) := by rw [hv11]; exact H10.out.put (set_wd _ nw)
    go_upto_region 18 with fail
    rw [← hv11]
    clear hv11 r1 r2 r3 r4 hlk x4 z4 hXs H10 H6a e1 hi1
    have x5 : v11.cell? ⟨X, 5, none⟩ = some (.int .i64 0) := H11.out.iv.cell 5
    have z5 := H11.out.iv.fz 5
    have hXs := H11.out.iv.lt
    have cH := suf_at S v11 hSz5
    rw [HD.out.2.2] at cH
    have cO := oneb_at _ no v11 HD.out.2.1
    generalize Lib.hasSuffix (c0 :: c1 :: cr) [98, 101] = bh at cH cO
    go_wp2_with fail
    refine cH.mono ?_
    rintro e w5 ⟨rfl, hw5⟩
    obtain rfl := hw5.symm
    go_wp2_with fail
    refine cO.mono ?_
    rintro e w5 ⟨rfl, hw5⟩
    obtain rfl := hw5.symm
    obtain ⟨wx, hwx⟩ : ∃ wx, wx = v11.setCell ⟨X, 5, none⟩ (.int .i64 (no : Int)) := ⟨_, rfl⟩
    have HX : Hid (It w wx P X N en σ1 ⟨{ d1 with at_ := a }, none, none, 0, 0⟩) := by
      rw [hwx, HD.out.1]
      exact H11.out.put (set_od _ no)
    have cN := name_es wx P en _ HX.out.es HX.out.ml
    go_upto_region 19 with fail
    rw [← hwx]
    clear hwx x5 z5 hXs H11 cH cO
    go_wp2_with fail
    refine cN.mono ?_
    rintro e w5 ⟨rfl, hE, hg⟩
    have H5 : Hid (It w w5 P X N en (nmS en σ1) ⟨{ d1 with at_ := a }, none, none, 0, 0⟩) := HX.out.go hE hg
    clear hE hg cN HX
    obtain ⟨V, hV⟩ : ∃ V, V = tx (seeT en σ1) := ⟨_, rfl⟩
    rw [← hV]
    have HV : Hid (V = _) := hV
    clear hV
    have x2 : w5.cell? ⟨X, 2, none⟩ = some (.string (tx d1.nm)) := H5.out.iv.cell 2
    have z2 := H5.out.iv.fz 2
    have hXs := H5.out.iv.lt
    obtain ⟨w6, hw6⟩ : ∃ w6, w6 = w5.setCell ⟨X, 2, none⟩ (.string V) := ⟨_, rfl⟩
    have H6 : Hid (It w w6 P X N en (nmS en σ1) ⟨{ d1 with at_ := a, nm := seeT en σ1 }, none, none, 0, 0⟩) := by rw [hw6, HV.out]; exact H5.out.put (set_nm _ _)
    go_upto_region 20 with fail
    rw [← hw6]
    clear hw6 x2 z2 hXs H5
    have x0 : w6.cell? ⟨X, 0, none⟩ = some (.int .i64 1) := by
      have := H6.out.iv.cell 0
      rw [this]
      show some (Value.int .i64 ((d1.kd : Nat) : Int)) = _
      rw [HK.out.1]
      rfl
    have hXs := H6.out.iv.lt
    have cT := text_es w6 P en _ H6.out.es
    go_wp2_with fail
    refine cT.mono ?_
    rintro e w7 ⟨rfl, hb7⟩
    have H7 : Hid (It w w7 P X N en (nmS en σ1) ⟨{ d1 with at_ := a, nm := seeT en σ1 }, none, none, 0, 0⟩) := H6.out.bl hb7
    have htl2 := tl_tx (seeT en (nmS en σ1))
    obtain ⟨S2, hS2⟩ : ∃ S2, S2 = tx (seeT en (nmS en σ1)) := ⟨_, rfl⟩
    rw [← hS2] at htl2 ⊢
    clear hb7 cT x0 hS2 H6
    have x0 : w7.cell? ⟨X, 0, none⟩ = some (.int .i64 1) := by
      have := H7.out.iv.cell 0
      rw [this]
      show some (Value.int .i64 ((d1.kd : Nat) : Int)) = _
      rw [HK.out.1]
      rfl
    have hXs := H7.out.iv.lt
    by_cases hB : seeT en (nmS en σ1) = [91]
    · have hq2 : (S2.toList == [91]) = true := by rw [htl2, hB]; rfl
      have HB : Hid (seeT en (nmS en σ1) = [91]) := hB
      have cB := bracket_es w7 P en _ H7.out.es
      clear htl2 hB
      go_wp2_with fail
      refine cB.mono ?_
      rintro e w8 ⟨⟨o, rfl, ho⟩, hE, hg⟩
      have H8 : Hid (It w w8 P X N en (brS en (nmS en σ1)) ⟨{ d1 with at_ := a, nm := seeT en σ1 }, none, none, 0, 0⟩ ∧ Po w8 o (Xq en (nmS en σ1))) := ⟨H7.out.go hE hg, fun x ⟨vs, r, h1, h2⟩ => ho vs x r h1 h2⟩
      clear x0 hXs H7 cB hE hg ho
      obtain ⟨x0, x1, x2, x3, x4, x5, x6, x7, x8, x9, x10, x11, x12⟩ := H8.out.1.iv.facts
      obtain ⟨z0, z1, z2, z3, z4, z5, z6, z7, z8, z9, z10, z11, z12⟩ := H8.out.1.iv.fzs
      have hXs := H8.out.1.iv.lt
      obtain ⟨wy, hwy⟩ : ∃ wy, wy = (w8.setCell ⟨X, 7, none⟩ (.bool true)).setCell ⟨X, 8, none⟩ (.pointer o) := ⟨_, rfl⟩
      have HY : Hid (It w wy P X N en (brS en (nmS en σ1)) ⟨{ d1 with at_ := a, nm := seeT en σ1, mn := true }, o, none, 0, 0⟩ ∧ Po wy o (Xq en (nmS en σ1))) := by
        have j1 := H8.out.1.put (set_mn _ true)
        rw [hwy]
        exact ⟨j1.put (set_px _ o), (H8.out.2.keep H8.out.1.kput).keep j1.kput⟩
      have cM := must_es wy P en _ [59] (by simp) HY.out.1.es
      clear H8
      go_upto_region 37 with fail
      rw [← hwy]
      clear hwy x0 x1 x2 x3 x4 x5 x6 x7 x8 x9 x10 x11 x12 z0 z1 z2 z3 z4 z5 z6 z7 z8 z9 z10 z11 z12 hXs
      go_wp2_with fail
      refine cM.mono ?_
      rintro e wm ⟨rfl, hE, hg⟩
      obtain ⟨cz, hcz⟩ : ∃ cz : C, cz = ⟨{ d1 with at_ := a, nm := seeT en σ1, mn := true }, o, none, 0, 0⟩ := ⟨_, rfl⟩
      have HZ : Hid (It w wm P X N en (mu en [59] (brS en (nmS en σ1))) cz ∧ cz = ⟨{ d1 with at_ := a, nm := seeT en σ1, mn := true }, o, none, 0, 0⟩ ∧ Po wm o (Xq en (nmS en σ1))) := by
        rw [hcz]
        exact ⟨HY.out.1.go hE hg, rfl, HY.out.2.keep (HY.out.1.es.kx hg)⟩
      clear hE hg cM hcz
      obtain ⟨q0, q1, q2, q3, q4, q5, q6, q7, q8, q9, q10, q11, q12⟩ := HZ.out.1.n.facts
      obtain ⟨z0, z1, z2, z3, z4, z5, z6, z7, z8, z9, z10, z11, z12⟩ := HZ.out.1.n.fzs
      obtain ⟨x0, x1, x2, x3, x4, x5, x6, x7, x8, x9, x10, x11, x12⟩ := HZ.out.1.iv.facts
      have hNy := HZ.out.1.n.lt
      have hXy := HZ.out.1.iv.lt
      go_wp2
      have hst := HZ.out.1.fin.2.2.1
      exact bodyPost_ret (v := itV cz) (results_cell_row rfl _ _ N 60 (cl cz).toArray (0, 0) _ rfl hst.h Tryz.underlying60 rfl infoI) rfl (ItA.any (fun e he => by rw [HF.out.1 e he]; rfl) HZ.out.1 (fun ts hts => ItA.pbr hts (HF.out.2 ts hts).1 (HF.out.2 ts hts).2.1 (HF.out.2 ts hts).2.2.1 (HF.out.2 ts hts).2.2.2 HB.out HZ.out.1 HZ.out.2.1 HZ.out.2.2))
    · have hq2 : (S2.toList == [91]) = false := by rw [htl2, beq_eq_false_iff_ne]; exact hB
      have HB : Hid (seeT en (nmS en σ1) ≠ [91]) := hB
      have cK := take_es w7 P en _ [61] (by simp) H7.out.es
      clear htl2 hB
      by_cases hE1 : seeT en (nmS en σ1) = [61]
      · rw [decide_eq_true hE1, show tk en [61] (nmS en σ1) = ps en (nmS en σ1) from if_pos hE1] at cK
        have HE1 : Hid (seeT en (nmS en σ1) = [61]) := hE1
        clear hE1
        go_wp2_with fail
        refine cK.mono ?_
        rintro e w8 ⟨rfl, hE, hg⟩
        have H8 : Hid (It w w8 P X N en (ps en (nmS en σ1)) ⟨{ d1 with at_ := a, nm := seeT en σ1 }, none, none, 0, 0⟩) := H7.out.go hE hg
        clear hE hg cK x0 hXs H7 hq2
        have cA := place_es w8 P en _ H8.out.es
        go_wp2_with fail
        refine cA.mono ?_
        rintro e w9 ⟨⟨a2, rfl, ha2⟩, hw9⟩
        obtain rfl := hw9.symm
        have HA2 : Hid (∀ us, ps en (nmS en σ1) = .ok us → a2 = (hd en us).a) := ha2
        clear ha2 cA
        have cW := pass_es w8 P en _ H8.out.es
        have hWl : (seeT en (ps en (nmS en σ1))).length ≤ 3000 := H8.out.es.tok
        go_wp2_with fail
        refine cW.mono ?_
        rintro e w10 ⟨rfl, hE, hg⟩
        have H10 : Hid (It w w10 P X N en (ps en (ps en (nmS en σ1))) ⟨{ d1 with at_ := a, nm := seeT en σ1 }, none, none, 0, 0⟩) := H8.out.go hE hg
        clear hE hg cW H8
        have htl3 := tl_tx (seeT en (ps en (nmS en σ1)))
        obtain ⟨S3, hS3⟩ : ∃ S3, S3 = tx (seeT en (ps en (nmS en σ1))) := ⟨_, rfl⟩
        rw [← hS3] at htl3 ⊢
        clear hS3 hWl
        obtain ⟨W, hW0⟩ : ∃ W, seeT en (ps en (nmS en σ1)) = W := ⟨_, rfl⟩
        have HWW : Hid (seeT en (ps en (nmS en σ1)) = W) := hW0
        rw [hW0] at htl3
        clear hW0
        obtain ⟨x0, x1, x2, x3, x4, x5, x6, x7, x8, x9, x10, x11, x12⟩ := H10.out.iv.facts
        obtain ⟨z0, z1, z2, z3, z4, z5, z6, z7, z8, z9, z10, z11, z12⟩ := H10.out.iv.fzs
        have hXs := H10.out.iv.lt
        by_cases hw0 : W = [115, 105, 122, 101]
        · have hqa0 : (S3.toList == [115, 105, 122, 101]) = true := by rw [htl3, hw0]; rfl
          have HN : Hid (ruleOf W = 1) := by show ruleOf W = _; rw [hw0]; decide
          clear htl3
          obtain ⟨w11, hw11⟩ : ∃ w11, w11 = w10.setCell ⟨X, 9, none⟩ (.int .i64 1) := ⟨_, rfl⟩
          have H11 : Hid (It w w11 P X N en (ps en (ps en (nmS en σ1))) ⟨{ d1 with at_ := a, nm := seeT en σ1, ru := 1 }, none, none, 0, 0⟩) := by rw [hw11]; exact H10.out.put (set_ru _ 1)
          have cN := name_es w11 P en _ H11.out.es H11.out.ml
          go_upto_region 32 with fail
          rw [← hw11]
          clear hw11 x0 x1 x2 x3 x4 x5 x6 x7 x8 x9 x10 x11 x12 z0 z1 z2 z3 z4 z5 z6 z7 z8 z9 z10 z11 z12 hXs hqa0 hw0
          go_wp2_with fail
          refine cN.mono ?_
          rintro e w12 ⟨rfl, hE, hg⟩
          have H12 : Hid (It w w12 P X N en (nmS en (ps en (ps en (nmS en σ1)))) ⟨{ d1 with at_ := a, nm := seeT en σ1, ru := 1 }, none, none, 0, 0⟩) := H11.out.go hE hg
          clear hE hg cN H11 H10
          obtain ⟨V, hV⟩ : ∃ V, V = tx (seeT en (ps en (ps en (nmS en σ1)))) := ⟨_, rfl⟩
          rw [← hV]
          have HV : Hid (V = _) := hV
          clear hV
          obtain ⟨x0, x1, x2, x3, x4, x5, x6, x7, x8, x9, x10, x11, x12⟩ := H12.out.iv.facts
          obtain ⟨z0, z1, z2, z3, z4, z5, z6, z7, z8, z9, z10, z11, z12⟩ := H12.out.iv.fzs
          have hXs := H12.out.iv.lt
          obtain ⟨w13, hw13⟩ : ∃ w13, w13 = w12.setCell ⟨X, 10, none⟩ (.string V) := ⟨_, rfl⟩
          have H13 : Hid (It w w13 P X N en (nmS en (ps en (ps en (nmS en σ1)))) ⟨{ d1 with at_ := a, nm := seeT en σ1, ru := 1, f1 := seeT en (ps en (ps en (nmS en σ1))) }, none, none, 0, 0⟩) := by rw [hw13, HV.out]; exact H12.out.put (set_f1 _ _)
          go_upto_region 33 with fail
          rw [← hw13]
          clear hw13 x0 x1 x2 x3 x4 x5 x6 x7 x8 x9 x10 x11 x12 z0 z1 z2 z3 z4 z5 z6 z7 z8 z9 z10 z11 z12 hXs H12
          have x9 : w13.cell? ⟨X, 9, none⟩ = some (.int .i64 1) := H13.out.iv.cell 9
          have hXs := H13.out.iv.lt
          have cM := must_es w13 P en _ [59] (by simp) H13.out.es
          go_wp2_with fail
          refine cM.mono ?_
          rintro e wm ⟨rfl, hE, hg⟩
          obtain ⟨cz, hcz⟩ : ∃ cz : C, cz = ⟨{ d1 with at_ := a, nm := seeT en σ1, ru := 1, f1 := seeT en (ps en (ps en (nmS en σ1))) }, none, none, 0, 0⟩ := ⟨_, rfl⟩
          have HZ : Hid (It w wm P X N en (mu en [59] (nmS en (ps en (ps en (nmS en σ1))))) cz ∧ cz = ⟨{ d1 with at_ := a, nm := seeT en σ1, ru := 1, f1 := seeT en (ps en (ps en (nmS en σ1))) }, none, none, 0, 0⟩) := by
            rw [hcz]
            exact ⟨H13.out.go hE hg, rfl⟩
          clear hE hg cM hcz
          clear x9 hXs
          obtain ⟨q0, q1, q2, q3, q4, q5, q6, q7, q8, q9, q10, q11, q12⟩ := HZ.out.1.n.facts
          obtain ⟨z0, z1, z2, z3, z4, z5, z6, z7, z8, z9, z10, z11, z12⟩ := HZ.out.1.n.fzs
          obtain ⟨x0, x1, x2, x3, x4, x5, x6, x7, x8, x9, x10, x11, x12⟩ := HZ.out.1.iv.facts
          have hNy := HZ.out.1.n.lt
          have hXy := HZ.out.1.iv.lt
          go_wp2
          have hst := HZ.out.1.fin.2.2.1
          exact bodyPost_ret (v := itV cz) (results_cell_row rfl _ _ N 60 (cl cz).toArray (0, 0) _ rfl hst.h Tryz.underlying60 rfl infoI) rfl (ItA.any (fun e he => by rw [HF.out.1 e he]; rfl) HZ.out.1 (fun ts hts => ItA.pno (d := { d1 with nm := seeT en σ1, ru := 1, f1 := seeT en (ps en (ps en (nmS en σ1))) }) hts (HF.out.2 ts hts).1 (HF.out.2 ts hts).2.1 (HF.out.2 ts hts).2.2.1 (ru_plain (HF.out.2 ts hts).2.2.2 HK.out.1 HE1.out a2 HA2.out (by rw [HWW.out]; exact HN.out) (by decide) (by decide)) HK.out.2.1 HZ.out.1 HZ.out.2))
        · have hqa0 : (S3.toList == [115, 105, 122, 101]) = false := by rw [htl3, beq_eq_false_iff_ne]; exact hw0
          by_cases hw1 : W = [99, 111, 117, 110, 116]
          · have hqa1 : (S3.toList == [99, 111, 117, 110, 116]) = true := by rw [htl3, hw1]; rfl
            have HN : Hid (ruleOf W = 2) := by show ruleOf W = _; rw [hw1]; decide
            clear htl3
            obtain ⟨w11, hw11⟩ : ∃ w11, w11 = w10.setCell ⟨X, 9, none⟩ (.int .i64 2) := ⟨_, rfl⟩
            have H11 : Hid (It w w11 P X N en (ps en (ps en (nmS en σ1))) ⟨{ d1 with at_ := a, nm := seeT en σ1, ru := 2 }, none, none, 0, 0⟩) := by rw [hw11]; exact H10.out.put (set_ru _ 2)
            have cN := name_es w11 P en _ H11.out.es H11.out.ml
            go_upto_region 32 with fail
            rw [← hw11]
            clear hw11 x0 x1 x2 x3 x4 x5 x6 x7 x8 x9 x10 x11 x12 z0 z1 z2 z3 z4 z5 z6 z7 z8 z9 z10 z11 z12 hXs hqa0 hqa1 hw0 hw1
            go_wp2_with fail
            refine cN.mono ?_
            rintro e w12 ⟨rfl, hE, hg⟩
            have H12 : Hid (It w w12 P X N en (nmS en (ps en (ps en (nmS en σ1)))) ⟨{ d1 with at_ := a, nm := seeT en σ1, ru := 2 }, none, none, 0, 0⟩) := H11.out.go hE hg
            clear hE hg cN H11 H10
            obtain ⟨V, hV⟩ : ∃ V, V = tx (seeT en (ps en (ps en (nmS en σ1)))) := ⟨_, rfl⟩
            rw [← hV]
            have HV : Hid (V = _) := hV
            clear hV
            obtain ⟨x0, x1, x2, x3, x4, x5, x6, x7, x8, x9, x10, x11, x12⟩ := H12.out.iv.facts
            obtain ⟨z0, z1, z2, z3, z4, z5, z6, z7, z8, z9, z10, z11, z12⟩ := H12.out.iv.fzs
            have hXs := H12.out.iv.lt
            obtain ⟨w13, hw13⟩ : ∃ w13, w13 = w12.setCell ⟨X, 10, none⟩ (.string V) := ⟨_, rfl⟩
            have H13 : Hid (It w w13 P X N en (nmS en (ps en (ps en (nmS en σ1)))) ⟨{ d1 with at_ := a, nm := seeT en σ1, ru := 2, f1 := seeT en (ps en (ps en (nmS en σ1))) }, none, none, 0, 0⟩) := by rw [hw13, HV.out]; exact H12.out.put (set_f1 _ _)
            go_upto_region 33 with fail
            rw [← hw13]
            clear hw13 x0 x1 x2 x3 x4 x5 x6 x7 x8 x9 x10 x11 x12 z0 z1 z2 z3 z4 z5 z6 z7 z8 z9 z10 z11 z12 hXs H12
            have x9 : w13.cell? ⟨X, 9, none⟩ = some (.int .i64 2) := H13.out.iv.cell 9
            have hXs := H13.out.iv.lt
            have cM := must_es w13 P en _ [59] (by simp) H13.out.es
            go_wp2_with fail
            refine cM.mono ?_
            rintro e wm ⟨rfl, hE, hg⟩
            obtain ⟨cz, hcz⟩ : ∃ cz : C, cz = ⟨{ d1 with at_ := a, nm := seeT en σ1, ru := 2, f1 := seeT en (ps en (ps en (nmS en σ1))) }, none, none, 0, 0⟩ := ⟨_, rfl⟩
            have HZ : Hid (It w wm P X N en (mu en [59] (nmS en (ps en (ps en (nmS en σ1))))) cz ∧ cz = ⟨{ d1 with at_ := a, nm := seeT en σ1, ru := 2, f1 := seeT en (ps en (ps en (nmS en σ1))) }, none, none, 0, 0⟩) := by
              rw [hcz]
              exact ⟨H13.out.go hE hg, rfl⟩
            clear hE hg cM hcz
            clear x9 hXs
            obtain ⟨q0, q1, q2, q3, q4, q5, q6, q7, q8, q9, q10, q11, q12⟩ := HZ.out.1.n.facts
            obtain ⟨z0, z1, z2, z3, z4, z5, z6, z7, z8, z9, z10, z11, z12⟩ := HZ.out.1.n.fzs
            obtain ⟨x0, x1, x2, x3, x4, x5, x6, x7, x8, x9, x10, x11, x12⟩ := HZ.out.1.iv.facts
            have hNy := HZ.out.1.n.lt
            have hXy := HZ.out.1.iv.lt
            go_wp2
            have hst := HZ.out.1.fin.2.2.1
            exact bodyPost_ret (v := itV cz) (results_cell_row rfl _ _ N 60 (cl cz).toArray (0, 0) _ rfl hst.h Tryz.underlying60 rfl infoI) rfl (ItA.any (fun e he => by rw [HF.out.1 e he]; rfl) HZ.out.1 (fun ts hts => ItA.pno (d := { d1 with nm := seeT en σ1, ru := 2, f1 := seeT en (ps en (ps en (nmS en σ1))) }) hts (HF.out.2 ts hts).1 (HF.out.2 ts hts).2.1 (HF.out.2 ts hts).2.2.1 (ru_plain (HF.out.2 ts hts).2.2.2 HK.out.1 HE1.out a2 HA2.out (by rw [HWW.out]; exact HN.out) (by decide) (by decide)) HK.out.2.1 HZ.out.1 HZ.out.2))
          · have hqa1 : (S3.toList == [99, 111, 117, 110, 116]) = false := by rw [htl3, beq_eq_false_iff_ne]; exact hw1
            by_cases hw2 : W = [99, 104, 101, 99, 107]
            · have hqa2 : (S3.toList == [99, 104, 101, 99, 107]) = true := by rw [htl3, hw2]; rfl
              have HN : Hid (ruleOf W = 3) := by show ruleOf W = _; rw [hw2]; decide
              clear htl3
              obtain ⟨w11, hw11⟩ : ∃ w11, w11 = w10.setCell ⟨X, 9, none⟩ (.int .i64 3) := ⟨_, rfl⟩
              have H11 : Hid (It w w11 P X N en (ps en (ps en (nmS en σ1))) ⟨{ d1 with at_ := a, nm := seeT en σ1, ru := 3 }, none, none, 0, 0⟩) := by rw [hw11]; exact H10.out.put (set_ru _ 3)
              have cN := name_es w11 P en _ H11.out.es H11.out.ml
              go_upto_region 32 with fail
              rw [← hw11]
              clear hw11 x0 x1 x2 x3 x4 x5 x6 x7 x8 x9 x10 x11 x12 z0 z1 z2 z3 z4 z5 z6 z7 z8 z9 z10 z11 z12 hXs hqa0 hqa1 hqa2 hw0 hw1 hw2
              go_wp2_with fail
              refine cN.mono ?_
              rintro e w12 ⟨rfl, hE, hg⟩
              have H12 : Hid (It w w12 P X N en (nmS en (ps en (ps en (nmS en σ1)))) ⟨{ d1 with at_ := a, nm := seeT en σ1, ru := 3 }, none, none, 0, 0⟩) := H11.out.go hE hg
              clear hE hg cN H11 H10
              obtain ⟨V, hV⟩ : ∃ V, V = tx (seeT en (ps en (ps en (nmS en σ1)))) := ⟨_, rfl⟩
              rw [← hV]
              have HV : Hid (V = _) := hV
              clear hV
              obtain ⟨x0, x1, x2, x3, x4, x5, x6, x7, x8, x9, x10, x11, x12⟩ := H12.out.iv.facts
              obtain ⟨z0, z1, z2, z3, z4, z5, z6, z7, z8, z9, z10, z11, z12⟩ := H12.out.iv.fzs
              have hXs := H12.out.iv.lt
              obtain ⟨w13, hw13⟩ : ∃ w13, w13 = w12.setCell ⟨X, 10, none⟩ (.string V) := ⟨_, rfl⟩
              have H13 : Hid (It w w13 P X N en (nmS en (ps en (ps en (nmS en σ1)))) ⟨{ d1 with at_ := a, nm := seeT en σ1, ru := 3, f1 := seeT en (ps en (ps en (nmS en σ1))) }, none, none, 0, 0⟩) := by rw [hw13, HV.out]; exact H12.out.put (set_f1 _ _)
              go_upto_region 33 with fail
              rw [← hw13]
              clear hw13 x0 x1 x2 x3 x4 x5 x6 x7 x8 x9 x10 x11 x12 z0 z1 z2 z3 z4 z5 z6 z7 z8 z9 z10 z11 z12 hXs H12
              have x9 : w13.cell? ⟨X, 9, none⟩ = some (.int .i64 3) := H13.out.iv.cell 9
              have hXs := H13.out.iv.lt
              have x10 : w13.cell? ⟨X, 10, none⟩ = some (.string V) := by rw [HV.out]; exact H13.out.iv.cell 10
              have x11 : w13.cell? ⟨X, 11, none⟩ = some (.string (tx d1.l1)) := H13.out.iv.cell 11
              have z11 := H13.out.iv.fz 11
              obtain ⟨w14, hw14⟩ : ∃ w14, w14 = w13.setCell ⟨X, 11, none⟩ (.string V) := ⟨_, rfl⟩
              have H14 : Hid (It w w14 P X N en (nmS en (ps en (ps en (nmS en σ1)))) ⟨{ d1 with at_ := a, nm := seeT en σ1, ru := 3, f1 := seeT en (ps en (ps en (nmS en σ1))), l1 := seeT en (ps en (ps en (nmS en σ1))) }, none, none, 0, 0⟩) := by rw [hw14, HV.out]; exact H13.out.put (set_l1 _ _)
              have cT := text_es w14 P en _ H14.out.es
              go_upto_region 35 with fail
              rw [← hw14]
              clear hw14 x9 x10 x11 z11 hXs H13
              go_wp2_with fail
              refine cT.mono ?_
              rintro e w15 ⟨rfl, hb15⟩
              have H15 : Hid (It w w15 P X N en (nmS en (ps en (ps en (nmS en σ1)))) ⟨{ d1 with at_ := a, nm := seeT en σ1, ru := 3, f1 := seeT en (ps en (ps en (nmS en σ1))), l1 := seeT en (ps en (ps en (nmS en σ1))) }, none, none, 0, 0⟩) := H14.out.bl hb15
              clear hb15 cT H14
              have htl4 := tl_tx (seeT en (nmS en (ps en (ps en (nmS en σ1)))))
              obtain ⟨S4, hS4⟩ : ∃ S4, S4 = tx (seeT en (nmS en (ps en (ps en (nmS en σ1))))) := ⟨_, rfl⟩
              rw [← hS4] at htl4 ⊢
              clear hS4
              by_cases hsc : seeT en (nmS en (ps en (ps en (nmS en σ1)))) = [59]
              · have hq4 : (S4.toList == [59]) = true := by rw [htl4, hsc]; rfl
                have HSC : Hid (seeT en (nmS en (ps en (ps en (nmS en σ1)))) = [59]) := hsc
                clear htl4 hsc
                have cM := must_es w15 P en _ [59] (by simp) H15.out.es
                go_wp2_with fail
                refine cM.mono ?_
                rintro e wm ⟨rfl, hE, hg⟩
                obtain ⟨cz, hcz⟩ : ∃ cz : C, cz = ⟨{ d1 with at_ := a, nm := seeT en σ1, ru := 3, f1 := seeT en (ps en (ps en (nmS en σ1))), l1 := seeT en (ps en (ps en (nmS en σ1))) }, none, none, 0, 0⟩ := ⟨_, rfl⟩
                have HZ : Hid (It w wm P X N en (mu en [59] (nmS en (ps en (ps en (nmS en σ1))))) cz ∧ cz = ⟨{ d1 with at_ := a, nm := seeT en σ1, ru := 3, f1 := seeT en (ps en (ps en (nmS en σ1))), l1 := seeT en (ps en (ps en (nmS en σ1))) }, none, none, 0, 0⟩) := by
                  rw [hcz]
                  exact ⟨H15.out.go hE hg, rfl⟩
                clear hE hg cM hcz
                obtain ⟨q0, q1, q2, q3, q4, q5, q6, q7, q8, q9, q10, q11, q12⟩ := HZ.out.1.n.facts
                obtain ⟨z0, z1, z2, z3, z4, z5, z6, z7, z8, z9, z10, z11, z12⟩ := HZ.out.1.n.fzs
                obtain ⟨x0, x1, x2, x3, x4, x5, x6, x7, x8, x9, x10, x11, x12⟩ := HZ.out.1.iv.facts
                have hNy := HZ.out.1.n.lt
                have hXy := HZ.out.1.iv.lt
                go_wp2
                have hst := HZ.out.1.fin.2.2.1
                exact bodyPost_ret (v := itV cz) (results_cell_row rfl _ _ N 60 (cl cz).toArray (0, 0) _ rfl hst.h Tryz.underlying60 rfl infoI) rfl (ItA.any (fun e he => by rw [HF.out.1 e he]; rfl) HZ.out.1 (fun ts hts => ItA.pno (d := { d1 with nm := seeT en σ1, ru := 3, f1 := seeT en (ps en (ps en (nmS en σ1))), l1 := seeT en (ps en (ps en (nmS en σ1))) }) hts (HF.out.2 ts hts).1 (HF.out.2 ts hts).2.1 (HF.out.2 ts hts).2.2.1 (ru_one (HF.out.2 ts hts).2.2.2 HK.out.1 HE1.out a2 HA2.out (by rw [HWW.out]; exact HN.out) HSC.out) HK.out.2.1 HZ.out.1 HZ.out.2))
              · have hq4 : (S4.toList == [59]) = false := by rw [htl4, beq_eq_false_iff_ne]; exact hsc
                have HSC : Hid (seeT en (nmS en (ps en (ps en (nmS en σ1)))) ≠ [59]) := hsc
                clear htl4 hsc
                have cN := name_es w15 P en _ H15.out.es H15.out.ml
                go_wp2_with fail
                refine cN.mono ?_
                rintro e w16 ⟨rfl, hE, hg⟩
                have H16 : Hid (It w w16 P X N en (nmS en (nmS en (ps en (ps en (nmS en σ1))))) ⟨{ d1 with at_ := a, nm := seeT en σ1, ru := 3, f1 := seeT en (ps en (ps en (nmS en σ1))), l1 := seeT en (ps en (ps en (nmS en σ1))) }, none, none, 0, 0⟩) := H15.out.go hE hg
                clear hE hg cN H15
                obtain ⟨V2, hV2⟩ : ∃ V2, V2 = tx (seeT en (nmS en (ps en (ps en (nmS en σ1))))) := ⟨_, rfl⟩
                rw [← hV2]
                have HV2 : Hid (V2 = _) := hV2
                clear hV2
                obtain ⟨x0, x1, x2, x3, x4, x5, x6, x7, x8, x9, x10, x11, x12⟩ := H16.out.iv.facts
                obtain ⟨z0, z1, z2, z3, z4, z5, z6, z7, z8, z9, z10, z11, z12⟩ := H16.out.iv.fzs
                have hXs := H16.out.iv.lt
                obtain ⟨w17, hw17⟩ : ∃ w17, w17 = w16.setCell ⟨X, 11, none⟩ (.string V2) := ⟨_, rfl⟩
                have H17 : Hid (It w w17 P X N en (nmS en (nmS en (ps en (ps en (nmS en σ1))))) ⟨{ d1 with at_ := a, nm := seeT en σ1, ru := 3, f1 := seeT en (ps en (ps en (nmS en σ1))), l1 := seeT en (nmS en (ps en (ps en (nmS en σ1)))) }, none, none, 0, 0⟩) := by rw [hw17, HV2.out]; exact H16.out.put (set_l1 _ _)
                have cM := must_es w17 P en _ [59] (by simp) H17.out.es
                go_upto_region 37 with fail
                rw [← hw17]
                clear hw17 x0 x1 x2 x3 x4 x5 x6 x7 x8 x9 x10 x11 x12 z0 z1 z2 z3 z4 z5 z6 z7 z8 z9 z10 z11 z12 hXs H16
                go_wp2_with fail
                refine cM.mono ?_
                rintro e wm ⟨rfl, hE, hg⟩
                obtain ⟨cz, hcz⟩ : ∃ cz : C, cz = ⟨{ d1 with at_ := a, nm := seeT en σ1, ru := 3, f1 := seeT en (ps en (ps en (nmS en σ1))), l1 := seeT en (nmS en (ps en (ps en (nmS en σ1)))) }, none, none, 0, 0⟩ := ⟨_, rfl⟩
                have HZ : Hid (It w wm P X N en (mu en [59] (nmS en (nmS en (ps en (ps en (nmS en σ1)))))) cz ∧ cz = ⟨{ d1 with at_ := a, nm := seeT en σ1, ru := 3, f1 := seeT en (ps en (ps en (nmS en σ1))), l1 := seeT en (nmS en (ps en (ps en (nmS en σ1)))) }, none, none, 0, 0⟩) := by
                  rw [hcz]
                  exact ⟨H17.out.go hE hg, rfl⟩
                clear hE hg cM hcz
                obtain ⟨q0, q1, q2, q3, q4, q5, q6, q7, q8, q9, q10, q11, q12⟩ := HZ.out.1.n.facts
                obtain ⟨z0, z1, z2, z3, z4, z5, z6, z7, z8, z9, z10, z11, z12⟩ := HZ.out.1.n.fzs
                obtain ⟨x0, x1, x2, x3, x4, x5, x6, x7, x8, x9, x10, x11, x12⟩ := HZ.out.1.iv.facts
                have hNy := HZ.out.1.n.lt
                have hXy := HZ.out.1.iv.lt
                go_wp2
                have hst := HZ.out.1.fin.2.2.1
                exact bodyPost_ret (v := itV cz) (results_cell_row rfl _ _ N 60 (cl cz).toArray (0, 0) _ rfl hst.h Tryz.underlying60 rfl infoI) rfl (ItA.any (fun e he => by rw [HF.out.1 e he]; rfl) HZ.out.1 (fun ts hts => ItA.pno (d := { d1 with nm := seeT en σ1, ru := 3, f1 := seeT en (ps en (ps en (nmS en σ1))), l1 := seeT en (nmS en (ps en (ps en (nmS en σ1)))) }) hts (HF.out.2 ts hts).1 (HF.out.2 ts hts).2.1 (HF.out.2 ts hts).2.2.1 (ru_two (HF.out.2 ts hts).2.2.2 HK.out.1 HE1.out a2 HA2.out (by rw [HWW.out]; exact HN.out) HSC.out) HK.out.2.1 HZ.out.1 HZ.out.2))
            · have hqa2 : (S3.toList == [99, 104, 101, 99, 107]) = false := by rw [htl3, beq_eq_false_iff_ne]; exact hw2
              have HN : Hid (ruleOf W = 0) := by show ruleOf W = _; unfold ruleOf; rw [if_neg (show ¬ W = wSize from hw0), if_neg (show ¬ W = wCount from hw1), if_neg (show ¬ W = wCheck from hw2)]
              have cR := wrong_es w10 P en _ 3 a2 (by decide) H10.out.es
              clear htl3 hw0 hw1 hw2
              go_wp2_with fail
              refine cR.mono ?_
              rintro e w11 ⟨rfl, hE, hg⟩
              have H11 : Hid (It w w11 P X N en (fl 3 a2 (ps en (ps en (nmS en σ1)))) ⟨{ d1 with at_ := a, nm := seeT en σ1 }, none, none, 0, 0⟩) := H10.out.go hE hg
              clear hE hg cR x0 x1 x2 x3 x4 x5 x6 x7 x8 x9 x10 x11 x12 z0 z1 z2 z3 z4 z5 z6 z7 z8 z9 z10 z11 z12 hXs
              have cN := name_es w11 P en _ H11.out.es H11.out.ml
              go_wp2_with fail
              refine cN.mono ?_
              rintro e w12 ⟨rfl, hE, hg⟩
              have H12 : Hid (It w w12 P X N en (nmS en (fl 3 a2 (ps en (ps en (nmS en σ1))))) ⟨{ d1 with at_ := a, nm := seeT en σ1 }, none, none, 0, 0⟩) := H11.out.go hE hg
              clear hE hg cN H11 H10
              obtain ⟨V, hV⟩ : ∃ V, V = tx (seeT en (fl 3 a2 (ps en (ps en (nmS en σ1))))) := ⟨_, rfl⟩
              rw [← hV]
              have HV : Hid (V = _) := hV
              clear hV
              obtain ⟨x0, x1, x2, x3, x4, x5, x6, x7, x8, x9, x10, x11, x12⟩ := H12.out.iv.facts
              obtain ⟨z0, z1, z2, z3, z4, z5, z6, z7, z8, z9, z10, z11, z12⟩ := H12.out.iv.fzs
              have hXs := H12.out.iv.lt
              obtain ⟨w13, hw13⟩ : ∃ w13, w13 = w12.setCell ⟨X, 10, none⟩ (.string V) := ⟨_, rfl⟩
              have H13 : Hid (It w w13 P X N en (nmS en (fl 3 a2 (ps en (ps en (nmS en σ1))))) ⟨{ d1 with at_ := a, nm := seeT en σ1, f1 := seeT en (fl 3 a2 (ps en (ps en (nmS en σ1)))) }, none, none, 0, 0⟩) := by rw [hw13, HV.out]; exact H12.out.put (set_f1 _ _)
              go_upto_region 33 with fail
              rw [← hw13]
              clear hw13 x0 x1 x2 x3 x4 x5 x6 x7 x8 x9 x10 x11 x12 z0 z1 z2 z3 z4 z5 z6 z7 z8 z9 z10 z11 z12 hXs H12
              have x9 : w13.cell? ⟨X, 9, none⟩ = some (.int .i64 (d1.ru : Int)) := H13.out.iv.cell 9
              rw [HK.out.2.2] at x9
              have hXs := H13.out.iv.lt
              have cM := must_es w13 P en _ [59] (by simp) H13.out.es
              go_wp2_with fail
              refine cM.mono ?_
              rintro e wm ⟨rfl, hE, hg⟩
              obtain ⟨cz, hcz⟩ : ∃ cz : C, cz = ⟨{ d1 with at_ := a, nm := seeT en σ1, f1 := seeT en (fl 3 a2 (ps en (ps en (nmS en σ1)))) }, none, none, 0, 0⟩ := ⟨_, rfl⟩
              have HZ : Hid (It w wm P X N en (mu en [59] (nmS en (fl 3 a2 (ps en (ps en (nmS en σ1)))))) cz ∧ cz = ⟨{ d1 with at_ := a, nm := seeT en σ1, f1 := seeT en (fl 3 a2 (ps en (ps en (nmS en σ1)))) }, none, none, 0, 0⟩) := by
                rw [hcz]
                exact ⟨H13.out.go hE hg, rfl⟩
              clear hE hg cM hcz
              clear x9 hXs
              obtain ⟨q0, q1, q2, q3, q4, q5, q6, q7, q8, q9, q10, q11, q12⟩ := HZ.out.1.n.facts
              obtain ⟨z0, z1, z2, z3, z4, z5, z6, z7, z8, z9, z10, z11, z12⟩ := HZ.out.1.n.fzs
              obtain ⟨x0, x1, x2, x3, x4, x5, x6, x7, x8, x9, x10, x11, x12⟩ := HZ.out.1.iv.facts
              have hNy := HZ.out.1.n.lt
              have hXy := HZ.out.1.iv.lt
              go_wp2
              have hst := HZ.out.1.fin.2.2.1
              exact bodyPost_ret (v := itV cz) (results_cell_row rfl _ _ N 60 (cl cz).toArray (0, 0) _ rfl hst.h Tryz.underlying60 rfl infoI) rfl (ItA.any (fun e he => by rw [HF.out.1 e he]; rfl) HZ.out.1 (fun ts hts => ItA.pno (d := { d1 with nm := seeT en σ1, f1 := seeT en (fl 3 a2 (ps en (ps en (nmS en σ1)))) }) hts (HF.out.2 ts hts).1 (HF.out.2 ts hts).2.1 (HF.out.2 ts hts).2.2.1 (ru_none (HF.out.2 ts hts).2.2.2 HK.out.1 HE1.out a2 HA2.out (by rw [HWW.out]; exact HN.out)) HK.out.2.1 HZ.out.1 HZ.out.2))
      · rw [decide_eq_false hE1, show tk en [61] (nmS en σ1) = nmS en σ1 from if_neg hE1] at cK
        have HE1 : Hid (seeT en (nmS en σ1) ≠ [61]) := hE1
        clear hE1
        go_wp2_with fail
        refine cK.mono ?_
        rintro e w8 ⟨rfl, hE, hg⟩
        have H8 : Hid (It w w8 P X N en (nmS en σ1) ⟨{ d1 with at_ := a, nm := seeT en σ1 }, none, none, 0, 0⟩) := H7.out.go hE hg
        clear hE hg cK x0 hXs H7 hq2
        have cM := must_es w8 P en _ [59] (by simp) H8.out.es
        go_wp2_with fail
        refine cM.mono ?_
        rintro e wm ⟨rfl, hE, hg⟩
        obtain ⟨cz, hcz⟩ : ∃ cz : C, cz = ⟨{ d1 with at_ := a, nm := seeT en σ1 }, none, none, 0, 0⟩ := ⟨_, rfl⟩
        have HZ : Hid (It w wm P X N en (mu en [59] (nmS en σ1)) cz ∧ cz = ⟨{ d1 with at_ := a, nm := seeT en σ1 }, none, none, 0, 0⟩) := by
          rw [hcz]
          exact ⟨H8.out.go hE hg, rfl⟩
        clear hE hg cM hcz
        obtain ⟨q0, q1, q2, q3, q4, q5, q6, q7, q8, q9, q10, q11, q12⟩ := HZ.out.1.n.facts
        obtain ⟨z0, z1, z2, z3, z4, z5, z6, z7, z8, z9, z10, z11, z12⟩ := HZ.out.1.n.fzs
        obtain ⟨x0, x1, x2, x3, x4, x5, x6, x7, x8, x9, x10, x11, x12⟩ := HZ.out.1.iv.facts
        have hNy := HZ.out.1.n.lt
        have hXy := HZ.out.1.iv.lt
        go_wp2
        have hst := HZ.out.1.fin.2.2.1
        exact bodyPost_ret (v := itV cz) (results_cell_row rfl _ _ N 60 (cl cz).toArray (0, 0) _ rfl hst.h Tryz.underlying60 rfl infoI) rfl (ItA.any (fun e he => by rw [HF.out.1 e he]; rfl) HZ.out.1 (fun ts hts => ItA.pno hts (HF.out.2 ts hts).1 (HF.out.2 ts hts).2.1 (HF.out.2 ts hts).2.2.1 (part_no (HF.out.2 ts hts).2.2.2 HB.out (Or.inr HE1.out)) HK.out.2.1 HZ.out.1 HZ.out.2))
end Go.Proofs.YtococaecjecjgaaGreatDoor.tr
namespace Go.Proofs.YtococaecjecjgaaGreatDoor.tr
set_option linter.unusedVariables false
open Go.ChangeShapes Go.WideShapes Go.ChangeAt Go.RowKit Go.Shelf
open mem lx ex tm

structure Bs (w0 w : World) (P en : Nat) (σ : Sg) (base : Nat) (v : Value) (cs : List C) : Prop where
  gp : Gp P w0 w
  es : Es w P en σ
  ml : Ml w
  own : ir.Own w base v cs
  ord : 4 < P ∧ P < base ∧ w0.heap.size ≤ base ∧ base ≤ w.heap.size
theorem Bs.go {w0 w w' : World} {P en base : Nat} {σ σ' : Sg} {v : Value} {cs : List C} (h : Bs w0 w P en σ base v cs) (he : Es w' P en σ') (hg : Gp P w w') : Bs w0 w' P en σ' base v cs :=
  ⟨h.gp.trans hg, he, h.ml.gp hg h.ord.1 h.es.lt, h.own.gp hg h.ord.2.1, h.ord.1, h.ord.2.1, h.ord.2.2.1, Nat.le_trans h.ord.2.2.2 hg.size⟩
theorem Bs.bl {w0 w w' : World} {P en base : Nat} {σ : Sg} {v : Value} {cs : List C} (h : Bs w0 w P en σ base v cs) (hb : Bl w w') : Bs w0 w' P en σ base v cs := h.go (h.es.bl hb) (Gp.bl hb)
abbrev RepB (w0 w : World) (v : Value) (l : Its) (cs : List C) : Prop := Rep w (fun g => w0.heap.size ≤ g ∧ v.ownBlock ≠ some g) l cs
theorem RepB.go {w0 w w' : World} {P en base : Nat} {σ : Sg} {v : Value} {cs : List C} {l : Its} (h : Bs w0 w P en σ base v cs) (hr : RepB w0 w v l cs) (hg : Gp P w w') (hP : P < w0.heap.size) : RepB w0 w' v l cs :=
  hr.keep (fun g h1 h2 => hg.block g h2 (by omega)) hg.size (h.es.kx hg)
theorem own_kx {w6 w' : World} {base : Nat} {v : Value} {cs : List C} (h6 : ir.Own w6 base v cs) (hg : w6.grownBy w' v.ownBlock) : Kx w6 w' := fun b cs' hb => by
  rw [hg.block b (lt_of_heap hb) (fun e => by
    obtain ⟨cap, hv⟩ : ∃ cap, v = .slice (some ⟨b, 0, none⟩) cs.length cap := by
      rcases h6.shape with ⟨rfl, _⟩ | ⟨g, cap, rfl, _⟩
      · cases e
      · have : g = b := by
          have : (Value.slice (some ⟨g, 0, none⟩) cs.length cap).ownBlock = some g := rfl
          rw [this] at e; injection e with e; exact e.symm
        subst this; exact ⟨cap, rfl⟩
    rw [hv] at h6
    obtain ⟨cur, hcur⟩ := h6.kind
    rw [hb] at hcur
    simp at hcur)]
  exact hb
theorem Bs.app {w0 w w6 w' : World} {P en base : Nat} {σ : Sg} {v v' : Value} {cs : List C} {c : C} (h : Bs w0 w P en σ base v cs) (hb6 : w6 = w.alloc (.cells (cl c).toArray 60))
    (ho' : ir.Own w' base v' (cs ++ [c])) (hg : w6.grownBy w' v.ownBlock) : Bs w0 w' P en σ base v' (cs ++ [c]) := by
  have hbl : Bl w w6 := by rw [hb6]; exact (Bl.refl _).alloc _
  have h6 := h.bl hbl
  have hbk : ∀ k, v.ownBlock = some k → base ≤ k := fun k hk => (h.own.block k hk).1
  have ho := h.ord
  have keep : ∀ k, k < w6.heap.size → k < base → w'.heap[k]? = w6.heap[k]? := fun k hk hne => hg.block k hk (fun e => by have := hbk k e.symm; omega)
  have hlt := h6.es.lt
  refine ⟨⟨hg.os.trans h6.gp.os, hg.tape.trans h6.gp.tape, hg.output.trans h6.gp.output, Nat.le_trans h6.gp.size hg.size, fun k hk hne => (keep k (Nat.lt_of_lt_of_le hk h6.gp.size) (by omega)).trans (h6.gp.block k hk hne)⟩, h6.es.keep (fun g hg' => keep g (by omega) (by omega)) hg.size, ?_, ho', ho.1, ho.2.1, ho.2.2.1, Nat.le_trans h6.ord.2.2.2 hg.size⟩
  obtain ⟨m, hm⟩ := h6.ml
  refine ⟨m, ?_⟩
  unfold World.cell? at hm ⊢
  simp only [keep 4 (by omega) (by omega)]
  exact hm
theorem RepB.app {w0 w w6 w' : World} {P en base M : Nat} {σ : Sg} {v v' : Value} {cs : List C} {c : C} {l it : Its} (h : Bs w0 w P en σ base v cs) (hr : RepB w0 w v l cs) (hio : IsO w c.pc c.d.ct) (hs : Sub w M c it) (hM : w0.heap.size ≤ M) (hvM : ∀ k, v.ownBlock = some k → k < M)
    (hb6 : w6 = w.alloc (.cells (cl c).toArray 60)) (hg : w6.grownBy w' v.ownBlock) (hw : v'.ownBlock = v.ownBlock ∨ v'.ownBlock = some w6.heap.size) : RepB w0 w' v' (l.app c.d it) (cs ++ [c]) := by
  have hbl : Bl w w6 := by rw [hb6]; exact (Bl.refl _).alloc _
  have h6 := h.bl hbl
  have keep : ∀ k, k < w6.heap.size → v.ownBlock ≠ some k → w'.heap[k]? = w6.heap[k]? := fun k hk hne => hg.block k hk (fun e => hne e.symm)
  have hkx : Kx w6 w' := own_kx h6.own hg
  have hsz : w6.heap.size = w.heap.size + 1 := by rw [hb6]; simp
  have r7 : Rep w' (fun g => w0.heap.size ≤ g ∧ v'.ownBlock ≠ some g) l cs := by
    have r5 : Rep w (fun g => (w0.heap.size ≤ g ∧ v.ownBlock ≠ some g) ∧ g < w.heap.size) l cs := hr.mono (fun g h1 h2 => ⟨h1, h2⟩)
    have r5' : Rep w' (fun g => (w0.heap.size ≤ g ∧ v.ownBlock ≠ some g) ∧ g < w.heap.size) l cs := (r5.keep (fun g h1 hg' => Below.block hbl g hg') hbl.size (Kx.bl hbl)).keep (fun g h1 hg' => keep g hg' h1.1.2) hg.size hkx
    refine r5'.mono (fun g h1 _ => ⟨h1.1.1, fun e => ?_⟩)
    rcases hw with hw | hw
    · rw [hw] at e; exact h1.1.2 e
    · rw [hw] at e; injection e with e; have := h1.2; omega
  refine Rep.app ((hio.keep (Kx.bl hbl)).keep hkx) ?_ r7
  obtain ⟨cs2, k1, k2⟩ := hs
  have hlt : ∀ g, M ≤ g → g < w.heap.size → v'.ownBlock ≠ some g := fun g h1 h2 e => by
    rcases hw with hw | hw
    · rw [hw] at e; have := hvM g e; omega
    · rw [hw] at e; injection e with e; omega
  have k1' := k1.mono (ok' := fun g => M ≤ g ∧ g < w.heap.size) (fun g h1 h2 => ⟨h1, h2⟩)
  have k2' := k2.mono (ok' := fun g => M ≤ g ∧ g < w.heap.size) (fun g h1 h2 => ⟨h1, h2⟩)
  refine ⟨cs2, ?_, ?_⟩
  · exact ((k1'.keep (fun g _ hg' => Below.block hbl g hg') hbl.size).keep (fun g h1 hg' => keep g hg' (fun e => by have := hvM g e; omega)) hg.size).mono (fun g h1 _ => ⟨by omega, hlt g h1.1 h1.2⟩)
  · exact ((k2'.keep (fun g _ hg' => Below.block hbl g hg') hbl.size (Kx.bl hbl)).keep (fun g h1 hg' => keep g hg' (fun e => by have := hvM g e; omega)) hg.size hkx).mono (fun g h1 _ => ⟨by omega, hlt g h1.1 h1.2⟩)
def Lf (k en : Nat) (σ0 σ : Sg) (l : Its) (n : Nat) : Prop := match σ with
  | .ok ts => ∃ ts0, σ0 = .ok ts0 ∧ pre l (loop nb en (blk nb en k) n ts) = blk nb en (k + 1) ts0
  | .error e => bkS (k + 1) en σ0 = .error e
theorem Lf.start {k en : Nat} {σ0 : Sg} : Lf k en σ0 (mu en [123] σ0) .nil 16 := by
  cases σ0 with
  | error e => rfl
  | ok ts =>
    unfold mu Lf
    dsimp only
    unfold want
    by_cases hc : (hd en ts).t = [123]
    · rw [if_pos hc]
      refine ⟨ts, rfl, ?_⟩
      rw [blk, if_pos hc]
      cases loop nb en (blk nb en k) 16 ts.tail with
      | error e => rfl
      | ok lr => rfl
    · rw [if_neg hc]
      show bkS (k + 1) en (.ok ts) = _
      unfold bkS
      dsimp only
      rw [blk, if_neg hc]
theorem Lf.done {k en n : Nat} {σ0 : Sg} {ts : List Tk} {l : Its} (h : Lf k en σ0 (.ok ts) l n) (hc : (hd en ts).t = [125]) : bkS (k + 1) en σ0 = .ok ts.tail ∧ ∀ ts0 m r, σ0 = .ok ts0 → blk nb en (k + 1) ts0 = .ok (m, r) → m = l := by
  obtain ⟨ts0, h1, h2⟩ := h
  rw [(loop_is en (blk nb en k) n ts l).1 hc] at h2
  subst h1
  refine ⟨by unfold bkS; dsimp only; rw [← h2], fun ts1 m r e1 e2 => ?_⟩
  injection e1 with e1
  subst e1
  rw [← h2] at e2
  injection e2 with e2
  injection e2 with e2
  exact e2.symm
theorem Lf.full {k en : Nat} {σ0 : Sg} {ts : List Tk} {l : Its} (h : Lf k en σ0 (.ok ts) l 0) (hc : ¬ (hd en ts).t = [125]) : bkS (k + 1) en σ0 = .error (4, (hd en ts).a) := by
  obtain ⟨ts0, h1, h2⟩ := h
  rw [(loop_is en (blk nb en k) 0 ts l).2.1 hc rfl] at h2
  subst h1
  unfold bkS
  dsimp only
  rw [← h2]
theorem Lf.item {k en n : Nat} {σ0 : Sg} {ts : List Tk} {l : Its} (h : Lf k en σ0 (.ok ts) l (n + 1)) (hc : ¬ (hd en ts).t = [125]) :
    (∀ e, tm.item nb en (blk nb en k) ts = .error e → Lf k en σ0 (itS k en (.ok ts)) l n) ∧ ∀ d s r, tm.item nb en (blk nb en k) ts = .ok ((d, s), r) → itS k en (.ok ts) = .ok r ∧ Lf k en σ0 (.ok r) (l.app d s) n := by
  obtain ⟨ts0, h1, h2⟩ := h
  obtain ⟨o1, o2⟩ := (loop_is en (blk nb en k) (n + 1) ts l).2.2 hc n rfl
  refine ⟨fun e he => ?_, fun d s r hi => ⟨by unfold itS; dsimp only; rw [hi], ts0, h1, ?_⟩⟩
  · have e1 : itS k en (.ok ts) = .error e := by unfold itS; dsimp only; rw [he]
    rw [e1]
    rw [o1 e he] at h2
    subst h1
    show bkS (k + 1) en (.ok ts0) = _
    unfold bkS
    dsimp only
    rw [← h2]
  · rw [← h2, o2 d s r hi]
def BkA (w : World) (P en k : Nat) (σ : Sg) (e : Ending) (w' : World) : Prop :=
  (∃ p n c, e = .returned (.slice p n c) ∧ ∀ ts l r, σ = .ok ts → blk nb en k ts = .ok (l, r) → LV w.heap.size w' (.slice p n c) l) ∧ Es w' P en (bkS k en σ) ∧ Gp P w w'
theorem BkA.bad {w w' : World} {P en k n : Nat} {σ : Sg} {x : Int × Nat} {p : Option Addr} {c : Nat} (hE : Es w' P en (.error x)) (hb : bkS k en σ = .error x) (hg : Gp P w w') : BkA w P en k σ (.returned (.slice p n c)) w' := by
  refine ⟨⟨p, n, c, rfl, fun ts l r h1 h2 => ?_⟩, by rw [hb]; exact hE, hg⟩
  subst h1
  unfold bkS at hb
  dsimp only at hb
  rw [h2] at hb
  cases hb
theorem blk0 {en : Nat} {σ : Sg} (a : Nat) (ha : ∀ ts, σ = .ok ts → a = (hd en ts).a) : (seeT en σ = [123] → bkS 0 en σ = .error (4, a) ∧ fl 4 a σ = .error (4, a)) ∧ (seeT en σ ≠ [123] → ∃ x, bkS 0 en σ = .error x ∧ mu en [123] σ = .error x) := by
  refine ⟨fun h => ?_, fun h => ?_⟩
  · obtain ⟨t, r, h1, h2⟩ := see_ok (by simp) h
    rw [ha _ h1]
    subst h1
    refine ⟨?_, rfl⟩
    unfold bkS
    dsimp only
    rw [blk, if_pos (show (hd en (t :: r)).t = [123] from h2)]
  · cases σ with
    | error x => exact ⟨x, rfl, rfl⟩
    | ok ts =>
      have h : ¬ (hd en ts).t = [123] := h
      refine ⟨(3, (hd en ts).a), ?_, ?_⟩
      · unfold bkS; dsimp only; rw [blk, if_neg h]
      · unfold mu want; dsimp only; rw [if_neg h]
theorem block_zero : BlkR 0 := by
  intro w P en dp σ hk h hm hP
  show Calls _ _ _ _ fun e w' => BkA w P en 0 σ e w'
  obtain rfl : dp = 9 := by omega
  have cT := text_es w P en σ h
  have HE : Hid (Es w P en σ) := h
  have htl := tl_tx (seeT en σ)
  obtain ⟨S, hS⟩ : ∃ S, S = tx (seeT en σ) := ⟨_, rfl⟩
  rw [← hS] at cT htl
  clear h hm hS
  rw [show ((9 : Nat) : Int) = 9 from rfl]
  by_cases hc : seeT en σ = [123]
  · have hq : (S.toList == [123]) = true := by rw [htl, hc]; rfl
    have HC : Hid (seeT en σ = [123]) := hc
    clear htl hc
    go_enter Tryz.func43, Tryz.ntmps43
    go_wp2_with fail
    refine cT.mono ?_
    rintro e w1 ⟨rfl, hb1⟩
    have HE1 : Hid (Es w1 P en σ ∧ Bl w w1) := ⟨HE.out.bl hb1, hb1⟩
    have cA := place_es w1 P en σ HE1.out.1
    clear hb1 cT
    go_wp2_with fail
    refine cA.mono ?_
    rintro e w2 ⟨⟨a, rfl, ha⟩, hw2⟩
    obtain rfl := hw2.symm
    have HA : Hid (bkS 0 en σ = .error (4, a) ∧ fl 4 a σ = .error (4, a)) := (blk0 a ha).1 HC.out
    have cW := wrong_es w1 P en σ 4 a (by decide) HE1.out.1
    rw [HA.out.2] at cW
    clear ha cA hw2
    go_wp2_with fail
    refine cW.mono ?_
    rintro e w2 ⟨rfl, hE, hg⟩
    have H2 : Hid (Es w2 P en (.error (4, a)) ∧ Gp P w w2) := ⟨hE, (Gp.bl HE1.out.2).trans hg⟩
    have cM := must_es w2 P en _ [123] (by simp) hE
    clear hE hg cW
    go_wp2_with fail
    refine cM.mono ?_
    rintro e w3 ⟨rfl, hE, hg⟩
    have H3 : Hid (Es w3 P en (.error (4, a)) ∧ Gp P w w3) := ⟨hE, H2.out.2.trans hg⟩
    have cS := fun wx (hb : Bl w3 wx) => stop_es wx P en _ (H3.out.1.bl hb)
    clear hE hg cM
    go_wp2
    go_loopw [5] (fun v5 wr => v5 = .slice none 0 0 ∧ Hid (Bl w3 wr)) (fun _ _ => 0)
    case atStart => exact ⟨rfl, Bl.refl _⟩
    case round =>
      obtain ⟨rfl, HB⟩ := hrel
      go_wp2_with fail
      refine (cS _ HB.out).mono ?_
      rintro e w4 ⟨rfl, hb4⟩
      have HB4 : Hid (Bl w3 w4) := HB.out.trans hb4
      clear hb4 cS
      go_wp2
      go_ret
      exact BkA.bad (H3.out.1.bl HB4.out) HA.out.1 (H3.out.2.trans (Gp.bl HB4.out))
  · have hq : (S.toList == [123]) = false := by rw [htl, beq_eq_false_iff_ne]; exact hc
    obtain ⟨x, hx1, hx2⟩ := (blk0 (en := en) (σ := σ) (match σ with | .ok ts => (hd en ts).a | .error _ => 0) (fun ts hts => by subst hts; rfl)).2 hc
    have HA : Hid (bkS 0 en σ = .error x) := hx1
    clear htl hc hx1
    go_enter Tryz.func43, Tryz.ntmps43
    go_wp2_with fail
    refine cT.mono ?_
    rintro e w1 ⟨rfl, hb1⟩
    have HE1 : Hid (Es w1 P en σ ∧ Bl w w1) := ⟨HE.out.bl hb1, hb1⟩
    have cM := must_es w1 P en _ [123] (by simp) HE1.out.1
    rw [hx2] at cM
    clear hb1 cT hx2
    go_wp2_with fail
    refine cM.mono ?_
    rintro e w3 ⟨rfl, hE, hg⟩
    have H3 : Hid (Es w3 P en (.error x) ∧ Gp P w w3) := ⟨hE, (Gp.bl HE1.out.2).trans hg⟩
    have cS := fun wx (hb : Bl w3 wx) => stop_es wx P en _ (H3.out.1.bl hb)
    clear hE hg cM
    go_wp2
    go_loopw [5] (fun v5 wr => v5 = .slice none 0 0 ∧ Hid (Bl w3 wr)) (fun _ _ => 0)
    case atStart => exact ⟨rfl, Bl.refl _⟩
    case round =>
      obtain ⟨rfl, HB⟩ := hrel
      go_wp2_with fail
      refine (cS _ HB.out).mono ?_
      rintro e w4 ⟨rfl, hb4⟩
      have HB4 : Hid (Bl w3 w4) := HB.out.trans hb4
      clear hb4 cS
      go_wp2
      go_ret
      exact BkA.bad (H3.out.1.bl HB4.out) HA.out (H3.out.2.trans (Gp.bl HB4.out))
end Go.Proofs.YtococaecjecjgaaGreatDoor.tr
namespace Go.Proofs.YtococaecjecjgaaGreatDoor.tr
set_option linter.unusedVariables false
open Go.ChangeShapes Go.WideShapes Go.ChangeAt Go.RowKit Go.Shelf
open mem lx ex tm

def lenV (v : Value) : Nat := match v with | .slice _ n _ => n | _ => 0
set_option maxRecDepth 10000 in
set_option maxHeartbeats 4000000 in
theorem block_succ (k : Nat) (cB : BlkR k) : BlkR (k + 1) := by
  intro w P en dp σ hk h hm hP
  show Calls _ _ _ _ fun e w' => BkA w P en (k + 1) σ e w'
  have cT := text_es w P en σ h
  have HE : Hid (Es w P en σ ∧ Ml w ∧ BlkR k) := ⟨h, hm, cB⟩
  have hPw := h.lt
  have htl := tl_tx (seeT en σ)
  have hd8 : ¬ (8 : Int) < (dp : Int) := by omega
  obtain ⟨S, hS⟩ : ∃ S, S = tx (seeT en σ) := ⟨_, rfl⟩
  rw [← hS] at cT htl
  clear h hm hS cB
  cases hq : (S.toList == [123])
  all_goals
    clear htl
    go_enter Tryz.func43, Tryz.ntmps43
    go_wp2_with fail
    refine cT.mono ?_
    rintro e w1 ⟨rfl, hb1⟩
    have HE1 : Hid (Es w1 P en σ ∧ Bl w w1) := ⟨HE.out.1.bl hb1, hb1⟩
    have cM := must_es w1 P en _ [123] (by simp) HE1.out.1
    clear hb1 cT
    go_wp2_with fail
    refine cM.mono ?_
    rintro e w3 ⟨rfl, hE, hg⟩
    have hg3 := (Gp.bl HE1.out.2).trans hg
    obtain ⟨base, hbase⟩ : ∃ base, base = w3.heap.size := ⟨_, rfl⟩
    have H3 : Hid (Bs w w3 P en (mu en [123] σ) base (.slice none 0 0) [] ∧ base = w3.heap.size) := ⟨⟨hg3, hE, HE.out.2.1.gp hg3 hP hPw, ir.Own.nil _ _, hP, by rw [hbase]; exact hE.lt, by rw [hbase]; exact hg3.size, by rw [hbase]; exact Nat.le_refl _⟩, hbase⟩
    clear hE hg hg3 cM hbase hq
    go_wp2
    go_loopw [5] (fun v5 wr => ∃ (σ' : Sg) (cs : List C) (l : Its) (n : Nat), n + cs.length = 16 ∧ Hid (Bs w wr P en σ' base v5 cs ∧ Lf k en σ σ' l n ∧ ∀ ts, σ' = .ok ts → RepB w wr v5 l cs)) (fun v5 _ => 16 - lenV v5)
    case atStart => exact ⟨_, [], .nil, 16, rfl, H3.out.1, Lf.start, fun _ _ => rfl⟩
    case round =>
      obtain ⟨σ', cs, l, n, hn, HB⟩ := hrel
      obtain ⟨lp, lc, rfl, hlie⟩ := HB.out.1.own.lie
      obtain ⟨m, hm⟩ : ∃ m, m = cs.length := ⟨_, rfl⟩
      have cS := stop_es wr P en σ' HB.out.1.es
      have HL : Hid (ir.Lie wr (fun g => base ≤ g) lp cs.length lc cs ∧ m = cs.length) := ⟨hlie, hm⟩
      rw [← hm] at hn HB ⊢
      clear hlie hm
      cases σ' with
      | error x =>
        have HA : Hid (bkS (k + 1) en σ = .error x) := HB.out.2.1
        go_wp2_with fail
        refine cS.mono ?_
        rintro e w4 ⟨rfl, hb4⟩
        have H4 : Hid (Bs w w4 P en (.error x) base (.slice lp m lc) cs) := HB.out.1.bl hb4
        clear hb4 cS
        go_wp2
        go_ret
        exact BkA.bad H4.out.es HA.out H4.out.gp
      | ok ts =>
        go_wp2_with fail
        refine cS.mono ?_
        rintro e w4 ⟨rfl, hb4⟩
        have H4 : Hid (Bs w w4 P en (.ok ts) base (.slice lp m lc) cs ∧ Bl wr w4) := ⟨HB.out.1.bl hb4, hb4⟩
        have cK := take_es w4 P en _ [125] (by simp) H4.out.1.es
        clear hb4 cS
        by_cases hc : (hd en ts).t = [125]
        · rw [decide_eq_true (show seeT en (.ok ts) = [125] from hc), show tk en [125] (.ok ts) = ps en (.ok ts) from if_pos hc] at cK
          have HF : Hid ((hd en ts).t = [125]) := hc
          clear hc
          go_wp2_with fail
          refine cK.mono ?_
          rintro e w5 ⟨rfl, hE, hg⟩
          have H5 : Hid (Es w5 P en (ps en (.ok ts)) ∧ Gp P w4 w5) := ⟨hE, hg⟩
          clear hE hg cK
          go_wp2
          go_ret
          obtain ⟨g1, g2⟩ := HB.out.2.1.done HF.out
          have hps : ps en (.ok ts) = .ok ts.tail := by
            cases ts with
            | nil => exact absurd HF.out (by show ¬ ([] : List UInt8) = [125]; decide)
            | cons t r => rfl
          have hgr : Gp P wr w5 := (Gp.bl H4.out.2).trans H5.out.2
          refine ⟨⟨lp, m, lc, rfl, fun ts0 m' r h1 h2 => ?_⟩, by rw [g1, ← hps]; exact H5.out.1, HB.out.1.gp.trans hgr⟩
          obtain rfl := g2 ts0 m' r h1 h2
          have hrep := HB.out.2.2 ts rfl
          have hcl := hrep.len.1
          have h1 := HL.out.1.keep (w' := w5) (fun g h1 h2 => hgr.block g h2 (by have := HB.out.1.ord; omega)) hgr.size
          refine ⟨lp, lc, cs, by rw [HL.out.2, hcl], ?_, ?_⟩
          · rw [← hcl]
            exact h1.mono (fun g hg _ => Nat.le_trans HB.out.1.ord.2.2.1 hg)
          · exact (RepB.go HB.out.1 hrep hgr hPw).mono (fun g h1 _ => h1.1)
        · rw [decide_eq_false (show ¬ seeT en (.ok ts) = [125] from hc), show tk en [125] (.ok ts) = .ok ts from if_neg hc] at cK
          cases n with
          | zero =>
            have hm16 : ¬ (m : Int) < 16 := by omega
            have hm16' : (16 : Int) ≤ (m : Int) := by omega
            clear hn
            have HA : Hid (bkS (k + 1) en σ = .error (4, (hd en ts).a)) := HB.out.2.1.full hc
            clear hc
            go_wp2_with fail
            refine cK.mono ?_
            rintro e w5 ⟨rfl, hE, hg⟩
            have H5 : Hid (Bs w w5 P en (.ok ts) base (.slice lp m lc) cs) := H4.out.1.go hE hg
            have cA := place_es w5 P en _ H5.out.es
            clear hE hg cK
            go_wp2_with fail
            refine cA.mono ?_
            rintro e w6 ⟨⟨a, rfl, ha⟩, hw6⟩
            obtain rfl := hw6.symm
            have ha2 := ha ts rfl
            clear ha
            have cW := wrong_es w5 P en (.ok ts) 4 a (by decide) H5.out.es
            rw [← ha2] at HA
            clear ha2 cA
            go_wp2_with fail
            refine cW.mono ?_
            rintro e w6 ⟨rfl, hE, hg⟩
            have H6 : Hid (Es w6 P en (.error (4, a)) ∧ Gp P w w6) := ⟨hE, H5.out.gp.trans hg⟩
            clear hE hg cW
            go_wp2
            go_ret
            exact BkA.bad H6.out.1 HA.out H6.out.2
          | succ n =>
            have hm16 : (m : Int) < 16 := by omega
            have hm16' : ¬ (16 : Int) ≤ (m : Int) := by omega
            obtain ⟨o4, o5⟩ := HB.out.2.1.item hc
            clear hc
            go_wp2_with fail
            refine cK.mono ?_
            rintro e w5 ⟨rfl, hE, hg⟩
            have H5 : Hid (Bs w w5 P en (.ok ts) base (.slice lp m lc) cs ∧ RepB w w5 (.slice lp m lc) l cs) := ⟨H4.out.1.go hE hg, RepB.go H4.out.1 (RepB.go HB.out.1 (HB.out.2.2 ts rfl) (Gp.bl H4.out.2) hPw) hg hPw⟩
            have cI := item_es k HE.out.2.2 w5 P en dp (.ok ts) (by omega) H5.out.1.es H5.out.1.ml hP
            clear hE hg cK
            go_wp2_with fail
            refine cI.mono ?_
            rintro e w6 ⟨⟨c5, rfl, hv⟩, hE, hg⟩
            have HC6 : ∃ c6 : C, itV c5 = itV c6 ∧ Hid ((∃ x, itS k en (.ok ts) = .error x ∧ bkS (k + 1) en σ = .error x) ∨ ∃ s r, IsO w6 c6.pc c6.d.ct ∧ Sub w6 w5.heap.size c6 s ∧ itS k en (.ok ts) = .ok r ∧ Lf k en σ (.ok r) (l.app c6.d s) n) := by
              cases hi : tm.item nb en (blk nb en k) ts with
              | error x =>
                have h1 := o4 x hi
                have e1 : itS k en (.ok ts) = .error x := by unfold itS; dsimp only; rw [hi]
                rw [e1] at h1
                exact ⟨c5, rfl, Or.inl ⟨x, e1, h1⟩⟩
              | ok xr =>
                obtain ⟨⟨d, s⟩, r⟩ := xr
                obtain ⟨h1, h2⟩ := o5 d s r hi
                obtain ⟨c6, k1, k2, k3, k4⟩ := hv ts (d, s) r rfl hi
                have k2 : c6.d = d := k2
                exact ⟨c6, k1, Or.inr ⟨s, r, by rw [k2]; exact k3, k4, h1, by rw [k2]; exact h2⟩⟩
            obtain ⟨c6, hcv, HI⟩ := HC6
            rw [hcv]
            have H6 : Hid (Bs w w6 P en (itS k en (.ok ts)) base (.slice lp m lc) cs ∧ RepB w w6 (.slice lp m lc) l cs ∧ w.heap.size ≤ w5.heap.size ∧ ∀ x, (Value.slice lp m lc).ownBlock = some x → x < w5.heap.size) := ⟨H5.out.1.go hE hg, RepB.go H5.out.1 H5.out.2 hg hPw, H5.out.1.gp.size, fun x hx => (H5.out.1.own.block x hx).2⟩
            obtain ⟨w7, hw7⟩ : ∃ w7, w7 = w6.alloc (.cells (cl c6).toArray 60) := ⟨_, rfl⟩
            have hb7 : Bl w6 w7 := by rw [hw7]; exact (Bl.refl _).alloc _
            obtain ⟨X, hX⟩ : ∃ X, X = w6.heap.size := ⟨_, rfl⟩
            have hX7 : Iv w7 X c6 := ⟨by rw [hw7, hX]; exact new_at _ _⟩
            have hown7 := H6.out.1.own.bl hb7
            have hcells : ∀ j u, (cl c6)[j]? = some u → w7.cell? ((⟨X, 0, none⟩ : Addr).add j) = some u := fun j u hu => by
              rw [Addr.add_lit, Nat.zero_add, hX7.cell j]; exact hu
            have hb67 : base ≤ w7.heap.size := Nat.le_trans H6.out.1.ord.2.2.2 hb7.size
            obtain ⟨v', w8, hr, ho8, hg8⟩ := ir.app_one w7 base (.slice lp m lc) cs c6 ⟨X, 0, none⟩ hown7 hcells (by have := HL.out.2; omega) hb67
            have hwh := ir_where w7 base (.slice lp m lc) cs c6 ⟨X, 0, none⟩ hown7 hcells (by have := HL.out.2; omega) v' w8 hr
            have H8 : Hid (Bs w w8 P en (itS k en (.ok ts)) base v' (cs ++ [c6]) ∧ (∃ l', Lf k en σ (itS k en (.ok ts)) l' n ∧ ∀ us, itS k en (.ok ts) = .ok us → RepB w w8 v' l' (cs ++ [c6])) ∧ lenV v' = m + 1 ∧ m + 1 = (cs ++ [c6]).length) := by
              refine ⟨H6.out.1.app hw7 ho8 hg8, ?_, ?_, by rw [List.length_append, ← HL.out.2]; rfl⟩
              · rcases HI.out with ⟨x, q1, q2⟩ | ⟨s, r, q1, q2, q3, q4⟩
                · refine ⟨l, by rw [q1]; exact q2, fun us hu => by rw [q1] at hu; cases hu⟩
                · exact ⟨l.app c6.d s, by rw [q3]; exact q4, fun us hu => RepB.app H6.out.1 H6.out.2.1 q1 q2 H6.out.2.2.1 H6.out.2.2.2 hw7 hg8 hwh⟩
              · obtain ⟨p8, c8, hv8, _⟩ := ho8.lie
                rw [hv8]
                show (cs ++ [c6]).length = m + 1
                rw [List.length_append, ← HL.out.2]; rfl
            have HRn : Hid _ := hr
            unfold itV
            have hcl : (cl c6).toArray = #[.int .i64 (c6.d.kd : Int), .int .i64 (c6.d.at_ : Int), .string (tx c6.d.nm), .string (tx c6.d.ty), .int .i64 (c6.d.wd : Int), .int .i64 (c6.d.od : Int), .bool c6.d.sg, .bool c6.d.mn, .pointer c6.pc, .int .i64 (c6.d.ru : Int), .string (tx c6.d.f1), .string (tx c6.d.l1), .slice c6.p c6.n c6.c] := rfl
            rw [hcl] at hw7 ⊢
            have hw7' := hw7.symm
            have hX' : w6.heap.size = X := hX.symm
            clear hcl hw7 hX hb7 hX7 hown7 hcells hb67 hr ho8 hg8 hwh hE hg o4 o5 cI hcv hv HI
            go_wp2_with (at_builtin; refine Lib.wpList_append_run _ rfl (.tmp 34) (.tmp 38) _ _ rfl _ _ rfl rfl _ _ HRn.out ?_)
            obtain ⟨l', g1, g2⟩ := H8.out.2.1
            refine ⟨⟨itS k en (.ok ts), cs ++ [c6], l', n, by rw [← H8.out.2.2.2]; omega, H8.out.1, g1, g2⟩, ?_⟩
            rw [H8.out.2.2.1]
            show 16 - (m + 1) < 16 - m
            omega
theorem block_es (k : Nat) : BlkR k := by
  induction k with
  | zero => exact block_zero
  | succ k ih => exact block_succ k ih
end Go.Proofs.YtococaecjecjgaaGreatDoor.tr
namespace Go.Proofs.YtococaecjecjgaaGreatDoor.tr
set_option linter.unusedVariables false
open Go.ChangeShapes Go.WideShapes Go.ChangeAt Go.RowKit Go.Shelf
open mem lx ex tm

def LfT (en : Nat) (q : Except (Int × Nat) (List Ty)) (σ : Sg) (l : List Ty) (n : Nat) : Prop := match σ with
  | .ok ts => preT l (typs nb en n ts) = q
  | .error e => q = .error e
theorem LfT.full {en : Nat} {q : Except (Int × Nat) (List Ty)} {t : Tk} {r : List Tk} {l : List Ty} (h : LfT en q (.ok (t :: r)) l 0) (hc : t.t = wStruct) : q = .error (4, t.a) := by
  have h : preT l (typs nb en 0 (t :: r)) = q := h
  rw [← h, typs, if_pos hc]
  rfl
theorem LfT.on {en n : Nat} {q : Except (Int × Nat) (List Ty)} {t : Tk} {r : List Tk} {l : List Ty} (h : LfT en q (.ok (t :: r)) l n) (hn : t.t = wStruct → n ≠ 0) {a : Nat} (ha : ∀ us, mu en wStruct (.ok (t :: r)) = .ok us → a = (hd en us).a) :
    (∃ e, q = .error e ∧ bkS 8 en (nmS en (mu en wStruct (.ok (t :: r)))) = .error e) ∨
    ∃ us r1 it r2, mu en wStruct (.ok (t :: r)) = .ok us ∧ nmS en (.ok us) = .ok r1 ∧ blk nb en 8 r1 = .ok (it, r2) ∧ bkS 8 en (nmS en (mu en wStruct (.ok (t :: r)))) = .ok r2 ∧ LfT en q (.ok r2) (l ++ [⟨(hd en us).t, a, it⟩]) (n - 1) := by
  have h : preT l (typs nb en n (t :: r)) = q := h
  by_cases hc : t.t = wStruct
  · obtain ⟨m, rfl⟩ : ∃ m, n = m + 1 := ⟨n - 1, by have := hn hc; omega⟩
    have e0 : mu en wStruct (.ok (t :: r)) = .ok r := by
      show want en wStruct (t :: r) = _
      unfold want
      rw [if_pos (show (hd en (t :: r)).t = wStruct from hc)]
      rfl
    have ha := ha r e0
    rw [e0]
    rw [typs, if_pos hc] at h
    have h1 := name_rl (en := en) (us := r)
    cases hf : nmS en (.ok r) with
    | error e =>
      rw [hf] at h1
      rw [h1.err] at h
      exact Or.inl ⟨e, h.symm, rfl⟩
    | ok r1 =>
      rw [hf] at h1
      rw [h1.okk] at h
      dsimp only at h
      unfold bkS
      dsimp only
      cases hb : blk nb en 8 r1 with
      | error e =>
        rw [hb] at h
        exact Or.inl ⟨e, h.symm, rfl⟩
      | ok lr =>
        obtain ⟨it, r2⟩ := lr
        rw [hb] at h
        dsimp only at h
        refine Or.inr ⟨r, r1, it, r2, rfl, hf, hb, rfl, ?_⟩
        show preT _ (typs nb en (m + 1 - 1) r2) = q
        rw [← h, show m + 1 - 1 = m by omega, ha]
        cases typs nb en m r2 with
        | error e => rfl
        | ok x =>
          show Except.ok ((l ++ [_]) ++ x) = Except.ok (l ++ (_ :: x))
          rw [List.append_assoc]
          rfl
  · have e0 : mu en wStruct (.ok (t :: r)) = .error (3, t.a) := by
      show want en wStruct (t :: r) = _
      unfold want
      rw [if_neg (show ¬ (hd en (t :: r)).t = wStruct from hc)]
      rfl
    rw [e0]
    refine Or.inl ⟨(3, t.a), ?_, rfl⟩
    rw [← h]
    cases n with
    | zero => rw [typs, if_neg hc]; rfl
    | succ n => rw [typs, if_neg hc]; rfl
theorem sown_keep {w w' : World} {base : Nat} {v : Value} {l : List CT} (h : sr.Own w base v l) (hk : ∀ k, v.ownBlock = some k → w'.heap[k]? = w.heap[k]?) : sr.Own w' base v l := by
  refine ⟨h.1, ?_⟩
  rcases h.2 with h | ⟨g, cap, cur, rfl, h2, h3, h4⟩
  · exact Or.inl h
  · refine Or.inr ⟨g, cap, cur, rfl, h2, ?_, h4⟩
    rw [hk g rfl]
    exact h3
structure Bz (w0 w : World) (P en : Nat) (σ : Sg) (base : Nat) (v : Value) (cs : List CT) : Prop where
  gp : Gp P w0 w
  es : Es w P en σ
  ml : Ml w
  own : sr.Own w base v cs
  ord : 4 < P ∧ P < base ∧ w0.heap.size ≤ base ∧ base ≤ w.heap.size
theorem Bz.go {w0 w w' : World} {P en base : Nat} {σ σ' : Sg} {v : Value} {cs : List CT} (h : Bz w0 w P en σ base v cs) (he : Es w' P en σ') (hg : Gp P w w') : Bz w0 w' P en σ' base v cs :=
  ⟨h.gp.trans hg, he, h.ml.gp hg h.ord.1 h.es.lt, h.own.gp hg h.ord.2.1, h.ord.1, h.ord.2.1, h.ord.2.2.1, Nat.le_trans h.ord.2.2.2 hg.size⟩
theorem Bz.bl {w0 w w' : World} {P en base : Nat} {σ : Sg} {v : Value} {cs : List CT} (h : Bz w0 w P en σ base v cs) (hb : Bl w w') : Bz w0 w' P en σ base v cs := h.go (h.es.bl hb) (Gp.bl hb)
theorem Bz.put {w0 w : World} {P en base T j : Nat} {σ : Sg} {v u : Value} {cs : List CT} (h : Bz w0 w P en σ base v cs) (hT : base ≤ T) (hv : ∀ k, v.ownBlock = some k → k ≠ T) : Bz w0 (w.setCell ⟨T, j, none⟩ u) P en σ base v cs := by
  have ho := h.ord
  have hg := grown_set w T j u
  have hl := h.es.lt
  refine ⟨h.gp.setNew (by omega) u, h.es.put (by omega) u, ?_, sown_keep h.own (fun k hk => hg.block k (h.own.block k hk).2 (fun e => by injection e with e; exact hv k hk e)), ho.1, ho.2.1, ho.2.2.1, Nat.le_trans ho.2.2.2 hg.size⟩
  obtain ⟨m, hm⟩ := h.ml
  refine ⟨m, ?_⟩
  unfold World.cell? at hm ⊢
  simp only [hg.block 4 (by omega) (fun e => by injection e with e; omega)]
  exact hm
abbrev RepZ (w0 w : World) (v : Value) (T : Nat) (l : List Ty) (cs : List CT) : Prop := RepT w (fun g => (w0.heap.size ≤ g ∧ v.ownBlock ≠ some g) ∧ g < T) l cs
abbrev RepY (w0 w : World) (v : Value) (l : List Ty) (cs : List CT) : Prop := RepT w (fun g => w0.heap.size ≤ g ∧ v.ownBlock ≠ some g) l cs
theorem RepZ.go {w0 w w' : World} {P T : Nat} {v : Value} {cs : List CT} {l : List Ty} (hr : RepZ w0 w v T l cs) (hg : Gp P w w') (hP : P < w0.heap.size) (hk : Kx w w') : RepZ w0 w' v T l cs :=
  hr.keep (fun g h1 h2 => hg.block g h2 (by omega)) hg.size hk
theorem RepY.go {w0 w w' : World} {P : Nat} {v : Value} {cs : List CT} {l : List Ty} (hr : RepY w0 w v l cs) (hg : Gp P w w') (hP : P < w0.heap.size) (hk : Kx w w') : RepY w0 w' v l cs :=
  hr.keep (fun g h1 h2 => hg.block g h2 (by omega)) hg.size hk
theorem sown_kx {w6 w' : World} {base : Nat} {v : Value} {cs : List CT} (h6 : sr.Own w6 base v cs) (hg : w6.grownBy w' v.ownBlock) : Kx w6 w' := fun b cs' hb => by
  rw [hg.block b (lt_of_heap hb) (fun e => by
    obtain ⟨cap, hv⟩ : ∃ cap, v = .slice (some ⟨b, 0, none⟩) cs.length cap := by
      rcases h6.shape with ⟨rfl, _⟩ | ⟨g, cap, rfl, _⟩
      · cases e
      · have : g = b := by
          have : (Value.slice (some ⟨g, 0, none⟩) cs.length cap).ownBlock = some g := rfl
          rw [this] at e; injection e with e; exact e.symm
        subst this; exact ⟨cap, rfl⟩
    rw [hv] at h6
    obtain ⟨cur, hcur⟩ := h6.kind
    rw [hb] at hcur
    simp at hcur)]
  exact hb
theorem Bz.app {w0 w w6 w' : World} {P en base : Nat} {σ : Sg} {v v' : Value} {cs : List CT} {c : CT} (h : Bz w0 w P en σ base v cs) (hb6 : w6 = w.alloc (.cells (clT c).toArray 96))
    (ho' : sr.Own w' base v' (cs ++ [c])) (hg : w6.grownBy w' v.ownBlock) : Bz w0 w' P en σ base v' (cs ++ [c]) := by
  have hbl : Bl w w6 := by rw [hb6]; exact (Bl.refl _).alloc _
  have h6 := h.bl hbl
  have hbk : ∀ k, v.ownBlock = some k → base ≤ k := fun k hk => (h.own.block k hk).1
  have ho := h.ord
  have keep : ∀ k, k < w6.heap.size → k < base → w'.heap[k]? = w6.heap[k]? := fun k hk hne => hg.block k hk (fun e => by have := hbk k e.symm; omega)
  have hlt := h6.es.lt
  refine ⟨⟨hg.os.trans h6.gp.os, hg.tape.trans h6.gp.tape, hg.output.trans h6.gp.output, Nat.le_trans h6.gp.size hg.size, fun k hk hne => (keep k (Nat.lt_of_lt_of_le hk h6.gp.size) (by omega)).trans (h6.gp.block k hk hne)⟩, h6.es.keep (fun g hg' => keep g (by omega) (by omega)) hg.size, ?_, ho', ho.1, ho.2.1, ho.2.2.1, Nat.le_trans h6.ord.2.2.2 hg.size⟩
  obtain ⟨m, hm⟩ := h6.ml
  refine ⟨m, ?_⟩
  unfold World.cell? at hm ⊢
  simp only [keep 4 (by omega) (by omega)]
  exact hm
theorem RepZ.app {w0 w w6 w' : World} {P en base M T : Nat} {σ : Sg} {v v' : Value} {cs : List CT} {c : CT} {l : List Ty} {it : Its} (h : Bz w0 w P en σ base v cs) (hr : RepZ w0 w v T l cs) (hs : ∃ cs2, ir.Lie w (fun g => M ≤ g) c.p c.n c.c cs2 ∧ Rep w (fun g => M ≤ g) it cs2) (hM : w0.heap.size ≤ M) (hvM : ∀ k, v.ownBlock = some k → k < M) (hTw : T ≤ w.heap.size)
    (hb6 : w6 = w.alloc (.cells (clT c).toArray 96)) (hg : w6.grownBy w' v.ownBlock) (hw : v'.ownBlock = v.ownBlock ∨ v'.ownBlock = some w6.heap.size) : RepY w0 w' v' (l ++ [⟨c.nm, c.a, it⟩]) (cs ++ [c]) := by
  have hbl : Bl w w6 := by rw [hb6]; exact (Bl.refl _).alloc _
  have h6 := h.bl hbl
  have keep : ∀ k, k < w6.heap.size → v.ownBlock ≠ some k → w'.heap[k]? = w6.heap[k]? := fun k hk hne => hg.block k hk (fun e => hne e.symm)
  have hkx : Kx w6 w' := sown_kx h6.own hg
  have hsz : w6.heap.size = w.heap.size + 1 := by rw [hb6]; simp
  have r7 : RepT w' (fun g => w0.heap.size ≤ g ∧ v'.ownBlock ≠ some g) l cs := by
    have r5' : RepT w' (fun g => (w0.heap.size ≤ g ∧ v.ownBlock ≠ some g) ∧ g < T) l cs := (hr.keep (fun g h1 hg' => Below.block hbl g hg') hbl.size (Kx.bl hbl)).keep (fun g h1 hg' => keep g hg' h1.1.2) hg.size hkx
    refine r5'.mono (fun g h1 _ => ⟨h1.1.1, fun e => ?_⟩)
    rcases hw with hw | hw
    · rw [hw] at e; exact h1.1.2 e
    · rw [hw] at e; injection e with e; have := h1.2; omega
  refine RepT.app ?_ r7
  obtain ⟨cs2, k1, k2⟩ := hs
  have hlt : ∀ g, M ≤ g → g < w.heap.size → v'.ownBlock ≠ some g := fun g h1 h2 e => by
    rcases hw with hw | hw
    · rw [hw] at e; have := hvM g e; omega
    · rw [hw] at e; injection e with e; omega
  have k1' := k1.mono (ok' := fun g => M ≤ g ∧ g < w.heap.size) (fun g h1 h2 => ⟨h1, h2⟩)
  have k2' := k2.mono (ok' := fun g => M ≤ g ∧ g < w.heap.size) (fun g h1 h2 => ⟨h1, h2⟩)
  refine ⟨cs2, ?_, ?_⟩
  · exact ((k1'.keep (fun g _ hg' => Below.block hbl g hg') hbl.size).keep (fun g h1 hg' => keep g hg' (fun e => by have := hvM g e; omega)) hg.size).mono (fun g h1 _ => ⟨by omega, hlt g h1.1 h1.2⟩)
  · exact ((k2'.keep (fun g _ hg' => Below.block hbl g hg') hbl.size (Kx.bl hbl)).keep (fun g h1 hg' => keep g hg' (fun e => by have := hvM g e; omega)) hg.size hkx).mono (fun g h1 _ => ⟨by omega, hlt g h1.1 h1.2⟩)
end Go.Proofs.YtococaecjecjgaaGreatDoor.tr
namespace Go.Proofs.YtococaecjecjgaaGreatDoor.tr
set_option linter.unusedVariables false
open Go.ChangeShapes Go.WideShapes Go.ChangeAt Go.RowKit Go.Shelf
open mem lx ex tm

def RtA (s : ByteArray) (w : World) (e : Ending) (w' : World) : Prop :=
  Bl w w' ∧ match prT (L s) with
  | .ok l => ∃ v, e = .returned (.tuple #[v, flt 0 (-1)]) ∧ IsTs w' (fun g => w.heap.size ≤ g) v l
  | .error (c, p) => e = .returned (.tuple #[.slice none 0 0, flt c (p : Int)]) ∧ c ≠ 0
theorem RtA.bad {s : ByteArray} {w w' : World} {c : Int} {p : Nat} (hb : Bl w w') (hq : prT (L s) = .error (c, p)) (hc : c ≠ 0) : RtA s w (.returned (.tuple #[.slice none 0 0, flt c (p : Int)])) w' := by
  refine ⟨hb, ?_⟩
  rw [hq]
  exact ⟨rfl, hc⟩
def lenV' (v : Value) : Nat := match v with | .slice _ n _ => n | _ => 0
set_option maxRecDepth 10000 in
set_option maxHeartbeats 4000000 in
theorem TParse_at (s : ByteArray) (w : World) (hs : s.size ≤ 3000) (hm : Ml w) (hMw : 4 < w.heap.size) :
    Calls Tryz.prog 17 #[.string s] w fun e w' => RtA s w e w' := by
  have cX := fun w => newEyes_at s w hs
  have HM0 : Hid (Ml w ∧ 4 < w.heap.size) := ⟨hm, hMw⟩
  clear hm hMw
  go_enter Tryz.func17, Tryz.ntmps17
  go_wp2_with fail
  refine (cX _).mono ?_
  rintro e w2 ⟨hb2, P, hP, ⟨h1, rfl, hE⟩ | ⟨p, h1, rfl⟩⟩
  · have hF := Fl.made (c := 0) (p := -1) hb2
    have hPs := hE.lt
    have hPM : w.heap.size < P := by simp at hP; omega
    obtain ⟨W, hW⟩ : ∃ W, W = w2.alloc (.cells #[.int .i64 0, .int .i64 (-1)] 30) := ⟨_, rfl⟩
    have hbW : Bl w2 W := by rw [hW]; exact (Bl.refl _).alloc _
    obtain ⟨M, hM⟩ : ∃ M, M = w.heap.size := ⟨_, rfl⟩
    obtain ⟨N, hN⟩ : ∃ N, N = w2.heap.size := ⟨_, rfl⟩
    have hMP : M ≠ P := by omega
    have hNP : N ≠ P := by omega
    have hprs : prT (L s) = typs nb s.size 8 (lx (L s) 0).1 := by
      unfold prT
      rw [h1]
      dsimp only
      rw [L_len]
    generalize (lx (L s) 0).1 = ts at hE hprs
    have hEW := hE.step hbW
    rw [← hW, ← hM, ← hN] at hF
    obtain ⟨q, hq⟩ : ∃ q, prT (L s) = q := ⟨_, rfl⟩
    have hMl : Ml W := (HM0.out.1.step ((Bl.refl w).alloc (.cells #[.int .i64 0, .int .i64 0] 30))).step (hb2.trans hbW)
    have HF : Hid (Fl w W M N 0 (-1) ∧ w.heap.size ≤ P ∧ M ≠ P ∧ N ≠ P ∧ prT (L s) = q ∧ P < W.heap.size) := ⟨hF, by omega, hMP, hNP, hq, hEW.lt⟩
    obtain ⟨base, hbase⟩ : ∃ base, base = W.heap.size := ⟨_, rfl⟩
    have H0 : Hid (Bz W W P s.size (.ok ts) base (.slice none 0 0) [] ∧ LfT s.size q (.ok ts) [] 8 ∧ base = W.heap.size) := by
      refine ⟨⟨Gp.refl _ _, hEW, hMl, sr.Own.nil _ _, by have := HM0.out.2; omega, by rw [hbase]; exact hEW.lt, by rw [hbase]; exact Nat.le_refl _, by rw [hbase]; exact Nat.le_refl _⟩, ?_, hbase⟩
      show preT [] (typs nb s.size 8 ts) = q
      rw [← hq, hprs]
      cases typs nb s.size 8 ts with
      | error e => rfl
      | ok x => rfl
    unfold flt
    obtain ⟨g0, g1, m0, m1, z0, z1, hMs, hNs⟩ := hF.cells
    clear hE hEW hF h1 hP hPs hPM hMP hNP cX hb2 hbW hprs hq hMl hbase
    go_wp2_with fail
    rw [← hW, ← hM, ← hN]
    clear hW hM hN
    refine (Is_at 0 (-1) W).mono ?_
    rintro e w3 ⟨rfl, hb3⟩
    have H3 : Hid (Bz W w3 P s.size (.ok ts) base (.slice none 0 0) []) := H0.out.1.bl hb3
    clear hb3 g0 g1 m0 m1 z0 z1 hMs hNs
    have h00 : ((0 : Int) == 0) = true := rfl
    rw [h00]
    go_wp2
    go_loopw [6] (fun v6 wr => ∃ (σ : Sg) (cs : List CT) (l : List Ty) (n : Nat), Hid (Bz W wr P s.size σ base v6 cs ∧ LfT s.size q σ l n ∧ (∀ ts, σ = .ok ts → RepY W wr v6 l cs) ∧ ∀ ts, σ = .ok ts → n + cs.length = 8)) (fun v6 _ => 9 - lenV' v6)
    case atStart => exact ⟨_, [], [], 8, H3.out, H0.out.2.1, fun _ _ => rfl, fun _ _ => rfl⟩
    case round =>
      obtain ⟨σ, cs, l, n, HB⟩ := hrel
      obtain ⟨lp, lc, rfl, hlie⟩ := HB.out.1.own.lie
      obtain ⟨m, hm⟩ : ∃ m, m = cs.length := ⟨_, rfl⟩
      have cS := stop_es wr P s.size σ HB.out.1.es
      have HL : Hid (sr.Lie wr (fun g => base ≤ g) lp cs.length lc cs ∧ m = cs.length) := ⟨hlie, hm⟩
      rw [← hm] at HB ⊢
      clear hlie hm
      cases σ with
      | error x =>
        obtain ⟨xc, xp⟩ := x
        have HA : Hid (q = .error (xc, xp)) := HB.out.2.1
        go_wp2_with fail
        refine cS.mono ?_
        rintro e w4 ⟨rfl, hb4⟩
        have H4 : Hid (Bz W w4 P s.size (.error (xc, xp)) base (.slice lp m lc) cs) := HB.out.1.bl hb4
        have cS4 := stop_es w4 P s.size _ H4.out.es
        clear hb4 cS
        go_wp2_with fail
        refine cS4.mono ?_
        rintro e w5 ⟨rfl, hb5⟩
        have H5 : Hid (Bz W w5 P s.size (.error (xc, xp)) base (.slice lp m lc) cs) := H4.out.bl hb5
        have HF5 : Hid (Fl w w5 M N 0 (-1)) := HF.out.1.gp H5.out.gp HF.out.2.2.1 HF.out.2.2.2.1 HF.out.2.1
        obtain ⟨hxc, us, hEy⟩ := H5.out.es
        obtain ⟨_, e2, e3, eF, _, _⟩ := hEy.cells
        have hPs := hEy.lt
        have HC : Hid (xc ≠ 0) := hxc
        obtain ⟨g0, g1, m0, m1, z0, z1, hMs, hNs⟩ := HF5.out.cells
        clear hb5 cS4 hEy hxc
        go_upto_region 14 with fail
        go_region
        go_wp2
        obtain ⟨k1, k2⟩ := HF5.out.told xc xp
        exact bodyPost_ret (v := .tuple #[.slice none 0 0, flt xc (xp : Int)]) (results_tmp_cell (p := 3) (u := 2) (ty := 30) rfl _ _ _ M (flt xc (xp : Int)) rfl (ldF _ _ _ _ k2)) rfl (RtA.bad (k1.trans ((Bl.refl _).drew)) (HF.out.2.2.2.2.1.trans HA.out) HC.out)
      | ok ts' =>
        go_wp2_with fail
        refine cS.mono ?_
        rintro e w4 ⟨rfl, hb4⟩
        have H4 : Hid (Bz W w4 P s.size (.ok ts') base (.slice lp m lc) cs ∧ Bl wr w4) := ⟨HB.out.1.bl hb4, hb4⟩
        clear hb4 cS
        obtain ⟨sq, sk, c0⟩ := Ey.cell0 H4.out.1.es
        have hPs := H4.out.1.es.lt
        cases ts' with
        | nil =>
          have HA : Hid (q = .ok l) := by have h : preT l (typs nb s.size n []) = q := HB.out.2.1; rw [typs_end] at h; exact h.symm
          rw [show ([] : List Tk).length = 0 from rfl] at c0
          have cS4 := stop_es w4 P s.size _ H4.out.1.es
          have cG : ∀ w, Calls Tryz.prog 21 #[] w fun e w' => e = .returned (.agg #[.int .i64 0, .int .i64 (-1)]) ∧ Bl w w' := Good_at
          go_wp2_with fail
          refine cS4.mono ?_
          rintro e w5 ⟨rfl, hb5⟩
          go_wp2_with fail
          refine (cG _).mono ?_
          rintro e w6 ⟨rfl, hb6⟩
          have H6 : Hid (Bz W w6 P s.size (.ok []) base (.slice lp m lc) cs ∧ Bl w4 w6) := ⟨H4.out.1.bl (hb5.trans hb6), hb5.trans hb6⟩
          have HF6 : Hid (Fl w w6 M N 0 (-1)) := HF.out.1.gp H6.out.1.gp HF.out.2.2.1 HF.out.2.2.2.1 HF.out.2.1
          obtain ⟨g0, g1, m0, m1, z0, z1, hMs, hNs⟩ := HF6.out.cells
          clear hb5 hb6 cS4 cG c0 hPs
          go_wp2
          obtain ⟨k1, k2⟩ := HF6.out.told 0 (-1)
          refine bodyPost_ret (v := .tuple #[.slice lp m lc, flt 0 (-1)]) (results_tmp_cell (p := 3) (u := 2) (ty := 30) rfl _ _ _ M (flt 0 (-1)) rfl (ldF _ _ _ _ k2)) rfl ⟨k1, ?_⟩
          rw [HF.out.2.2.2.2.1, HA.out]
          have hg1 : Gp P wr w6 := Gp.bl (H4.out.2.trans H6.out.2)
          have hg2 : Gp M w6 ((w6.setCell ⟨M, 0, none⟩ (.int .i64 0)).setCell ⟨M, 1, none⟩ (.int .i64 (-1))) := (Gp.set _).trans (Gp.set _)
          have hMW : M < W.heap.size := lt_of_heap HF.out.1.m
          have hrep := RepY.go (HB.out.2.2.1 _ rfl) hg1 HF.out.2.2.2.2.2 (HB.out.1.es.kx hg1)
          have hcl := hrep.len
          have hWw := HF.out.1.bl.size
          have hbase := HB.out.1.ord
          refine ⟨_, rfl, lp, lc, cs, by rw [HL.out.2, hcl], ?_, ?_⟩
          · rw [← hcl]
            exact ((HL.out.1.keep (fun g h1 h2 => hg1.block g h2 (by omega)) hg1.size).keep (fun g h1 h2 => hg2.block g h2 (by omega)) hg2.size).mono (fun g h1 _ => by omega)
          · exact (hrep.keep (fun g h1 h2 => hg2.block g h2 (by omega)) hg2.size (HF6.out.kx 0 (-1))).mono (fun g h1 _ => by omega)
        | cons t r =>
          have hn := HB.out.2.2.2 _ rfl
          obtain ⟨j, hj⟩ : ∃ j, j = r.length := ⟨_, rfl⟩
          rw [show (t :: r).length = j + 1 by rw [hj]; rfl] at c0
          have hpos : (0 : Int) < ((j : Nat) : Int) + 1 := by omega
          have cT := text_es w4 P s.size _ H4.out.1.es
          rw [show seeT s.size (.ok (t :: r)) = t.t from rfl] at cT
          have htl := tl_tx t.t
          obtain ⟨S, hS⟩ : ∃ S, S = tx t.t := ⟨_, rfl⟩
          rw [← hS] at cT htl
          clear hj hS
          go_wp2_with fail
          refine cT.mono ?_
          rintro e w5 ⟨rfl, hb5⟩
          have H5 : Hid (Bz W w5 P s.size (.ok (t :: r)) base (.slice lp m lc) cs ∧ RepY W w5 (.slice lp m lc) l cs) := ⟨H4.out.1.bl hb5, RepY.go (RepY.go (HB.out.2.2.1 _ rfl) (Gp.bl H4.out.2) HF.out.2.2.2.2.2 (Kx.bl H4.out.2)) (Gp.bl hb5) HF.out.2.2.2.2.2 (Kx.bl hb5)⟩
          clear hb5 cT c0 hPs
          by_cases hfull : t.t = wStruct ∧ n = 0
          · have hq1 : (S.toList == [115, 116, 114, 117, 99, 116]) = true := by rw [htl, hfull.1]; rfl
            have hm8 : (8 : Int) ≤ (m : Int) := by omega
            have HQ : Hid (q = .error (4, t.a)) := by
              have h := HB.out.2.1
              rw [hfull.2] at h
              exact h.full hfull.1
            obtain ⟨hf1, hf2⟩ := hfull
            clear htl hf1 hf2
            have cA1 := place_es w5 P s.size _ H5.out.1.es
            go_wp2_with fail
            refine cA1.mono ?_
            rintro e w6 ⟨⟨a1, rfl, ha1⟩, hw6⟩
            obtain rfl := hw6.symm
            have ha2 : a1 = t.a := ha1 _ rfl
            clear ha1 cA1
            have cW := wrong_es w5 P s.size (.ok (t :: r)) 4 a1 (by decide) H5.out.1.es
            rw [show fl 4 a1 (.ok (t :: r)) = (.error (4, a1) : Sg) from rfl] at cW
            have HQ2 : Hid (q = .error (4, a1)) := by rw [ha2]; exact HQ.out
            clear ha2
            go_wp2_with fail
            refine cW.mono ?_
            rintro e w6 ⟨rfl, hE, hg⟩
            have H6 : Hid (Bz W w6 P s.size (.error (4, a1)) base (.slice lp m lc) cs ∧ RepY W w6 (.slice lp m lc) l cs) := ⟨H5.out.1.go hE hg, RepY.go H5.out.2 hg HF.out.2.2.2.2.2 (H5.out.1.es.kx hg)⟩
            clear hE hg cW
            have cM := must_es w6 P s.size _ wStruct (by decide) H6.out.1.es
            go_wp2_with fail
            refine cM.mono ?_
            rintro e wb ⟨rfl, hE, hg⟩
            have Hb : Hid (Bz W wb P s.size (mu s.size wStruct (.error (4, a1))) base (.slice lp m lc) cs ∧ RepY W wb (.slice lp m lc) l cs) := ⟨H6.out.1.go hE hg, RepY.go H6.out.2 hg HF.out.2.2.2.2.2 (H6.out.1.es.kx hg)⟩
            have cA := place_es wb P s.size _ Hb.out.1.es
            clear hE hg cM
            go_wp2_with fail
            refine cA.mono ?_
            rintro e wc ⟨⟨a, rfl, ha⟩, hwc⟩
            obtain rfl := hwc.symm
            have HA : Hid (∀ us, (mu s.size wStruct (.error (4, a1))) = .ok us → a = (hd s.size us).a) := ha
            obtain ⟨T, hT⟩ : ∃ T, T = wb.heap.size := ⟨_, rfl⟩
            obtain ⟨wd, hwd⟩ : ∃ wd, wd = wb.alloc (.cells (clT ⟨[], a, none, 0, 0⟩).toArray 96) := ⟨_, rfl⟩
            have hbd : Bl wb wd := by rw [hwd]; exact (Bl.refl _).alloc _
            have Hd : Hid (Bz W wd P s.size (mu s.size wStruct (.error (4, a1))) base (.slice lp m lc) cs ∧ RepZ W wd (.slice lp m lc) T l cs ∧ wd.heap[T]? = some (.cells (clT ⟨[], a, none, 0, 0⟩).toArray 96 (0, 0)) ∧ base ≤ T ∧ P < T ∧ (∀ k, (Value.slice lp m lc).ownBlock = some k → k < T)) := by
              have h1 := Hb.out.1.ord
              refine ⟨Hb.out.1.bl hbd, (Hb.out.2.mono (fun g h1 h2 => ⟨h1, by omega⟩)).keep (fun g h1 h2 => Below.block hbd g h2) hbd.size (Kx.bl hbd), by rw [hwd, hT]; exact new_at _ _, by omega, by omega, fun k hk => ?_⟩
              have := (Hb.out.1.own.block k hk).2
              omega
            have cN := name_es wd P s.size _ Hd.out.1.es Hd.out.1.ml
            clear ha cA hbd Hb
            go_upto_region 10 with fail
            change Code.wp _ _ _ _ (wb.alloc (.cells (clT ⟨[], a, none, 0, 0⟩).toArray 96))
            rw [← hwd, ← hT]
            clear hwd hT
            go_wp2_with fail
            refine cN.mono ?_
            rintro e we ⟨rfl, hE, hg⟩
            obtain ⟨V, hV⟩ : ∃ V, V = tx (seeT s.size (mu s.size wStruct (.error (4, a1)))) := ⟨_, rfl⟩
            rw [← hV]
            have He : Hid (Bz W we P s.size (nmS s.size (mu s.size wStruct (.error (4, a1)))) base (.slice lp m lc) cs ∧ RepZ W we (.slice lp m lc) T l cs ∧ we.heap[T]? = some (.cells (clT ⟨[], a, none, 0, 0⟩).toArray 96 (0, 0))) := ⟨Hd.out.1.go hE hg, RepZ.go Hd.out.2.1 hg HF.out.2.2.2.2.2 (Hd.out.1.es.kx hg), by rw [hg.block T (lt_of_heap Hd.out.2.2.1) (by have := Hd.out.2.2.2.2.1; omega)]; exact Hd.out.2.2.1⟩
            have y0 : we.cell? ⟨T, 0, none⟩ = some (.string (tx [])) := by rw [cell_of He.out.2.2]; rfl
            have yz : we.frozen? ⟨T, 0, none⟩ = false := by simp [World.frozen?, He.out.2.2]
            have hTs := lt_of_heap He.out.2.2
            obtain ⟨wf, hwf⟩ : ∃ wf, wf = we.setCell ⟨T, 0, none⟩ (.string V) := ⟨_, rfl⟩
            have Hf : Hid (Bz W wf P s.size (nmS s.size (mu s.size wStruct (.error (4, a1)))) base (.slice lp m lc) cs ∧ RepZ W wf (.slice lp m lc) T l cs ∧ wf.heap[T]? = some (.cells (clT ⟨seeT s.size (mu s.size wStruct (.error (4, a1))), a, none, 0, 0⟩).toArray 96 (0, 0))) := by
              have hgs := grown_set we T 0 (.string V)
              have hTT := lt_of_heap He.out.2.2
              rw [hwf]
              refine ⟨He.out.1.put Hd.out.2.2.2.1 (fun k hk => by have := Hd.out.2.2.2.2.2 k hk; omega), He.out.2.1.keep (fun g h1 h2 => hgs.block g h2 (fun e => by injection e with e; omega)) hgs.size ?_, ?_⟩
              · exact fun b cs' hb => by
                  rw [hgs.block b (lt_of_heap hb) (fun e => by injection e with e; subst e; rw [He.out.2.2] at hb; simp at hb)]
                  exact hb
              · rw [hV]
                simp [World.setCell, Array.getElem?_modify, He.out.2.2, clT]
            have cB := block_es 8 wf P s.size 1 (nmS s.size (mu s.size wStruct (.error (4, a1)))) (by omega) Hf.out.1.es Hf.out.1.ml Hf.out.1.ord.1
            clear hE hg cN hV
            go_upto_region 11 with fail
            rw [← hwf]
            clear hwf y0 yz hTs He
            go_wp2_with fail
            refine cB.mono ?_
            rintro e wg ⟨⟨bp, bn, bc, rfl, hl⟩, hE, hg⟩
            have Hg : Hid (Bz W wg P s.size (bkS 8 s.size (nmS s.size (mu s.size wStruct (.error (4, a1))))) base (.slice lp m lc) cs ∧ RepZ W wg (.slice lp m lc) T l cs ∧ wg.heap[T]? = some (.cells (clT ⟨seeT s.size (mu s.size wStruct (.error (4, a1))), a, none, 0, 0⟩).toArray 96 (0, 0)) ∧ (∀ ts l rr, (nmS s.size (mu s.size wStruct (.error (4, a1)))) = .ok ts → blk nb s.size 8 ts = .ok (l, rr) → LV wf.heap.size wg (.slice bp bn bc) l)) := ⟨Hf.out.1.go hE hg, RepZ.go Hf.out.2.1 hg HF.out.2.2.2.2.2 (Hf.out.1.es.kx hg), by rw [hg.block T (lt_of_heap Hf.out.2.2) (by have := Hd.out.2.2.2.2.1; omega)]; exact Hf.out.2.2, hl⟩
            have y2 : wg.cell? ⟨T, 2, none⟩ = some (.slice none 0 0) := by rw [cell_of Hg.out.2.2.1]; rfl
            have yz : wg.frozen? ⟨T, 2, none⟩ = false := by simp [World.frozen?, Hg.out.2.2.1]
            have hTs := lt_of_heap Hg.out.2.2.1
            obtain ⟨wh, hwh⟩ : ∃ wh, wh = wg.setCell ⟨T, 2, none⟩ (.slice bp bn bc) := ⟨_, rfl⟩
            obtain ⟨c, hc⟩ : ∃ c : CT, c = ⟨seeT s.size (mu s.size wStruct (.error (4, a1))), a, bp, bn, bc⟩ := ⟨_, rfl⟩
            have Hh : Hid (Bz W wh P s.size (bkS 8 s.size (nmS s.size (mu s.size wStruct (.error (4, a1))))) base (.slice lp m lc) cs ∧ RepZ W wh (.slice lp m lc) T l cs ∧ wh.heap[T]? = some (.cells (clT c).toArray 96 (0, 0)) ∧ (∀ ts l rr, (nmS s.size (mu s.size wStruct (.error (4, a1)))) = .ok ts → blk nb s.size 8 ts = .ok (l, rr) → LV wf.heap.size wh (.slice bp bn bc) l) ∧ c = ⟨seeT s.size (mu s.size wStruct (.error (4, a1))), a, bp, bn, bc⟩ ∧ T < wf.heap.size ∧ W.heap.size ≤ wf.heap.size) := by
              have hgs := grown_set wg T 2 (.slice bp bn bc)
              have hTf := lt_of_heap Hf.out.2.2
              have hkx : Kx wg (wg.setCell ⟨T, 2, none⟩ (.slice bp bn bc)) := fun b cs' hb => by
                rw [hgs.block b (lt_of_heap hb) (fun e => by injection e with e; subst e; rw [Hg.out.2.2.1] at hb; simp at hb)]
                exact hb
              rw [hwh, hc]
              refine ⟨Hg.out.1.put Hd.out.2.2.2.1 (fun k hk => by have := Hd.out.2.2.2.2.2 k hk; omega), Hg.out.2.1.keep (fun g h1 h2 => hgs.block g h2 (fun e => by injection e with e; omega)) hgs.size hkx, ?_, fun ts l r h1 h2 => ?_, rfl, hTf, Hf.out.1.gp.size⟩
              · simp [World.setCell, Array.getElem?_modify, Hg.out.2.2.1, clT]
              · obtain ⟨p, c, cs, k1, k2, k3⟩ := Hg.out.2.2.2 ts l r h1 h2
                exact ⟨p, c, cs, k1, k2.keep (fun g h1 h2 => hgs.block g h2 (fun e => by injection e with e; omega)) hgs.size, k3.keep (fun g h1 h2 => hgs.block g h2 (fun e => by injection e with e; omega)) hgs.size hkx⟩
            clear hE hg cB hl hc
            go_upto_region 12 with fail
            rw [← hwh]
            clear hwh y2 yz hTs
            have y0 : wh.cell? ⟨T, 0, none⟩ = some (.string (tx c.nm)) := by rw [cell_of Hh.out.2.2.1]; rfl
            have y1 : wh.cell? ⟨T, 1, none⟩ = some (.int .i64 (c.a : Int)) := by rw [cell_of Hh.out.2.2.1]; rfl
            have y2 : wh.cell? ⟨T, 2, none⟩ = some (.slice c.p c.n c.c) := by rw [cell_of Hh.out.2.2.1]; rfl
            have hTs := lt_of_heap Hh.out.2.2.1
            obtain ⟨wi, hwi⟩ : ∃ wi, wi = wh.alloc (.cells (clT c).toArray 96) := ⟨_, rfl⟩
            have hbi : Bl wh wi := by rw [hwi]; exact (Bl.refl _).alloc _
            obtain ⟨X, hX⟩ : ∃ X, X = wh.heap.size := ⟨_, rfl⟩
            have hXi : wi.heap[X]? = some (.cells (clT c).toArray 96 (0, 0)) := by rw [hwi, hX]; exact new_at _ _
            have hown := Hh.out.1.own.bl hbi
            have hcells : ∀ j u, (clT c)[j]? = some u → wi.cell? ((⟨X, 0, none⟩ : Addr).add j) = some u := fun j u hu => by
              rw [Addr.add_lit, Nat.zero_add, cell_of hXi]; simpa using hu
            have hbw : base ≤ wi.heap.size := Nat.le_trans Hh.out.1.ord.2.2.2 hbi.size
            have hcs8 : cs.length ≤ 8 := by have := HL.out.2; omega
            obtain ⟨v', wj, hr, hoj, hgj⟩ := sr.app_one wi base (.slice lp m lc) cs c ⟨X, 0, none⟩ hown hcells (by omega) hbw
            have hwhere := sr_where wi base (.slice lp m lc) cs c ⟨X, 0, none⟩ hown hcells (by omega) v' wj hr
            have HJ : Hid (∃ σ' l' n', Bz W wj P s.size σ' base v' (cs ++ [c]) ∧ LfT s.size q σ' l' n' ∧ (∀ ts, σ' = .ok ts → RepY W wj v' l' (cs ++ [c])) ∧ (∀ ts, σ' = .ok ts → n' + (cs ++ [c]).length = 8)) := by
              have hB := Hh.out.1.app hwi hoj hgj
              exact ⟨.error (4, a1), l, 0, hB, HQ2.out, fun ts h => (by cases h), fun ts h => (by cases h)⟩
            have HV : Hid (lenV' v' = m + 1 ∧ m ≤ 8) := by
              obtain ⟨p8, c8, hv8, _⟩ := hoj.lie
              refine ⟨?_, by have := HL.out.2; omega⟩
              rw [hv8]
              show (cs ++ [c]).length = m + 1
              rw [List.length_append, ← HL.out.2]; rfl
            have HRn : Hid _ := hr
            have hcl : (clT c).toArray = #[.string (tx c.nm), .int .i64 (c.a : Int), .slice c.p c.n c.c] := rfl
            rw [hcl] at hwi
            have hwi' := hwi.symm
            have hX' : wh.heap.size = X := hX.symm
            clear hcl hwi hX hbi hXi hown hcells hbw hr hoj hgj hwhere hcs8 hn
            go_wp2_with (at_builtin; refine Lib.wpList_append_run _ rfl (.tmp 51) (.tmp 53) _ _ rfl _ _ rfl rfl _ _ HRn.out ?_)
            obtain ⟨σ', l', n', h1, h2, h3, h4⟩ := HJ.out
            refine ⟨⟨σ', cs ++ [c], l', n', h1, h2, h3, h4⟩, ?_⟩
            rw [HV.out.1]
            show 9 - (m + 1) < 9 - m
            have := HV.out.2
            omega
          · have HNF : Hid (¬ (t.t = wStruct ∧ n = 0)) := hfull
            cases hq1 : (S.toList == [115, 116, 114, 117, 99, 116]) with
            | true =>
              have hm8 : ¬ (8 : Int) ≤ (m : Int) := by
                have h0 : t.t = wStruct := by rw [htl, beq_iff_eq] at hq1; exact hq1
                have h1 : n ≠ 0 := fun h => hfull ⟨h0, h⟩
                omega
              clear hfull htl
              have cM := must_es w5 P s.size _ wStruct (by decide) H5.out.1.es
              go_wp2_with fail
              refine cM.mono ?_
              rintro e wb ⟨rfl, hE, hg⟩
              have Hb : Hid (Bz W wb P s.size (mu s.size wStruct (.ok (t :: r))) base (.slice lp m lc) cs ∧ RepY W wb (.slice lp m lc) l cs) := ⟨H5.out.1.go hE hg, RepY.go H5.out.2 hg HF.out.2.2.2.2.2 (H5.out.1.es.kx hg)⟩
              have cA := place_es wb P s.size _ Hb.out.1.es
              clear hE hg cM
              go_wp2_with fail
              refine cA.mono ?_
              rintro e wc ⟨⟨a, rfl, ha⟩, hwc⟩
              obtain rfl := hwc.symm
              have HA : Hid (∀ us, (mu s.size wStruct (.ok (t :: r))) = .ok us → a = (hd s.size us).a) := ha
              obtain ⟨T, hT⟩ : ∃ T, T = wb.heap.size := ⟨_, rfl⟩
              obtain ⟨wd, hwd⟩ : ∃ wd, wd = wb.alloc (.cells (clT ⟨[], a, none, 0, 0⟩).toArray 96) := ⟨_, rfl⟩
              have hbd : Bl wb wd := by rw [hwd]; exact (Bl.refl _).alloc _
              have Hd : Hid (Bz W wd P s.size (mu s.size wStruct (.ok (t :: r))) base (.slice lp m lc) cs ∧ RepZ W wd (.slice lp m lc) T l cs ∧ wd.heap[T]? = some (.cells (clT ⟨[], a, none, 0, 0⟩).toArray 96 (0, 0)) ∧ base ≤ T ∧ P < T ∧ (∀ k, (Value.slice lp m lc).ownBlock = some k → k < T)) := by
                have h1 := Hb.out.1.ord
                refine ⟨Hb.out.1.bl hbd, (Hb.out.2.mono (fun g h1 h2 => ⟨h1, by omega⟩)).keep (fun g h1 h2 => Below.block hbd g h2) hbd.size (Kx.bl hbd), by rw [hwd, hT]; exact new_at _ _, by omega, by omega, fun k hk => ?_⟩
                have := (Hb.out.1.own.block k hk).2
                omega
              have cN := name_es wd P s.size _ Hd.out.1.es Hd.out.1.ml
              clear ha cA hbd Hb
              go_upto_region 10 with fail
              change Code.wp _ _ _ _ (wb.alloc (.cells (clT ⟨[], a, none, 0, 0⟩).toArray 96))
              rw [← hwd, ← hT]
              clear hwd hT
              go_wp2_with fail
              refine cN.mono ?_
              rintro e we ⟨rfl, hE, hg⟩
              obtain ⟨V, hV⟩ : ∃ V, V = tx (seeT s.size (mu s.size wStruct (.ok (t :: r)))) := ⟨_, rfl⟩
              rw [← hV]
              have He : Hid (Bz W we P s.size (nmS s.size (mu s.size wStruct (.ok (t :: r)))) base (.slice lp m lc) cs ∧ RepZ W we (.slice lp m lc) T l cs ∧ we.heap[T]? = some (.cells (clT ⟨[], a, none, 0, 0⟩).toArray 96 (0, 0))) := ⟨Hd.out.1.go hE hg, RepZ.go Hd.out.2.1 hg HF.out.2.2.2.2.2 (Hd.out.1.es.kx hg), by rw [hg.block T (lt_of_heap Hd.out.2.2.1) (by have := Hd.out.2.2.2.2.1; omega)]; exact Hd.out.2.2.1⟩
              have y0 : we.cell? ⟨T, 0, none⟩ = some (.string (tx [])) := by rw [cell_of He.out.2.2]; rfl
              have yz : we.frozen? ⟨T, 0, none⟩ = false := by simp [World.frozen?, He.out.2.2]
              have hTs := lt_of_heap He.out.2.2
              obtain ⟨wf, hwf⟩ : ∃ wf, wf = we.setCell ⟨T, 0, none⟩ (.string V) := ⟨_, rfl⟩
              have Hf : Hid (Bz W wf P s.size (nmS s.size (mu s.size wStruct (.ok (t :: r)))) base (.slice lp m lc) cs ∧ RepZ W wf (.slice lp m lc) T l cs ∧ wf.heap[T]? = some (.cells (clT ⟨seeT s.size (mu s.size wStruct (.ok (t :: r))), a, none, 0, 0⟩).toArray 96 (0, 0))) := by
                have hgs := grown_set we T 0 (.string V)
                have hTT := lt_of_heap He.out.2.2
                rw [hwf]
                refine ⟨He.out.1.put Hd.out.2.2.2.1 (fun k hk => by have := Hd.out.2.2.2.2.2 k hk; omega), He.out.2.1.keep (fun g h1 h2 => hgs.block g h2 (fun e => by injection e with e; omega)) hgs.size ?_, ?_⟩
                · exact fun b cs' hb => by
                    rw [hgs.block b (lt_of_heap hb) (fun e => by injection e with e; subst e; rw [He.out.2.2] at hb; simp at hb)]
                    exact hb
                · rw [hV]
                  simp [World.setCell, Array.getElem?_modify, He.out.2.2, clT]
              have cB := block_es 8 wf P s.size 1 (nmS s.size (mu s.size wStruct (.ok (t :: r)))) (by omega) Hf.out.1.es Hf.out.1.ml Hf.out.1.ord.1
              clear hE hg cN hV
              go_upto_region 11 with fail
              rw [← hwf]
              clear hwf y0 yz hTs He
              go_wp2_with fail
              refine cB.mono ?_
              rintro e wg ⟨⟨bp, bn, bc, rfl, hl⟩, hE, hg⟩
              have Hg : Hid (Bz W wg P s.size (bkS 8 s.size (nmS s.size (mu s.size wStruct (.ok (t :: r))))) base (.slice lp m lc) cs ∧ RepZ W wg (.slice lp m lc) T l cs ∧ wg.heap[T]? = some (.cells (clT ⟨seeT s.size (mu s.size wStruct (.ok (t :: r))), a, none, 0, 0⟩).toArray 96 (0, 0)) ∧ (∀ ts l rr, (nmS s.size (mu s.size wStruct (.ok (t :: r)))) = .ok ts → blk nb s.size 8 ts = .ok (l, rr) → LV wf.heap.size wg (.slice bp bn bc) l)) := ⟨Hf.out.1.go hE hg, RepZ.go Hf.out.2.1 hg HF.out.2.2.2.2.2 (Hf.out.1.es.kx hg), by rw [hg.block T (lt_of_heap Hf.out.2.2) (by have := Hd.out.2.2.2.2.1; omega)]; exact Hf.out.2.2, hl⟩
              have y2 : wg.cell? ⟨T, 2, none⟩ = some (.slice none 0 0) := by rw [cell_of Hg.out.2.2.1]; rfl
              have yz : wg.frozen? ⟨T, 2, none⟩ = false := by simp [World.frozen?, Hg.out.2.2.1]
              have hTs := lt_of_heap Hg.out.2.2.1
              obtain ⟨wh, hwh⟩ : ∃ wh, wh = wg.setCell ⟨T, 2, none⟩ (.slice bp bn bc) := ⟨_, rfl⟩
              obtain ⟨c, hc⟩ : ∃ c : CT, c = ⟨seeT s.size (mu s.size wStruct (.ok (t :: r))), a, bp, bn, bc⟩ := ⟨_, rfl⟩
              have Hh : Hid (Bz W wh P s.size (bkS 8 s.size (nmS s.size (mu s.size wStruct (.ok (t :: r))))) base (.slice lp m lc) cs ∧ RepZ W wh (.slice lp m lc) T l cs ∧ wh.heap[T]? = some (.cells (clT c).toArray 96 (0, 0)) ∧ (∀ ts l rr, (nmS s.size (mu s.size wStruct (.ok (t :: r)))) = .ok ts → blk nb s.size 8 ts = .ok (l, rr) → LV wf.heap.size wh (.slice bp bn bc) l) ∧ c = ⟨seeT s.size (mu s.size wStruct (.ok (t :: r))), a, bp, bn, bc⟩ ∧ T < wf.heap.size ∧ W.heap.size ≤ wf.heap.size) := by
                have hgs := grown_set wg T 2 (.slice bp bn bc)
                have hTf := lt_of_heap Hf.out.2.2
                have hkx : Kx wg (wg.setCell ⟨T, 2, none⟩ (.slice bp bn bc)) := fun b cs' hb => by
                  rw [hgs.block b (lt_of_heap hb) (fun e => by injection e with e; subst e; rw [Hg.out.2.2.1] at hb; simp at hb)]
                  exact hb
                rw [hwh, hc]
                refine ⟨Hg.out.1.put Hd.out.2.2.2.1 (fun k hk => by have := Hd.out.2.2.2.2.2 k hk; omega), Hg.out.2.1.keep (fun g h1 h2 => hgs.block g h2 (fun e => by injection e with e; omega)) hgs.size hkx, ?_, fun ts l r h1 h2 => ?_, rfl, hTf, Hf.out.1.gp.size⟩
                · simp [World.setCell, Array.getElem?_modify, Hg.out.2.2.1, clT]
                · obtain ⟨p, c, cs, k1, k2, k3⟩ := Hg.out.2.2.2 ts l r h1 h2
                  exact ⟨p, c, cs, k1, k2.keep (fun g h1 h2 => hgs.block g h2 (fun e => by injection e with e; omega)) hgs.size, k3.keep (fun g h1 h2 => hgs.block g h2 (fun e => by injection e with e; omega)) hgs.size hkx⟩
              clear hE hg cB hl hc
              go_upto_region 12 with fail
              rw [← hwh]
              clear hwh y2 yz hTs
              have y0 : wh.cell? ⟨T, 0, none⟩ = some (.string (tx c.nm)) := by rw [cell_of Hh.out.2.2.1]; rfl
              have y1 : wh.cell? ⟨T, 1, none⟩ = some (.int .i64 (c.a : Int)) := by rw [cell_of Hh.out.2.2.1]; rfl
              have y2 : wh.cell? ⟨T, 2, none⟩ = some (.slice c.p c.n c.c) := by rw [cell_of Hh.out.2.2.1]; rfl
              have hTs := lt_of_heap Hh.out.2.2.1
              obtain ⟨wi, hwi⟩ : ∃ wi, wi = wh.alloc (.cells (clT c).toArray 96) := ⟨_, rfl⟩
              have hbi : Bl wh wi := by rw [hwi]; exact (Bl.refl _).alloc _
              obtain ⟨X, hX⟩ : ∃ X, X = wh.heap.size := ⟨_, rfl⟩
              have hXi : wi.heap[X]? = some (.cells (clT c).toArray 96 (0, 0)) := by rw [hwi, hX]; exact new_at _ _
              have hown := Hh.out.1.own.bl hbi
              have hcells : ∀ j u, (clT c)[j]? = some u → wi.cell? ((⟨X, 0, none⟩ : Addr).add j) = some u := fun j u hu => by
                rw [Addr.add_lit, Nat.zero_add, cell_of hXi]; simpa using hu
              have hbw : base ≤ wi.heap.size := Nat.le_trans Hh.out.1.ord.2.2.2 hbi.size
              have hcs8 : cs.length ≤ 8 := by have := HL.out.2; omega
              obtain ⟨v', wj, hr, hoj, hgj⟩ := sr.app_one wi base (.slice lp m lc) cs c ⟨X, 0, none⟩ hown hcells (by omega) hbw
              have hwhere := sr_where wi base (.slice lp m lc) cs c ⟨X, 0, none⟩ hown hcells (by omega) v' wj hr
              have HJ : Hid (∃ σ' l' n', Bz W wj P s.size σ' base v' (cs ++ [c]) ∧ LfT s.size q σ' l' n' ∧ (∀ ts, σ' = .ok ts → RepY W wj v' l' (cs ++ [c])) ∧ (∀ ts, σ' = .ok ts → n' + (cs ++ [c]).length = 8)) := by
                have hB := Hh.out.1.app hwi hoj hgj
                rcases HB.out.2.1.on (fun h1 h2 => HNF.out ⟨h1, h2⟩) HA.out with ⟨x, q1, q2⟩ | ⟨us, r1, it, r2, q1, q2, q3, q4, q5⟩
                · rw [q2] at hB
                  exact ⟨.error x, l, 0, hB, q1, fun ts h => (by cases h), fun ts h => (by cases h)⟩
                · have hB2 := Hh.out.1
                  rw [q4] at hB hB2
                  have q6 : nmS s.size (mu s.size wStruct (.ok (t :: r))) = .ok r1 := by rw [q1]; exact q2
                  obtain ⟨bp', bc', cs2, k1, k2, k3⟩ := Hh.out.2.2.2.1 r1 it r2 q6 q3
                  injection k1 with k1 k4 k5
                  subst k1 k4 k5
                  have hce := Hh.out.2.2.2.2.1
                  refine ⟨.ok r2, _, n - 1, hB, q5, fun ts h => ?_, fun ts h => ?_⟩
                  · have := RepZ.app (c := c) (it := it) (M := wf.heap.size) hB2 Hh.out.2.1 (by rw [hce]; exact ⟨cs2, k2, k3⟩) Hh.out.2.2.2.2.2.2 (fun k hk => by have := Hd.out.2.2.2.2.2 k hk; have := Hh.out.2.2.2.2.2.1; omega) (Nat.le_of_lt (lt_of_heap Hh.out.2.2.1)) hwi hgj hwhere
                    rw [show c.nm = (hd s.size us).t by rw [hce, q1]; rfl, show c.a = a by rw [hce]] at this
                    exact this
                  · have h0 : n ≠ 0 := fun h0 => by
                      have h5 := q1
                      have h6 : t.t = wStruct := by
                        have h7 : want s.size wStruct (t :: r) = .ok us := h5
                        unfold want at h7
                        split at h7
                        · assumption
                        · cases h7
                      exact HNF.out ⟨h6, h0⟩
                    rw [List.length_append, ← HL.out.2]
                    show n - 1 + (m + 1) = 8
                    omega
              have HV : Hid (lenV' v' = m + 1 ∧ m ≤ 8) := by
                obtain ⟨p8, c8, hv8, _⟩ := hoj.lie
                refine ⟨?_, by have := HL.out.2; omega⟩
                rw [hv8]
                show (cs ++ [c]).length = m + 1
                rw [List.length_append, ← HL.out.2]; rfl
              have HRn : Hid _ := hr
              have hcl : (clT c).toArray = #[.string (tx c.nm), .int .i64 (c.a : Int), .slice c.p c.n c.c] := rfl
              rw [hcl] at hwi
              have hwi' := hwi.symm
              have hX' : wh.heap.size = X := hX.symm
              clear hcl hwi hX hbi hXi hown hcells hbw hr hoj hgj hwhere hcs8 hn
              go_wp2_with (at_builtin; refine Lib.wpList_append_run _ rfl (.tmp 51) (.tmp 53) _ _ rfl _ _ rfl rfl _ _ HRn.out ?_)
              obtain ⟨σ', l', n', h1, h2, h3, h4⟩ := HJ.out
              refine ⟨⟨σ', cs ++ [c], l', n', h1, h2, h3, h4⟩, ?_⟩
              rw [HV.out.1]
              show 9 - (m + 1) < 9 - m
              have := HV.out.2
              omega
            | false =>
              clear hfull htl
              have cM := must_es w5 P s.size _ wStruct (by decide) H5.out.1.es
              go_wp2_with fail
              refine cM.mono ?_
              rintro e wb ⟨rfl, hE, hg⟩
              have Hb : Hid (Bz W wb P s.size (mu s.size wStruct (.ok (t :: r))) base (.slice lp m lc) cs ∧ RepY W wb (.slice lp m lc) l cs) := ⟨H5.out.1.go hE hg, RepY.go H5.out.2 hg HF.out.2.2.2.2.2 (H5.out.1.es.kx hg)⟩
              have cA := place_es wb P s.size _ Hb.out.1.es
              clear hE hg cM
              go_wp2_with fail
              refine cA.mono ?_
              rintro e wc ⟨⟨a, rfl, ha⟩, hwc⟩
              obtain rfl := hwc.symm
              have HA : Hid (∀ us, (mu s.size wStruct (.ok (t :: r))) = .ok us → a = (hd s.size us).a) := ha
              obtain ⟨T, hT⟩ : ∃ T, T = wb.heap.size := ⟨_, rfl⟩
              obtain ⟨wd, hwd⟩ : ∃ wd, wd = wb.alloc (.cells (clT ⟨[], a, none, 0, 0⟩).toArray 96) := ⟨_, rfl⟩
              have hbd : Bl wb wd := by rw [hwd]; exact (Bl.refl _).alloc _
              have Hd : Hid (Bz W wd P s.size (mu s.size wStruct (.ok (t :: r))) base (.slice lp m lc) cs ∧ RepZ W wd (.slice lp m lc) T l cs ∧ wd.heap[T]? = some (.cells (clT ⟨[], a, none, 0, 0⟩).toArray 96 (0, 0)) ∧ base ≤ T ∧ P < T ∧ (∀ k, (Value.slice lp m lc).ownBlock = some k → k < T)) := by
                have h1 := Hb.out.1.ord
                refine ⟨Hb.out.1.bl hbd, (Hb.out.2.mono (fun g h1 h2 => ⟨h1, by omega⟩)).keep (fun g h1 h2 => Below.block hbd g h2) hbd.size (Kx.bl hbd), by rw [hwd, hT]; exact new_at _ _, by omega, by omega, fun k hk => ?_⟩
                have := (Hb.out.1.own.block k hk).2
                omega
              have cN := name_es wd P s.size _ Hd.out.1.es Hd.out.1.ml
              clear ha cA hbd Hb
              go_upto_region 10 with fail
              change Code.wp _ _ _ _ (wb.alloc (.cells (clT ⟨[], a, none, 0, 0⟩).toArray 96))
              rw [← hwd, ← hT]
              clear hwd hT
              go_wp2_with fail
              refine cN.mono ?_
              rintro e we ⟨rfl, hE, hg⟩
              obtain ⟨V, hV⟩ : ∃ V, V = tx (seeT s.size (mu s.size wStruct (.ok (t :: r)))) := ⟨_, rfl⟩
              rw [← hV]
              have He : Hid (Bz W we P s.size (nmS s.size (mu s.size wStruct (.ok (t :: r)))) base (.slice lp m lc) cs ∧ RepZ W we (.slice lp m lc) T l cs ∧ we.heap[T]? = some (.cells (clT ⟨[], a, none, 0, 0⟩).toArray 96 (0, 0))) := ⟨Hd.out.1.go hE hg, RepZ.go Hd.out.2.1 hg HF.out.2.2.2.2.2 (Hd.out.1.es.kx hg), by rw [hg.block T (lt_of_heap Hd.out.2.2.1) (by have := Hd.out.2.2.2.2.1; omega)]; exact Hd.out.2.2.1⟩
              have y0 : we.cell? ⟨T, 0, none⟩ = some (.string (tx [])) := by rw [cell_of He.out.2.2]; rfl
              have yz : we.frozen? ⟨T, 0, none⟩ = false := by simp [World.frozen?, He.out.2.2]
              have hTs := lt_of_heap He.out.2.2
              obtain ⟨wf, hwf⟩ : ∃ wf, wf = we.setCell ⟨T, 0, none⟩ (.string V) := ⟨_, rfl⟩
              have Hf : Hid (Bz W wf P s.size (nmS s.size (mu s.size wStruct (.ok (t :: r)))) base (.slice lp m lc) cs ∧ RepZ W wf (.slice lp m lc) T l cs ∧ wf.heap[T]? = some (.cells (clT ⟨seeT s.size (mu s.size wStruct (.ok (t :: r))), a, none, 0, 0⟩).toArray 96 (0, 0))) := by
                have hgs := grown_set we T 0 (.string V)
                have hTT := lt_of_heap He.out.2.2
                rw [hwf]
                refine ⟨He.out.1.put Hd.out.2.2.2.1 (fun k hk => by have := Hd.out.2.2.2.2.2 k hk; omega), He.out.2.1.keep (fun g h1 h2 => hgs.block g h2 (fun e => by injection e with e; omega)) hgs.size ?_, ?_⟩
                · exact fun b cs' hb => by
                    rw [hgs.block b (lt_of_heap hb) (fun e => by injection e with e; subst e; rw [He.out.2.2] at hb; simp at hb)]
                    exact hb
                · rw [hV]
                  simp [World.setCell, Array.getElem?_modify, He.out.2.2, clT]
              have cB := block_es 8 wf P s.size 1 (nmS s.size (mu s.size wStruct (.ok (t :: r)))) (by omega) Hf.out.1.es Hf.out.1.ml Hf.out.1.ord.1
              clear hE hg cN hV
              go_upto_region 11 with fail
              rw [← hwf]
              clear hwf y0 yz hTs He
              go_wp2_with fail
              refine cB.mono ?_
              rintro e wg ⟨⟨bp, bn, bc, rfl, hl⟩, hE, hg⟩
              have Hg : Hid (Bz W wg P s.size (bkS 8 s.size (nmS s.size (mu s.size wStruct (.ok (t :: r))))) base (.slice lp m lc) cs ∧ RepZ W wg (.slice lp m lc) T l cs ∧ wg.heap[T]? = some (.cells (clT ⟨seeT s.size (mu s.size wStruct (.ok (t :: r))), a, none, 0, 0⟩).toArray 96 (0, 0)) ∧ (∀ ts l rr, (nmS s.size (mu s.size wStruct (.ok (t :: r)))) = .ok ts → blk nb s.size 8 ts = .ok (l, rr) → LV wf.heap.size wg (.slice bp bn bc) l)) := ⟨Hf.out.1.go hE hg, RepZ.go Hf.out.2.1 hg HF.out.2.2.2.2.2 (Hf.out.1.es.kx hg), by rw [hg.block T (lt_of_heap Hf.out.2.2) (by have := Hd.out.2.2.2.2.1; omega)]; exact Hf.out.2.2, hl⟩
              have y2 : wg.cell? ⟨T, 2, none⟩ = some (.slice none 0 0) := by rw [cell_of Hg.out.2.2.1]; rfl
              have yz : wg.frozen? ⟨T, 2, none⟩ = false := by simp [World.frozen?, Hg.out.2.2.1]
              have hTs := lt_of_heap Hg.out.2.2.1
              obtain ⟨wh, hwh⟩ : ∃ wh, wh = wg.setCell ⟨T, 2, none⟩ (.slice bp bn bc) := ⟨_, rfl⟩
              obtain ⟨c, hc⟩ : ∃ c : CT, c = ⟨seeT s.size (mu s.size wStruct (.ok (t :: r))), a, bp, bn, bc⟩ := ⟨_, rfl⟩
              have Hh : Hid (Bz W wh P s.size (bkS 8 s.size (nmS s.size (mu s.size wStruct (.ok (t :: r))))) base (.slice lp m lc) cs ∧ RepZ W wh (.slice lp m lc) T l cs ∧ wh.heap[T]? = some (.cells (clT c).toArray 96 (0, 0)) ∧ (∀ ts l rr, (nmS s.size (mu s.size wStruct (.ok (t :: r)))) = .ok ts → blk nb s.size 8 ts = .ok (l, rr) → LV wf.heap.size wh (.slice bp bn bc) l) ∧ c = ⟨seeT s.size (mu s.size wStruct (.ok (t :: r))), a, bp, bn, bc⟩ ∧ T < wf.heap.size ∧ W.heap.size ≤ wf.heap.size) := by
                have hgs := grown_set wg T 2 (.slice bp bn bc)
                have hTf := lt_of_heap Hf.out.2.2
                have hkx : Kx wg (wg.setCell ⟨T, 2, none⟩ (.slice bp bn bc)) := fun b cs' hb => by
                  rw [hgs.block b (lt_of_heap hb) (fun e => by injection e with e; subst e; rw [Hg.out.2.2.1] at hb; simp at hb)]
                  exact hb
                rw [hwh, hc]
                refine ⟨Hg.out.1.put Hd.out.2.2.2.1 (fun k hk => by have := Hd.out.2.2.2.2.2 k hk; omega), Hg.out.2.1.keep (fun g h1 h2 => hgs.block g h2 (fun e => by injection e with e; omega)) hgs.size hkx, ?_, fun ts l r h1 h2 => ?_, rfl, hTf, Hf.out.1.gp.size⟩
                · simp [World.setCell, Array.getElem?_modify, Hg.out.2.2.1, clT]
                · obtain ⟨p, c, cs, k1, k2, k3⟩ := Hg.out.2.2.2 ts l r h1 h2
                  exact ⟨p, c, cs, k1, k2.keep (fun g h1 h2 => hgs.block g h2 (fun e => by injection e with e; omega)) hgs.size, k3.keep (fun g h1 h2 => hgs.block g h2 (fun e => by injection e with e; omega)) hgs.size hkx⟩
              clear hE hg cB hl hc
              go_upto_region 12 with fail
              rw [← hwh]
              clear hwh y2 yz hTs
              have y0 : wh.cell? ⟨T, 0, none⟩ = some (.string (tx c.nm)) := by rw [cell_of Hh.out.2.2.1]; rfl
              have y1 : wh.cell? ⟨T, 1, none⟩ = some (.int .i64 (c.a : Int)) := by rw [cell_of Hh.out.2.2.1]; rfl
              have y2 : wh.cell? ⟨T, 2, none⟩ = some (.slice c.p c.n c.c) := by rw [cell_of Hh.out.2.2.1]; rfl
              have hTs := lt_of_heap Hh.out.2.2.1
              obtain ⟨wi, hwi⟩ : ∃ wi, wi = wh.alloc (.cells (clT c).toArray 96) := ⟨_, rfl⟩
              have hbi : Bl wh wi := by rw [hwi]; exact (Bl.refl _).alloc _
              obtain ⟨X, hX⟩ : ∃ X, X = wh.heap.size := ⟨_, rfl⟩
              have hXi : wi.heap[X]? = some (.cells (clT c).toArray 96 (0, 0)) := by rw [hwi, hX]; exact new_at _ _
              have hown := Hh.out.1.own.bl hbi
              have hcells : ∀ j u, (clT c)[j]? = some u → wi.cell? ((⟨X, 0, none⟩ : Addr).add j) = some u := fun j u hu => by
                rw [Addr.add_lit, Nat.zero_add, cell_of hXi]; simpa using hu
              have hbw : base ≤ wi.heap.size := Nat.le_trans Hh.out.1.ord.2.2.2 hbi.size
              have hcs8 : cs.length ≤ 8 := by have := HL.out.2; omega
              obtain ⟨v', wj, hr, hoj, hgj⟩ := sr.app_one wi base (.slice lp m lc) cs c ⟨X, 0, none⟩ hown hcells (by omega) hbw
              have hwhere := sr_where wi base (.slice lp m lc) cs c ⟨X, 0, none⟩ hown hcells (by omega) v' wj hr
              have HJ : Hid (∃ σ' l' n', Bz W wj P s.size σ' base v' (cs ++ [c]) ∧ LfT s.size q σ' l' n' ∧ (∀ ts, σ' = .ok ts → RepY W wj v' l' (cs ++ [c])) ∧ (∀ ts, σ' = .ok ts → n' + (cs ++ [c]).length = 8)) := by
                have hB := Hh.out.1.app hwi hoj hgj
                rcases HB.out.2.1.on (fun h1 h2 => HNF.out ⟨h1, h2⟩) HA.out with ⟨x, q1, q2⟩ | ⟨us, r1, it, r2, q1, q2, q3, q4, q5⟩
                · rw [q2] at hB
                  exact ⟨.error x, l, 0, hB, q1, fun ts h => (by cases h), fun ts h => (by cases h)⟩
                · have hB2 := Hh.out.1
                  rw [q4] at hB hB2
                  have q6 : nmS s.size (mu s.size wStruct (.ok (t :: r))) = .ok r1 := by rw [q1]; exact q2
                  obtain ⟨bp', bc', cs2, k1, k2, k3⟩ := Hh.out.2.2.2.1 r1 it r2 q6 q3
                  injection k1 with k1 k4 k5
                  subst k1 k4 k5
                  have hce := Hh.out.2.2.2.2.1
                  refine ⟨.ok r2, _, n - 1, hB, q5, fun ts h => ?_, fun ts h => ?_⟩
                  · have := RepZ.app (c := c) (it := it) (M := wf.heap.size) hB2 Hh.out.2.1 (by rw [hce]; exact ⟨cs2, k2, k3⟩) Hh.out.2.2.2.2.2.2 (fun k hk => by have := Hd.out.2.2.2.2.2 k hk; have := Hh.out.2.2.2.2.2.1; omega) (Nat.le_of_lt (lt_of_heap Hh.out.2.2.1)) hwi hgj hwhere
                    rw [show c.nm = (hd s.size us).t by rw [hce, q1]; rfl, show c.a = a by rw [hce]] at this
                    exact this
                  · have h0 : n ≠ 0 := fun h0 => by
                      have h5 := q1
                      have h6 : t.t = wStruct := by
                        have h7 : want s.size wStruct (t :: r) = .ok us := h5
                        unfold want at h7
                        split at h7
                        · assumption
                        · cases h7
                      exact HNF.out ⟨h6, h0⟩
                    rw [List.length_append, ← HL.out.2]
                    show n - 1 + (m + 1) = 8
                    omega
              have HV : Hid (lenV' v' = m + 1 ∧ m ≤ 8) := by
                obtain ⟨p8, c8, hv8, _⟩ := hoj.lie
                refine ⟨?_, by have := HL.out.2; omega⟩
                rw [hv8]
                show (cs ++ [c]).length = m + 1
                rw [List.length_append, ← HL.out.2]; rfl
              have HRn : Hid _ := hr
              have hcl : (clT c).toArray = #[.string (tx c.nm), .int .i64 (c.a : Int), .slice c.p c.n c.c] := rfl
              rw [hcl] at hwi
              have hwi' := hwi.symm
              have hX' : wh.heap.size = X := hX.symm
              clear hcl hwi hX hbi hXi hown hcells hbw hr hoj hgj hwhere hcs8 hn
              go_wp2_with (at_builtin; refine Lib.wpList_append_run _ rfl (.tmp 51) (.tmp 53) _ _ rfl _ _ rfl rfl _ _ HRn.out ?_)
              obtain ⟨σ', l', n', h1, h2, h3, h4⟩ := HJ.out
              refine ⟨⟨σ', cs ++ [c], l', n', h1, h2, h3, h4⟩, ?_⟩
              rw [HV.out.1]
              show 9 - (m + 1) < 9 - m
              have := HV.out.2
              omega

  · have hF := Fl.made (c := 3) (p := (p : Int)) hb2
    have HP : Hid (prT (L s) = .error (3, p)) := by show prT (L s) = _; unfold prT; rw [h1]
    obtain ⟨W, hW⟩ : ∃ W, W = w2.alloc (.cells #[.int .i64 3, .int .i64 (p : Int)] 30) := ⟨_, rfl⟩
    obtain ⟨M, hM⟩ : ∃ M, M = w.heap.size := ⟨_, rfl⟩
    obtain ⟨N, hN⟩ : ∃ N, N = w2.heap.size := ⟨_, rfl⟩
    rw [← hW, ← hM, ← hN] at hF
    have HF : Hid (Fl w W M N 3 (p : Int)) := hF
    unfold flt
    clear hF h1 cX hb2
    go_wp2_with fail
    rw [← hW, ← hM, ← hN]
    clear hW hM hN
    refine (Is_at 3 (p : Int) W).mono ?_
    rintro e w3 ⟨rfl, hb3⟩
    have HF3 : Hid (Fl w w3 M N 3 (p : Int)) := HF.out.step hb3
    obtain ⟨g0, g1, m0, m1, z0, z1, hMs, hNs⟩ := HF3.out.cells
    clear hb3
    have h00 : ((3 : Int) == 0) = false := rfl
    rw [h00]
    go_upto_region 3 with fail
    go_region
    go_wp2
    obtain ⟨k1, k2⟩ := HF3.out.told 3 (p : Int)
    exact bodyPost_ret (v := .tuple #[.slice none 0 0, flt 3 (p : Int)]) (results_tmp_cell (p := 3) (u := 2) (ty := 30) rfl _ _ _ M (flt 3 (p : Int)) rfl (ldF _ _ _ _ k2)) rfl (RtA.bad (k1.trans ((Bl.refl _).drew)) HP.out (by decide))
end Go.Proofs.YtococaecjecjgaaGreatDoor.tr
