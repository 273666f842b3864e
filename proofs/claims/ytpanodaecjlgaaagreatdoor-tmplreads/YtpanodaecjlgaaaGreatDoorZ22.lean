/- Texts laid together: Ty7, TyQ, TmM, TyR. -/
import Derived.Test.YtpanodaecjlgaaaGreatDoorZ21
import Derived.Test.YtpanodaecjlgaaaGreatDoorZ13
/- Whether templates fit together: an item that has a name. -/
namespace Go.Proofs.YtpanodaecjlgaaaGreatDoor.tm
set_option linter.unusedVariables false
open Go.ChangeShapes Go.WideShapes Go.ChangeAt Go.RowKit Go.Shelf
open mem lx ex

theorem SetM.block {w : World} {b k : Nat} {S : List (List UInt8)} (h : SetM w b S k) : ∃ es clock, w.heap[b]? = some (.map es clock) := by
  obtain ⟨f, c, ⟨D, ⟨es, clock, h1, _⟩, _⟩, _⟩ := h
  exact ⟨es, clock, h1⟩
/-- Expressions stay when a map changes. -/
theorem Kx.map {w w' : World} {b k : Nat} {S : List (List UInt8)} (h : SetM w b S k) (hg : w.grownBy w' (some b)) : Kx w w' := fun x cs hx => by
  rw [hg.block x (lt_of_heap hx) (fun e => by
    injection e with e
    subst e
    obtain ⟨es, clock, hb⟩ := h.block
    rw [hx] at hb
    cases hb)]
  exact hx
theorem below_grown {B b : Nat} {w0 w w' : World} (h : Below B w0 w) (hg : w.grownBy w' (some b)) (hB : B ≤ b) (hs : B ≤ w.heap.size) : Below B w0 w' := ⟨hg.os.trans h.os, hg.tape.trans h.tape, hg.output.trans h.output, Nat.le_trans h.size hg.size, fun k hk => by
  rw [hg.block k (by omega) (fun e => by injection e with e; omega)]
  exact h.block k hk⟩
/-- One who looks at a struct. -/
structure Ck (w : World) (K eb nb' sb : Nat) (earl names seen : List (List UInt8)) (ke kn ks : Nat) : Prop where
  h : w.heap[K]? = some (.cells #[.map (some eb), .map (some nb'), .map (some sb)] 92 (0, 0))
  e : SetM w eb earl ke
  n : SetM w nb' names kn
  s : SetM w sb seen ks
  d1 : eb ≠ nb'
  d2 : eb ≠ sb
  d3 : nb' ≠ sb
theorem Ck.bl {w w' : World} {K eb nb' sb : Nat} {earl names seen : List (List UInt8)} {ke kn ks : Nat} (h : Ck w K eb nb' sb earl names seen ke kn ks) (hb : Bl w w') : Ck w' K eb nb' sb earl names seen ke kn ks :=
  ⟨by rw [Below.block hb K (lt_of_heap h.h)]; exact h.h, h.e.bl hb, h.n.bl hb, h.s.bl hb, h.d1, h.d2, h.d3⟩
theorem Ck.ne {w : World} {K eb nb' sb : Nat} {earl names seen : List (List UInt8)} {ke kn ks : Nat} (h : Ck w K eb nb' sb earl names seen ke kn ks) : K ≠ nb' ∧ K ≠ sb := by
  refine ⟨fun e => ?_, fun e => ?_⟩
  · obtain ⟨es, clock, hb⟩ := h.n.block
    rw [← e, h.h] at hb; cases hb
  · obtain ⟨es, clock, hb⟩ := h.s.block
    rw [← e, h.h] at hb; cases hb
theorem Ck.cells {w : World} {K eb nb' sb : Nat} {earl names seen : List (List UInt8)} {ke kn ks : Nat} (h : Ck w K eb nb' sb earl names seen ke kn ks) : w.cell? ⟨K, 0, none⟩ = some (.map (some eb)) ∧ w.cell? ⟨K, 1, none⟩ = some (.map (some nb')) ∧ w.cell? ⟨K, 2, none⟩ = some (.map (some sb)) := by
  have := h.h
  exact ⟨by rw [cell_of this]; rfl, by rw [cell_of this]; rfl, by rw [cell_of this]; rfl⟩
/-- A name more. -/
theorem Ck.putN {w w' : World} {K eb nb' sb : Nat} {earl names seen names' : List (List UInt8)} {ke kn ks kn' : Nat} (h : Ck w K eb nb' sb earl names seen ke kn ks) (hg : w.grownBy w' (some nb')) (hn : SetM w' nb' names' kn') : Ck w' K eb nb' sb earl names' seen ke kn' ks :=
  ⟨by rw [hg.block K (lt_of_heap h.h) (fun e => by injection e with e; exact h.ne.1 e)]; exact h.h, h.e.step hg (fun e => by injection e with e; exact h.d1 e), hn, h.s.step hg (fun e => by injection e with e; exact h.d3 e.symm), h.d1, h.d2, h.d3⟩
theorem Ck.putS {w w' : World} {K eb nb' sb : Nat} {earl names seen seen' : List (List UInt8)} {ke kn ks ks' : Nat} (h : Ck w K eb nb' sb earl names seen ke kn ks) (hg : w.grownBy w' (some sb)) (hn : SetM w' sb seen' ks') : Ck w' K eb nb' sb earl names seen' ke kn ks' :=
  ⟨by rw [hg.block K (lt_of_heap h.h) (fun e => by injection e with e; exact h.ne.2 e)]; exact h.h, h.e.step hg (fun e => by injection e with e; exact h.d2 e), h.n.step hg (fun e => by injection e with e; exact h.d3 e), hn, h.d1, h.d2, h.d3⟩
/-- What looking at an item, or at a block, does. -/
def DoneA (B : Nat) (w : World) (q : Option (Int × Nat)) (P : World → Prop) (e : Ending) (w' : World) : Prop := Below B w w' ∧ Kx w w' ∧ match q with
  | none => e = .returned (.tuple #[]) ∧ P w'
  | some (c, p) => ∃ A : Nat, e = thrownY A ∧ B ≤ A ∧ AtX w' A c (p : Int)
theorem DoneA.of_thr {B : Nat} {w w1 w' : World} {q : Option (Int × Nat)} {P : World → Prop} {c : Int} {p : Nat} {e : Ending} (hq : q = some (c, p)) (hb : Below B w w1) (hx : Kx w w1) (hs : B ≤ w1.heap.size) (h : ThrY w1 c (p : Int) e w') : DoneA B w q P e w' := by
  obtain ⟨A, h1, h2, h3, h4⟩ := h
  refine ⟨hb.trans (h4.mono hs), hx.trans (Kx.bl h4), ?_⟩
  rw [hq]
  exact ⟨A, h1, by omega, h3⟩
/-- What is seen behind an item. -/
def seenN (seen : List (List UInt8)) (d : D) : List (List UInt8) := if d.kd = 1 ∧ d.mn = false then d.nm :: seen else seen
theorem itemW_is (earl names seen : List (List UInt8)) (d : D) : (d.nm ∈ names → itemW earl names seen d = some (9, d.at_)) ∧ (d.nm ∉ names → (d.kd = 3 → d.ty ∉ earl → itemW earl names seen d = some (7, d.at_)) ∧ (¬ (d.kd = 3 ∧ d.ty ∉ earl) → itemW earl names seen d = (misO seen d.ct).map fun p => (5, p))) := by
  unfold itemW
  exact ⟨fun h => by rw [if_pos h], fun h => ⟨fun h3 h4 => by rw [if_neg h, if_pos ⟨h3, h4⟩], fun h3 => by rw [if_neg h, if_neg h3]⟩⟩
set_option maxRecDepth 10000 in
set_option maxHeartbeats 4000000 in
theorem itemY_at (w : World) (B K eb nb' sb : Nat) (earl names seen : List (List UInt8)) (ke kn ks : Nat) (x : C) (h : Ck w K eb nb' sb earl names seen ke kn ks) (hB1 : B ≤ nb') (hB2 : B ≤ sb) (hBw : B ≤ w.heap.size) (hk : kn ≤ 4000 ∧ ks ≤ 4000)
    (hx : IsO w x.pc x.d.ct) (ho : ∀ e, x.d.ct = some e → Okb e) (h1 : x.d.nm.length ≤ 5000) (h2 : x.d.ty.length ≤ 5000) (ha : x.d.at_ ≤ 100000) :
    Calls Tryz.prog 66 #[.pointer (some ⟨K, 0, none⟩), itV x] w fun e w' => DoneA B w (itemW earl names seen x.d) (fun w' => Ck w' K eb nb' sb earl (x.d.nm :: names) (seenN seen x.d) ke (kn + 1) (ks + 1)) e w' := by
  obtain ⟨w1, hw1⟩ : ∃ w1, w1 = w.alloc (.cells (cl x).toArray 75) := ⟨_, rfl⟩
  obtain ⟨N, hN⟩ : ∃ N, N = w.heap.size := ⟨_, rfl⟩
  have hv : Iv w1 N x := ⟨by rw [hw1, hN]; exact new_at _ _⟩
  have hb1 : Bl w w1 := by rw [hw1]; exact (Bl.refl _).alloc _
  obtain ⟨o1, o2⟩ := itemW_is earl names seen x.d
  obtain ⟨q, hq⟩ : ∃ q, q = itemW earl names seen x.d := ⟨_, rfl⟩
  rw [← hq] at o1 o2 ⊢
  have hc1 := h.bl hb1
  have hnlt := h.n.lt
  have hslt := h.s.lt
  obtain ⟨a0, a1, a2, a3, a4, a5, a6, a7, a8, a9, a10, a11, a12⟩ := hv.facts
  obtain ⟨k0, k1, k2⟩ := hc1.cells
  have d0 := at_bl (Bl.refl w1).drew k0
  have d1 := at_bl (Bl.refl w1).drew k1
  have b2 := at_bl (Bl.refl w1).drew a2
  have hKs := lt_of_heap hc1.h
  obtain ⟨z1, hlk⟩ := hc1.n.look x.d.nm h1
  obtain ⟨z2, hlkd⟩ := (hc1.n.bl (Bl.refl w1).drew).look x.d.nm h1
  have H1 : Hid (Bl w w1 ∧ Ck w1 K eb nb' sb earl names seen ke kn ks ∧ Iv w1 N x ∧ IsO w1 x.pc x.d.ct ∧ N = w.heap.size ∧ q = itemW earl names seen x.d) := ⟨hb1, hc1, hv, hx.keep (Kx.bl hb1), hN, hq⟩
  have cT := ythrow_at (x.d.at_ : Int)
  clear hb1 hc1 hv hx h hq
  unfold itV
  go_enter Tryz.func66, Tryz.ntmps66
  go_upto_region 1 with fail
  change Code.wp _ _ _ _ (w.alloc (.cells (cl x).toArray 75))
  rw [← hw1, ← hN]
  clear hw1 hN
  go_region
  obtain ⟨W, hW⟩ : ∃ W, W = w1.drew := ⟨_, rfl⟩
  have hbW : Bl w1 W := by rw [hW]; exact (Bl.refl _).drew
  have HW : Hid (Bl w W ∧ Ck W K eb nb' sb earl names seen ke kn ks ∧ Iv W N x ∧ IsO W x.pc x.d.ct) := ⟨H1.out.1.trans hbW, H1.out.2.1.bl hbW, H1.out.2.2.1.bl hbW, H1.out.2.2.2.1.keep (Kx.bl hbW)⟩
  have e1 := at_bl hbW a1
  rw [← hW]
  clear hW hbW a0 a1 a2 a3 a4 a5 a6 a7 a8 a9 a10 a11 a12 k0 k1 k2 d0 d1 b2 hlk hlkd hKs
  by_cases hnm : x.d.nm ∈ names
  · have HQ : Hid (q = some (9, x.d.at_)) := o1 hnm
    rw [decide_eq_true hnm]
    clear o1 o2 hnm
    go_wp2_with fail
    refine (cT 9 _).mono ?_
    rintro e w9 hth
    have hfin := DoneA.of_thr (P := fun w' => Ck w' K eb nb' sb earl (x.d.nm :: names) (seenN seen x.d) ke (kn + 1) (ks + 1)) HQ.out (HW.out.1.mono hBw) (Kx.bl HW.out.1) (Nat.le_trans hBw HW.out.1.size) hth
    obtain ⟨A, rfl, _⟩ := hth
    unfold thrownY
    go_wp2
    exact ⟨rfl, hfin⟩
  · obtain ⟨o3, o4⟩ := o2 hnm
    rw [decide_eq_false hnm]
    clear o1 o2 hnm
    have hbD := (Bl.refl W).drew
    have hcD := HW.out.2.1.bl hbD
    obtain ⟨f0, f1, f2, f3, f4, f5, f6, f7, f8, f9, f10, f11, f12⟩ := (HW.out.2.2.1.bl hbD).facts
    obtain ⟨k0, k1, k2⟩ := hcD.cells
    have hKs := lt_of_heap hcD.h
    obtain ⟨w3, hr3, hn3, hg3⟩ := hcD.n.put x.d.nm (x.d.at_ : Int) h1 (by unfold R64; omega) (by omega)
    have hNn : N ≠ nb' := by have h5 := H1.out.2.2.2.2.1; omega
    have H3 : Hid (Below B w w3 ∧ Kx w w3 ∧ Ck w3 K eb nb' sb earl (x.d.nm :: names) seen ke (kn + 1) ks ∧ Iv w3 N x ∧ IsO w3 x.pc x.d.ct ∧ B ≤ w3.heap.size) := by
      have kx := (Kx.bl (HW.out.1.trans hbD)).trans (Kx.map hcD.n hg3)
      refine ⟨below_grown ((HW.out.1.trans hbD).mono hBw) hg3 hB1 (Nat.le_trans hBw (HW.out.1.trans hbD).size), kx, hcD.putN hg3 hn3, ⟨?_⟩, HW.out.2.2.2.keep ((Kx.bl hbD).trans (Kx.map hcD.n hg3)), Nat.le_trans (Nat.le_trans hBw (HW.out.1.trans hbD).size) hg3.size⟩
      rw [hg3.block N (HW.out.2.2.1.bl hbD).lt (fun e => by injection e with e; exact hNn e)]
      exact (HW.out.2.2.1.bl hbD).h
    clear e1 hn3 hg3 hcD hbD hNn f0 f3 f4 f5 f6 f7 f8 f9 f10 f11 f12
    go_upto_region 4 with fail
    go_region
    have hbE := (Bl.refl w3).drew
    have hcE := H3.out.2.2.1.bl hbE
    obtain ⟨f0, f1, f2, f3, f4, f5, f6, f7, f8, f9, f10, f11, f12⟩ := (H3.out.2.2.2.1.bl hbE).facts
    clear k0 k1 k2 hKs hr3
    obtain ⟨k0, k1, k2⟩ := hcE.cells
    have hKs := lt_of_heap hcE.h
    obtain ⟨z3, hlk⟩ := hcE.e.look x.d.ty h2
    obtain ⟨V, hV⟩ : ∃ V, V = w3.drew := ⟨_, rfl⟩
    have HV : Hid (Below B w V ∧ Kx w V ∧ Ck V K eb nb' sb earl (x.d.nm :: names) seen ke (kn + 1) ks ∧ Iv V N x ∧ IsO V x.pc x.d.ct ∧ B ≤ V.heap.size) := by
      rw [hV]
      exact ⟨H3.out.1.trans (hbE.mono H3.out.2.2.2.2.2), H3.out.2.1.trans (Kx.bl hbE), hcE, H3.out.2.2.2.1.bl hbE, H3.out.2.2.2.2.1.keep (Kx.bl hbE), Nat.le_trans H3.out.2.2.2.2.2 hbE.size⟩
    clear hcE hbE f0 f1 f2 f4 f5 f6 f7 f8 f9 f10 f11 f12 k1 k2
    go_upto_region 5 with fail
    go_region
    rw [← hV]
    clear hV hlk f3 k0 hKs
    obtain ⟨v0, v1, _, _, _, _, _, _, v8, _, _, _, _⟩ := HV.out.2.2.2.1.facts
    obtain ⟨inE, hinE⟩ : ∃ b, b = decide (x.d.ty ∈ earl) := ⟨_, rfl⟩
    rw [← hinE]
    by_cases e3 : x.d.kd = 3
    · rw [e3] at v0
      cases inE with
      | false =>
        have HQ : Hid (q = some (7, x.d.at_)) := o3 e3 (of_decide_eq_false hinE.symm)
        clear o3 o4 hinE e3
        go_wp2_with fail
        refine (cT 7 _).mono ?_
        rintro e w9 hth
        have hfin := DoneA.of_thr (P := fun w' => Ck w' K eb nb' sb earl (x.d.nm :: names) (seenN seen x.d) ke (kn + 1) (ks + 1)) HQ.out HV.out.1 HV.out.2.1 HV.out.2.2.2.2.2 hth
        obtain ⟨A, rfl, _⟩ := hth
        unfold thrownY
        go_wp2
        exact ⟨rfl, hfin⟩
      | true =>
        have HQ0 : q = (misO seen x.d.ct).map fun p => (5, p) := o4 (fun hc => hc.2 (of_decide_eq_true hinE.symm))
        clear o3 o4 hinE
        have cA := ask_at V K eb nb' sb ks seen x.pc x.d.ct HV.out.2.2.1.h HV.out.2.2.1.s HV.out.2.2.2.2.1 ho
        obtain ⟨mo, hmo⟩ : ∃ mo, mo = misO seen x.d.ct := ⟨_, rfl⟩
        rw [← hmo] at cA HQ0
        have HQ1 : Hid (q = mo.map fun p => (5, p)) := HQ0
        clear HQ0 hmo
        go_wp2_with fail
        refine cA.mono ?_
        rintro e w5 ⟨hb5, hans⟩
        cases mo with
        | some p0 =>
          obtain ⟨A, rfl, hA1, hA2⟩ := hans
          have hfin : DoneA B w q (fun w' => Ck w' K eb nb' sb earl (x.d.nm :: names) (seenN seen x.d) ke (kn + 1) (ks + 1)) (thrownY A) w5 := by
            refine ⟨HV.out.1.trans (hb5.mono HV.out.2.2.2.2.2), HV.out.2.1.trans (Kx.bl hb5), ?_⟩
            rw [show q = some (5, p0) from HQ1.out]
            exact ⟨A, rfl, Nat.le_trans HV.out.2.2.2.2.2 hA1, hA2⟩
          unfold thrownY
          go_wp2
          exact ⟨rfl, hfin⟩
        | none =>
          dsimp only at hans
          subst hans
          have HQ : Hid (q = none) := HQ1.out
          have H5 : Hid (Below B w w5 ∧ Kx w w5 ∧ Ck w5 K eb nb' sb earl (x.d.nm :: names) seen ke (kn + 1) ks ∧ Iv w5 N x ∧ B ≤ w5.heap.size) := ⟨HV.out.1.trans (hb5.mono HV.out.2.2.2.2.2), HV.out.2.1.trans (Kx.bl hb5), HV.out.2.2.1.bl hb5, HV.out.2.2.2.1.bl hb5, Nat.le_trans HV.out.2.2.2.2.2 hb5.size⟩
          obtain ⟨y0, y1, y2, y3, y4, y5, y6, y7, y8, y9, y10, y11, y12⟩ := H5.out.2.2.2.1.facts
          clear hb5 cA y1 y2 y3 y4 y5 y6 y8 y9 y10 y11 y12 v0 v1 v8
          rw [e3] at y0
          have HSN : Hid (seenN seen x.d = seen) := by show seenN seen x.d = _; unfold seenN; rw [if_neg (fun hc => by omega)]
          clear e3
          have hfin : DoneA B w q (fun w' => Ck w' K eb nb' sb earl (x.d.nm :: names) (seenN seen x.d) ke (kn + 1) (ks + 1)) (.returned (.tuple #[])) w5 := by
            refine ⟨H5.out.1, H5.out.2.1, ?_⟩
            rw [HQ.out]
            refine ⟨rfl, ?_⟩
            have hc := H5.out.2.2.1
            rw [show seenN seen x.d = seen from HSN.out]
            exact ⟨hc.h, hc.e, hc.n, hc.s.mono (Nat.le_succ _), hc.d1, hc.d2, hc.d3⟩
          go_wp2
          go_end0
          exact hfin
    · have e3' : ¬ ((x.d.kd : Int) = 3) := by omega
      have HQ0 : q = (misO seen x.d.ct).map fun p => (5, p) := o4 (fun hc => e3 hc.1)
      clear o3 o4 hinE
      have cA := ask_at V K eb nb' sb ks seen x.pc x.d.ct HV.out.2.2.1.h HV.out.2.2.1.s HV.out.2.2.2.2.1 ho
      obtain ⟨mo, hmo⟩ : ∃ mo, mo = misO seen x.d.ct := ⟨_, rfl⟩
      rw [← hmo] at cA HQ0
      have HQ1 : Hid (q = mo.map fun p => (5, p)) := HQ0
      clear HQ0 hmo
      go_wp2_with fail
      refine cA.mono ?_
      rintro e w5 ⟨hb5, hans⟩
      cases mo with
      | some p0 =>
        obtain ⟨A, rfl, hA1, hA2⟩ := hans
        have hfin : DoneA B w q (fun w' => Ck w' K eb nb' sb earl (x.d.nm :: names) (seenN seen x.d) ke (kn + 1) (ks + 1)) (thrownY A) w5 := by
          refine ⟨HV.out.1.trans (hb5.mono HV.out.2.2.2.2.2), HV.out.2.1.trans (Kx.bl hb5), ?_⟩
          rw [show q = some (5, p0) from HQ1.out]
          exact ⟨A, rfl, Nat.le_trans HV.out.2.2.2.2.2 hA1, hA2⟩
        unfold thrownY
        go_wp2
        exact ⟨rfl, hfin⟩
      | none =>
        dsimp only at hans
        subst hans
        have HQ : Hid (q = none) := HQ1.out
        have H5 : Hid (Below B w w5 ∧ Kx w w5 ∧ Ck w5 K eb nb' sb earl (x.d.nm :: names) seen ke (kn + 1) ks ∧ Iv w5 N x ∧ B ≤ w5.heap.size) := ⟨HV.out.1.trans (hb5.mono HV.out.2.2.2.2.2), HV.out.2.1.trans (Kx.bl hb5), HV.out.2.2.1.bl hb5, HV.out.2.2.2.1.bl hb5, Nat.le_trans HV.out.2.2.2.2.2 hb5.size⟩
        obtain ⟨y0, y1, y2, y3, y4, y5, y6, y7, y8, y9, y10, y11, y12⟩ := H5.out.2.2.2.1.facts
        clear hb5 cA y1 y2 y3 y4 y5 y6 y8 y9 y10 y11 y12 v0 v1 v8
        by_cases e1 : x.d.kd = 1
        · rcases Bool.eq_false_or_eq_true x.d.mn with hmn | hmn
          · rw [e1] at y0
            rw [hmn] at y7
            have HSN : Hid (seenN seen x.d = seen) := by show seenN seen x.d = _; unfold seenN; rw [if_neg (fun hc => by rw [hmn] at hc; cases hc.2)]
            clear e1 hmn
            have hfin : DoneA B w q (fun w' => Ck w' K eb nb' sb earl (x.d.nm :: names) (seenN seen x.d) ke (kn + 1) (ks + 1)) (.returned (.tuple #[])) w5 := by
              refine ⟨H5.out.1, H5.out.2.1, ?_⟩
              rw [HQ.out]
              refine ⟨rfl, ?_⟩
              have hc := H5.out.2.2.1
              rw [show seenN seen x.d = seen from HSN.out]
              exact ⟨hc.h, hc.e, hc.n, hc.s.mono (Nat.le_succ _), hc.d1, hc.d2, hc.d3⟩
            go_wp2
            go_end0
            exact hfin
          · rw [e1] at y0
            rw [hmn] at y7
            have HSN : Hid (seenN seen x.d = x.d.nm :: seen) := by show seenN seen x.d = _; unfold seenN; rw [if_pos ⟨e1, hmn⟩]
            clear e1 hmn
            have hbD := (Bl.refl w5).drew
            have hcD := H5.out.2.2.1.bl hbD
            obtain ⟨f0, f1, f2, f3, f4, f5, f6, f7, f8, f9, f10, f11, f12⟩ := (H5.out.2.2.2.1.bl hbD).facts
            obtain ⟨k0, k1, k2⟩ := hcD.cells
            have hKs := lt_of_heap hcD.h
            obtain ⟨w7, hr7, hn7, hg7⟩ := hcD.s.put x.d.nm 0 h1 (by unfold R64; omega) (by omega)
            have hfin : DoneA B w q (fun w' => Ck w' K eb nb' sb earl (x.d.nm :: names) (seenN seen x.d) ke (kn + 1) (ks + 1)) (.returned (.tuple #[])) w7 := by
              have kx := (H5.out.2.1.trans (Kx.bl hbD)).trans (Kx.map hcD.s hg7)
              refine ⟨below_grown (H5.out.1.trans (hbD.mono H5.out.2.2.2.2)) hg7 hB2 (Nat.le_trans H5.out.2.2.2.2 hbD.size), kx, ?_⟩
              rw [HQ.out]
              refine ⟨rfl, ?_⟩
              rw [show seenN seen x.d = x.d.nm :: seen from HSN.out]
              exact hcD.putS hg7 hn7
            clear hn7 hg7 hcD hbD f0 f1 f3 f4 f5 f6 f7 f8 f9 f10 f11 f12 k0 k1
            go_upto_region 10 with fail
            go_region
            all_goals
              go_wp2
              go_end0
              exact hfin
        · have e1' : ¬ ((x.d.kd : Int) = 1) := by omega
          have HSN : Hid (seenN seen x.d = seen) := by show seenN seen x.d = _; unfold seenN; rw [if_neg (fun hc => e1 hc.1)]
          have hfin : DoneA B w q (fun w' => Ck w' K eb nb' sb earl (x.d.nm :: names) (seenN seen x.d) ke (kn + 1) (ks + 1)) (.returned (.tuple #[])) w5 := by
            refine ⟨H5.out.1, H5.out.2.1, ?_⟩
            rw [HQ.out]
            refine ⟨rfl, ?_⟩
            have hc := H5.out.2.2.1
            rw [show seenN seen x.d = seen from HSN.out]
            exact ⟨hc.h, hc.e, hc.n, hc.s.mono (Nat.le_succ _), hc.d1, hc.d2, hc.d3⟩
          go_wp2
          go_end0
          exact hfin
end Go.Proofs.YtpanodaecjlgaaaGreatDoor.tm
/- Whether templates fit together: items one behind the other (pure). -/
namespace Go.Proofs.YtpanodaecjlgaaaGreatDoor.tm
set_option linter.unusedVariables false
open lx ex

def Its.dr : Its → Nat → Its
  | l, 0 => l
  | .nil, _ + 1 => .nil
  | .cons _ _ t, k + 1 => t.dr k
/-- How many, all together. -/
def tot : Its → Nat
  | .nil => 0
  | .cons _ s t => 1 + tot s + tot t
theorem dr_at (l : Its) : ∀ (j : Nat) (d : D) (s : Its), l.ps[j]? = some (d, s) → l.dr j = .cons d s (l.dr (j + 1)) := by
  induction l with
  | nil => intro j d s h; cases h
  | cons a b t _ it =>
    intro j d s h
    cases j with
    | zero =>
      simp [Its.ps] at h
      obtain ⟨rfl, rfl⟩ := h
      cases t <;> rfl
    | succ j => exact it j d s (by simpa [Its.ps] using h)
theorem dr_all (l : Its) : l.dr l.len = .nil := by
  induction l with
  | nil => rfl
  | cons a b t _ it => exact it
theorem ps_ds (l : Its) : l.ps.map (·.1) = l.ds := by
  induction l with
  | nil => rfl
  | cons a b t _ it => simp [Its.ps, Its.ds, it]
/-- What the names of items that were looked at are. -/
structure Nmd (l : Its) (j : Nat) (names seen names' seen' : List (List UInt8)) : Prop where
  f1 : ∀ y ∈ seen', y ∈ seen ∨ ∃ d ∈ l.ds, d.nm = y
  f2 : ∀ y ∈ seen, y ∈ seen'
  f3 : ∀ y ∈ seen', y ∈ names'
  f4 : ∀ y ∈ names', y ≠ []
  f5 : ∀ k d s, k < j → l.ps[k]? = some (d, s) → d.nm ∉ seen
  f6 : ∀ y ∈ names, y ∈ names'
theorem Nmd.start (l : Its) {names seen : List (List UInt8)} (h1 : ∀ y ∈ seen, y ∈ names) (h2 : ∀ y ∈ names, y ≠ []) : Nmd l 0 names seen names seen :=
  ⟨fun y hy => Or.inl hy, fun y hy => hy, h1, h2, fun k d s hk => by omega, fun y hy => hy⟩
theorem mem_ds {l : Its} {j : Nat} {d : D} {s : Its} (h : l.ps[j]? = some (d, s)) : d ∈ l.ds := by
  rw [← ps_ds]
  exact List.mem_map.2 ⟨(d, s), List.mem_of_getElem? h, rfl⟩
theorem Nmd.item {l : Its} {j : Nat} {names seen names' seen' : List (List UInt8)} (h : Nmd l j names seen names' seen') {d : D} {s : Its} (hj : l.ps[j]? = some (d, s)) (hn : d.nm ≠ []) (hm : d.nm ∉ names') : Nmd l (j + 1) names seen (d.nm :: names') (seenN seen' d) := by
  refine ⟨fun y hy => ?_, fun y hy => ?_, fun y hy => ?_, fun y hy => ?_, fun k e s' hk he => ?_, fun y hy => List.mem_cons_of_mem _ (h.f6 y hy)⟩
  · unfold seenN at hy
    split at hy
    · rw [List.mem_cons] at hy
      rcases hy with rfl | hy
      · exact Or.inr ⟨d, mem_ds hj, rfl⟩
      · exact h.f1 y hy
    · exact h.f1 y hy
  · unfold seenN
    split
    · exact List.mem_cons_of_mem _ (h.f2 y hy)
    · exact h.f2 y hy
  · unfold seenN at hy
    split at hy
    · rw [List.mem_cons] at hy ⊢
      rcases hy with rfl | hy
      · exact Or.inl rfl
      · exact Or.inr (h.f3 y hy)
    · exact List.mem_cons_of_mem _ (h.f3 y hy)
  · rw [List.mem_cons] at hy
    rcases hy with rfl | hy
    · exact hn
    · exact h.f4 y hy
  · rcases Nat.lt_or_ge k j with hkj | hkj
    · exact h.f5 k e s' hkj he
    · obtain rfl : k = j := by omega
      rw [hj] at he
      injection he with he
      injection he with h1 h2
      subst h1
      exact fun hc => hm (h.f3 _ (h.f2 _ hc))
theorem Nmd.when {l : Its} {j : Nat} {names seen names' seen' names2 : List (List UInt8)} (h : Nmd l j names seen names' seen') {d : D} {s : Its} (hj : l.ps[j]? = some (d, s)) (hn : d.nm = []) (hs : ∀ y ∈ names', y ∈ names2) (h4 : ∀ y ∈ names2, y ≠ []) : Nmd l (j + 1) names seen names2 seen' := by
  refine ⟨h.f1, h.f2, fun y hy => hs y (h.f3 y hy), h4, fun k e s' hk he => ?_, fun y hy => hs y (h.f6 y hy)⟩
  rcases Nat.lt_or_ge k j with hkj | hkj
  · exact h.f5 k e s' hkj he
  · obtain rfl : k = j := by omega
    rw [hj] at he
    injection he with he
    injection he with h1 h2
    subst h1
    exact fun hc => h.f4 _ (h.f3 _ (h.f2 _ hc)) hn
/-- What is left when what was seen here is forgotten. -/
theorem Nmd.left {l : Its} {names seen names' seen' : List (List UInt8)} (h : Nmd l l.len names seen names' seen') (y : List UInt8) : y ∈ seen'.filter (fun y => y ∉ (l.ds.take l.len).map D.nm) ↔ y ∈ seen := by
  have el : l.ds.take l.len = l.ds := by rw [← Its.ds_len, List.take_length]
  rw [el, List.mem_filter]
  constructor
  · rintro ⟨h1, h2⟩
    rcases h.f1 y h1 with h3 | ⟨d, h3, rfl⟩
    · exact h3
    · exfalso
      simp only [decide_eq_true_eq] at h2
      exact h2 (List.mem_map.2 ⟨d, h3, rfl⟩)
  · intro hy
    refine ⟨h.f2 y hy, ?_⟩
    simp only [decide_eq_true_eq]
    intro hc
    obtain ⟨d, h3, rfl⟩ := List.mem_map.1 hc
    rw [← ps_ds] at h3
    obtain ⟨e, h4, rfl⟩ := List.mem_map.1 h3
    obtain ⟨k, h5, h6⟩ := List.mem_iff_getElem.1 h4
    exact h.f5 k e.1 e.2 (by rw [← Its.ps_len]; exact h5) (by rw [List.getElem?_eq_getElem h5, h6]) hy
/-- One step of looking at items. -/
theorem chkI_step (earl : List (List UInt8)) {l : Its} {j : Nat} {d : D} {s : Its} (h : l.ps[j]? = some (d, s)) (names seen : List (List UInt8)) :
    (d.kd = 4 → (∀ p, misO seen d.ct = some p → chkI earl (l.dr j) names seen = .error (5, p)) ∧ (misO seen d.ct = none → (∀ e, chkB earl s names seen = .error e → chkI earl (l.dr j) names seen = .error e) ∧ ∀ n2, chkB earl s names seen = .ok n2 → chkI earl (l.dr j) names seen = chkI earl (l.dr (j + 1)) n2 seen)) ∧
    (d.kd ≠ 4 → (∀ e, itemW earl names seen d = some e → chkI earl (l.dr j) names seen = .error e) ∧ (itemW earl names seen d = none → chkI earl (l.dr j) names seen = chkI earl (l.dr (j + 1)) (d.nm :: names) (seenN seen d))) := by
  rw [dr_at l j d s h, chkI]
  refine ⟨fun h4 => ?_, fun h4 => ?_⟩
  · rw [if_pos h4]
    refine ⟨fun p hp => by rw [hp], fun hp => ?_⟩
    rw [hp]
    dsimp only
    unfold chkB
    cases hc : chkI earl s names seen with
    | error e => exact ⟨fun e' he => (by injection he with he; rw [he]), fun n2 hn => (by cases hn)⟩
    | ok n1 =>
      dsimp only
      cases hr : rulesW s.ds with
      | some e => exact ⟨fun e' he => (by injection he with he; rw [he]), fun n2 hn => (by cases hn)⟩
      | none => exact ⟨fun e' he => (by cases he), fun n2 hn => (by injection hn with hn; rw [hn])⟩
  · rw [if_neg h4]
    cases hw : itemW earl names seen d with
    | some e => exact ⟨fun e' he => (by injection he with he; rw [he]), fun hn => (by cases hn)⟩
    | none => exact ⟨fun e' he => (by cases he), fun _ => rfl⟩
theorem chkI_end (earl : List (List UInt8)) (l : Its) (names seen : List (List UInt8)) : chkI earl (l.dr l.len) names seen = .ok names := by
  rw [dr_all, chkI]
theorem firstW_step (g : Nat → D → Option (Int × Nat)) (ds : List D) (i : Nat) (d : D) (h : ds[i]? = some d) : (∀ e, g i d = some e → firstW g i (ds.drop i) = some e) ∧ (g i d = none → firstW g i (ds.drop i) = firstW g (i + 1) (ds.drop (i + 1))) := by
  obtain ⟨hl, he⟩ := List.getElem?_eq_some_iff.1 h
  rw [List.drop_eq_getElem_cons hl, he, firstW]
  exact ⟨fun e hg => by rw [hg], fun hg => by rw [hg]⟩
theorem firstW_end (g : Nat → D → Option (Int × Nat)) (ds : List D) : firstW g ds.length (ds.drop ds.length) = none := by
  rw [List.drop_length]; rfl
theorem tot_step {l : Its} {j : Nat} {d : D} {s : Its} (h : l.ps[j]? = some (d, s)) : tot (l.dr j) = 1 + tot s + tot (l.dr (j + 1)) := by
  rw [dr_at l j d s h, tot]
/-- Places are no further than that. -/
def AtB : Its → Prop
  | .nil => True
  | .cons d s t => d.at_ ≤ 100000 ∧ AtB s ∧ AtB t
theorem AtB.at {l : Its} (h : AtB l) : ∀ (j : Nat) (d : D) (s : Its), l.ps[j]? = some (d, s) → d.at_ ≤ 100000 ∧ AtB s := by
  induction l with
  | nil => intro j d s hj; cases hj
  | cons a b t _ it =>
    intro j d s hj
    cases j with
    | zero => simp [Its.ps] at hj; obtain ⟨rfl, rfl⟩ := hj; exact ⟨h.1, h.2.1⟩
    | succ j => exact it h.2.2 j d s (by simpa [Its.ps] using hj)
end Go.Proofs.YtpanodaecjlgaaaGreatDoor.tm
/- Templates: how much is read, and where it stands (pure). -/
namespace Go.Proofs.YtpanodaecjlgaaaGreatDoor.tm
set_option linter.unusedVariables false
open lx ex

def szO : Option Ex → Nat
  | none => 0
  | some x => sz x
/-- How many tokens items take, at least. -/
def zI : Its → Nat
  | .nil => 1
  | .cons d s t => 2 + szO d.ct + zI s + zI t
theorem tot_le (l : Its) : tot l ≤ zI l := by
  induction l with
  | nil => exact Nat.zero_le _
  | cons d s t is it => rw [tot, zI]; omega
section
variable {en : Nat}
theorem tail_len {ts : List Tk} (h : (hd en ts).t ≠ []) : ts.tail.length + 1 = ts.length := by
  cases ts with
  | nil => exact absurd rfl h
  | cons t r => rfl
theorem name_len {ts r : List Tk} {t : List UInt8} (h : name en ts = .ok (t, r)) : r.length + 1 = ts.length := by
  unfold name at h
  split at h
  · cases h
  · rename_i h1
    split at h
    · cases h
    · injection h with h
      injection h with h3 h4
      rw [← h4]
      refine tail_len (en := en) (fun e => h1 (Or.inr ?_))
      rw [e]; decide
theorem want_len {m : List UInt8} {ts r : List Tk} (hm : m ≠ []) (h : want en m ts = .ok r) : r.length + 1 = ts.length := by
  unfold want at h
  split at h
  · rename_i h1
    injection h with h
    rw [← h]
    exact tail_len (en := en) (by rw [h1]; exact hm)
  · cases h
theorem rx_len {m : List UInt8} {ts r : List Tk} {x : Ex} (hT : TS ts) (h : rx nb en m ts = .ok (x, r)) : sz x + r.length ≤ ts.length := ((nw_all _).1 _ _ _ _ _ hT (rx_is h).1).2
theorem many_len {ts r : List Tk} {x : Ex} (hT : TS ts) (h : many nb en ts = .ok (x, r)) : sz x + 2 + r.length ≤ ts.length := by
  unfold many at h
  split at h
  · cases h
  · rename_i r1 h1
    split at h
    · cases h
    · rename_i x1 r2 h2
      injection h with h
      injection h with h3 h4
      subst h3 h4
      have s1 := want_told h1
      have l1 := want_len (by decide) h1
      have l2 := rx_len (hT.sb s1) h2
      have l3 : r2.tail.length + 1 = r2.length := tail_len (en := en) (by rw [(rx_is h2).2]; decide)
      omega
theorem rule_len {d e : D} {ts r : List Tk} (h : rule en d ts = .ok (e, r)) : r.length ≤ ts.length ∧ e.ct = d.ct := by
  unfold rule at h
  split at h
  · cases h
  · split at h
    · cases h
    · rename_i a r1 h2
      have l1 := name_len h2
      have lt : ts.tail.length ≤ ts.length := by rw [List.length_tail]; omega
      split at h
      · split at h
        · injection h with h; injection h with h4 h5; subst h4 h5
          exact ⟨by omega, rfl⟩
        · split at h
          · cases h
          · rename_i b r2 h4
            have l2 := name_len h4
            injection h with h; injection h with h5 h6; subst h5 h6
            exact ⟨by omega, rfl⟩
      · injection h with h; injection h with h4 h5; subst h4 h5
        exact ⟨by omega, rfl⟩
theorem mark_len {d e : D} {ts r : List Tk} (hT : TS ts) (hd : d.ct = none) (h : mark nb en d ts = .ok (e, r)) : szO e.ct + r.length ≤ ts.length := by
  unfold mark at h
  split at h
  · split at h
    · cases h
    · rename_i x r5 h5
      have l1 := many_len hT h5
      injection h with h; injection h with h6 h7; subst h6 h7
      show sz x + _ ≤ _
      omega
  · split at h
    · obtain ⟨l1, l2⟩ := rule_len h
      rw [l2, hd]
      have : ts.tail.length ≤ ts.length := by rw [List.length_tail]; omega
      show 0 + _ ≤ _
      omega
    · injection h with h; injection h with h6 h7; subst h6 h7
      rw [hd]
      show 0 + _ ≤ _
      omega
theorem kind_len {ts r : List Tk} {d : D} (h : kind en ts = .ok (d, r)) : r.length + 1 = ts.length ∧ d.ct = none := by
  unfold kind at h
  split at h
  · rename_i w o s hn
    injection h with h; injection h with h1 h2; subst h1 h2
    exact ⟨tail_len (en := en) (fun e => by rw [e, show numOf [] = none by decide] at hn; cases hn), rfl⟩
  · split at h
    · cases h
    · rename_i t r' hn
      have l1 := name_len hn
      injection h with h; injection h with h1 h2; subst h1 h2
      exact ⟨l1, rfl⟩
theorem part_len {ts r : List Tk} {e : D} (hT : TS ts) (h : part nb en ts = .ok (e, r)) : 3 + szO e.ct + r.length ≤ ts.length := by
  unfold part at h
  split at h
  · cases h
  · rename_i d1 r1 h1
    obtain ⟨l1, c1⟩ := kind_len h1
    split at h
    · cases h
    · rename_i t r2 h2
      have l2 := name_len h2
      split at h
      · cases h
      · rename_i d3 r3 h3
        have hT2 : TS r2 := by
          have s1 : Sb_ r1 ts := by
            unfold kind at h1
            split at h1
            · injection h1 with h1; injection h1 with _ e2; rw [← e2]; exact sb_tail ts
            · split at h1
              · cases h1
              · rename_i t' r' hn
                injection h1 with h1; injection h1 with _ e2; rw [← e2]; exact (name_told hT hn).2
          exact (hT.sb s1).sb (name_told (hT.sb s1) h2).2
        have l3 := mark_len hT2 (d := { d1 with nm := t }) c1 h3
        split at h
        · cases h
        · rename_i r4 h4
          have l4 := want_len (by decide) h4
          injection h with h; injection h with h5 h6; subst h5 h6
          omega
theorem byts_len {ts r : List Tk} {e : D} (hT : TS ts) (h : byts nb en ts = .ok (e, r)) : 4 + szO e.ct + r.length ≤ ts.length := by
  unfold byts at h
  split at h
  · cases h
  · rename_i t r1 h1
    have l1 := name_len h1
    split at h
    · cases h
    · rename_i x r2 h2
      have l2 := many_len (hT.sb (name_told hT h1).2) h2
      split at h
      · cases h
      · rename_i r3 h3
        have l3 := want_len (by decide) h3
        injection h with h; injection h with h5 h6; subst h5 h6
        show 4 + sz x + _ ≤ _
        omega
/-- Places. -/
def TP (en : Nat) (ts : List Tk) : Prop := en ≤ 100000 ∧ ∀ t ∈ ts, t.a ≤ 100000
theorem TP.sb {r ts : List Tk} (h : TP en ts) (k : Sb_ r ts) : TP en r := ⟨h.1, fun t ht => h.2 t (k t ht)⟩
theorem TP.hd {ts : List Tk} (h : TP en ts) : (hd en ts).a ≤ 100000 := by
  cases ts with
  | nil => exact h.1
  | cons t r => exact h.2 t (by simp)
theorem item_len {k : Nat} {ts r : List Tk} {d : D} {s : Its} (hT : TS ts) (hP : TP en ts) (hi : ∀ ts l r, TS ts → TP en ts → blk nb en k ts = .ok (l, r) → zI l + 1 + r.length ≤ ts.length ∧ AtB l) (h : item nb en (blk nb en k) ts = .ok ((d, s), r)) : 2 + szO d.ct + zI s + r.length ≤ ts.length ∧ d.at_ ≤ 100000 ∧ AtB s := by
  unfold item at h
  split at h
  · rename_i hw
    have l0 : ts.tail.length + 1 = ts.length := tail_len (en := en) (by rw [hw]; decide)
    split at h
    · cases h
    · rename_i x r1 h1
      have l1 := rx_len (hT.sb (sb_tail ts)) h1
      have s1 := (rx_told (hT.sb (sb_tail ts)) h1).2.trans (sb_tail ts)
      split at h
      · cases h
      · rename_i l r2 h2
        obtain ⟨g1, g2⟩ := hi _ _ _ (hT.sb s1) (hP.sb s1) h2
        injection h with h; injection h with h3 h4; injection h3 with h5 h6; subst h5 h6 h4
        refine ⟨?_, hP.hd, g2⟩
        show 2 + sz x + _ + _ ≤ _
        omega
  · split at h
    · rename_i hw
      have l0 : ts.tail.length + 1 = ts.length := tail_len (en := en) (by rw [hw]; decide)
      split at h
      · cases h
      · rename_i d1 r1 h1
        have l1 := byts_len (hT.sb (sb_tail ts)) h1
        injection h with h; injection h with h3 h4; injection h3 with h5 h6; subst h5 h6 h4
        refine ⟨?_, hP.hd, trivial⟩
        show 2 + szO d1.ct + 1 + _ ≤ _
        omega
    · split at h
      · cases h
      · rename_i d1 r1 h1
        have l1 := part_len hT h1
        injection h with h; injection h with h3 h4; injection h3 with h5 h6; subst h5 h6 h4
        refine ⟨?_, hP.hd, trivial⟩
        show 2 + szO d1.ct + 1 + _ ≤ _
        omega
theorem loop_len {k : Nat} (hi : ∀ ts l r, TS ts → TP en ts → blk nb en k ts = .ok (l, r) → zI l + 1 + r.length ≤ ts.length ∧ AtB l) (n : Nat) : ∀ (ts : List Tk) (l : Its) (r : List Tk), TS ts → TP en ts → loop nb en (blk nb en k) n ts = .ok (l, r) → zI l + r.length ≤ ts.length ∧ AtB l := by
  have hnil : ∀ ts : List Tk, (hd en ts).t = [125] → zI .nil + ts.tail.length ≤ ts.length := by
    intro ts h
    have := tail_len (en := en) (ts := ts) (by rw [h]; decide)
    show 1 + _ ≤ _
    omega
  induction n with
  | zero =>
    intro ts l r hT hP h
    rw [loop] at h
    split at h
    · rename_i h0
      injection h with h; injection h with h1 h2; subst h1 h2
      exact ⟨hnil ts h0, trivial⟩
    · cases h
  | succ n ih =>
    intro ts l r hT hP h
    rw [loop] at h
    split at h
    · rename_i h0
      injection h with h; injection h with h1 h2; subst h1 h2
      exact ⟨hnil ts h0, trivial⟩
    · split at h
      · cases h
      · rename_i d s r1 h1
        obtain ⟨g1, g2, g3⟩ := item_len hT hP hi h1
        have s1 := (item_told hT (fun ts l r a b => blk_told k ts l r a b) h1).2.2.2
        split at h
        · cases h
        · rename_i l1 r2 h2
          obtain ⟨k1, k2⟩ := ih _ _ _ (hT.sb s1) (hP.sb s1) h2
          injection h with h; injection h with h3 h4; subst h3 h4
          exact ⟨by rw [zI]; omega, g2, g3, k2⟩
theorem blk_len (k : Nat) : ∀ (ts : List Tk) (l : Its) (r : List Tk), TS ts → TP en ts → blk nb en k ts = .ok (l, r) → zI l + 1 + r.length ≤ ts.length ∧ AtB l := by
  induction k with
  | zero =>
    intro ts l r hT hP h
    rw [blk] at h
    split at h <;> cases h
  | succ k ih =>
    intro ts l r hT hP h
    rw [blk] at h
    split at h
    · rename_i h0
      obtain ⟨g1, g2⟩ := loop_len ih 16 _ _ _ (hT.sb (sb_tail ts)) (hP.sb (sb_tail ts)) h
      have := tail_len (en := en) (ts := ts) (by rw [h0]; decide)
      exact ⟨by omega, g2⟩
    · cases h
def zT (l : List Ty) : Nat := (l.map (fun t => 3 + zI t.l)).sum
theorem typs_len (n : Nat) : ∀ (ts : List Tk) (l : List Ty), TS ts → TP en ts → typs nb en n ts = .ok l → zT l ≤ ts.length ∧ ∀ t ∈ l, t.at_ ≤ 100000 ∧ AtB t.l := by
  induction n with
  | zero =>
    intro ts l hT hP h
    cases ts with
    | nil => cases h; exact ⟨Nat.le_refl _, fun t ht => by cases ht⟩
    | cons t r => rw [typs] at h; split at h <;> cases h
  | succ n ih =>
    intro ts l hT hP h
    cases ts with
    | nil => cases h; exact ⟨Nat.zero_le _, fun t ht => by cases ht⟩
    | cons t r =>
      have s0 : Sb_ r (t :: r) := fun u hu => by simp [hu]
      have hT' := hT.sb s0
      rw [typs] at h
      split at h
      · split at h
        · cases h
        · rename_i m r1 h1
          have l1 := name_len h1
          obtain ⟨n1, s1⟩ := name_told hT' h1
          split at h
          · cases h
          · rename_i it r2 h2
            obtain ⟨g1, g2⟩ := blk_len 8 _ _ _ (hT'.sb s1) ((hP.sb s0).sb s1) h2
            obtain ⟨_, _, _, s2⟩ := blk_told 8 _ _ _ (hT'.sb s1) h2
            split at h
            · cases h
            · rename_i q h3
              obtain ⟨k1, k2⟩ := ih _ _ (hT'.sb (s2.trans s1)) ((hP.sb s0).sb (s2.trans s1)) h3
              injection h with h
              subst h
              refine ⟨?_, fun u hu => ?_⟩
              · unfold zT at k1 ⊢
                rw [List.map_cons, List.sum_cons, List.length_cons]
                show 3 + zI it + _ ≤ _
                omega
              · rw [List.mem_cons] at hu
                rcases hu with rfl | hu
                · exact ⟨(hP.sb s0).hd, g2⟩
                · exact k2 u hu
      · cases h
end
end Go.Proofs.YtpanodaecjlgaaaGreatDoor.tm
/- Whether templates fit together: a block. -/
namespace Go.Proofs.YtpanodaecjlgaaaGreatDoor.tm
set_option linter.unusedVariables false
open Go.ChangeShapes Go.WideShapes Go.ChangeAt Go.RowKit Go.Shelf
open mem lx ex

/-- What looking at a block does. -/
def DoneB (B : Nat) (w : World) (q : Except (Int × Nat) (List (List UInt8))) (P : List (List UInt8) → World → Prop) (e : Ending) (w' : World) : Prop := Below B w w' ∧ Kx w w' ∧ match q with
  | .ok n => e = .returned (.tuple #[]) ∧ P n w'
  | .error (c, p) => ∃ A : Nat, e = thrownY A ∧ B ≤ A ∧ AtX w' A c (p : Int)
theorem DoneB.of_err {B : Nat} {w w' : World} {q : Except (Int × Nat) (List (List UInt8))} {P : List (List UInt8) → World → Prop} {c : Int} {p A : Nat} (hq : q = .error (c, p)) (hb : Below B w w') (hx : Kx w w') (hA : B ≤ A) (h : AtX w' A c (p : Int)) : DoneB B w q P (thrownY A) w' := by
  rw [hq]
  exact ⟨hb, hx, A, rfl, hA, h⟩
def BlkQ (K eb nb' sb : Nat) (earl names seen : List (List UInt8)) (ke kn ks t : Nat) (names' : List (List UInt8)) (w' : World) : Prop := (∀ y ∈ names, y ∈ names') ∧ (∀ y ∈ names', y ≠ []) ∧ ∃ kn' ks', kn' ≤ kn + t ∧ ks' ≤ ks + t ∧ Ck w' K eb nb' sb earl names' seen ke kn' ks'
/-- What a block asks. -/
structure BI (k : Nat) (l : Its) (B K eb nb' sb : Nat) (earl names seen : List (List UInt8)) (ke kn ks n : Nat) (p : Option Addr) (c : Nat) (cs : List C) (w : World) : Prop where
  wi : WI k l
  len : l.len ≤ 16
  at_ : AtB l
  ck : Ck w K eb nb' sb earl names seen ke kn ks
  bn : B ≤ nb'
  bs : B ≤ sb
  bw : B ≤ w.heap.size
  kn : kn + tot l ≤ 4000
  ks : ks + tot l ≤ 4000
  lie : ir.Lie w (fun g => g < B) p n c cs
  rep : Rep w (fun g => g < B) l cs
  sub : ∀ y ∈ seen, y ∈ names
  non : ∀ y ∈ names, y ≠ []
  n : n = l.len
def BlkY (k : Nat) : Prop := ∀ (l : Its) (B K eb nb' sb : Nat) (earl names seen : List (List UInt8)) (ke kn ks n : Nat) (p : Option Addr) (c : Nat) (cs : List C) (w : World), BI k l B K eb nb' sb earl names seen ke kn ks n p c cs w →
  Calls Tryz.prog 44 #[.pointer (some ⟨K, 0, none⟩), .slice p n c] w fun e w' => DoneB B w (chkB earl l names seen) (BlkQ K eb nb' sb earl names seen ke kn ks (tot l)) e w'
/-- How far the items are looked at. -/
structure S1 (l : Its) (B K eb nb' sb : Nat) (earl names seen : List (List UInt8)) (ke kn ks : Nat) (w wr : World) (j : Nat) (names' seen' : List (List UInt8)) (kn' ks' : Nat) : Prop where
  BL : Below B w wr
  kx : Kx w wr
  ck : Ck wr K eb nb' sb earl names' seen' ke kn' ks'
  eq : chkI earl l names seen = chkI earl (l.dr j) names' seen'
  nmd : Nmd l j names seen names' seen'
  kn : kn' + tot (l.dr j) ≤ kn + tot l
  ks : ks' + tot (l.dr j) ≤ ks + tot l
theorem S1.bl {l : Its} {B K eb nb' sb : Nat} {earl names seen : List (List UInt8)} {ke kn ks : Nat} {w wr w' : World} {j : Nat} {names' seen' : List (List UInt8)} {kn' ks' : Nat} (h : S1 l B K eb nb' sb earl names seen ke kn ks w wr j names' seen' kn' ks') (hb : Bl wr w') (hB : B ≤ w.heap.size) : S1 l B K eb nb' sb earl names seen ke kn ks w w' j names' seen' kn' ks' :=
  ⟨h.BL.trans (hb.mono (Nat.le_trans hB h.BL.size)), h.kx.trans (Kx.bl hb), h.ck.bl hb, h.eq, h.nmd, h.kn, h.ks⟩
theorem chkB_err {earl names seen : List (List UInt8)} {l : Its} {e : Int × Nat} (h : chkI earl l names seen = .error e) : chkB earl l names seen = .error e := by unfold chkB; rw [h]
theorem wd_ok {d : D} (h : WD d) : (∀ x, d.ct = some x → Okb x) ∧ d.nm.length ≤ 5000 ∧ d.ty.length ≤ 5000 ∧ (d.kd = 4 → d.nm = []) ∧ (d.kd ≠ 4 → d.nm ≠ []) := by
  have nn : ∀ {t : List UInt8}, NM t → t ≠ [] ∧ t.length ≤ 5000 := fun {t} h => ⟨fun e => by have := h.2.1; rw [e] at this; revert this; decide, by have := h.2.2.1; omega⟩
  rcases h with h | h | h | h
  · obtain ⟨h1, ⟨x, hx, wx⟩, h3, _, _, h6, _⟩ := h
    exact ⟨fun y hy => by rw [hx] at hy; injection hy with hy; rw [← hy]; exact wx.1.okb, by rw [h3]; simp, by rw [h6]; simp, fun _ => h3, fun h4 => absurd h1 h4⟩
  · obtain ⟨h1, hn, ⟨x, hx, wx⟩, _, _, h6, _⟩ := h
    exact ⟨fun y hy => by rw [hx] at hy; injection hy with hy; rw [← hy]; exact wx.1.okb, (nn hn).2, by rw [h6]; simp, fun h4 => by omega, fun _ => (nn hn).1⟩
  · obtain ⟨h1, ht, hn, _, _, _, _, _, _, hm⟩ := h
    refine ⟨fun y hy => ?_, (nn hn).2, (nn ht).2, fun h4 => by omega, fun _ => (nn hn).1⟩
    rcases hm with ⟨_, x, hx, wx⟩ | ⟨_, hx⟩
    · rw [hx] at hy; injection hy with hy; rw [← hy]; exact wx.1.okb
    · rw [hx] at hy; cases hy
  · obtain ⟨h1, ht, _, hn, hm⟩ := h
    refine ⟨fun y hy => ?_, (nn hn).2, by rw [ht]; simp, fun h4 => by omega, fun _ => (nn hn).1⟩
    rcases hm with ⟨_, ⟨x, hx, wx⟩, _⟩ | ⟨_, hx, _⟩
    · rw [hx] at hy; injection hy with hy; rw [← hy]; exact wx.1.okb
    · rw [hx] at hy; cases hy
/-- How far what was seen is forgotten. -/
structure S2 (l : Its) (B K eb nb' sb : Nat) (earl names' seen' : List (List UInt8)) (ke kn' ks' : Nat) (w wr : World) (j : Nat) : Prop where
  BL : Below B w wr
  kx : Kx w wr
  ck : Ck wr K eb nb' sb earl names' (seen'.filter (fun y => y ∉ (l.ds.take j).map D.nm)) ke kn' ks'
theorem S2.step {l : Its} {B K eb nb' sb : Nat} {earl names' seen' : List (List UInt8)} {ke kn' ks' : Nat} {w wr w3 w' : World} {j : Nat} (h : S2 l B K eb nb' sb earl names' seen' ke kn' ks' w wr j) (hb : Bl wr w3) (hB : B ≤ w.heap.size) (hs : B ≤ sb) {d : D} (hd : l.ds[j]? = some d)
    (hn : SetM w' sb ((seen'.filter (fun y => y ∉ (l.ds.take j).map D.nm)).filter (fun y => y ≠ d.nm)) ks') (hg : w3.grownBy w' (some sb)) : S2 l B K eb nb' sb earl names' seen' ke kn' ks' w w' (j + 1) := by
  have hc := h.ck.bl hb
  have hs3 : B ≤ w3.heap.size := Nat.le_trans (Nat.le_trans hB h.BL.size) hb.size
  refine ⟨below_grown (h.BL.trans (hb.mono (Nat.le_trans hB h.BL.size))) hg hs hs3, (h.kx.trans (Kx.bl hb)).trans (Kx.map hc.s hg), hc.putS hg (hn.same (fun y => ?_))⟩
  rw [List.take_add_one, hd, List.map_append]
  simp only [List.mem_filter, List.mem_append, decide_eq_true_eq, Option.toList, List.map_cons, List.map_nil, List.mem_singleton, not_or]
  constructor
  · rintro ⟨⟨h1, h2⟩, h3⟩; exact ⟨h1, h2, h3⟩
  · rintro ⟨h1, h2, h3⟩; exact ⟨⟨h1, h2⟩, h3⟩
/-- How far rules are looked at. -/
structure S3 (g : Nat → D → Option (Int × Nat)) (l : Its) (B K eb nb' sb : Nat) (earl names' seen : List (List UInt8)) (ke kn' ks' : Nat) (w wr : World) (j : Nat) : Prop where
  BL : Below B w wr
  kx : Kx w wr
  ck : Ck wr K eb nb' sb earl names' seen ke kn' ks'
  eq : firstW g 0 l.ds = firstW g j (l.ds.drop j)
theorem S3.on {g : Nat → D → Option (Int × Nat)} {l : Its} {B K eb nb' sb : Nat} {earl names' seen : List (List UInt8)} {ke kn' ks' : Nat} {w wr w' : World} {j : Nat} (h : S3 g l B K eb nb' sb earl names' seen ke kn' ks' w wr j) (hb : Bl wr w') (hB : B ≤ w.heap.size) {d : D} (hd : l.ds[j]? = some d) (hg : g j d = none) : S3 g l B K eb nb' sb earl names' seen ke kn' ks' w w' (j + 1) :=
  ⟨h.BL.trans (hb.mono (Nat.le_trans hB h.BL.size)), h.kx.trans (Kx.bl hb), h.ck.bl hb, h.eq.trans ((firstW_step g l.ds j d hd).2 hg)⟩
theorem chkB_is {earl names seen names' : List (List UInt8)} {l : Its} (h : chkI earl l names seen = .ok names') : (∀ e, firstW (ruleW l.ds) 0 l.ds = some e → chkB earl l names seen = .error e) ∧ (firstW (ruleW l.ds) 0 l.ds = none → (∀ e, firstW (cycW l.ds) 0 l.ds = some e → chkB earl l names seen = .error e) ∧ (firstW (cycW l.ds) 0 l.ds = none → chkB earl l names seen = .ok names')) := by
  unfold chkB rulesW
  rw [h]
  dsimp only
  refine ⟨fun e he => by rw [he], fun hn => ?_⟩
  rw [hn]
  dsimp only
  exact ⟨fun e he => by rw [he], fun he => by rw [he]⟩
theorem cyc_is (ds : List D) (i : Nat) (d : D) : (¬ d.ru = 3 → cycW ds i d = none) ∧ (d.ru = 3 → (rnd ds i = true → cycW ds i d = some (11, d.at_)) ∧ (rnd ds i = false → cycW ds i d = none)) := by
  unfold cycW
  exact ⟨fun h => by rw [if_neg (fun hc => h hc.1)], fun h => ⟨fun hr => by rw [if_pos ⟨h, hr⟩], fun hr => by rw [if_neg (fun hc => by rw [hr] at hc; cases hc.2)]⟩⟩
set_option maxRecDepth 10000 in
set_option maxHeartbeats 8000000 in
theorem block_y (k : Nat) (hrec : ∀ k', k' < k → BlkY k') : BlkY k := by
  intro l B K eb nb' sb earl names seen ke kn ks n p c cs w h0
  have hn16 : n ≤ 16 := by rw [h0.n]; exact h0.len
  have H0 : Hid (BI k l B K eb nb' sb earl names seen ke kn ks n p c cs w) := h0
  obtain ⟨q, hq⟩ : ∃ q, q = chkB earl l names seen := ⟨_, rfl⟩
  rw [← hq]
  have HQ : Hid (q = chkB earl l names seen) := hq
  clear h0 hq
  go_enter Tryz.func44, Tryz.ntmps44
  go_upto_region 1 with fail
  go_loopw [14] (fun i wr => ∃ (j : Nat) (names' seen' : List (List UInt8)) (kn' ks' : Nat), j ≤ n ∧ i = .int .i64 (j : Int) ∧ Hid (S1 l B K eb nb' sb earl names seen ke kn ks w wr j names' seen' kn' ks')) (fun i _ => n - (intOf i).toNat)
  case atStart => exact ⟨0, names, seen, kn, ks, by omega, rfl, ⟨Below.refl _ _, Kx.bl (Bl.refl _), H0.out.ck, by cases l <;> rfl, Nmd.start l H0.out.sub H0.out.non, by cases l <;> exact Nat.le_refl _, by cases l <;> exact Nat.le_refl _⟩⟩
  case round =>
    obtain ⟨j, names', seen', kn', ks', hj, rfl, HB⟩ := hrel
    by_cases hjn : j < n
    · obtain ⟨x, d, s, e1, e2, e3, e4, cs2, e5, e6⟩ := H0.out.rep.at j (by rw [← H0.out.n]; exact hjn)
      subst e3
      obtain ⟨X, hX, _, g0', g⟩ := lie_at (lie_low H0.out.lie HB.out.BL) j x e1
      subst hX
      have g0 : wr.cell? (X.add (j * 13)) = some (.int .i64 (x.d.kd : Int)) := g0'
      clear g0'
      have g1 := g 1 _ rfl
      have g2 := g 2 _ rfl
      have g3 := g 3 _ rfl
      have g4 := g 4 _ rfl
      have g5 := g 5 _ rfl
      have g6 := g 6 _ rfl
      have g7 := g 7 _ rfl
      have g8 := g 8 _ rfl
      have g9 := g 9 _ rfl
      have g10 := g 10 _ rfl
      have g11 := g 11 _ rfl
      have g12 := g 12 _ rfl
      have d1 : decide ((j : Int) < (n : Int)) = true := decide_eq_true (by omega)
      have i0 : (0 : Int) ≤ (j : Int) := by omega
      have i1 : (j : Int) < (n : Int) := by omega
      obtain ⟨w3, hw3⟩ : ∃ w3, w3 = wr.alloc (.cells (cl x).toArray 75) := ⟨_, rfl⟩
      obtain ⟨M, hM⟩ : ∃ M, M = wr.heap.size := ⟨_, rfl⟩
      have hv3 : Iv w3 M x := ⟨by rw [hw3, hM]; exact new_at _ _⟩
      have hbl3 : Bl wr w3 := by rw [hw3]; exact (Bl.refl _).alloc _
      have hkx : Kx w wr := HB.out.kx
      obtain ⟨u1, u2, u3⟩ := H0.out.wi.at j _ _ e2
      obtain ⟨v1, v2, v3, v4, v5⟩ := wd_ok u1
      obtain ⟨t1, t2⟩ := H0.out.at_.at j _ _ e2
      obtain ⟨o1, o2⟩ := chkI_step earl e2 names' seen'
      have hts := tot_step e2
      have H3 : Hid (S1 l B K eb nb' sb earl names seen ke kn ks w w3 j names' seen' kn' ks' ∧ Iv w3 M x ∧ IsO w3 x.pc x.d.ct) := ⟨HB.out.bl hbl3 H0.out.bw, hv3, (e4.keep hkx).keep (Kx.bl hbl3)⟩
      have HE : Hid (l.ps[j]? = some (x.d, s) ∧ tot (l.dr j) = 1 + tot s + tot (l.dr (j + 1)) ∧ ir.Lie w (fun g => g < B) x.p x.n x.c cs2 ∧ Rep w (fun g => g < B) s cs2) := ⟨e2, hts, e5, e6⟩
      clear e1 e2 e4 e5 e6 hts hkx hbl3 hv3
      go_upto_region 3 with fail
      change Code.wp _ _ _ _ (wr.alloc (.cells (cl x).toArray 75))
      rw [← hw3, ← hM]
      clear hw3 hM g0 g1 g2 g3 g4 g5 g6 g7 g8 g9 g10 g11 g12 g
      obtain ⟨a0, a1, a2, a3, a4, a5, a6, a7, a8, a9, a10, a11, a12⟩ := H3.out.2.1.facts
      by_cases h4 : x.d.kd = 4
      · obtain ⟨o3, o4⟩ := o1 h4
        obtain ⟨z1, z2, z3⟩ := u3 h4
        have hnm := v4 h4
        rw [h4] at a0
        have cA := ask_at w3 K eb nb' sb ks' seen' x.pc x.d.ct H3.out.1.ck.h H3.out.1.ck.s H3.out.2.2 v1
        obtain ⟨mo, hmo⟩ : ∃ mo, mo = misO seen' x.d.ct := ⟨_, rfl⟩
        rw [← hmo] at cA o3 o4
        have HR : Hid (0 < k ∧ s.len ≤ 16 ∧ WI (k - 1) s ∧ AtB s ∧ x.d.nm = []) := ⟨z1, z2, z3, t2, hnm⟩
        clear o1 o2 hmo h4 z1 z2 z3 t1 t2 u1 u2 u3 v1 v2 v3 v4 v5 hnm a1 a2 a3 a4 a5 a6 a7 a9 a10 a11
        go_wp2_with fail
        refine cA.mono ?_
        rintro e w5 ⟨hb5, hans⟩
        have H5 : Hid (S1 l B K eb nb' sb earl names seen ke kn ks w w5 j names' seen' kn' ks' ∧ Iv w5 M x) := ⟨H3.out.1.bl hb5 H0.out.bw, H3.out.2.1.bl hb5⟩
        cases mo with
        | some p0 =>
          obtain ⟨A, rfl, hA1, hA2⟩ := hans
          have hfin : DoneB B w q (BlkQ K eb nb' sb earl names seen ke kn ks (tot l)) (thrownY A) w5 := by
            have hs := Nat.le_trans H0.out.bw H3.out.1.BL.size
            exact DoneB.of_err (by rw [HQ.out]; exact chkB_err (HB.out.eq.trans (o3 _ rfl))) H5.out.1.BL H5.out.1.kx (by omega) hA2
          unfold thrownY
          go_wp2
          exact ⟨rfl, hfin⟩
        | none =>
          dsimp only at hans
          subst hans
          obtain ⟨o5, o6⟩ := o4 rfl
          have hen : x.n = s.len := by rw [HE.out.2.2.1.1]; exact HE.out.2.2.2.len.1
          have cR := hrec (k - 1) (by have := HR.out.1; omega) s B K eb nb' sb earl names' seen' ke kn' ks' x.n x.p x.c cs2 w5
            ⟨HR.out.2.2.1, HR.out.2.1, HR.out.2.2.2.1, H5.out.1.ck, H0.out.bn, H0.out.bs, Nat.le_trans H0.out.bw H5.out.1.BL.size, by have h1 := H5.out.1.kn; have h2 := HE.out.2.1; have h3 := H0.out.kn; omega, by have h1 := H5.out.1.ks; have h2 := HE.out.2.1; have h3 := H0.out.ks; omega, lie_low HE.out.2.2.1 H5.out.1.BL, HE.out.2.2.2.low H5.out.1.BL H5.out.1.kx, H5.out.1.nmd.f3, H5.out.1.nmd.f4, hen⟩
          obtain ⟨b0, b1, b2, b3, b4, b5, b6, b7, b8, b9, b10, b11, b12⟩ := H5.out.2.facts
          have HO : Hid ((∀ e, chkB earl s names' seen' = .error e → chkI earl (l.dr j) names' seen' = .error e) ∧ ∀ n2, chkB earl s names' seen' = .ok n2 → chkI earl (l.dr j) names' seen' = chkI earl (l.dr (j + 1)) n2 seen') := ⟨o5, o6⟩
          clear o3 o4 o5 o6 cA hb5 hen b0 b1 b2 b3 b4 b5 b6 b7 b8 b9 b10 b11 a0 a8 a12
          go_wp2_with fail
          refine cR.mono ?_
          rintro e w6 ⟨hb6, hx6, hans⟩
          cases hcB : chkB earl s names' seen' with
          | error cp =>
            obtain ⟨cc, pp⟩ := cp
            rw [hcB] at hans
            obtain ⟨A, rfl, hA1, hA2⟩ := hans
            have hfin : DoneB B w q (BlkQ K eb nb' sb earl names seen ke kn ks (tot l)) (thrownY A) w6 :=
              DoneB.of_err (by rw [HQ.out]; exact chkB_err (HB.out.eq.trans (HO.out.1 _ hcB))) (H5.out.1.BL.trans hb6) (H5.out.1.kx.trans hx6) hA1 hA2
            clear hcB cR
            unfold thrownY
            go_wp2
            exact ⟨rfl, hfin⟩
          | ok n2 =>
            rw [hcB] at hans
            obtain ⟨rfl, hf6, hf4, kn2, ks2, hkn2, hks2, hck⟩ := hans
            have H7 : Hid (S1 l B K eb nb' sb earl names seen ke kn ks w w6 (j + 1) n2 seen' kn2 ks2) :=
              ⟨H5.out.1.BL.trans hb6, H5.out.1.kx.trans hx6, hck, HB.out.eq.trans (HO.out.2 _ hcB), HB.out.nmd.when HE.out.1 HR.out.2.2.2.2 hf6 hf4, by have h1 := HB.out.kn; have h2 := HE.out.2.1; omega, by have h1 := HB.out.ks; have h2 := HE.out.2.1; omega⟩
            clear hcB cR hf6 hf4 hkn2 hks2 hck hb6 hx6 b12
            go_wp2
            go_roundw
            case rel => exact ⟨j + 1, n2, seen', kn2, ks2, by omega, by go_num, H7.out⟩
            case measure => simp [intOf]; omega
      · obtain ⟨o3, o4⟩ := o2 h4
        have h4' : ¬ ((x.d.kd : Int) = 4) := by omega
        have hnm := v5 h4
        have cI := itemY_at w3 B K eb nb' sb earl names' seen' ke kn' ks' x H3.out.1.ck H0.out.bn H0.out.bs (Nat.le_trans H0.out.bw H3.out.1.BL.size) ⟨by have h1 := HB.out.kn; have h3 := H0.out.kn; omega, by have h1 := HB.out.ks; have h3 := H0.out.ks; omega⟩ H3.out.2.2 v1 v2 v3 t1
        obtain ⟨wq, hwq⟩ : ∃ wq, wq = itemW earl names' seen' x.d := ⟨_, rfl⟩
        have hnin : wq = none → x.d.nm ∉ names' := by
          intro hw hc
          have := (itemW_is earl names' seen' x.d).1 hc
          rw [← hwq, hw] at this
          cases this
        rw [← hwq] at cI o3 o4
        unfold itV cl at cI
        have HO : Hid ((∀ e, wq = some e → chkI earl (l.dr j) names' seen' = .error e) ∧ (wq = none → chkI earl (l.dr j) names' seen' = chkI earl (l.dr (j + 1)) (x.d.nm :: names') (seenN seen' x.d)) ∧ (wq = none → x.d.nm ∉ names') ∧ x.d.nm ≠ []) := ⟨o3, o4, hnin, hnm⟩
        clear o1 o2 o3 o4 hwq hnin hnm h4 u1 u2 u3 v1 v2 v3 v4 v5 t1 t2
        go_wp2_with fail
        refine cI.mono ?_
        rintro e w6 ⟨hb6, hx6, hans⟩
        clear cI a0 a1 a2 a3 a4 a5 a6 a7 a8 a9 a10 a11 a12
        cases wq with
        | some cp =>
          obtain ⟨cc, pp⟩ := cp
          obtain ⟨A, rfl, hA1, hA2⟩ := hans
          have hfin : DoneB B w q (BlkQ K eb nb' sb earl names seen ke kn ks (tot l)) (thrownY A) w6 :=
            DoneB.of_err (by rw [HQ.out]; exact chkB_err (HB.out.eq.trans (HO.out.1 _ rfl))) (H3.out.1.BL.trans hb6) (H3.out.1.kx.trans hx6) hA1 hA2
          unfold thrownY
          go_wp2
          exact ⟨rfl, hfin⟩
        | none =>
          obtain ⟨rfl, hck⟩ := hans
          have H7 : Hid (S1 l B K eb nb' sb earl names seen ke kn ks w w6 (j + 1) (x.d.nm :: names') (seenN seen' x.d) (kn' + 1) (ks' + 1)) :=
            ⟨H3.out.1.BL.trans hb6, H3.out.1.kx.trans hx6, hck, HB.out.eq.trans (HO.out.2.1 rfl), HB.out.nmd.item HE.out.1 HO.out.2.2.2 (HO.out.2.2.1 rfl), by have h1 := HB.out.kn; have h2 := HE.out.2.1; omega, by have h1 := HB.out.ks; have h2 := HE.out.2.1; omega⟩
          clear hck hb6 hx6
          go_wp2
          go_roundw
          case rel => exact ⟨j + 1, _, _, _, _, by omega, by go_num, H7.out⟩
          case measure => simp [intOf]; omega
    · obtain rfl : n = j := by omega
      have HN : Hid (Nmd l l.len names seen names' seen' ∧ chkI earl l names seen = .ok names' ∧ kn' ≤ kn + tot l ∧ ks' ≤ ks + tot l) := by
        have h := HB.out
        rw [H0.out.n] at h
        exact ⟨h.nmd, h.eq.trans (chkI_end _ _ _ _), by have := h.kn; omega, by have := h.ks; omega⟩
      have H2 : Hid (S2 l B K eb nb' sb earl names' seen' ke kn' ks' w wr 0) := by
        refine ⟨HB.out.BL, HB.out.kx, ?_⟩
        have e : seen'.filter (fun y => y ∉ (l.ds.take 0).map D.nm) = seen' := by simp
        rw [e]
        exact HB.out.ck
      clear HB hj hjn
      go_upto_region 9 with fail
      go_loopw [35] (fun i wr2 => ∃ (j : Nat), j ≤ n ∧ i = .int .i64 (j : Int) ∧ Hid (S2 l B K eb nb' sb earl names' seen' ke kn' ks' w wr2 j)) (fun i _ => n - (intOf i).toNat)
      case atStart => exact ⟨0, by omega, rfl, H2.out⟩
      case round =>
        clear H2
        obtain ⟨j, hj, rfl, HB⟩ := hrel
        by_cases hjn : j < n
        · obtain ⟨x, d, s, e1, e2, e3, e4, cs2, e5, e6⟩ := H0.out.rep.at j (by rw [← H0.out.n]; exact hjn)
          subst e3
          obtain ⟨X, hX, _, g0', g⟩ := lie_at (lie_low H0.out.lie HB.out.BL) j x e1
          subst hX
          have g0 : wr.cell? (X.add (j * 13)) = some (.int .i64 (x.d.kd : Int)) := g0'
          clear g0'
          have g1 := g 1 _ rfl
          have g2 := g 2 _ rfl
          have g3 := g 3 _ rfl
          have g4 := g 4 _ rfl
          have g5 := g 5 _ rfl
          have g6 := g 6 _ rfl
          have g7 := g 7 _ rfl
          have g8 := g 8 _ rfl
          have g9 := g 9 _ rfl
          have g10 := g 10 _ rfl
          have g11 := g 11 _ rfl
          have g12 := g 12 _ rfl
          have d1 : decide ((j : Int) < (n : Int)) = true := decide_eq_true (by omega)
          have i0 : (0 : Int) ≤ (j : Int) := by omega
          have i1 : (j : Int) < (n : Int) := by omega
          obtain ⟨w3, hw3⟩ : ∃ w3, w3 = wr.alloc (.cells (cl x).toArray 75) := ⟨_, rfl⟩
          obtain ⟨M, hM⟩ : ∃ M, M = wr.heap.size := ⟨_, rfl⟩
          have hv3 : Iv w3 M x := ⟨by rw [hw3, hM]; exact new_at _ _⟩
          have hbl3 : Bl wr w3 := by rw [hw3]; exact (Bl.refl _).alloc _
          have hd : l.ds[j]? = some x.d := by rw [← ps_ds, List.getElem?_map, e2]; rfl
          have hln := (wd_ok (H0.out.wi.at j _ _ e2).1).2.1
          have hbD := (Bl.refl w3).drew
          obtain ⟨w5, hr5, hn5, hg5⟩ := ((HB.out.ck.bl hbl3).bl hbD).s.drop x.d.nm hln 0
          have H5 : Hid (S2 l B K eb nb' sb earl names' seen' ke kn' ks' w w5 (j + 1)) := HB.out.step (hbl3.trans hbD) H0.out.bw H0.out.bs hd hn5 hg5
          obtain ⟨f0, f1, f2, f3, f4, f5, f6, f7, f8, f9, f10, f11, f12⟩ := (hv3.bl hbD).facts
          obtain ⟨k0, k1, k2⟩ := ((HB.out.ck.bl hbl3).bl hbD).cells
          have hKs := lt_of_heap ((HB.out.ck.bl hbl3).bl hbD).h
          clear e1 e2 e4 e5 e6 hd hln hbl3 hv3 hn5 hg5 f0 f1 f3 f4 f5 f6 f7 f8 f9 f10 f11 f12 k0 k1 hbD
          go_upto_region 11 with fail
          change Code.wp _ _ _ _ (wr.alloc (.cells (cl x).toArray 75))
          rw [← hw3, ← hM]
          clear hw3 hM g0 g1 g2 g3 g4 g5 g6 g7 g8 g9 g10 g11 g12 g
          go_region
          all_goals
            go_wp2
            go_roundw
            case rel => exact ⟨j + 1, by omega, by go_num, H5.out⟩
            case measure => simp [intOf]; omega
        · obtain rfl : n = j := by omega
          have H3 : Hid (S3 (ruleW l.ds) l B K eb nb' sb earl names' seen ke kn' ks' w wr 0) := by
            refine ⟨HB.out.BL, HB.out.kx, ⟨HB.out.ck.h, HB.out.ck.e, HB.out.ck.n, ?_, HB.out.ck.d1, HB.out.ck.d2, HB.out.ck.d3⟩, rfl⟩
            have h := HB.out.ck.s
            rw [H0.out.n] at h
            exact h.same (fun y => HN.out.1.left y)
          clear HB hjn
          go_upto_region 14 with fail
          go_loopw [48] (fun i wr => ∃ (j : Nat), j ≤ n ∧ i = .int .i64 (j : Int) ∧ Hid (S3 (ruleW l.ds) l B K eb nb' sb earl names' seen ke kn' ks' w wr j)) (fun i _ => n - (intOf i).toNat)
          case atStart => exact ⟨0, by omega, rfl, H3.out⟩
          case round =>
            clear H3
            obtain ⟨j, hj, rfl, HB⟩ := hrel
            by_cases hjn : j < n
            · obtain ⟨x, d, s, e1, e2, e3, e4, cs2, e5, e6⟩ := H0.out.rep.at j (by rw [← H0.out.n]; exact hjn)
              subst e3
              obtain ⟨X, hX, _, g0', g⟩ := lie_at (lie_low H0.out.lie HB.out.BL) j x e1
              subst hX
              have g0 : wr.cell? (X.add (j * 13)) = some (.int .i64 (x.d.kd : Int)) := g0'
              clear g0'
              have g1 := g 1 _ rfl
              have g2 := g 2 _ rfl
              have g3 := g 3 _ rfl
              have g4 := g 4 _ rfl
              have g5 := g 5 _ rfl
              have g6 := g 6 _ rfl
              have g7 := g 7 _ rfl
              have g8 := g 8 _ rfl
              have g9 := g 9 _ rfl
              have g10 := g 10 _ rfl
              have g11 := g 11 _ rfl
              have g12 := g 12 _ rfl
              have d1 : decide ((j : Int) < (n : Int)) = true := decide_eq_true (by omega)
              have i0 : (0 : Int) ≤ (j : Int) := by omega
              have i1 : (j : Int) < (n : Int) := by omega
              obtain ⟨w3, hw3⟩ : ∃ w3, w3 = wr.alloc (.cells (cl x).toArray 75) := ⟨_, rfl⟩
              obtain ⟨M, hM⟩ : ∃ M, M = wr.heap.size := ⟨_, rfl⟩
              have hv3 : Iv w3 M x := ⟨by rw [hw3, hM]; exact new_at _ _⟩
              have hbl3 : Bl wr w3 := by rw [hw3]; exact (Bl.refl _).alloc _
              have hd : l.ds[j]? = some x.d := by rw [← ps_ds, List.getElem?_map, e2]; rfl
              have hds : cs.map C.d = l.ds := H0.out.rep.len.2
              have hls := lie_low H0.out.lie (HB.out.BL.trans (hbl3.mono (Nat.le_trans H0.out.bw HB.out.BL.size)))
              have H3 : Hid (Bl wr w3 ∧ l.ds[j]? = some x.d) := ⟨hbl3, hd⟩
              obtain ⟨a0, a1, a2, a3, a4, a5, a6, a7, a8, a9, a10, a11, a12⟩ := hv3.facts
              by_cases r0 : x.d.ru = 0
              · have H5 : Hid (S3 (ruleW l.ds) l B K eb nb' sb earl names' seen ke kn' ks' w w3 (j + 1)) := HB.out.on hbl3 H0.out.bw hd (by unfold ruleW; rw [if_pos r0])
                rw [r0] at a9
                clear e1 e2 e4 e5 e6 hd hbl3 hv3 hls hds r0
                go_upto_region 16 with fail
                change Code.wp _ _ _ _ (wr.alloc (.cells (cl x).toArray 75))
                rw [← hw3, ← hM]
                clear hw3 hM g0 g1 g2 g3 g4 g5 g6 g7 g8 g9 g10 g11 g12 g
                go_wp2
                go_roundw
                case rel => exact ⟨j + 1, by omega, by go_num, H5.out⟩
                case measure => simp [intOf]; omega
              · have r0' : ¬ ((x.d.ru : Int) = 0) := by omega
                have cC := checkRule_at x j cs _ (some X) n c w3 hls (by omega) e1 r0
                rw [hds] at cC
                obtain ⟨rq, hrq⟩ : ∃ rq, rq = ruleW l.ds j x.d := ⟨_, rfl⟩
                rw [← hrq] at cC
                have HR : Hid (rq = ruleW l.ds j x.d) := hrq
                clear e1 e2 e4 e5 e6 hd hbl3 hv3 hls hds r0 hrq
                go_upto_region 16 with fail
                change Code.wp _ _ _ _ (wr.alloc (.cells (cl x).toArray 75))
                rw [← hw3, ← hM]
                clear hw3 hM g0 g1 g2 g3 g4 g5 g6 g7 g8 g9 g10 g11 g12 g
                go_wp2_with fail
                refine cC.mono ?_
                rintro e w6 ⟨hb6, hans⟩
                clear cC a0 a1 a2 a3 a4 a5 a6 a7 a8 a9 a10 a11 a12
                cases rq with
                | some cp =>
                  obtain ⟨cc, pp⟩ := cp
                  obtain ⟨A, rfl, hA1, hA2⟩ := hans
                  have hbb := H3.out.1.trans hb6
                  have hfin : DoneB B w q (BlkQ K eb nb' sb earl names seen ke kn ks (tot l)) (thrownY A) w6 := by
                    refine DoneB.of_err ?_ (HB.out.BL.trans (hbb.mono (Nat.le_trans H0.out.bw HB.out.BL.size))) (HB.out.kx.trans (Kx.bl hbb)) (Nat.le_trans (Nat.le_trans (Nat.le_trans H0.out.bw HB.out.BL.size) H3.out.1.size) hA1) hA2
                    rw [HQ.out]
                    exact (chkB_is HN.out.2.1).1 _ (HB.out.eq.trans ((firstW_step _ _ _ _ H3.out.2).1 _ HR.out.symm))
                  unfold thrownY
                  go_wp2
                  exact ⟨rfl, hfin⟩
                | none =>
                  dsimp only at hans
                  subst hans
                  have H5 : Hid (S3 (ruleW l.ds) l B K eb nb' sb earl names' seen ke kn' ks' w w6 (j + 1)) := HB.out.on (H3.out.1.trans hb6) H0.out.bw H3.out.2 HR.out.symm
                  clear hb6
                  go_wp2
                  go_roundw
                  case rel => exact ⟨j + 1, by omega, by go_num, H5.out⟩
                  case measure => simp [intOf]; omega
            · obtain rfl : n = j := by omega
              have HZ : Hid (firstW (ruleW l.ds) 0 l.ds = none) := by
                show firstW (ruleW l.ds) 0 l.ds = none
                rw [HB.out.eq, H0.out.n, ← Its.ds_len]
                exact firstW_end _ _
              have H4 : Hid (S3 (cycW l.ds) l B K eb nb' sb earl names' seen ke kn' ks' w wr 0) := ⟨HB.out.BL, HB.out.kx, HB.out.ck, rfl⟩
              clear HB hjn
              go_upto_region 20 with fail
              go_loopw [62] (fun i wr => ∃ (j : Nat), j ≤ n ∧ i = .int .i64 (j : Int) ∧ Hid (S3 (cycW l.ds) l B K eb nb' sb earl names' seen ke kn' ks' w wr j)) (fun i _ => n - (intOf i).toNat)
              case atStart => exact ⟨0, by omega, rfl, H4.out⟩
              case round =>
                clear H4
                obtain ⟨j, hj, rfl, HB⟩ := hrel
                by_cases hjn : j < n
                · obtain ⟨x, d, s, e1, e2, e3, e4, cs2, e5, e6⟩ := H0.out.rep.at j (by rw [← H0.out.n]; exact hjn)
                  subst e3
                  obtain ⟨X, hX, _, g0', g⟩ := lie_at (lie_low H0.out.lie HB.out.BL) j x e1
                  subst hX
                  have g0 : wr.cell? (X.add (j * 13)) = some (.int .i64 (x.d.kd : Int)) := g0'
                  clear g0'
                  have g1 := g 1 _ rfl
                  have g2 := g 2 _ rfl
                  have g3 := g 3 _ rfl
                  have g4 := g 4 _ rfl
                  have g5 := g 5 _ rfl
                  have g6 := g 6 _ rfl
                  have g7 := g 7 _ rfl
                  have g8 := g 8 _ rfl
                  have g9 := g 9 _ rfl
                  have g10 := g 10 _ rfl
                  have g11 := g 11 _ rfl
                  have g12 := g 12 _ rfl
                  have d1 : decide ((j : Int) < (n : Int)) = true := decide_eq_true (by omega)
                  have i0 : (0 : Int) ≤ (j : Int) := by omega
                  have i1 : (j : Int) < (n : Int) := by omega
                  obtain ⟨w3, hw3⟩ : ∃ w3, w3 = wr.alloc (.cells (cl x).toArray 75) := ⟨_, rfl⟩
                  obtain ⟨M, hM⟩ : ∃ M, M = wr.heap.size := ⟨_, rfl⟩
                  have hv3 : Iv w3 M x := ⟨by rw [hw3, hM]; exact new_at _ _⟩
                  have hbl3 : Bl wr w3 := by rw [hw3]; exact (Bl.refl _).alloc _
                  have hd : l.ds[j]? = some x.d := by rw [← ps_ds, List.getElem?_map, e2]; rfl
                  have hds : cs.map C.d = l.ds := H0.out.rep.len.2
                  have hls := lie_low H0.out.lie (HB.out.BL.trans (hbl3.mono (Nat.le_trans H0.out.bw HB.out.BL.size)))
                  have H3 : Hid (Bl wr w3 ∧ l.ds[j]? = some x.d) := ⟨hbl3, hd⟩
                  obtain ⟨a0, a1, a2, a3, a4, a5, a6, a7, a8, a9, a10, a11, a12⟩ := hv3.facts
                  obtain ⟨o1, o2⟩ := cyc_is l.ds j x.d
                  by_cases r3 : x.d.ru = 3
                  · obtain ⟨o3, o4⟩ := o2 r3
                    have cR := round_at x j cs _ (some X) n c w3 hls (by omega) e1
                    rw [hds] at cR
                    obtain ⟨rb, hrb⟩ : ∃ rb, rb = rnd l.ds j := ⟨_, rfl⟩
                    rw [← hrb] at cR o3 o4
                    have cT := ythrow_at (x.d.at_ : Int)
                    rw [r3] at a9
                    have HV : Hid (Iv w3 M x ∧ (rb = true → cycW l.ds j x.d = some (11, x.d.at_)) ∧ (rb = false → cycW l.ds j x.d = none)) := ⟨hv3, o3, o4⟩
                    clear e1 e2 e4 e5 e6 hd hbl3 hv3 hls hds r3 hrb o1 o2 o3 o4
                    go_upto_region 22 with fail
                    change Code.wp _ _ _ _ (wr.alloc (.cells (cl x).toArray 75))
                    rw [← hw3, ← hM]
                    clear hw3 hM g0 g1 g2 g3 g4 g5 g6 g7 g8 g9 g10 g11 g12 g
                    go_wp2_with fail
                    refine cR.mono ?_
                    rintro e w6 ⟨rfl, hb6⟩
                    clear cR a0 a1 a2 a3 a4 a5 a6 a7 a8 a9 a10 a11 a12
                    have a1 := (HV.out.1.bl hb6).facts.2.1
                    cases rb with
                    | true =>
                      have hc := HV.out.2.1 rfl
                      have hbb := H3.out.1.trans hb6
                      have HF : Hid (q = .error (11, x.d.at_) ∧ Below B w w6 ∧ Kx w w6 ∧ B ≤ w6.heap.size) := by
                        refine ⟨?_, HB.out.BL.trans (hbb.mono (Nat.le_trans H0.out.bw HB.out.BL.size)), HB.out.kx.trans (Kx.bl hbb), Nat.le_trans (Nat.le_trans H0.out.bw HB.out.BL.size) hbb.size⟩
                        rw [HQ.out]
                        exact ((chkB_is HN.out.2.1).2 HZ.out).1 _ (HB.out.eq.trans ((firstW_step _ _ _ _ H3.out.2).1 _ hc))
                      clear hc hbb hb6
                      go_wp2_with fail
                      refine (cT 11 w6).mono ?_
                      rintro e w9 ⟨A, rfl, hA1, hA2, hb9⟩
                      have hfin : DoneB B w q (BlkQ K eb nb' sb earl names seen ke kn ks (tot l)) (thrownY A) w9 := DoneB.of_err HF.out.1 (HF.out.2.1.trans (hb9.mono HF.out.2.2.2)) (HF.out.2.2.1.trans (Kx.bl hb9)) (Nat.le_trans HF.out.2.2.2 hA1) hA2
                      unfold thrownY
                      go_wp2
                      exact ⟨rfl, hfin⟩
                    | false =>
                      have H5 : Hid (S3 (cycW l.ds) l B K eb nb' sb earl names' seen ke kn' ks' w w6 (j + 1)) := HB.out.on (H3.out.1.trans hb6) H0.out.bw H3.out.2 (HV.out.2.2 rfl)
                      clear hb6
                      go_wp2
                      go_roundw
                      case rel => exact ⟨j + 1, by omega, by go_num, H5.out⟩
                      case measure => simp [intOf]; omega
                  · have r3' : ¬ ((x.d.ru : Int) = 3) := by omega
                    have H5 : Hid (S3 (cycW l.ds) l B K eb nb' sb earl names' seen ke kn' ks' w w3 (j + 1)) := HB.out.on hbl3 H0.out.bw hd (o1 r3)
                    clear e1 e2 e4 e5 e6 hd hbl3 hv3 hls hds o1 o2 r3
                    go_upto_region 22 with fail
                    change Code.wp _ _ _ _ (wr.alloc (.cells (cl x).toArray 75))
                    rw [← hw3, ← hM]
                    clear hw3 hM g0 g1 g2 g3 g4 g5 g6 g7 g8 g9 g10 g11 g12 g
                    go_wp2
                    go_roundw
                    case rel => exact ⟨j + 1, by omega, by go_num, H5.out⟩
                    case measure => simp [intOf]; omega
                · obtain rfl : n = j := by omega
                  have hfin : DoneB B w q (BlkQ K eb nb' sb earl names seen ke kn ks (tot l)) (.returned (.tuple #[])) wr := by
                    refine ⟨HB.out.BL, HB.out.kx, ?_⟩
                    have hq : q = .ok names' := by
                      rw [HQ.out]
                      refine ((chkB_is HN.out.2.1).2 HZ.out).2 ?_
                      rw [HB.out.eq, H0.out.n, ← Its.ds_len]
                      exact firstW_end _ _
                    rw [hq]
                    exact ⟨rfl, HN.out.1.f6, HN.out.1.f4, kn', ks', HN.out.2.2.1, HN.out.2.2.2, HB.out.ck⟩
                  go_wp2
                  go_end0
                  exact hfin
theorem block_ya (k : Nat) : BlkY k := by
  induction k using Nat.strongRecOn with
  | ind k ih => exact block_y k ih
end Go.Proofs.YtpanodaecjlgaaaGreatDoor.tm
