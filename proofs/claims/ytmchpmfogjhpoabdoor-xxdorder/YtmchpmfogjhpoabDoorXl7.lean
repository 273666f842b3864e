/- What Load of package xxd answers, where all lines can be read. -/
import Derived.Test.YtmchpmfogjhpoabDoorXl6
namespace Go.Proofs.YtmchpmfogjhpoabDoor.xl
set_option linter.unusedVariables false
open Go.ChangeShapes Go.WideShapes Go.ChangeAt Go.RowKit Go.Shelf
open mem rows bld
open dig (dv pv okD)
open digs (parse_at Parsed okB)
attribute [local go_sem] Oper.semAt_some
theorem _root_.Go.Proofs.YtmchpmfogjhpoabDoor.mem.Bl.thru3 {a b c : World} (h : Bl a b) (k : Below a.heap.size b c) : Bl a c := Below.trans h k
theorem BOwn.own {base : Nat} {v : Value} {l : List Int} {W W' : World} {row : Option Nat} (h : BOwn W base v l) (hg : W.grownBy W' row) (hr : ∀ r, row = some r → ∃ o : Obj, W.heap[r]? = some o ∧ o.isCells = false) : BOwn W' base v l := by
  refine ⟨h.1, ?_⟩
  rcases h.2 with h | ⟨g, cap, cur, h1, h2, h3, h4⟩
  · exact Or.inl h
  · refine Or.inr ⟨g, cap, cur, h1, h2, ?_, h4⟩
    rw [hg.block g (lt_of_some h3) (fun e => ?_)]
    · exact h3
    · obtain ⟨o, ho, hc⟩ := hr g e.symm
      rw [h3] at ho
      exact not_cells (Option.some.inj ho).symm hc
/-- What holds between two lines: the variables' blocks begin at A. -/
structure Li {b : Bool} {mx : Nat} (w : World) (A : Nat) (T : ByteArray) (pre : List (Lt b mx)) (W : World) : Prop where
  r1 : Vr W A (.string ⟨#[]⟩) 9
  r2 : Vr W (A + 1) .nilIface 24
  told : ∃ v, Vr W (A + 2) v 38 ∧ BOwn W (A + 3) v (ap pre)
  p3 : Vr W (A + 3) (.string T) 9
  bl : Below w.heap.size w W
theorem Li.own {b : Bool} {mx : Nat} {w : World} {A : Nat} {T : ByteArray} : OwnFrom (A + 4) (fun (pre : List (Lt b mx)) W => Li w A T pre W ∧ w.heap.size ≤ A) := by
  intro pre W W' row h hg hr
  obtain ⟨h, hA⟩ := h
  have hr' : ∀ r, row = some r → ∃ o : Obj, W.heap[r]? = some o ∧ o.isCells = false := fun r e => (hr r e).2
  obtain ⟨v, h1, h2⟩ := h.told
  refine ⟨⟨Vr.own h.r1 hg hr', Vr.own h.r2 hg hr', ⟨v, Vr.own h1 hg hr', BOwn.own h2 hg hr'⟩, Vr.own h.p3 hg hr', ?_⟩, hA⟩
  refine ⟨hg.os.trans h.bl.os, hg.tape.trans h.bl.tape, hg.output.trans h.bl.output, Nat.le_trans h.bl.size hg.size, fun k hk => ?_⟩
  rw [hg.block k (Nat.lt_of_lt_of_le hk h.bl.size) (fun e => by have := (hr k e.symm).1; omega)]
  exact h.bl.block k hk
theorem Kr.others {w w' : World} (h : Kr w w') : KeepsOthers w w' := ⟨h.size, fun k o hk ho => h.same k o hk (fun c fz e => not_cells e ho)⟩
theorem Kr.vr {k : Nat} {v : Value} {t : TypeId} {w w' : World} (h : Kr w w') (hv : Vr w k v t) (ht : t ≠ 5) : Vr w' k v t := by
  unfold Vr at hv ⊢
  exact h.same k _ hv (fun c fz e => by injection e with _ e2 _; exact ht e2)
/-- What a line's end comes to. -/
theorem Li.next {b : Bool} {mx : Nat} {w W W1 W2 : World} {A : Nat} {T : ByteArray} {pre : List (Lt b mx)} {x : Lt b mx} {v : Value} (h : Li w A T pre W) (hA : w.heap.size ≤ A) (h1 : Bl W W1) (h2 : Below (A + 3) W1 W2) (h3 : Kr W1 W2) (ho : BOwn W2 (A + 3) v (ap (pre ++ [x]))) :
    KeepsOthers W (W2.setCell ⟨A + 2, 0, none⟩ v) ∧ KV w.heap.size [A + 3] W (W2.setCell ⟨A + 2, 0, none⟩ v) ∧ Li w A T (pre ++ [x]) (W2.setCell ⟨A + 2, 0, none⟩ v) ∧ w.heap.size ≤ A := by
  have hk : Kr W W2 := (Kr.bl h1).trans h3
  have hlt := h.p3.lt
  have hB : Below (A + 2) W W2 := Below.trans (Below.mono h1 (by omega)) (Below.mono h2 (by omega))
  have hB2 : Below w.heap.size W (W2.setCell ⟨A + 2, 0, none⟩ v) := Below.setCell (Below.mono hB (by omega)) (by show w.heap.size ≤ A + 2; omega) v
  obtain ⟨v0, hv0, _⟩ := h.told
  have hv2 := hk.vr hv0 (by decide)
  have hp3 := (hk.vr h.p3 (by decide)).set_other (c := A + 2) (j := 0) (by omega) v
  refine ⟨hk.others.trans (KeepsOthers.setCell _ _ _), ⟨hB2, fun i hi c t f hcell => ?_⟩, ⟨(hk.vr h.r1 (by decide)).set_other (by omega) v, (hk.vr h.r2 (by decide)).set_other (by omega) v, ⟨v, hv2.set v, ho.set_other (ho.ne hv2 (by decide)) v⟩, hp3, h.bl.trans hB2⟩, hA⟩
  simp only [List.mem_cons, List.not_mem_nil, or_false] at hi
  subst hi
  have e1 := h.p3
  have e2 := hp3
  unfold Vr at e1 e2
  rw [e1] at hcell
  rw [e2]
  exact hcell
set_option maxRecDepth 100000 in
set_option maxHeartbeats 4000000 in
theorem Load_at (b : Bool) (mx : Nat) (T : ByteArray) (S : List (Lt b mx)) (w : World) (hT : T.size ≤ 2000000) (hS : Ln (fun x : Lt b mx => x.1.1) T 0 S) (hmx : b = false → mx * S.length ≤ 4000) :
    Calls Tryd.prog 11 #[.string T] w fun e w' => e = .returned (.tuple #[.string (strOfNums (ap S)), .nilIface]) ∧ Bl w w' := by
  refine (callsIn_wide (n := 3)).1 ?_
  refine callsIn_of_wp_marks Tryd.func11 rfl trivial ?_ rfl
  simp only [Tryd.ntmps11, List.size_toArray, List.length_cons, List.length_nil, Nat.reduceAdd, Nat.reduceSub, Array.replicate_succ, Array.replicate_zero, List.push_toArray, List.append_toArray, List.nil_append, List.cons_append]
  gi_wp2_with (refine ⟨trivial, ?_⟩; gi_at_call 23; refine (callsIn_wide.2 (lines_at _ _)).mono ?_; rintro e w1 ⟨rfl, rfl⟩)
  obtain ⟨A, hA⟩ : ∃ A, A = w.heap.size := ⟨_, rfl⟩
  obtain ⟨W0, hW0⟩ : ∃ W0, W0 = (((w.alloc (.cells #[.string ⟨#[]⟩] 9)).alloc (.cells #[.nilIface] 24)).alloc (.cells #[.slice none 0 0] 38)).alloc (.cells #[.string T] 9) := ⟨_, rfl⟩
  rw [← hW0, ← hA]
  simp only [Nat.add_assoc, Nat.reduceAdd]
  obtain ⟨w1, e1⟩ : ∃ w1, w1 = w.alloc (.cells #[.string ⟨#[]⟩] 9) := ⟨_, rfl⟩
  obtain ⟨w2, e2⟩ : ∃ w2, w2 = w1.alloc (.cells #[.nilIface] 24) := ⟨_, rfl⟩
  obtain ⟨w3, e3⟩ : ∃ w3, w3 = w2.alloc (.cells #[.slice none 0 0] 38) := ⟨_, rfl⟩
  rw [← e1, ← e2, ← e3] at hW0
  have z1 : w1.heap.size = A + 1 := by rw [e1, World.size_alloc, hA]
  have z2 : w2.heap.size = A + 2 := by rw [e2, World.size_alloc, z1]
  have z3 : w3.heap.size = A + 3 := by rw [e3, World.size_alloc, z2]
  have z4 : W0.heap.size = A + 4 := by rw [hW0, World.size_alloc, z3]
  have b4 : Bl w3 W0 := by rw [hW0]; exact (Bl.refl _).alloc _
  have b3 : Bl w2 W0 := Bl.trans (by rw [e3]; exact (Bl.refl _).alloc _) b4
  have b2 : Bl w1 W0 := Bl.trans (by rw [e2]; exact (Bl.refl _).alloc _) b3
  have b1 : Bl w W0 := Bl.trans (by rw [e1]; exact (Bl.refl _).alloc _) b2
  have v0 : Vr W0 A (.string ⟨#[]⟩) 9 := by have := Vr.new w (.string ⟨#[]⟩) 9; rw [← e1, ← hA] at this; exact this.step b2
  have v1 : Vr W0 (A + 1) .nilIface 24 := by have := Vr.new w1 .nilIface 24; rw [← e2, z1] at this; exact this.step b3
  have v2 : Vr W0 (A + 2) (.slice none 0 0) 38 := by have := Vr.new w2 (.slice none 0 0) 38; rw [← e3, z2] at this; exact this.step b4
  have v3 : Vr W0 (A + 3) (.string T) 9 := by have := Vr.new w3 (.string T) 9; rw [← hW0, z3] at this; exact this
  have D0 : Li w A T ([] : List (Lt b mx)) W0 := ⟨v0, v1, ⟨_, v2, BOwn.nil _ _⟩, v3, b1⟩
  have hA0 : w.heap.size ≤ A := by omega
  have HA : Hid (A = w.heap.size) := hA
  clear e1 e2 e3 z1 z2 z3 b2 b3 b4 v0 v1 v2 hW0 hA w1 w2 w3
  refine wpIn_rangeFunc_ownF rfl (by decide) (gf := 39) (lb := #[.pointer (some ⟨A + 3, 0, none⟩)]) rfl trivial (enters_of Tryd.func39 (by kernel_rfl) rfl)
    (lines_stops (fun x : Lt b mx => x.1.1) 2 (by decide) (A + 3) w.heap.size T hT S hS W0 v3 b1.size) (fun h k => h.trans k) (KV.putObj (w := W0) b1.size) (Below.refl _ _) (fun _ => rfl)
    (fun pre W => Li w A T pre W ∧ w.heap.size ≤ A) (fun _ _ _ => False) (fun pre W W' row h hg hr => Li.own pre W W' row h hg (fun r e => ⟨by have := (hr r e).1; omega, (hr r e).2⟩)) (fun _ _ _ _ _ h _ _ => h) ⟨D0, hA0⟩
    (fun x => { tmps := #[.string T, undef, .pointer (some ⟨A, 0, none⟩), .pointer (some ⟨A + 1, 0, none⟩), .pointer (some ⟨A + 2, 0, none⟩), .int .i64 (x.1.1.1 : Int), .string x.1.1.2, undef, undef, undef, undef, undef, undef, undef, .string T, .func (.func 39) #[] #[.pointer (some ⟨A + 3, 0, none⟩)], .int .i64 (x.1.1.1 : Int), .string x.1.1.2, undef, undef, undef, undef, undef, undef, undef, undef, undef, undef, undef, undef, undef, undef, undef, undef, undef, undef, undef, undef, undef, undef, undef, undef, undef, undef, undef, undef, undef, undef, undef, undef, undef, undef, undef, undef, undef, undef, undef, undef, undef, undef, undef, undef, undef, undef, undef], defers := [] }) ?assign ?body ?done ?stop
  case assign =>
    intro l x W K hK
    gi_wp2
    exact hK
  case body =>
    rintro l pre x W ⟨I, _⟩ hlt
    obtain ⟨⟨⟨a, L⟩, ⟨n, zs⟩⟩, hgood⟩ := x
    dsimp only
    have hapl := ap_len pre.length pre rfl
    have hgood2 := hgood
    obtain ⟨g1, g2, g3, g4⟩ := hgood2
    dsimp only at g1 g2 g3 g4
    obtain ⟨v, hv, ho⟩ := I.told
    obtain ⟨q, cp, hve⟩ := ho.slice
    obtain ⟨m, hm⟩ : ∃ m, m = (ap pre).length := ⟨_, rfl⟩
    rw [← hm] at hve
    subst hve
    have HI : Hid (Li w A T pre W) := I
    have HM : Hid (m = (ap pre).length) := hm
    have HV : Hid (Vr W (A + 2) (.slice q m cp) 38) := hv
    have cv := hv.cell
    have hlt3 := I.p3.lt
    cases b with
    | true =>
      rw [if_pos rfl] at hapl g4
      obtain ⟨k, k1, k2, k3, k4, k5, k6, k7⟩ := g4
      have hPs : (L.extract 0 k).size = k := by rw [ByteArray.size_extract]; omega
      have hnz : ¬ (4000 : Int) < (n : Int) := by omega
      have hnzd : decide ((4000 : Int) < (n : Int)) = false := decide_eq_false hnz
      have hpar : Parsed 16 (L.extract 0 k) n 0 := Or.inr (Or.inr (Or.inr ⟨⟨by decide, by decide⟩, k4, by rw [hPs]; show pv 16 (L.extract 0 k) k < _; omega, by rw [hPs]; exact k5.symm, rfl⟩))
      have cC := cut_yes L 58 k W (by omega) k1 k2 k3
      have cPa : ∀ w, Calls Tryd.prog 25 #[.string (L.extract 0 k), .int .i64 16] w fun e w' => e = .returned (.tuple #[.int .u64 (n : Int), .nilIface]) ∧ w' = w := fun w => parse_at 16 (L.extract 0 k) n 0 w (by omega) hpar
      obtain ⟨Pl, hPl⟩ : ∃ Pl, Pl = L.extract 0 k := ⟨_, rfl⟩
      obtain ⟨R, hR⟩ : ∃ R, R = L.extract (k + 1) L.size := ⟨_, rfl⟩
      have hRs : R.size ≤ 5000 := by rw [hR, ByteArray.size_extract]; omega
      rw [← hR] at k7 cC
      rw [← hPl] at cC cPa
      have HRD : Hid (Rd R 0 zs) := k7
      have hPb : Pl.size ≤ 5000 := by rw [hPl]; omega
      clear hpar k2 k3 k4 k5 k7 hPl hR hPs I hv hm
      gi_wp2_with (fail)
      refine ⟨trivial, ?_⟩
      refine (CallsIn.inRound l (callsIn_wide.2 (cC))).mono ?_
      rintro e W1 ⟨rfl, hd1⟩
      have HB1 : Hid (Bl W W1) := hd1.bl
      have ho1 := ho.step hd1.bl
      have cv1 := (Vr.step HV.out hd1.bl).cell
      clear cC hd1 ho cv
      gi_wp2_with (fail)
      refine ⟨trivial, ?_⟩
      refine (CallsIn.inRound l (callsIn_wide.2 (cPa W1))).mono ?_
      rintro e W1' ⟨rfl, hw1⟩
      subst hw1
      clear cPa
      gi_wp2_with (fail)
      refine ⟨trivial, ?_⟩
      refine (CallsIn.inRound l (callsIn_wide.2 (put_base R zs _ (ap pre) n _ (A + 3) _ HRD.out k6 hapl hRs (by have := HB1.out.size; omega) ho1))).mono ?_
      rintro e W2 ⟨v2, rfl, ho2, hb2, hk2⟩
      obtain ⟨q2, cp2, hv2⟩ := ho2.slice
      obtain ⟨n2, hn2⟩ : ∃ n2, n2 = (putL (ap pre) n zs).length := ⟨_, rfl⟩
      rw [← hn2] at hv2
      subst hv2
      have hfin := Li.next (x := ⟨((a, L), (n, zs)), hgood⟩) HI.out hA0 HB1.out hb2 hk2 (by rw [ap_snoc]; exact ho2)
      have c2 := (hk2.vr (Vr.step HV.out HB1.out) (by decide)).cell
      have f2 := (hk2.vr (Vr.step HV.out HB1.out) (by decide)).frozen
      have HFIN : Hid _ := hfin
      clear hfin ho2 hb2 hk2 hn2
      gi_wp2
      exact HFIN.out
    | false =>
      rw [if_neg (by decide)] at hapl g4
      obtain ⟨k2, k7⟩ := g4
      have hmm := hmx rfl
      have hplen : pre.length + 1 ≤ S.length := hlt
      have hmul : mx * (pre.length + 1) ≤ mx * S.length := Nat.mul_le_mul_left _ hplen
      rw [Nat.mul_succ] at hmul
      have hapl2 : (ap pre).length ≤ 4000 := by omega
      have hk6 : m + zs.length ≤ 4000 := by omega
      have cC := cut_no L 58 W k2
      have HRD : Hid (Rd L 0 zs) := k7
      clear k2 k7 I hv hmul hmm hapl hplen hm
      gi_wp2_with (fail)
      refine ⟨trivial, ?_⟩
      refine (CallsIn.inRound l (callsIn_wide.2 (cC))).mono ?_
      rintro e W1 ⟨rfl, hd1⟩
      have HB1 : Hid (Bl W W1) := hd1.bl
      have ho1 := ho.step hd1.bl
      have cv1 := (Vr.step HV.out hd1.bl).cell
      clear cC hd1 ho cv
      gi_wp2_with (fail)
      refine ⟨trivial, ?_⟩
      refine (CallsIn.inRound l (callsIn_wide.2 (put_base L zs _ (ap pre) m _ (A + 3) _ HRD.out hk6 hapl2 g2 (by have := HB1.out.size; omega) ho1))).mono ?_
      rintro e W2 ⟨v2, rfl, ho2, hb2, hk2⟩
      obtain ⟨q2, cp2, hv2⟩ := ho2.slice
      obtain ⟨n2, hn2⟩ : ∃ n2, n2 = (putL (ap pre) m zs).length := ⟨_, rfl⟩
      rw [← hn2] at hv2
      subst hv2
      have hfin := Li.next (x := ⟨((a, L), (n, zs)), hgood⟩) HI.out hA0 HB1.out hb2 hk2 (by rw [ap_snoc]; show BOwn W2 (A + 3) _ (putL (ap pre) (ap pre).length zs); rw [← HM.out]; exact ho2)
      have c2 := (hk2.vr (Vr.step HV.out HB1.out) (by decide)).cell
      have f2 := (hk2.vr (Vr.step HV.out HB1.out) (by decide)).frozen
      have HFIN : Hid _ := hfin
      clear hfin ho2 hb2 hk2 hn2
      gi_wp2
      exact HFIN.out
  case done =>
    rintro D ys W hD rfl ⟨I, _⟩ hK
    obtain ⟨v, hv, ho⟩ := I.told
    have htx := ho.text
    obtain ⟨q, cp, hve⟩ := ho.slice
    subst hve
    have cv := hv.cell
    have y1 := I.r1.cell
    have y2 := I.r2.cell
    have y3 := I.r1.frozen
    have y4 := I.r2.frozen
    have HV : Hid (Vr W A (.string ⟨#[]⟩) 9 ∧ Vr W (A + 1) .nilIface 24 ∧ Bl w W) := ⟨I.r1, I.r2, I.bl⟩
    obtain ⟨R, hR⟩ : ∃ R, R = strOfNums (ap ys) := ⟨_, rfl⟩
    rw [← hR] at htx
    have HR : Hid (R = strOfNums (ap ys)) := hR
    generalize (ap ys).length = m at *
    clear hR I hv ho
    gi_wp2
    have hK' := ((KeepsOthers.setCell W ⟨A, 0, none⟩ (.string R)).trans (KeepsOthers.setCell _ ⟨A + 1, 0, none⟩ .nilIface)).same D _ hK rfl
    refine ⟨by simp, .inl ⟨_, _, rfl, run_takeDeferred hK', ?_⟩⟩
    have u1 : Vr ((W.setCell ⟨A, 0, none⟩ (.string R)).setCell ⟨A + 1, 0, none⟩ .nilIface) A (.string R) 9 := (HV.out.1.set _).set_other (by omega) _
    have u2 : Vr ((W.setCell ⟨A, 0, none⟩ (.string R)).setCell ⟨A + 1, 0, none⟩ .nilIface) (A + 1) .nilIface 24 := (HV.out.2.1.set_other (by omega) _).set _
    have hc1 := (Vr.own u1 (grownBy_putObj' _ D (.deferred none)) (fun r e => by cases e; exact ⟨_, hK', rfl⟩)).cell
    have hc2 := (Vr.own u2 (grownBy_putObj' _ D (.deferred none)) (fun r e => by cases e; exact ⟨_, hK', rfl⟩)).cell
    refine ⟨.tuple #[.string R, .nilIface], ?_, by rw [HR.out], ((HV.out.2.2.setCell (a := ⟨A, 0, none⟩) (by show w.heap.size ≤ A; omega) _).setCell (a := ⟨A + 1, 0, none⟩) (by show w.heap.size ≤ A + 1; omega) _).thru3 (belowK_b (w := w) (Nat.le_refl _) _ D _ _ (by omega) hK' rfl rfl)⟩
    simp [results, Tryd.f11, go_sem, hc1, hc2]
  case stop =>
    rintro D c pre W _ _ h _
    exact h.elim
end Go.Proofs.YtmchpmfogjhpoabDoor.xl
