/- Texts laid together: Ly2, Ly3, Ly4, Ly5, HZ. -/
import Derived.Test.YtococaecjecjgaaGreatDoorXLayoutReads13
import Derived.BigQuiet
import Derived.Deep.RegionHeld3
import Derived.Test.YtococaecjecjgaaGreatDoorXLayoutReads3
import Derived.Test.YtococaecjecjgaaGreatDoorXLayoutReads1
import Derived.OrdersHeld
namespace Go.Proofs.YtococaecjecjgaaGreatDoor.ly
set_option linter.unusedVariables false
open Go.ChangeShapes Go.WideShapes Go.ChangeAt Go.RowKit
open mem lx ex tm num

def CnA (q : Except Er Nat) (w : World) (e : Ending) (w' : World) : Prop :=
  Bl w w' ∧ match q with
  | .ok n => e = .returned (.int .i64 (n : Int))
  | .error er => ∃ v, e = thrL v ∧ ErV w w' er v
theorem cnt_is (d : D) (en : Env) (x : Ex) (a : Nat) (h : d.ct = some x) : (∀ p, ev en x = .error p → cnt d en a = .error (5, (p : Int))) ∧ (∀ n, ev en x = .ok n → n < 0 → cnt d en a = .error (3, (a : Int))) ∧ (∀ n, ev en x = .ok n → ¬ n < 0 → cnt d en a = .ok n.toNat) := by
  unfold cnt evO
  rw [h]
  refine ⟨fun p hp => by dsimp only; rw [hp], fun n hn h => by dsimp only; rw [hn]; dsimp only; rw [if_pos h], fun n hn h => by dsimp only; rw [hn]; dsimp only; rw [if_neg h]⟩
set_option maxRecDepth 10000 in
theorem count_at (c : C) (m : Value) (en : Env) (x : Ex) (w : World) (P mb : Nat) (s : ByteArray) (l : List Ty) (st : St) (h : RdL w P mb s l st) (hct : c.d.ct = some x) (hX : IsX w (.pointer c.pc) x) (ho : Okb x) (hm : IsM w m en) :
    Calls Tryz.prog 88 #[.pointer (some ⟨P, 0, none⟩), itV c, m] w fun e w' => CnA (cnt c.d en st.1) w e w' := by
  obtain ⟨o1, o2, o3⟩ := cnt_is c.d en x st.1 hct
  obtain ⟨r, hr⟩ : ∃ r, r = cnt c.d en st.1 := ⟨_, rfl⟩
  rw [← hr] at o1 o2 o3 ⊢
  have cV := fun wx (hb : Bl w wx) => value_at c m en x wx (hX.keep (Kx.bl hb)) ho (hm.step hb)
  have cT := fun wx (hb : Bl w wx) => throw_at wx P mb s l st 3 (h.bl hb)
  obtain ⟨q, hq⟩ : ∃ q, q = ev en x := ⟨_, rfl⟩
  rw [← hq] at cV o1 o2 o3
  rw [itV_eq] at cV ⊢
  obtain ⟨w1, hw1⟩ : ∃ w1, w1 = w.alloc (.cells #[.int .i64 (c.d.kd : Int), .int .i64 (c.d.at_ : Int), .string (tx c.d.nm), .string (tx c.d.ty), .int .i64 (c.d.wd : Int), .int .i64 (c.d.od : Int), .bool c.d.sg, .bool c.d.mn, .pointer c.pc, .int .i64 (c.d.ru : Int), .string (tx c.d.f1), .string (tx c.d.l1), .slice c.p c.n c.c] 60) := ⟨_, rfl⟩
  have hb1 : Bl w w1 := by rw [hw1]; exact (Bl.refl _).alloc _
  have HB : Hid (Bl w w1) := hb1
  have cV' := cV w1 hb1
  clear hb1 hX hm ho hct hq h cV hr
  go_enter Tryz.func88, Tryz.ntmps88
  go_wp2_with fail
  rw [← hw1]
  refine cV'.mono ?_
  rintro e w2 ⟨hb2, hans⟩
  clear hw1 cV'
  have hb02 := HB.out.trans hb2
  cases q with
  | ok n =>
    dsimp only at hans
    subst hans
    by_cases hn : n < 0
    · have HQ : Hid (r = .error (3, (st.1 : Int))) := o2 n rfl hn
      clear o1 o2 o3
      have cT' := cT w2 hb02
      clear cT
      go_wp2_with fail
      refine cT'.mono ?_
      rintro e w3 ⟨v, rfl, hv, hb3⟩
      unfold thrL
      go_wp2
      rw [HQ.out]
      exact ⟨rfl, hb02.trans hb3, v, rfl, hv.from hb02.size⟩
    · have HQ : Hid (r = .ok n.toNat) := o3 n rfl (by omega)
      clear o1 o2 o3
      clear cT
      go_wp2
      go_ret
      rw [HQ.out]
      exact ⟨hb02, by show Ending.returned (.int .i64 n) = .returned (.int .i64 (n.toNat : Int)); rw [Int.toNat_of_nonneg (by omega)]⟩
  | error p =>
    obtain ⟨v, rfl, hv⟩ := hans
    have HQ : Hid (r = .error (5, (p : Int))) := o1 p rfl
    clear cT o1 o2 o3
    unfold thrL
    go_wp2
    rw [HQ.out]
    exact ⟨rfl, hb02, v, rfl, hv.from HB.out.size⟩
theorem RdL.move {w : World} {P mb : Nat} {s : ByteArray} {l : List Ty} {st : St} (h : RdL w P mb s l st) (a : Nat) (ha : a ≤ s.size) : RdL (w.setCell ⟨P, 2, none⟩ (.int .i64 (a : Int))) P mb s l (a, st.2) := by
  refine h.go (Gp.set _) ?_ ha h.k
  simp [World.setCell, Array.getElem?_modify, h.at_]
theorem RdL.begin {w : World} {P mb : Nat} {s : ByteArray} {l : List Ty} {st : St} (h : RdL w P mb s l st) (k : Nat) (hk : k ≤ 400) : RdL (w.setCell ⟨P, 3, none⟩ (.int .i64 (k : Int))) P mb s l (st.1, k) := by
  refine h.go (Gp.set _) ?_ h.a hk
  simp [World.setCell, Array.getElem?_modify, h.at_]
theorem RdL.drew {w : World} {P mb : Nat} {s : ByteArray} {l : List Ty} {st : St} (h : RdL w P mb s l st) : RdL w.drew P mb s l st := h.bl (Bl.refl _).drew
def ByA (w : World) (P mb : Nat) (s : ByteArray) (l : List Ty) (st : St) (n : Nat) (e : Ending) (w' : World) : Prop :=
  Gp P w w' ∧ ((s.size - st.1 < n ∧ ∃ v, e = thrL v ∧ ErV w w' (3, (st.1 : Int)) v) ∨ (¬ s.size - st.1 < n ∧ e = .returned (.string (tx (((L s).drop st.1).take n))) ∧ RdL w' P mb s l (st.1 + n, st.2)))
set_option maxRecDepth 10000 in
theorem bytes_at (w : World) (P mb : Nat) (s : ByteArray) (l : List Ty) (st : St) (n : Nat) (h : RdL w P mb s l st) :
    Calls Tryz.prog 87 #[.pointer (some ⟨P, 0, none⟩), .int .i64 (n : Int)] w fun e w' => ByA w P mb s l st n e w' := by
  obtain ⟨c0, c1, c2, c3, cz⟩ := h.cells
  have cz2 := cz 2
  have hP := h.lt'
  have ha := h.a
  have hz := h.sz
  obtain ⟨a, k⟩ := st
  dsimp only at c2 ha
  have HR : Hid (RdL w P mb s l (a, k)) := h
  unfold ByA
  dsimp only
  have cT := fun wx (hb : Bl w wx) => throw_at wx P mb s l (a, k) 3 (h.bl hb)
  clear h c0 c3 cz
  by_cases hn : s.size - a < n
  · have hd : decide (((s.size : Int) - (a : Int)) < (n : Int)) = true := decide_eq_true (by omega)
    go_enter Tryz.func87, Tryz.ntmps87
    go_upto_region 1 with fail
    go_quiet (fail)
    go_wp2_with fail
    refine (cT _ ((Bl.refl _).drewN _)).mono ?_
    rintro e w3 ⟨v, rfl, hv, hb3⟩
    unfold thrL
    go_wp2
    exact ⟨rfl, Gp.bl (((Bl.refl _).drewN _).trans hb3), Or.inl ⟨hn, v, rfl, hv⟩⟩
  · have hn' : a + n ≤ s.size := by omega
    have hwr : IntKind.i64.wrap ((a : Int) + (n : Int)) = (a : Int) + (n : Int) := by rw [IntKind.wrap_i64]; omega
    go_enter Tryz.func87, Tryz.ntmps87
    go_upto_region 1 with fail
    go_quiet (fail)
    go_wp2_with fail
    go_quiet (fail)
    rename_i q1 hq1 K9 K8
    have HW : Hid (RdL ((w.drewN q1).drewN nq) P mb s l (a, k) ∧ Bl w ((w.drewN q1).drewN nq)) := ⟨HR.out.bl (((Bl.refl _).drewN _).drewN _), ((Bl.refl _).drewN _).drewN _⟩
    generalize (w.drewN q1).drewN nq = W at HW ⊢
    clear hq1
    clear c1 c2 cz2 cT
    obtain ⟨c0, c1, c2, c3, cz⟩ := HW.out.1.cells
    have cz2 := cz 2
    have hP := HW.out.1.lt'
    dsimp only at c2
    have hex : s.extract a (a + n) = tx (((L s).drop a).take n) := by rw [← tx_L (s.extract a (a + n)), L_ext, List.drop_take, Nat.add_sub_cancel_left]
    rw [hex]
    clear c0 c1 c3 cz
    obtain ⟨b, hb⟩ : ∃ b, b = a + n := ⟨_, rfl⟩
    have hwr' : IntKind.i64.wrap ((a : Int) + (n : Int)) = (b : Int) := by rw [hwr]; omega
    have hbs : b ≤ s.size := by omega
    have hw0 : (a : Int) + (n : Int) = (b : Int) := by omega
    rw [hw0]
    clear hwr
    have HBB : Hid (b = a + n) := hb
    clear hb
    go_wp2
    go_ret
    have hm := HW.out.1.move b hbs
    exact ⟨(Gp.bl HW.out.2).trans (Gp.set _), Or.inr ⟨hn, rfl, by rw [← HBB.out]; exact hm⟩⟩
end Go.Proofs.YtococaecjecjgaaGreatDoor.ly
namespace Go.Proofs.YtococaecjecjgaaGreatDoor.ly
set_option linter.unusedVariables false
open Go.ChangeShapes Go.WideShapes Go.ChangeAt Go.RowKit
open mem lx ex tm num

theorem Iv.new (w : World) (c : C) : Iv (w.alloc (.cells #[.int .i64 (c.d.kd : Int), .int .i64 (c.d.at_ : Int), .string (tx c.d.nm), .string (tx c.d.ty), .int .i64 (c.d.wd : Int), .int .i64 (c.d.od : Int), .bool c.d.sg, .bool c.d.mn, .pointer c.pc, .int .i64 (c.d.ru : Int), .string (tx c.d.f1), .string (tx c.d.l1), .slice c.p c.n c.c] 60)) w.heap.size c := ⟨new_at _ _⟩
def NuA (w : World) (P mb : Nat) (s : ByteArray) (l : List Ty) (st : St) (d : D) (e : Ending) (w' : World) : Prop :=
  Gp P w w' ∧ ((¬ st.1 + d.wd ≤ s.size ∧ ∃ v, e = thrL v ∧ ErV w w' (3, (st.1 : Int)) v) ∨ (st.1 + d.wd ≤ s.size ∧ e = .returned (.int .i64 (num d (un (L s) st.1 d.wd (d.od == 1)))) ∧ RdL w' P mb s l (st.1 + d.wd, st.2)))
set_option maxRecDepth 10000 in
theorem number_at (w : World) (P mb : Nat) (s : ByteArray) (l : List Ty) (st : St) (c : C) (h : RdL w P mb s l st) (hd : WD c.d) (h1 : c.d.kd = 1) :
    Calls Tryz.prog 86 #[.pointer (some ⟨P, 0, none⟩), itV c] w fun e w' => NuA w P mb s l st c.d e w' := by
  obtain ⟨hw, ho⟩ := num_cases hd h1
  have hW : (c.d.wd : Int) = 1 ∨ (c.d.wd : Int) = 2 ∨ (c.d.wd : Int) = 4 ∨ (c.d.wd : Int) = 8 := by omega
  have hW' : c.d.wd = 1 ∨ c.d.wd = 2 ∨ c.d.wd = 4 ∨ c.d.wd = 8 := by omega
  have hO : (if (c.d.od == 1) then (1 : Int) else 0) = (c.d.od : Int) := by rcases ho with e | e <;> rw [e] <;> rfl
  have hO' : (c.d.od : Int) = 0 ∨ (c.d.od : Int) = 1 := by omega
  have hub := un_bd (L s) st.1 c.d.wd (c.d.od == 1)
  have hu64 : un (L s) st.1 c.d.wd (c.d.od == 1) < 18446744073709551616 := by
    rcases hW' with e | e | e | e <;> rw [e] at hub ⊢ <;> simp at hub <;> omega
  have hu32 : c.d.sg = false → un (L s) st.1 c.d.wd (c.d.od == 1) < 4294967296 := by
    intro hs
    rcases hw with e | e | e | ⟨e, e2⟩
    · rw [e] at hub ⊢; simp at hub; omega
    · rw [e] at hub ⊢; simp at hub; omega
    · rw [e] at hub ⊢; simp at hub; omega
    · rw [hs] at e2; cases e2
  have hz := h.sz
  have ha := h.a
  have cG := fun wx (hA : st.1 + c.d.wd ≤ s.size) => words.get_any s st.1 c.d.wd (c.d.od == 1) (c.d.od : Int) wx hO hW (by unfold maxLen; omega) hA
  have cF := fun wx (hA : ¬ st.1 + c.d.wd ≤ s.size) => get_few s st.1 c.d.wd (c.d.od : Int) wx hO' hW hz (by omega)
  have cS := fun wx => sgn_calls (un (L s) st.1 c.d.wd (c.d.od == 1)) c.d.wd hW' hub.1 hu64 wx
  have hg : gv (fun i => num.sb s (st.1 + pl c.d.wd (c.d.od == 1) i)) c.d.wd = un (L s) st.1 c.d.wd (c.d.od == 1) := rfl
  have hnum : num c.d (un (L s) st.1 c.d.wd (c.d.od == 1)) = if c.d.sg = true then sgn (un (L s) st.1 c.d.wd (c.d.od == 1)) c.d.wd else un (L s) st.1 c.d.wd (c.d.od == 1) := rfl
  rw [hg] at cG
  unfold NuA
  rw [hnum]
  rw [itV_eq]
  obtain ⟨u, hu⟩ : ∃ u, u = un (L s) st.1 c.d.wd (c.d.od == 1) := ⟨_, rfl⟩
  rw [← hu] at cG cS hub hu64 hu32 ⊢
  obtain ⟨w1, hw1⟩ : ∃ w1, w1 = w.alloc (.cells #[.int .i64 (c.d.kd : Int), .int .i64 (c.d.at_ : Int), .string (tx c.d.nm), .string (tx c.d.ty), .int .i64 (c.d.wd : Int), .int .i64 (c.d.od : Int), .bool c.d.sg, .bool c.d.mn, .pointer c.pc, .int .i64 (c.d.ru : Int), .string (tx c.d.f1), .string (tx c.d.l1), .slice c.p c.n c.c] 60) := ⟨_, rfl⟩
  obtain ⟨N, hN⟩ : ∃ N, N = w.heap.size := ⟨_, rfl⟩
  have hb1 : Bl w w1 := by rw [hw1]; exact (Bl.refl _).alloc _
  have hI := Iv.new w c
  rw [← hw1, ← hN] at hI
  have HI : Hid (Iv w1 N c ∧ RdL w1 P mb s l st ∧ Bl w w1 ∧ N ≠ P) := ⟨hI, h.bl hb1, hb1, by have := h.lt'; omega⟩
  have cT := fun wx (hb : Bl w1 wx) => throw_at wx P mb s l st 3 ((h.bl hb1).bl hb)
  obtain ⟨c0, c1, c2, c3, cz⟩ := HI.out.2.1.cells
  have i4 : w1.cell? ⟨N, 4, none⟩ = some (.int .i64 (c.d.wd : Int)) := hI.cell 4
  have i5 : w1.cell? ⟨N, 5, none⟩ = some (.int .i64 (c.d.od : Int)) := hI.cell 5
  have i6 : w1.cell? ⟨N, 6, none⟩ = some (.bool c.d.sg) := hI.cell 6
  have hP := HI.out.2.1.lt'
  have hN1 := hI.lt
  obtain ⟨a, k⟩ := st
  dsimp only at *
  clear hg hnum hO hO' hw ho hu hI hd h1 hW hW' hb1 h
  generalize c.d.wd = W at *
  generalize (c.d.od : Int) = O at *
  generalize hsg : c.d.sg = sg at *
  have hz2 := cz 2
  clear c0 c3 cz
  by_cases hA : a + W ≤ s.size
  · have cG' := fun wx => cG wx hA
    clear cG cF cT
    go_enter Tryz.func86, Tryz.ntmps86
    go_upto_region 1 with fail
    rw [← hw1, ← hN]
    clear hw1 hN hsg
    go_quiet ((go_at_call 116; exact Calls.quiet_of_same (cG' _)))
    go_wp2_with fail
    have HW : Hid (RdL (w1.drewN nq) P mb s l (a, k) ∧ Iv (w1.drewN nq) N c ∧ Bl w (w1.drewN nq) ∧ N ≠ P) := ⟨HI.out.2.1.bl ((Bl.refl _).drewN _), HI.out.1.bl ((Bl.refl _).drewN _), HI.out.2.2.1.trans ((Bl.refl _).drewN _), HI.out.2.2.2⟩
    have j4 : (w1.drewN nq).cell? ⟨N, 4, none⟩ = some (.int .i64 (W : Int)) := i4
    have j6 : (w1.drewN nq).cell? ⟨N, 6, none⟩ = some (.bool sg) := i6
    have d2 : (w1.drewN nq).cell? ⟨P, 2, none⟩ = some (.int .i64 (a : Int)) := c2
    have y2 : (w1.drewN nq).frozen? ⟨P, 2, none⟩ = false := hz2
    have hP2 : P < (w1.drewN nq).heap.size := hP
    have hN2 : N < (w1.drewN nq).heap.size := hN1
    generalize w1.drewN nq = W2 at HW j4 j6 d2 y2 hP2 hN2 ⊢
    obtain ⟨b, hb⟩ : ∃ b, b = a + W := ⟨_, rfl⟩
    have hbs : b ≤ s.size := by omega
    have hwr : IntKind.i64.wrap ((a : Int) + (W : Int)) = (b : Int) := by rw [IntKind.wrap_i64]; omega
    have hw0 : (a : Int) + (W : Int) = (b : Int) := by omega
    have HBB : Hid (b = a + W) := hb
    clear hb c1 i5 cG' HI i4 i6 c2 hz2 hP hN1
    refine wp_calm ?_
    go_region
    all_goals
      refine Calm.in ?_
      have HZ : Hid (RdL (W2.setCell ⟨P, 2, none⟩ (.int .i64 (b : Int))).drew P mb s l (b, k) ∧ Iv (W2.setCell ⟨P, 2, none⟩ (.int .i64 (b : Int))).drew N c ∧ Gp P w (W2.setCell ⟨P, 2, none⟩ (.int .i64 (b : Int))).drew) := by
        have hg : Gp P W2 (W2.setCell ⟨P, 2, none⟩ (.int .i64 (b : Int))) := Gp.set _
        exact ⟨(HW.out.1.move b hbs).drew, (HW.out.2.1.gp hg HW.out.2.2.2).bl (Bl.refl _).drew, ((Gp.bl HW.out.2.2.1).trans hg).trans (Gp.bl (Bl.refl _).drew)⟩
      have hne : (⟨P, 2, none⟩ : Addr) ≠ ⟨N, 4, none⟩ := fun e => by injection e with e1 e2; exact absurd e2 (by decide)
      have hne2 : (⟨P, 2, none⟩ : Addr) ≠ ⟨N, 6, none⟩ := fun e => by injection e with e1 e2; exact absurd e2 (by decide)
      have k4 : (W2.setCell ⟨P, 2, none⟩ (.int .i64 (b : Int))).drew.cell? ⟨N, 4, none⟩ = some (.int .i64 (W : Int)) := (World.cell?_setCell_other W2 _ _ _ hne).trans j4
      have k6 : (W2.setCell ⟨P, 2, none⟩ (.int .i64 (b : Int))).drew.cell? ⟨N, 6, none⟩ = some (.bool sg) := (World.cell?_setCell_other W2 _ _ _ hne2).trans j6
      have hN3 := HZ.out.2.1.lt
      generalize (W2.setCell ⟨P, 2, none⟩ (.int .i64 (b : Int))).drew = W3 at HZ k4 k6 hN3 ⊢
      clear j4 j6 d2 y2 hP2 hN2 hwr hw0 HW hne hne2
      cases sg with
      | true =>
        go_wp2_with (go_at_call 117; refine (cS _).mono ?_; rintro e w' ⟨rfl, rfl⟩)
        go_ret
        exact ⟨HZ.out.2.2, rfl, by rw [← HBB.out]; exact HZ.out.1⟩
      | false =>
        have hu := hu32 rfl
        go_wp2
        go_ret
        exact ⟨HZ.out.2.2, rfl, by rw [← HBB.out]; exact HZ.out.1⟩
  · have cF' := fun wx => cF wx hA
    clear cG cF cS
    go_enter Tryz.func86, Tryz.ntmps86
    go_upto_region 1 with fail
    rw [← hw1, ← hN]
    clear hw1 hN hsg
    go_quiet ((go_at_call 116; exact Calls.quiet_of_same (cF' _)))
    go_wp2_with fail
    refine (cT _ ((Bl.refl _).drewN _)).mono ?_
    rintro e w3 ⟨v, rfl, hv, hb3⟩
    unfold thrL
    go_wp2
    all_goals exact ⟨rfl, Gp.bl ((HI.out.2.2.1.trans ((Bl.refl _).drewN _)).trans hb3), v, rfl, hv.from (by have := HI.out.2.2.1.size; have := ((Bl.refl w1).drewN nq).size; omega)⟩
def ItA (w : World) (mb : Nat) (q : Option Its) (e : Ending) (w' : World) : Prop :=
  Bl w w' ∧ match q with
  | none => e = thrL (.iface 28 (.int .i64 7))
  | some i => ∃ p n c cs, e = .returned (.slice p n c) ∧ ir.Lie w' (fun g => g < mb) p n c cs ∧ Rep w' (fun g => g < mb) i cs
set_option maxRecDepth 10000 in
theorem items_at (w : World) (mb : Nat) (l : List Ty) (x : List UInt8) (h : TyM w mb l) (hx : x.length ≤ maxLen) :
    Calls Tryz.prog 64 #[.map (some mb), .string (tx x)] w fun e w' => ItA w mb (fnd l x) e w' := by
  obtain ⟨f, n, hs, hf⟩ := h
  have hl := hs.look (tx x) (by rw [tx_size]; exact hx)
  have hmb := hs.lt
  rw [show (tx x).data.toList = x from L_tx x] at hl
  obtain ⟨q, hq⟩ : ∃ q, q = fnd l x := ⟨_, rfl⟩
  have hfx := hf x hx
  rw [← hq] at hfx ⊢
  clear hs hf hq
  rcases hfx with ⟨h1, h2⟩ | ⟨nm, a, p, k, c, i, cs, h1, h2, h3, h4⟩
  · rw [h1] at hl
    have HQ : Hid (q = none) := h2
    simp only [Option.getD_none, Option.isSome_none, zT] at hl
    clear h1 h2
    go_enter Tryz.func64, Tryz.ntmps64
    go_wp2
    rw [HQ.out]
    exact ⟨rfl, (Bl.refl _).alloc _, rfl⟩
  · rw [h1] at hl
    have HQ : Hid (q = some i ∧ ir.Lie w (fun g => g < mb) p k c cs ∧ Rep w (fun g => g < mb) i cs) := ⟨h2, h3, h4⟩
    simp only [Option.getD_some, Option.isSome_some] at hl
    clear h1 h2 h3 h4
    go_enter Tryz.func64, Tryz.ntmps64
    go_wp2
    go_ret
    rw [HQ.out.1]
    have hb : Bl w (w.alloc (.cells #[.string (tx nm), .int .i64 (a : Int), .slice p k c] 96)) := (Bl.refl _).alloc _
    exact ⟨hb, p, k, c, cs, rfl, HQ.out.2.1.keep (fun g _ hg => Below.block hb g hg) hb.size, HQ.out.2.2.keep (fun g _ hg => Below.block hb g hg) hb.size (Kx.bl hb)⟩
end Go.Proofs.YtococaecjecjgaaGreatDoor.ly
namespace Go.Proofs.YtococaecjecjgaaGreatDoor.ly
set_option linter.unusedVariables false
open Go.ChangeShapes Go.WideShapes Go.ChangeAt Go.RowKit
open mem lx ex tm num

structure Gq (P Q : Nat) (w w' : World) : Prop where
  os : w'.os = w.os
  tape : w'.tape = w.tape
  output : w'.output = w.output
  size : w.heap.size ≤ w'.heap.size
  block : ∀ k, k < w.heap.size → k ≠ P → k ≠ Q → w'.heap[k]? = w.heap[k]?
theorem Gq.gp {P Q : Nat} {w w' : World} (h : Gp P w w') : Gq P Q w w' := ⟨h.os, h.tape, h.output, h.size, fun k h1 h2 _ => h.block k h1 h2⟩
theorem Gq.refl (P Q : Nat) (w : World) : Gq P Q w w := Gq.gp (Gp.refl _ _)
theorem Gq.trans {P Q : Nat} {a b c : World} (h : Gq P Q a b) (k : Gq P Q b c) : Gq P Q a c :=
  ⟨k.os.trans h.os, k.tape.trans h.tape, k.output.trans h.output, Nat.le_trans h.size k.size, fun j h1 h2 h3 => (k.block j (Nat.lt_of_lt_of_le h1 h.size) h2 h3).trans (h.block j h1 h2 h3)⟩
theorem Gq.setQ {P Q j : Nat} {w : World} (v : Value) : Gq P Q w (w.setCell ⟨Q, j, none⟩ v) := by
  have h := Gp.set (P := Q) (j := j) (w := w) v
  exact ⟨h.os, h.tape, h.output, h.size, fun k h1 _ h3 => h.block k h1 h3⟩
theorem Gq.fresh {P Q : Nat} {w0 w w' : World} (h0 : Gp P w0 w) (h : Gq P Q w w') (hQ : w0.heap.size ≤ Q) : Gp P w0 w' :=
  ⟨h.os.trans h0.os, h.tape.trans h0.tape, h.output.trans h0.output, Nat.le_trans h0.size h.size, fun k h1 h2 => (h.block k (Nat.lt_of_lt_of_le h1 h0.size) h2 (by omega)).trans (h0.block k h1 h2)⟩
def Nv (w : World) (N : Nat) (d : ND) (p : Option Addr) (n c : Nat) : Prop := w.heap[N]? = some (.cells #[.string (tx d.nm), .int .i64 (d.kd : Int), .int .i64 (d.at_ : Int), .int .i64 (d.sz : Int), .int .i64 d.n, .string (tx d.tx), .slice p n c] 27 (0, 0))
theorem Nv.lt {w : World} {N : Nat} {d : ND} {p : Option Addr} {n c : Nat} (h : Nv w N d p n c) : N < w.heap.size := lt_of_heap h
theorem Nv.bl {w w' : World} {N : Nat} {d : ND} {p : Option Addr} {n c : Nat} (h : Nv w N d p n c) (hb : Bl w w') : Nv w' N d p n c := (Below.block hb N h.lt).trans h
theorem Nv.gp {w w' : World} {P N : Nat} {d : ND} {p : Option Addr} {n c : Nat} (h : Nv w N d p n c) (hb : Gp P w w') (hne : N ≠ P) : Nv w' N d p n c := (hb.block N h.lt hne).trans h
theorem Nv.cells {w : World} {N : Nat} {d : ND} {p : Option Addr} {n c : Nat} (h : Nv w N d p n c) : w.cell? ⟨N, 0, none⟩ = some (.string (tx d.nm)) ∧ w.cell? ⟨N, 1, none⟩ = some (.int .i64 (d.kd : Int)) ∧ w.cell? ⟨N, 2, none⟩ = some (.int .i64 (d.at_ : Int)) ∧ w.cell? ⟨N, 3, none⟩ = some (.int .i64 (d.sz : Int)) ∧ w.cell? ⟨N, 4, none⟩ = some (.int .i64 d.n) ∧ w.cell? ⟨N, 5, none⟩ = some (.string (tx d.tx)) ∧ w.cell? ⟨N, 6, none⟩ = some (.slice p n c) := by
  unfold Nv at h
  exact ⟨by rw [cell_of h]; rfl, by rw [cell_of h]; rfl, by rw [cell_of h]; rfl, by rw [cell_of h]; rfl, by rw [cell_of h]; rfl, by rw [cell_of h]; rfl, by rw [cell_of h]; rfl⟩
theorem Nv.fz {w : World} {N : Nat} {d : ND} {p : Option Addr} {n c : Nat} (h : Nv w N d p n c) : w.frozen? ⟨N, 0, none⟩ = false ∧ w.frozen? ⟨N, 1, none⟩ = false ∧ w.frozen? ⟨N, 2, none⟩ = false ∧ w.frozen? ⟨N, 3, none⟩ = false ∧ w.frozen? ⟨N, 4, none⟩ = false ∧ w.frozen? ⟨N, 5, none⟩ = false ∧ w.frozen? ⟨N, 6, none⟩ = false := by
  have hf : ∀ j, w.frozen? ⟨N, j, none⟩ = false := fun j => by unfold Nv at h; simp [World.frozen?, h]
  exact ⟨hf 0, hf 1, hf 2, hf 3, hf 4, hf 5, hf 6⟩
theorem Nv.setSz {w : World} {N : Nat} {d : ND} {p : Option Addr} {n c : Nat} (h : Nv w N d p n c) (k : Nat) : Nv (w.setCell ⟨N, 3, none⟩ (.int .i64 (k : Int))) N { d with sz := k } p n c := heap_set h
theorem Nv.setN {w : World} {N : Nat} {d : ND} {p : Option Addr} {n c : Nat} (h : Nv w N d p n c) (k : Int) : Nv (w.setCell ⟨N, 4, none⟩ (.int .i64 k)) N { d with n := k } p n c := heap_set h
theorem Nv.setT {w : World} {N : Nat} {d : ND} {p : Option Addr} {n c : Nat} (h : Nv w N d p n c) (t : List UInt8) : Nv (w.setCell ⟨N, 5, none⟩ (.string (tx t))) N { d with tx := t } p n c := heap_set h
theorem Nv.setK {w : World} {N : Nat} {d : ND} {p : Option Addr} {n c : Nat} (h : Nv w N d p n c) (p' : Option Addr) (n' c' : Nat) : Nv (w.setCell ⟨N, 6, none⟩ (.slice p' n' c')) N d p' n' c' := heap_set h
theorem arr7 (a0 a1 a2 a3 a4 a5 a6 v0 v1 v2 v3 v4 v5 v6 : Value) : (((((((#[a0, a1, a2, a3, a4, a5, a6] : Array Value).setIfInBounds 0 v0).setIfInBounds 1 v1).setIfInBounds 2 v2).setIfInBounds 3 v3).setIfInBounds 4 v4).setIfInBounds 5 v5).setIfInBounds 6 v6 = #[v0, v1, v2, v3, v4, v5, v6] := by
  apply Array.ext'
  simp only [Array.toList_setIfInBounds, List.set]
def st7 (w : World) (N : Nat) (d : ND) (p : Option Addr) (n c : Nat) : World := ((((((w.setCell ⟨N, 0, none⟩ (.string (tx d.nm))).setCell ⟨N, 1, none⟩ (.int .i64 (d.kd : Int))).setCell ⟨N, 2, none⟩ (.int .i64 (d.at_ : Int))).setCell ⟨N, 3, none⟩ (.int .i64 (d.sz : Int))).setCell ⟨N, 4, none⟩ (.int .i64 d.n)).setCell ⟨N, 5, none⟩ (.string (tx d.tx))).setCell ⟨N, 6, none⟩ (.slice p n c)
theorem Nv.store {w : World} {N : Nat} {d : ND} {p : Option Addr} {n c : Nat} (h : Nv w N d p n c) (d' : ND) (p' : Option Addr) (n' c' : Nat) : Nv (st7 w N d' p' n' c') N d' p' n' c' := by
  have := heap_set (j := 6) (u := .slice p' n' c') (heap_set (j := 5) (u := .string (tx d'.tx)) (heap_set (j := 4) (u := .int .i64 d'.n) (heap_set (j := 3) (u := .int .i64 (d'.sz : Int)) (heap_set (j := 2) (u := .int .i64 (d'.at_ : Int)) (heap_set (j := 1) (u := .int .i64 (d'.kd : Int)) (heap_set (j := 0) (u := .string (tx d'.nm)) (show w.heap[N]? = _ from h)))))))
  rw [arr7] at this
  exact this
theorem st7_gq {w : World} (P N : Nat) (d : ND) (p : Option Addr) (n c : Nat) : Gq P N w (st7 w N d p n c) :=
  ((((((Gq.setQ _).trans (Gq.setQ _)).trans (Gq.setQ _)).trans (Gq.setQ _)).trans (Gq.setQ _)).trans (Gq.setQ _)).trans (Gq.setQ _)
theorem RdL.gq {w w' : World} {P mb Q : Nat} {s : ByteArray} {l : List Ty} {st : St} (h : RdL w P mb s l st) (hg : Gq P Q w w') (hQ : P < Q) (hc : w'.heap[P]? = w.heap[P]?) (hx : Kx w w') : RdL w' P mb s l st :=
  ⟨hc.trans h.at_, h.mp.keep (fun g hg' => hg.block g (by have := h.lt; have := h.lt'; omega) (by have := h.lt; omega) (by have := h.lt; omega)) hg.size hx, h.lt, h.a, h.k, h.sz⟩
theorem infoN : (Tryz.prog.info? 27).map (·.size) = some 7 := by kernel_rfl
def CloA (wx : World) (N P mb : Nat) (s : ByteArray) (l : List Ty) (q : Except Er (ND × Nds × St)) (e : Ending) (w' : World) : Prop :=
  Gq P N wx w' ∧ match q with
  | .error er => ∃ v, e = thrL v ∧ ErV wx w' er v
  | .ok (nd, ks, st') => e = .returned (.tuple #[]) ∧ ∃ p c, Nv w' N { nd with sz := 0 } p ks.len c ∧ IsNs w' (fun g => wx.heap.size ≤ g) p ks.len c ks ∧ RdL w' P mb s l st'
def NdA (w : World) (P mb : Nat) (s : ByteArray) (l : List Ty) (q : Except Er (ND × Nds × St)) (e : Ending) (w' : World) : Prop :=
  Gp P w w' ∧ match q with
  | .error er => ∃ v, e = thrL v ∧ ErV w w' er v
  | .ok (nd, ks, st') => ∃ p c, e = .returned (ndV nd p ks.len c) ∧ IsNs w' (fun g => w.heap.size ≤ g) p ks.len c ks ∧ RdL w' P mb s l st'
set_option maxRecDepth 10000 in
theorem node_full (v : Value) (w : World) (P mb : Nat) (s : ByteArray) (l : List Ty) (st : St) (nm : ByteArray) (kd : Nat) (h : RdL w P mb s l st) (hk : st.2 = 400) :
    Calls Tryz.prog 84 #[.pointer (some ⟨P, 0, none⟩), .string nm, .int .i64 (kd : Int), v] w fun e w' => NdA w P mb s l (.error (4, (st.1 : Int))) e w' := by
  obtain ⟨w1, hw1⟩ : ∃ w1, w1 = w.alloc (.cells #[.string ⟨#[]⟩, .int .i64 0, .int .i64 0, .int .i64 0, .int .i64 0, .string ⟨#[]⟩, .slice none 0 0] 27) := ⟨_, rfl⟩
  have hb1 : Bl w w1 := by rw [hw1]; exact (Bl.refl _).alloc _
  obtain ⟨c0, c1, c2, c3, cz⟩ := (h.bl hb1).cells
  have hP := (h.bl hb1).lt'
  have cT := throw_at w1 P mb s l st 4 (h.bl hb1)
  have HB : Hid (Bl w w1) := hb1
  obtain ⟨a, k⟩ := st
  dsimp only at hk
  subst hk
  dsimp only at *
  clear h hb1 c0 c1 c2 cz
  go_enter Tryz.func84, Tryz.ntmps84
  go_upto_region 1 with fail
  rw [← hw1]
  clear hw1
  go_wp2_with fail
  refine cT.mono ?_
  rintro e w3 ⟨v, rfl, hv, hb3⟩
  unfold thrL
  go_wp2
  exact ⟨rfl, Gp.bl (HB.out.trans hb3), v, rfl, hv.from HB.out.size⟩
set_option maxRecDepth 10000 in
set_option maxHeartbeats 1000000 in
theorem node_at (F : FuncId) (q1 q2 q3 : Value) (w : World) (P mb : Nat) (s : ByteArray) (l : List Ty) (st : St) (nm : List UInt8) (kd : Nat) (q : Except Er (ND × Nds × St)) (h : RdL w P mb s l st) (hk : st.2 < 400) (hF : ∀ args w, (callFunc F args).run Tryz.prog w = .ok (.enter F args) w)
    (hq : ∀ nd ks st', q = .ok (nd, ks, st') → nd.at_ = st.1 ∧ nd.sz = st'.1 - st.1 ∧ st.1 ≤ st'.1)
    (hcall : ∀ wx N, Gp P w wx → w.heap.size ≤ N → RdL wx P mb s l (st.1, st.2 + 1) → Nv wx N ⟨nm, kd, st.1, 0, 0, []⟩ none 0 0 → Calls Tryz.prog F #[.pointer (some ⟨N, 0, none⟩), q1, q2, q3] wx fun e w' => CloA wx N P mb s l q e w') :
    Calls Tryz.prog 84 #[.pointer (some ⟨P, 0, none⟩), .string (tx nm), .int .i64 (kd : Int), .func (.func F) #[] #[q1, q2, q3]] w fun e w' => NdA w P mb s l q e w' := by
  obtain ⟨w1, hw1⟩ : ∃ w1, w1 = w.alloc (.cells #[.string ⟨#[]⟩, .int .i64 0, .int .i64 0, .int .i64 0, .int .i64 0, .string ⟨#[]⟩, .slice none 0 0] 27) := ⟨_, rfl⟩
  have hb1 : Bl w w1 := by rw [hw1]; exact (Bl.refl _).alloc _
  have hR0 : Nv w1 w.heap.size ⟨[], 0, 0, 0, 0, []⟩ none 0 0 := by rw [hw1]; exact new_at _ _
  have hR1 := h.bl hb1
  obtain ⟨c0, c1, c2, c3, cz⟩ := hR1.cells
  have z3 := cz 3
  have hP := hR1.lt'
  obtain ⟨R, hR⟩ : ∃ R, R = w.heap.size := ⟨_, rfl⟩
  rw [← hR] at hR0
  have H1 : Hid (RdL w1 P mb s l st ∧ Nv w1 R ⟨[], 0, 0, 0, 0, []⟩ none 0 0 ∧ Bl w w1 ∧ R = w.heap.size ∧ P < w.heap.size) := ⟨hR1, hR0, hb1, hR, h.lt'⟩
  have HC : Hid (∀ wx N, Gp P w wx → w.heap.size ≤ N → RdL wx P mb s l (st.1, st.2 + 1) → Nv wx N ⟨nm, kd, st.1, 0, 0, []⟩ none 0 0 → Calls Tryz.prog F #[.pointer (some ⟨N, 0, none⟩), q1, q2, q3] wx fun e w' => CloA wx N P mb s l q e w') := hcall
  obtain ⟨a, k⟩ := st
  dsimp only at *
  have hk4 : ((k : Int) == 400) = false := by rw [beq_eq_false_iff_ne]; omega
  obtain ⟨k', hk'⟩ : ∃ k', k' = k + 1 := ⟨_, rfl⟩
  have hw0 : (k : Int) + 1 = (k' : Int) := by omega
  have hwr : IntKind.i64.wrap ((k : Int) + 1) = (k' : Int) := by rw [IntKind.wrap_i64]; omega
  have HK : Hid (k' = k + 1 ∧ k' ≤ 400) := ⟨hk', by omega⟩
  rw [← hk'] at HC
  clear h hb1 c0 c1 hR0 hR1 hcall hk'
  go_enter Tryz.func84, Tryz.ntmps84
  go_upto_region 1 with fail
  rw [← hw1, ← hR]
  clear hw1 hR cz
  go_upto_region 4 with fail
  have hg2 : Gp P w1 (w1.setCell ⟨P, 3, none⟩ (.int .i64 (k' : Int))) := Gp.set _
  have H2 : Hid (RdL (w1.setCell ⟨P, 3, none⟩ (.int .i64 (k' : Int))) P mb s l (a, k') ∧ Nv (w1.setCell ⟨P, 3, none⟩ (.int .i64 (k' : Int))) R ⟨[], 0, 0, 0, 0, []⟩ none 0 0 ∧ Gp P w (w1.setCell ⟨P, 3, none⟩ (.int .i64 (k' : Int)))) :=
    ⟨H1.out.1.begin k' HK.out.2, H1.out.2.1.gp hg2 (by have := H1.out.2.2.2; omega), (Gp.bl H1.out.2.2.1).trans hg2⟩
  generalize w1.setCell ⟨P, 3, none⟩ (.int .i64 (k' : Int)) = w2 at H2 ⊢
  clear c2 c3 z3 hP hwr hw0 hk4 hg2
  have c2 := H2.out.1.cells.2.2.1
  have hP := H2.out.1.lt'
  dsimp only at c2
  go_upto_region 5 with fail
  obtain ⟨N, hN⟩ : ∃ N, N = w2.heap.size := ⟨_, rfl⟩
  have hb3 : Bl w2 (w2.alloc (.cells #[.string (tx nm), .int .i64 (kd : Int), .int .i64 (a : Int), .int .i64 0, .int .i64 0, .string ⟨#[]⟩, .slice none 0 0] 27)) := (Bl.refl _).alloc _
  have hn3 : Nv (w2.alloc (.cells #[.string (tx nm), .int .i64 (kd : Int), .int .i64 (a : Int), .int .i64 0, .int .i64 0, .string ⟨#[]⟩, .slice none 0 0] 27)) w2.heap.size ⟨nm, kd, a, 0, 0, []⟩ none 0 0 := new_at _ _
  rw [← hN] at hn3 ⊢
  have H3 : Hid (RdL (w2.alloc (.cells #[.string (tx nm), .int .i64 (kd : Int), .int .i64 (a : Int), .int .i64 0, .int .i64 0, .string ⟨#[]⟩, .slice none 0 0] 27)) P mb s l (a, k') ∧ Nv (w2.alloc (.cells #[.string (tx nm), .int .i64 (kd : Int), .int .i64 (a : Int), .int .i64 0, .int .i64 0, .string ⟨#[]⟩, .slice none 0 0] 27)) R ⟨[], 0, 0, 0, 0, []⟩ none 0 0 ∧ Gp P w (w2.alloc (.cells #[.string (tx nm), .int .i64 (kd : Int), .int .i64 (a : Int), .int .i64 0, .int .i64 0, .string ⟨#[]⟩, .slice none 0 0] 27)) ∧ R < N ∧ w.heap.size ≤ N ∧ P < N ∧ N < (w2.alloc (.cells #[.string (tx nm), .int .i64 (kd : Int), .int .i64 (a : Int), .int .i64 0, .int .i64 0, .string ⟨#[]⟩, .slice none 0 0] 27)).heap.size) :=
    ⟨H2.out.1.bl hb3, H2.out.2.1.bl hb3, H2.out.2.2.trans (Gp.bl hb3), by rw [hN]; exact H2.out.2.1.lt, by rw [hN]; exact H2.out.2.2.size, by omega, hn3.lt⟩
  generalize w2.alloc (.cells #[.string (tx nm), .int .i64 (kd : Int), .int .i64 (a : Int), .int .i64 0, .int .i64 0, .string ⟨#[]⟩, .slice none 0 0] 27) = w3 at H3 hn3 ⊢
  have cC := HC.out w3 N H3.out.2.2.1 H3.out.2.2.2.2.1 H3.out.1 hn3
  clear hb3 hN hn3 c2 hP
  go_wp2_with fail
  refine cC.mono ?_
  rintro e w4 ⟨hg4, hans⟩
  cases q with
  | error er =>
    obtain ⟨v, rfl, hv⟩ := hans
    unfold thrL
    go_wp2
    exact ⟨rfl, hg4.fresh H3.out.2.2.1 H3.out.2.2.2.2.1, v, rfl, hv.from H3.out.2.2.1.size⟩
  | ok r =>
    obtain ⟨nd, ks, st'⟩ := r
    obtain ⟨rfl, p, c, hn4, hks, hr4⟩ := hans
    obtain ⟨e1, e2, e3⟩ := hq nd ks st' rfl
    obtain ⟨a', k4⟩ := st'
    dsimp only at e2 e3
    have c2 : w4.cell? ⟨P, 2, none⟩ = some (.int .i64 (a' : Int)) := hr4.cells.2.2.1
    have n2 : w4.cell? ⟨N, 2, none⟩ = some (.int .i64 (nd.at_ : Int)) := hn4.cells.2.2.1
    have y3 := hn4.fz.2.2.2.1
    have n3 : w4.cell? ⟨N, 3, none⟩ = some (.int .i64 0) := hn4.cells.2.2.2.1
    have hP := hr4.lt'
    have hN4 := hn4.lt
    have hnR : Nv w4 R ⟨[], 0, 0, 0, 0, []⟩ none 0 0 := (hg4.block R (H3.out.2.1.lt) (by have := H1.out.2.2.2; omega) (by have := H3.out.2.2.2; omega)).trans H3.out.2.1
    have H4 : Hid (RdL w4 P mb s l (a', k4) ∧ Nv w4 N { nd with sz := 0 } p ks.len c ∧ Nv w4 R ⟨[], 0, 0, 0, 0, []⟩ none 0 0 ∧ IsNs w4 (fun g => w3.heap.size ≤ g) p ks.len c ks ∧ Gp P w w4 ∧ N < w3.heap.size) := ⟨hr4, hn4, hnR, hks, hg4.fresh H3.out.2.2.1 H3.out.2.2.2.2.1, H3.out.2.2.2.2.2.2⟩
    have hw0 : (a' : Int) - (nd.at_ : Int) = (nd.sz : Int) := by omega
    have hwr : wrap64 (nd.sz : Int) = (nd.sz : Int) := by have h1 : a' ≤ s.size := hr4.a; have h2 := hr4.sz; unfold wrap64; omega
    have hwr2 : IntKind.i64.wrap (nd.sz : Int) = (nd.sz : Int) := by have h1 : a' ≤ s.size := hr4.a; have h2 := hr4.sz; rw [IntKind.wrap_i64]; omega
    clear hq HC cC e1 e2 e3 hn4 hks hr4 hnR hg4
    go_upto_region 6 with fail
    refine wp_calm ?_
    go_region
    all_goals
      refine Calm.in ?_
      have hgN : Gq P N w4 (w4.setCell ⟨N, 3, none⟩ (.int .i64 (nd.sz : Int))) := Gq.setQ _
      have hbd : Bl (w4.setCell ⟨N, 3, none⟩ (.int .i64 (nd.sz : Int))) (w4.setCell ⟨N, 3, none⟩ (.int .i64 (nd.sz : Int))).drew := (Bl.refl _).drew
      have hPN : P ≠ N := by have := H3.out.2.2.2.2.2.1; omega
      have hkx : Kx w4 (w4.setCell ⟨N, 3, none⟩ (.int .i64 (nd.sz : Int))) := fun b cs hb => by
        by_cases e : b = N
        · subst e; have := H4.out.2.1; unfold Nv at this; rw [hb] at this; simp at this
        · exact ((Gp.set (P := N) (j := 3) (w := w4) (.int .i64 (nd.sz : Int))).block b (lt_of_heap hb) e).trans hb
      have hcP : (w4.setCell ⟨N, 3, none⟩ (.int .i64 (nd.sz : Int))).heap[P]? = w4.heap[P]? := (Gp.set (P := N) (j := 3) (w := w4) (.int .i64 (nd.sz : Int))).block P (by assumption) hPN
      have HZ : Hid (RdL (w4.setCell ⟨N, 3, none⟩ (.int .i64 (nd.sz : Int))).drew P mb s l (a', k4) ∧ Nv (w4.setCell ⟨N, 3, none⟩ (.int .i64 (nd.sz : Int))).drew N nd p ks.len c ∧ Nv (w4.setCell ⟨N, 3, none⟩ (.int .i64 (nd.sz : Int))).drew R ⟨[], 0, 0, 0, 0, []⟩ none 0 0 ∧ IsNs (w4.setCell ⟨N, 3, none⟩ (.int .i64 (nd.sz : Int))).drew (fun g => w3.heap.size ≤ g) p ks.len c ks ∧ Gp P w (w4.setCell ⟨N, 3, none⟩ (.int .i64 (nd.sz : Int))).drew) :=
        ⟨(H4.out.1.gq hgN H3.out.2.2.2.2.2.1 hcP hkx).bl hbd, (H4.out.2.1.setSz nd.sz).bl hbd, (show Nv (w4.setCell ⟨N, 3, none⟩ (.int .i64 (nd.sz : Int))) R ⟨[], 0, 0, 0, 0, []⟩ none 0 0 from ((Gp.set (P := N) (j := 3) (w := w4) (.int .i64 (nd.sz : Int))).block R H4.out.2.2.1.lt (by have := H3.out.2.2.2.1; omega)).trans H4.out.2.2.1).bl hbd,
          (H4.out.2.2.2.1.keep (fun g h1 h2 => (Gp.set (P := N) (j := 3) (w := w4) (.int .i64 (nd.sz : Int))).block g h2 (by have := H4.out.2.2.2.2.2; omega)) hgN.size).bl hbd, (hgN.fresh H4.out.2.2.2.2.1 H3.out.2.2.2.2.1).trans (Gp.bl hbd)⟩
      generalize (w4.setCell ⟨N, 3, none⟩ (.int .i64 (nd.sz : Int))).drew = w5 at HZ ⊢
      clear hgN hbd hkx hcP hPN c2 n2 n3 y3 hwr hwr2 hw0
      obtain ⟨n0, n1, n2, n3, n4, n5, n6⟩ := HZ.out.2.1.cells
      obtain ⟨m0, m1, m2, m3, m4, m5, m6⟩ := HZ.out.2.2.1.cells
      obtain ⟨y0, y1, y2, y3, y4, y5, y6⟩ := HZ.out.2.2.1.fz
      have hN5 := HZ.out.2.1.lt
      have hR5 := HZ.out.2.2.1.lt
      go_wp2
      have hst := HZ.out.2.2.1.store nd p ks.len c
      have hgs : Gq P R w5 (st7 w5 R nd p ks.len c) := st7_gq P R nd p ks.len c
      have hgp5 : Gp R w5 (st7 w5 R nd p ks.len c) := ⟨hgs.os, hgs.tape, hgs.output, hgs.size, fun j h1 h2 => by
        have := st7_gq (w := w5) R R nd p ks.len c
        exact this.block j h1 h2 h2⟩
      have hRP : P < R := by have := H1.out.2.2.2; omega
      have hkx : Kx w5 (st7 w5 R nd p ks.len c) := fun b cs hb => by
        by_cases e : b = R
        · subst e; have := HZ.out.2.2.1; unfold Nv at this; rw [hb] at this; simp at this
        · exact (hgp5.block b (lt_of_heap hb) e).trans hb
      have hRw : w.heap.size ≤ R := by have := H1.out.2.2.2; omega
      refine bodyPost_ret (v := ndV nd p ks.len c) (results_cell_row rfl _ _ R 27 _ (0, 0) _ rfl hst Tryz.underlying27 rfl infoN) rfl ⟨hgs.fresh HZ.out.2.2.2.2 hRw, p, c, rfl, ?_, HZ.out.1.gq hgs hRP (hgp5.block P HZ.out.1.lt' (by omega)) hkx⟩
      exact (HZ.out.2.2.2.1.keep (fun g h1 h2 => hgp5.block g h2 (by have := H3.out.2.2.2.1; have := H3.out.2.2.2.2.2.2; omega)) hgs.size).mono (fun g h1 _ => by have := H3.out.2.2.1.size; omega)
end Go.Proofs.YtococaecjecjgaaGreatDoor.ly
namespace Go.Proofs.YtococaecjecjgaaGreatDoor.ly
set_option linter.unusedVariables false
open Go.ChangeShapes Go.WideShapes Go.ChangeAt Go.RowKit
open mem lx ex tm num

structure Cv (w : World) (X R S N P mb : Nat) (s : ByteArray) (l : List Ty) (st : St) (c : C) (sub : Its) (m : Value) (nd : ND) : Prop where
  iv : Iv w X c
  rr : Vr w R (.pointer (some ⟨P, 0, none⟩)) 62
  sv : Vr w S m 100
  nv : Nv w N nd none 0 0
  rd : RdL w P mb s l st
  it : ItL w (fun g => g < mb) c sub
  lt : P < X ∧ P < R ∧ P < S ∧ X < N ∧ R < N ∧ S < N
theorem Cv.bl {w w' : World} {X R S N P mb : Nat} {s : ByteArray} {l : List Ty} {st : St} {c : C} {sub : Its} {m : Value} {nd : ND} (h : Cv w X R S N P mb s l st c sub m nd) (hb : Bl w w') : Cv w' X R S N P mb s l st c sub m nd :=
  ⟨h.iv.bl hb, h.rr.step hb, h.sv.step hb, h.nv.bl hb, h.rd.bl hb, h.it.bl hb, h.lt⟩
theorem Cv.gp {w w' : World} {X R S N P mb : Nat} {s : ByteArray} {l : List Ty} {st st' : St} {c : C} {sub : Its} {m : Value} {nd : ND} (h : Cv w X R S N P mb s l st c sub m nd) (hg : Gp P w w') (hr : RdL w' P mb s l st') : Cv w' X R S N P mb s l st' c sub m nd :=
  ⟨h.iv.gp hg (by have := h.lt; omega), ex.Vr.gp h.rr hg (by have := h.lt; omega), ex.Vr.gp h.sv hg (by have := h.lt; omega), h.nv.gp hg (by have := h.lt; omega), hr, h.it.keep (fun g h1 h2 => hg.block g h2 (by have := h.rd.lt; omega)) hg.size (h.rd.kx hg), h.lt⟩
def CvS (w : World) (X R S P : Nat) (c : C) (m : Value) : Prop :=
  w.cell? ⟨R, 0, none⟩ = some (.pointer (some ⟨P, 0, none⟩)) ∧ w.cell? ⟨S, 0, none⟩ = some m ∧ w.cell? ⟨X, 0, none⟩ = some (.int .i64 (c.d.kd : Int)) ∧ w.cell? ⟨X, 1, none⟩ = some (.int .i64 (c.d.at_ : Int)) ∧ w.cell? ⟨X, 2, none⟩ = some (.string (tx c.d.nm)) ∧ w.cell? ⟨X, 3, none⟩ = some (.string (tx c.d.ty)) ∧ w.cell? ⟨X, 4, none⟩ = some (.int .i64 (c.d.wd : Int)) ∧ w.cell? ⟨X, 5, none⟩ = some (.int .i64 (c.d.od : Int)) ∧ w.cell? ⟨X, 6, none⟩ = some (.bool c.d.sg) ∧ w.cell? ⟨X, 7, none⟩ = some (.bool c.d.mn) ∧ w.cell? ⟨X, 8, none⟩ = some (.pointer c.pc) ∧ w.cell? ⟨X, 9, none⟩ = some (.int .i64 (c.d.ru : Int)) ∧ w.cell? ⟨X, 10, none⟩ = some (.string (tx c.d.f1)) ∧ w.cell? ⟨X, 11, none⟩ = some (.string (tx c.d.l1)) ∧ w.cell? ⟨X, 12, none⟩ = some (.slice c.p c.n c.c)
theorem Cv.S {w : World} {X R S N P mb : Nat} {s : ByteArray} {l : List Ty} {st : St} {c : C} {sub : Its} {m : Value} {nd : ND} (h : Cv w X R S N P mb s l st c sub m nd) : CvS w X R S P c m := ⟨h.rr.cell, h.sv.cell, h.iv.facts⟩
theorem CvS.set {w : World} {X R S N P j : Nat} {c : C} {m : Value} (h : CvS w X R S P c m) (hX : X < N) (hR : R < N) (hS : S < N) (v : Value) : CvS (w.setCell ⟨N, j, none⟩ v) X R S P c m := by
  have key : ∀ (b k : Nat) (u : Value), b < N → w.cell? ⟨b, k, none⟩ = some u → (w.setCell ⟨N, j, none⟩ v).cell? ⟨b, k, none⟩ = some u := fun b k u hb hc => by
    rw [World.cell?_setCell_other w _ _ _ (fun e => by injection e with e1 _; omega)]; exact hc
  obtain ⟨h1, h2, h3, h4, h5, h6, h7, h8, h9, h10, h11, h12, h13, h14, h15⟩ := h
  exact ⟨key _ _ _ hR h1, key _ _ _ hS h2, key _ _ _ hX h3, key _ _ _ hX h4, key _ _ _ hX h5, key _ _ _ hX h6, key _ _ _ hX h7, key _ _ _ hX h8, key _ _ _ hX h9, key _ _ _ hX h10, key _ _ _ hX h11, key _ _ _ hX h12, key _ _ _ hX h13, key _ _ _ hX h14, key _ _ _ hX h15⟩
theorem kx_set {w : World} {N j : Nat} {d : ND} {p : Option Addr} {n c : Nat} {v : Value} (h : Nv w N d p n c) : Kx w (w.setCell ⟨N, j, none⟩ v) := fun b cs hb => by
  by_cases e : b = N
  · subst e; unfold Nv at h; rw [hb] at h; simp at h
  · exact ((Gp.set (P := N) (j := j) (w := w) v).block b (lt_of_heap hb) e).trans hb
theorem RdL.setN {w : World} {P mb N j : Nat} {s : ByteArray} {l : List Ty} {st : St} {d : ND} {p : Option Addr} {n c : Nat} {v : Value} (h : RdL w P mb s l st) (hn : Nv w N d p n c) (hP : P < N) : RdL (w.setCell ⟨N, j, none⟩ v) P mb s l st :=
  h.gq (Q := N) (Gq.setQ _) hP ((Gp.set (P := N) (j := j) (w := w) v).block P h.lt' (by omega)) (kx_set hn)
set_option maxRecDepth 10000 in
set_option maxHeartbeats 1000000 in
theorem clo_num (w : World) (X R S N P mb : Nat) (s : ByteArray) (l : List Ty) (a k : Nat) (c : C) (sub : Its) (m : Value) (rec : Its → Env → St → Except Er (Nds × St)) (en : Env) (h : Cv w X R S N P mb s l (a, k) c sub m ⟨c.d.nm, c.d.kd, a, 0, 0, []⟩) (hd : WD c.d) (h1 : c.d.kd = 1) :
    Calls Tryz.prog 85 #[.pointer (some ⟨N, 0, none⟩), .pointer (some ⟨X, 0, none⟩), .pointer (some ⟨R, 0, none⟩), .pointer (some ⟨S, 0, none⟩)] w fun e w' => CloA w N P mb s l (body (L s) l rec c.d sub en a k) e w' := by
  have cN := number_at w P mb s l (a, k) c h.rd hd h1
  rw [itV_eq] at cN
  obtain ⟨s1, s2, x0, x1, x2, x3, x4, x5, x6, x7, x8, x9, x10, x11, x12⟩ := h.S
  obtain ⟨q, hq⟩ : ∃ q, q = body (L s) l rec c.d sub en a k := ⟨_, rfl⟩
  have hq1 : a + c.d.wd ≤ s.size → q = .ok (⟨c.d.nm, 1, a, c.d.wd, num c.d (un (L s) a c.d.wd (c.d.od == 1)), []⟩, .nil, (a + c.d.wd, k)) := fun hA => by rw [hq]; unfold body; rw [if_pos h1, if_pos (by rw [L_len]; exact hA)]
  have hq2 : ¬ a + c.d.wd ≤ s.size → q = .error (3, (a : Int)) := fun hA => by rw [hq]; unfold body; rw [if_pos h1, if_neg (by rw [L_len]; exact hA)]
  rw [← hq]
  have HC : Hid (Cv w X R S N P mb s l (a, k) c sub m ⟨c.d.nm, c.d.kd, a, 0, 0, []⟩ ∧ (a + c.d.wd ≤ s.size → q = .ok (⟨c.d.nm, 1, a, c.d.wd, num c.d (un (L s) a c.d.wd (c.d.od == 1)), []⟩, .nil, (a + c.d.wd, k))) ∧ (¬ a + c.d.wd ≤ s.size → q = .error (3, (a : Int))) ∧ c.d.kd = 1) := ⟨h, hq1, hq2, h1⟩
  have hk1 : ((c.d.kd : Int) == 1) = true := by rw [h1]; rfl
  have hXs := h.iv.lt
  have hRs := h.rr.lt
  have hSs := h.sv.lt
  have hNs := h.nv.lt
  clear hq hq1 hq2 h h1 hd
  go_enter Tryz.func85, Tryz.ntmps85
  go_wp2_with fail
  refine cN.mono ?_
  rintro e w2 ⟨hg2, hans⟩
  have hC2 := fun (st' : St) (hr : RdL w2 P mb s l st') => HC.out.1.gp hg2 hr
  have hg2' : Hid (Gp P w w2) := hg2
  dsimp only at hans
  rcases hans with ⟨hA, v, rfl, hv⟩ | ⟨hA, rfl, hr⟩
  · have HQ : Hid (q = .error (3, (a : Int))) := HC.out.2.2.1 hA
    unfold thrL
    clear hC2 cN
    go_wp2
    rw [HQ.out]
    exact ⟨rfl, Gq.gp hg2'.out, v, rfl, hv⟩
  · have HQ : Hid (q = .ok (⟨c.d.nm, 1, a, c.d.wd, num c.d (un (L s) a c.d.wd (c.d.od == 1)), []⟩, .nil, (a + c.d.wd, k))) := HC.out.2.1 hA
    have H2 : Hid (Cv w2 X R S N P mb s l (a + c.d.wd, k) c sub m ⟨c.d.nm, c.d.kd, a, 0, 0, []⟩) := hC2 _ hr
    have n4 : w2.cell? ⟨N, 4, none⟩ = some (.int .i64 0) := H2.out.nv.cells.2.2.2.2.1
    have y4 := H2.out.nv.fz.2.2.2.2.1
    have hN2 := H2.out.nv.lt
    generalize num c.d (un (L s) a c.d.wd (c.d.od == 1)) = u at HQ HC cN ⊢
    clear hC2 cN hg2 hr
    go_wp2
    rw [HQ.out]
    refine bodyPost_end (results_none rfl _ _ _) rfl ⟨(Gq.gp hg2'.out).trans (Gq.setQ _), rfl, none, 0, ?_, IsNs.none _ _, ?_⟩
    · have := H2.out.nv.setN u
      rw [HC.out.2.2.2] at this
      exact this
    · exact H2.out.rd.setN H2.out.nv (by have := H2.out.lt; omega)
end Go.Proofs.YtococaecjecjgaaGreatDoor.ly
namespace Go.Proofs.YtococaecjecjgaaGreatDoor.tc
set_option linter.unusedVariables false
open Go Go.RowKit
open mem

section
variable {P : Program} {md : Region.Mode} {ops : Array Oper} {Q : Exit → Act → World → Prop} {S : World → Prop} {z : Nat}
def wpZ (z : Nat) (P : Program) (md : Region.Mode) (ops : Array Oper) (Q : Exit → Act → World → Prop) (S : World → Prop) : Nat → Array Bool → Act → World → Prop
  | 0, l, a, w => Region.ready md ops l = [] ∧ Q .normal a w
  | f + 1, l, a, w => (Region.ready md ops l = [] → Q .normal a w) ∧ ∀ i ∈ Region.ready md ops l, wpOp P ops Q i (fun a' w' => (i ≠ z → S w') ∧ wpZ z P md ops Q S f (l.setIfInBounds i true) a' w') a w
theorem wpAny_of_wpZ : ∀ (f : Nat) (l : Array Bool) (a : Act) (w : World), wpZ z P md ops Q S f l a w → wpAny P md ops Q f l a w
  | 0, _, _, _, h => h
  | f + 1, _, _, _, h => ⟨h.1, fun i hi => wpOp_mono (fun a' w' h' => wpAny_of_wpZ f _ a' w' h'.2) (h.2 i hi)⟩
def waitsFor (md : Region.Mode) (ops : Array Oper) (z i : Nat) : Bool := match ops[z]? with
  | some o => o.after.any (fun e => Region.binds md e && e.on == i)
  | none => false
theorem not_ready {i : Nat} {l : Array Bool} (hw : waitsFor md ops z i = true) (hi : l.getD i true = false) : z ∉ Region.ready md ops l := by
  intro hz
  obtain ⟨_, o, ho, hall⟩ := mem_ready.1 hz
  unfold waitsFor at hw
  rw [ho] at hw
  dsimp only at hw
  obtain ⟨k, hk, he⟩ := Array.any_eq_true.1 hw
  rw [Bool.and_eq_true, beq_iff_eq] at he
  have h1 := hall _ (Array.getElem_mem hk) he.1
  rw [he.2] at h1
  rcases Nat.lt_or_ge i l.size with h | h
  · simp [h] at hi h1
    rw [hi] at h1
    cases h1
  · simp [Array.getElem?_eq_none h] at h1
theorem wpZ_first {i : Nat} {oi : Oper} {v : Value} (hi : ops[i]? = some oi) (hsel : ∀ (j : Nat) (o : Oper) cs b, ops[j]? = some o → o.op ≠ .select cs b)
    (hQ : ∀ c a w, Q (.panic c) (a.put oi.dst v) w → Q (.panic c) a w) (hz : waitsFor md ops z i = true) : ∀ (f : Nat) (l : Array Bool) (a : Act) (w : World),
      (∀ j oj, ops[j]? = some oj → j ≠ i → l.getD j true = false → (∀ e ∈ oj.after, Region.binds md e = true → e.on ≠ i) → oi.apart ops oj = true) →
      i ∈ Region.ready md ops l → YieldsIf P ops S oi v a → S w → wpZ z P md ops Q S f (l.setIfInBounds i true) (a.put oi.dst v) w → wpZ z P md ops Q S (f + 1) l a w := by
  have own : ∀ (f : Nat) (l : Array Bool) (a : Act) (w : World), YieldsIf P ops S oi v a → S w → wpZ z P md ops Q S f (l.setIfInBounds i true) (a.put oi.dst v) w → wpOp P ops Q i (fun a' w' => (i ≠ z → S w') ∧ wpZ z P md ops Q S f (l.setIfInBounds i true) a' w') a w :=
    fun f l a w hy hS H => hy.wpOp hi hS ⟨fun _ => hS, H⟩
  intro f
  induction f with
  | zero =>
    intro l a w _ hr hy hS H
    refine ⟨fun h => (by rw [h] at hr; cases hr), fun j hj => ?_⟩
    rcases Nat.decEq j i with hji | hji
    · have := ready_mono hj hji
      rw [H.1] at this
      cases this
    · subst hji
      exact own _ _ _ _ hy hS H
  | succ f ih =>
    intro l a w hfree hr hy hS H
    refine ⟨fun h => (by rw [h] at hr; cases hr), fun j hj => ?_⟩
    rcases Nat.decEq j i with hji | hji
    · have hun := (mem_ready.1 hr).1
      have hjz : j ≠ z := fun e => not_ready hz hun (by rw [← e]; exact hj)
      obtain ⟨hjun, oj, hoj, hall⟩ := mem_ready.1 hj
      have hno : ∀ e ∈ oj.after, Region.binds md e = true → e.on ≠ i := fun e he hb heq => by
        have h1 := hall e he hb
        rw [heq] at h1
        rcases Nat.lt_or_ge i l.size with h | h
        · simp [h] at hun h1
          rw [hun] at h1
          cases h1
        · simp [Array.getElem?_eq_none h] at h1
      refine wpOp_mono (fun a' w' h3 => ?_) (wpOp_putIf hoj (hfree j oj hoj hji hjun hno) (fun cs b => hsel i oi cs b hi) (fun cs b => hsel j oj cs b hoj) hQ hy (H.2 j (ready_mono hj hji)))
      have hS' : S w' := h3.2.1 hjz
      refine ⟨fun _ => hS', ih _ a' w' (fun k ok hk hki hun' hno' => hfree k ok hk hki ?_ hno') (ready_mono hr (Ne.symm hji)) h3.1 hS' ?_⟩
      · rcases Nat.decEq j k with hjk | hjk
        · rw [getD_set_ne true hjk] at hun'; exact hun'
        · rw [← hjk]; exact hjun
      · rw [Array.setIfInBounds_comm _ _ hji]
        exact h3.2.2
    · subst hji
      exact own _ _ _ _ hy hS H
theorem wpZ_take {i : Nat} {oi : Oper} {v : Value} {f : Nat} {l : Array Bool} {a : Act} {w : World} (hi : ops[i]? = some oi) (hs : Region.noSelect ops = true) (hf : Region.free md ops l i = true)
    (hr : (Region.ready md ops l).contains i = true) (hz : waitsFor md ops z i = true) (hQ : ∀ c a w, Q (.panic c) (a.put oi.dst v) w → Q (.panic c) a w) (hS : S w) (hy : YieldsIf P ops S oi v a)
    (h : wpZ z P md ops Q S f (l.setIfInBounds i true) (a.put oi.dst v) w) : wpZ z P md ops Q S (f + 1) l a w :=
  wpZ_first hi (Region.noSelect_spec hs) hQ hz f l a w (Region.free_spec hi hf) (by simpa using hr) hy hS h
theorem wpZ_one {i : Nat} {o : Oper} {f : Nat} {l : Array Bool} {a : Act} {w : World} (hr : Region.ready md ops l = [i]) (hi : ops[i]? = some o)
    (h : ∀ K : Act → World → Prop, Hid (∀ a' w', (i ≠ z → S w') → wpZ z P md ops Q S f (l.setIfInBounds i true) a' w' → K a' w') → if Region.wanted o (yielded ops a.tmps) = true then Oper.wp P o a w K Q else K (a.put o.dst undef) w) : wpZ z P md ops Q S (f + 1) l a w := by
  refine ⟨fun h0 => (by rw [hr] at h0; cases h0), fun k hk => ?_⟩
  rw [hr, List.mem_singleton] at hk
  subst hk
  have h2 := h (fun a' w' => (k ≠ z → S w') ∧ wpZ z P md ops Q S f (l.setIfInBounds k true) a' w') (fun a' w' h1 h3 => ⟨h1, h3⟩)
  unfold wpOp
  rw [hi]
  dsimp only
  split
  · rename_i hw
    rw [if_pos hw] at h2
    exact Or.inl h2
  · rename_i hw
    rw [if_neg hw] at h2
    exact h2
theorem wpZ_done {l : Array Bool} {a : Act} {w : World} (hr : Region.ready md ops l = []) (h : Q .normal a w) : ∀ f, wpZ z P md ops Q S f l a w
  | 0 => ⟨hr, h⟩
  | _ + 1 => ⟨fun _ => h, fun i hi => by rw [hr] at hi; cases hi⟩
theorem wp_region_Z (z : Nat) (S : World → Prop) {id : Nat} {a : Act} {w : World} (hm : P.follows .mixedOrders = true)
    (h : wpZ z P .any ops Q S ops.size (Array.replicate ops.size false) a w.drew) : (Code.region id ops true).wp P Q a w :=
  wp_region_any hm (wpAny_of_wpZ _ _ _ _ h)
end
end Go.Proofs.YtococaecjecjgaaGreatDoor.tc
