/- Texts laid together: TyS, Tc1, Tc2, Tc3, BlA. -/
import Derived.Test.YtpanodaecjlgaaaGreatDoorXTypesFinds17
import Derived.Test.YtpanodaecjlgaaaGreatDoorXTypesFinds15
import Derived.Maps.OwnSet
/- Check of package types. -/
namespace Go.Proofs.YtpanodaecjlgaaaGreatDoor.tm
set_option linter.unusedVariables false
open Go.ChangeShapes Go.WideShapes Go.ChangeAt Go.RowKit Go.Shelf
open mem lx ex

def thrYV (A : Nat) : Value := .iface 86 (.agg #[.iface 110 (.pointer (some ⟨A, 0, none⟩))])
theorem ycatch_idle (p : Addr) (w : World) :
    CallsD Tryz.prog 42 #[.pointer (some p)] .returning w fun e u' w' => e = .returned (.tuple #[]) ∧ u' = .returning ∧ Bl w w' := by
  have hta : ∀ w : World, (Instr.typeAssert Value.nilIface 20 86 true).run Tryz.prog w = .ok (.tuple #[.agg #[.nilIface], .bool false]) w := fun _ => by kernel_rfl
  refine callsD_of_wpS Tryz.func42 rfl fun c₀ cs hu => ?_
  apply wpS_seq
  apply wpS_region
  simp [wpOpsS, go_sem, recoverD, hu, Tryz.ntmps42, Exit.thenS, hta]
  apply wpS_seq
  apply wpS_region
  simp [wpOpsS, go_sem, Exit.thenS]
  refine wpS_cond (t := false) (by simp [Act.eval, Array.replicate]) ?_
  simp only [Bool.false_eq_true, if_false]
  refine wpS_of_wp (wp_skip ?_)
  cases c₀
  simp_all [bodyPostS, results, Tryz.results42]
  exact (Bl.refl _).alloc _
theorem ycatch_thrown (N A : Nat) (w0 w : World) (e0 : Value) (c p : Int) (hv : Vr w N e0 30) (hb : Bl w0 w) (hN : w0.heap.size ≤ N) (hA : AtX w A c p) (hne : A ≠ N) :
    CallsD Tryz.prog 42 #[.pointer (some ⟨N, 0, none⟩)] (.panicking [{ v := thrYV A, recovered := false }]) w fun e u' w' =>
      e = .returned (.tuple #[]) ∧ u' = .panicking [{ v := thrYV A, recovered := true }] ∧ Vr w' N (atV A) 30 ∧ Bl w0 w' ∧ AtX w' A c p := by
  have hta : ∀ w : World, (Instr.typeAssert (thrYV A) 20 86 true).run Tryz.prog w = .ok (.tuple #[.agg #[.iface 110 (.pointer (some ⟨A, 0, none⟩))], .bool true]) w := fun _ => by kernel_rfl
  refine callsD_of_wpS Tryz.func42 rfl fun c₀ cs hu => ?_
  apply wpS_seq
  apply wpS_region
  simp [wpOpsS, go_sem, recoverD, hu, Tryz.ntmps42, Exit.thenS, hta]
  apply wpS_seq
  apply wpS_region
  simp [wpOpsS, go_sem, Exit.thenS]
  refine wpS_cond (t := true) (by simp [Act.eval, Array.replicate]) ?_
  simp only [if_true]
  have hM := hv.lt
  obtain ⟨M, hMe⟩ : ∃ M, M = w.heap.size := ⟨_, rfl⟩
  rw [← hMe] at hM ⊢
  obtain ⟨w1, hw1⟩ : ∃ w1, w1 = w.alloc (.cells #[.iface 110 (.pointer (some ⟨A, 0, none⟩))] 86) := ⟨_, rfl⟩
  have hb1 : Bl w w1 := by rw [hw1]; exact (Bl.refl _).alloc _
  have hcM : w1.cell? ⟨M, 0, none⟩ = some (.iface 110 (.pointer (some ⟨A, 0, none⟩))) := by
    have := new_at w (.cells #[.iface 110 (.pointer (some ⟨A, 0, none⟩))] 86)
    rw [hMe, hw1, cell_of this]; rfl
  have H1 : Hid (Vr w1 N e0 30 ∧ Bl w0 w1 ∧ AtX w1 A c p) := ⟨hv.step hb1, hb.trans hb1, AtX.bl hA hb1⟩
  rw [← hw1]
  clear hw1 hb1 hA hv hb hMe
  have c1 := H1.out.1.cell
  have f1 := H1.out.1.frozen
  have hMN : ¬ M = N := by omega
  have H9 : Vr (w1.setCell ⟨N, 0, none⟩ (atV A)) N (atV A) 30 ∧ Bl w0 (w1.setCell ⟨N, 0, none⟩ (atV A)) ∧ AtX (w1.setCell ⟨N, 0, none⟩ (atV A)) A c p := ⟨H1.out.1.set _, H1.out.2.1.setCell hN _, H1.out.2.2.set hne⟩
  unfold atV at H9
  apply wpS_region
  cases c₀
  simp [wpOpsS, go_sem, hcM, c1, f1, bodyPostS, results, Tryz.results42, Array.replicate, atV]
  exact H9
/-- What Check answers. -/
def CkA (w : World) (q : Option (Int × Nat)) (e : Ending) (w' : World) : Prop := Bl w w' ∧ match q with
  | none => e = .returned .nilIface
  | some (c, p) => ∃ A : Nat, e = .returned (atV A) ∧ w.heap.size ≤ A ∧ AtX w' A c (p : Int)
theorem CkA.of_err {w w' : World} {q : Option (Int × Nat)} {c : Int} {p A : Nat} (hq : q = some (c, p)) (hb : Bl w w') (hA : w.heap.size ≤ A) (h : AtX w' A c (p : Int)) : CkA w q (.returned (atV A)) w' := by
  rw [hq]; exact ⟨hb, A, rfl, hA, h⟩
theorem CkA.of_ok {w w' : World} {q : Option (Int × Nat)} (hq : q = none) (hb : Bl w w') : CkA w q (.returned .nilIface) w' := by
  rw [hq]; exact ⟨hb, rfl⟩
theorem chkT_step (earl : List (List UInt8)) (l : List Ty) (j : Nat) (t : Ty) (h : l[j]? = some t) : (t.nm ∈ earl → chkT earl (l.drop j) = some (9, t.at_)) ∧ (t.nm ∉ earl → (∀ e, chkB earl t.l [] [] = .error e → chkT earl (l.drop j) = some e) ∧ ∀ n, chkB earl t.l [] [] = .ok n → chkT earl (l.drop j) = chkT (t.nm :: earl) (l.drop (j + 1))) := by
  obtain ⟨hl, he⟩ := List.getElem?_eq_some_iff.1 h
  rw [List.drop_eq_getElem_cons hl, he, chkT]
  refine ⟨fun hm => by rw [if_pos hm], fun hm => ?_⟩
  rw [if_neg hm]
  exact ⟨fun e hc => by rw [hc], fun n hc => by rw [hc]⟩
/-- What Check asks. -/
structure CI (l : List Ty) : Prop where
  wt : WT l
  at_ : ∀ t ∈ l, t.at_ ≤ 100000 ∧ AtB t.l ∧ tot t.l ≤ 4000
/-- How far Check has come. -/
structure Cs (l : List Ty) (w wr : World) (N eb : Nat) (earl : List (List UInt8)) (j : Nat) : Prop where
  v : Vr wr N .nilIface 30
  bl : Bl w wr
  e : SetM wr eb earl j
  eq : chkT [] l = chkT earl (l.drop j)
theorem Cs.bl' {l : List Ty} {w wr w' : World} {N eb : Nat} {earl : List (List UInt8)} {j : Nat} (h : Cs l w wr N eb earl j) (hb : Bl wr w') : Cs l w w' N eb earl j := ⟨h.v.step hb, h.bl.trans hb, h.e.bl hb, h.eq⟩
set_option maxRecDepth 10000 in
set_option maxHeartbeats 8000000 in
theorem Check_at (l : List Ty) (v : Value) (w : World) (ok : Nat → Prop) (h : IsTs w ok v l) (hc : CI l) :
    Calls Tryz.prog 17 #[v] w fun e w' => CkA w (chk l) e w' := by
  have hmf : ∀ (fn : Fn) (first cap : Array Value) (w : World), (Instr.makeFunc fn first cap).run Tryz.prog w = .ok (.func fn first cap) w := fun _ _ _ _ => rfl
  have hmm : ∀ w, (Instr.makeMap 66 none).run Tryz.prog w = .ok (.map (some w.heap.size)) (w.alloc (.map #[] 0)) := fun w => by kernel_rfl
  obtain ⟨p, c, cs, rfl, h1, h2⟩ := h
  have h1 := h1.mono (ok' := fun g => g < w.heap.size) (fun g _ hg => hg)
  have h2 := h2.mono (ok' := fun g => g < w.heap.size) (fun g _ hg => hg)
  obtain ⟨n, hn⟩ : ∃ n, n = l.length := ⟨_, rfl⟩
  have hn8 : n ≤ 8 := by rw [hn]; exact hc.wt.1
  obtain ⟨w1, hw1⟩ : ∃ w1, w1 = w.alloc (.cells #[.nilIface] 30) := ⟨_, rfl⟩
  obtain ⟨N, hN⟩ : ∃ N, N = w.heap.size := ⟨_, rfl⟩
  have hv1 : Vr w1 N .nilIface 30 := by rw [hw1, hN]; exact Vr.new w _ _
  have hb1 : Bl w w1 := by rw [hw1]; exact (Bl.refl _).alloc _
  obtain ⟨eb, heb⟩ : ∃ eb, eb = w1.heap.size := ⟨_, rfl⟩
  obtain ⟨w2, hw2⟩ : ∃ w2, w2 = w1.alloc (.map #[] 0) := ⟨_, rfl⟩
  have hb2 : Bl w1 w2 := by rw [hw2]; exact (Bl.refl _).alloc _
  have hs2 : SetM w2 eb [] 0 := by rw [hw2, heb]; exact SetM.made w1
  obtain ⟨q, hq⟩ : ∃ q, q = chk l := ⟨_, rfl⟩
  rw [← hq, ← hn]
  have H0 : Hid (sr.Lie w (fun g => g < w.heap.size) p l.length c cs ∧ RepT w (fun g => g < w.heap.size) l cs ∧ CI l ∧ n = l.length ∧ N = w.heap.size ∧ q = chk l) := ⟨h1, h2, hc, hn, hN, hq⟩
  have HE0 : Hid (w.heap.size ≤ eb) := by show w.heap.size ≤ eb; rw [heb]; exact hb1.size
  have H2 : Hid (Cs l w w2 N eb [] 0) := ⟨hv1.step hb2, hb1.trans hb2, hs2, rfl⟩
  clear h1 h2 hn hc hv1 hb1 hb2 hs2 hq
  go_enter_defers Tryz.func17, Tryz.ntmps17
  go_upto_region 4 with fail
  rw [← hw1, ← hN]
  have heb2 : eb = N + 1 := by rw [heb, hw1, hN]; simp
  rw [← heb2, ← hw2]
  clear hw1 hw2 hN heb heb2
  go_loopw [13] (fun i wr => ∃ (j : Nat) (earl : List (List UInt8)), j ≤ n ∧ i = .int .i64 (j : Int) ∧ Hid (Cs l w wr N eb earl j)) (fun i _ => n - (intOf i).toNat)
  case atStart => exact ⟨0, [], by omega, rfl, H2.out⟩
  case round =>
    clear H2
    obtain ⟨j, earl, hj, rfl, HB⟩ := hrel
    by_cases hjn : j < n
    · obtain ⟨x, t, e1, e2, e3, e4, cs2, e5, e6⟩ := H0.out.2.1.at j (by rw [← H0.out.2.2.2.1]; exact hjn)
      obtain ⟨X, hX, _, g0', g⟩ := lieT_at (lieT_low H0.out.1 HB.out.bl) j x e1
      subst hX
      have g0 : wr.cell? (X.add (j * 3)) = some (.string (tx x.nm)) := g0'
      clear g0'
      have g1 := g 1 _ rfl
      have g2 := g 2 _ rfl
      have d1 : decide ((j : Int) < (n : Int)) = true := decide_eq_true (by omega)
      have i0 : (0 : Int) ≤ (j : Int) := by omega
      have i1 : (j : Int) < (n : Int) := by omega
      obtain ⟨w3, hw3⟩ : ∃ w3, w3 = wr.alloc (.cells (clT x).toArray 36) := ⟨_, rfl⟩
      obtain ⟨M, hM⟩ : ∃ M, M = wr.heap.size := ⟨_, rfl⟩
      have hv3 : w3.heap[M]? = some (.cells (clT x).toArray 36 (0, 0)) := by rw [hw3, hM]; exact new_at _ _
      have hbl3 : Bl wr w3 := by rw [hw3]; exact (Bl.refl _).alloc _
      have C3 := HB.out.bl' hbl3
      obtain ⟨hnm, hit, hwi⟩ := H0.out.2.2.1.wt.2 t (List.mem_of_getElem? e2)
      obtain ⟨ha1, ha2, ha3⟩ := H0.out.2.2.1.at_ t (List.mem_of_getElem? e2)
      have hnl : x.nm.length ≤ 5000 := by rw [e3]; have := hnm.2.2.1; omega
      obtain ⟨z1, hlk⟩ := C3.e.look x.nm hnl
      obtain ⟨o1, o2⟩ := chkT_step earl l j t e2
      rw [← e3] at o1 o2
      have hMs : M < w3.heap.size := lt_of_heap hv3
      have k0 : w3.cell? ⟨M, 0, none⟩ = some (.string (tx x.nm)) := by rw [cell_of hv3]; rfl
      have k1 : w3.cell? ⟨M, 1, none⟩ = some (.int .i64 (x.a : Int)) := by rw [cell_of hv3]; rfl
      have k2 : w3.cell? ⟨M, 2, none⟩ = some (.slice x.p x.n x.c) := by rw [cell_of hv3]; rfl
      have HX : Hid (Cs l w w3 N eb earl j ∧ w3.heap[M]? = some (.cells (clT x).toArray 36 (0, 0)) ∧ x.a = t.at_ ∧ ir.Lie w (fun g => g < w.heap.size) x.p x.n x.c cs2 ∧ Rep w (fun g => g < w.heap.size) t.l cs2 ∧ t.l.len ≤ 16 ∧ WI 7 t.l ∧ AtB t.l ∧ tot t.l ≤ 4000 ∧ x.nm.length ≤ 5000) := ⟨C3, hv3, e4, e5, e6, hit, hwi, ha2, ha3, hnl⟩
      clear g e1 e2 e3 e4 e5 e6 C3 hv3 hbl3 hnm hit hwi ha1 ha2 ha3 hnl
      go_upto_region 6 with fail
      change Code.wp _ _ _ _ (wr.alloc (.cells (clT x).toArray 36))
      rw [← hw3, ← hM]
      clear hw3 hM g0 g1 g2
      by_cases hin : x.nm ∈ earl
      · rw [decide_eq_true hin] at hlk
        have HQ : Hid (q = some (9, x.a)) := by
          show q = _
          rw [H0.out.2.2.2.2.2, HX.out.2.2.1]
          exact HB.out.eq.trans (o1 hin)
        have cT := ythrow_at (x.a : Int)
        clear o1 o2 hin
        go_wp2_with fail
        refine (cT 9 w3).mono ?_
        rintro e w9 ⟨A, rfl, hA1, hA2, hb9⟩
        have HF : Hid (Vr w9 N .nilIface 30 ∧ Bl w w9 ∧ AtX w9 A 9 (x.a : Int) ∧ A ≠ N ∧ w.heap.size ≤ A) := ⟨HX.out.1.v.step hb9, HX.out.1.bl.trans hb9, hA2, by have := HX.out.1.v.lt; omega, Nat.le_trans HX.out.1.bl.size hA1⟩
        clear hb9 hA1 hA2
        unfold thrownY
        go_wp2
        refine leaves_cons (f := 42) (args := #[.pointer (some ⟨N, 0, none⟩)]) (by simp) (by simp [go_sem]) ?_
        refine (ycatch_thrown N A w w9 .nilIface 9 (x.a : Int) HF.out.1 HF.out.2.1 (by have := H0.out.2.2.2.2.1; omega) HF.out.2.2.1 HF.out.2.2.2.1).mono ?_
        rintro e u' wz ⟨rfl, rfl, hvz, hbz, haz⟩
        have c1' := hvz.cell
        have hfin := CkA.of_err HQ.out hbz HF.out.2.2.2.2 haz
        unfold thrYV
        simp [Leaves, settle, results, Tryz.results17, go_sem, c1']
        exact hfin
      · rw [decide_eq_false hin] at hlk
        obtain ⟨o3, o4⟩ := o2 hin
        have HO : Hid ((∀ e, chkB earl t.l [] [] = .error e → chkT earl (l.drop j) = some e) ∧ ∀ n, chkB earl t.l [] [] = .ok n → chkT earl (l.drop j) = chkT (x.nm :: earl) (l.drop (j + 1))) := ⟨o3, o4⟩
        obtain ⟨B, hB⟩ : ∃ B, B = w3.heap.size := ⟨_, rfl⟩
        obtain ⟨w4, hw4⟩ : ∃ w4, w4 = w3.alloc (.map #[] 0) := ⟨_, rfl⟩
        obtain ⟨S, hS⟩ : ∃ S, S = B + 1 := ⟨_, rfl⟩
        have hS4 : S = w4.heap.size := by rw [hS, hB, hw4]; simp
        obtain ⟨w5, hw5⟩ : ∃ w5, w5 = w4.alloc (.map #[] 0) := ⟨_, rfl⟩
        obtain ⟨K, hK⟩ : ∃ K, K = B + 1 + 1 := ⟨_, rfl⟩
        have hK5 : K = w5.heap.size := by rw [hK, hB, hw5, hw4]; simp
        obtain ⟨w6, hw6⟩ : ∃ w6, w6 = w5.alloc (.cells #[.map (some eb), .map (some B), .map (some S)] 92) := ⟨_, rfl⟩
        have hb4 : Bl w3 w4 := by rw [hw4]; exact (Bl.refl _).alloc _
        have hb5 : Bl w4 w5 := by rw [hw5]; exact (Bl.refl _).alloc _
        have hb6 : Bl w5 w6 := by rw [hw6]; exact (Bl.refl _).alloc _
        have sB : SetM w4 B [] 0 := by rw [hw4, hB]; exact SetM.made w3
        have sS : SetM w5 S [] 0 := by rw [hw5, hS4]; exact SetM.made w4
        have hbl36 := (hb4.trans hb5).trans hb6
        have hebl := HX.out.1.e.lt
        have hBl := sB.lt
        have hck : Ck w6 K eb B S earl [] [] j 0 0 := ⟨by rw [hw6, hK5]; exact new_at _ _, HX.out.1.e.bl hbl36, sB.bl (hb5.trans hb6), sS.bl hb6, by omega, by omega, by omega⟩
        have hwB : w.heap.size ≤ B := by have := HX.out.1.bl.size; omega
        have hNB : N < B := by have := HX.out.1.v.lt; omega
        have hbw6 : Bl w w6 := HX.out.1.bl.trans hbl36
        have cR := block_ya 7 t.l B K eb B S earl [] [] j 0 0 x.n x.p x.c cs2 w6 ⟨HX.out.2.2.2.2.2.2.1, HX.out.2.2.2.2.2.1, HX.out.2.2.2.2.2.2.2.1, hck, Nat.le_refl _, by omega, by have := hbl36.size; omega, by have := HX.out.2.2.2.2.2.2.2.2.1; omega, by have := HX.out.2.2.2.2.2.2.2.2.1; omega,
          (HX.out.2.2.2.1.keep (fun g hg _ => hbw6.block g hg) hbw6.size).mono (fun g hg _ => by omega), (HX.out.2.2.2.2.1.keep (fun g hg _ => hbw6.block g hg) hbw6.size (Kx.bl hbw6)).mono (fun g hg _ => by omega), fun y hy => (by cases hy), fun y hy => (by cases hy), by rw [HX.out.2.2.2.1.1]; exact HX.out.2.2.2.2.1.len.1⟩
        have k2' := at_bl hbl36 k2
        have hMs6 : M < w6.heap.size := Nat.lt_of_lt_of_le hMs hbl36.size
        have H6 : Hid (Bl w w6 ∧ Bl w3 w6 ∧ B = w3.heap.size ∧ w.heap.size ≤ B ∧ N < B) := ⟨hbw6, hbl36, hB, hwB, hNB⟩
        clear o1 o2 o3 o4 hin hck hbw6 hbl36 hb4 hb5 hb6 sB sS hebl hBl k1
        go_upto_region 10 with fail
        rw [← hB, ← hK, ← hS, ← hw4, ← hw5, ← hw6]
        clear hB hw4 hS hw5 hK hw6 k0 k2 hlk hS4 hK5
        go_wp2_with fail
        refine cR.mono ?_
        rintro e w7 ⟨hb7, hx7, hans⟩
        clear cR
        have H7 : Hid (Vr w7 N .nilIface 30 ∧ Bl w w7 ∧ w7.heap[M]? = some (.cells (clT x).toArray 36 (0, 0))) := by
          refine ⟨?_, Below.trans (show Below w.heap.size w w6 from H6.out.1) (hb7.mono H6.out.2.2.2.1), ?_⟩
          · have hv := HX.out.1.v.step H6.out.2.1
            unfold Vr at hv ⊢
            rw [hb7.block N H6.out.2.2.2.2]
            exact hv
          · rw [hb7.block M (by rw [H6.out.2.2.1]; exact hMs), Below.block H6.out.2.1 M hMs]
            exact HX.out.2.1
        cases hcB : chkB earl t.l [] [] with
        | error cp =>
          obtain ⟨cc, pp⟩ := cp
          rw [hcB] at hans
          obtain ⟨A, rfl, hA1, hA2⟩ := hans
          have HF : Hid (AtX w7 A cc (pp : Int) ∧ A ≠ N ∧ w.heap.size ≤ A ∧ q = some (cc, pp)) := ⟨hA2, by have := H6.out.2.2.2.2; omega, by have := H6.out.2.2.2.1; omega, by rw [H0.out.2.2.2.2.2]; exact HB.out.eq.trans (HO.out.1 _ hcB)⟩
          clear hcB hA1 hA2 hb7 hx7 k2'
          unfold thrownY
          go_wp2
          refine leaves_cons (f := 42) (args := #[.pointer (some ⟨N, 0, none⟩)]) (by simp) (by simp [go_sem]) ?_
          refine (ycatch_thrown N A w w7 .nilIface cc (pp : Int) H7.out.1 H7.out.2.1 (by have := H0.out.2.2.2.2.1; omega) HF.out.1 HF.out.2.1).mono ?_
          rintro e u' wz ⟨rfl, rfl, hvz, hbz, haz⟩
          have c1' := hvz.cell
          have hfin := CkA.of_err HF.out.2.2.2 hbz HF.out.2.2.1 haz
          unfold thrYV
          simp [Leaves, settle, results, Tryz.results17, go_sem, c1']
          exact hfin
        | ok n2 =>
          rw [hcB] at hans
          obtain ⟨rfl, _, _, kn2, ks2, _, _, hck⟩ := hans
          obtain ⟨w8, hr8, hn8', hg8⟩ := hck.e.put x.nm (j : Int) HX.out.2.2.2.2.2.2.2.2.2 (by unfold R64; omega) (by omega)
          have m0 : w7.cell? ⟨M, 0, none⟩ = some (.string (tx x.nm)) := by rw [cell_of H7.out.2.2]; rfl
          have hebN : eb ≠ N := by
            intro e
            obtain ⟨es, clock, hb⟩ := hck.e.block
            have := H7.out.1
            unfold Vr at this
            rw [e, this] at hb
            cases hb
          have hebw : w.heap.size ≤ eb := HE0.out
          have H8 : Hid (Cs l w w8 N eb (x.nm :: earl) (j + 1)) := by
            refine ⟨?_, bl_grown H7.out.2.1 hg8 (fun k hk => by injection hk with hk; omega), hn8', HB.out.eq.trans (HO.out.2 _ hcB)⟩
            have hv := H7.out.1
            have hl := H7.out.1.lt
            unfold Vr at hv ⊢
            rw [hg8.block N hl (fun e => by injection e with e; exact hebN e.symm)]
            exact hv
          clear hcB hck hn8' hg8 hb7 hx7 k2' hebN hebw
          go_wp2
          go_roundw
          case rel => exact ⟨j + 1, x.nm :: earl, by omega, by go_num, H8.out⟩
          case measure => simp [intOf]; omega
    · obtain rfl : n = j := by omega
      have HQ : Hid (q = none) := by
        show q = none
        rw [H0.out.2.2.2.2.2]
        refine HB.out.eq.trans ?_
        rw [H0.out.2.2.2.1, List.drop_length]
        rfl
      have d1 := HB.out.v.cell
      have e1 := HB.out.v.frozen
      have hNs := HB.out.v.lt
      go_wp2
      have hv9 : Vr (wr.setCell ⟨N, 0, none⟩ .nilIface) N .nilIface 30 := HB.out.v.set _
      have hb9 : Bl w (wr.setCell ⟨N, 0, none⟩ .nilIface) := HB.out.bl.setCell (by show w.heap.size ≤ N; have := H0.out.2.2.2.2.1; omega) _
      generalize wr.setCell ⟨N, 0, none⟩ .nilIface = w9 at hv9 hb9 ⊢
      refine leaves_cons (f := 42) (args := #[.pointer (some ⟨N, 0, none⟩)]) (by simp) (by simp [go_sem]) ?_
      refine (ycatch_idle _ _).mono ?_
      rintro e u' wz ⟨rfl, rfl, hbz⟩
      have c1' := (hv9.step hbz).cell
      have hfin := CkA.of_ok HQ.out (hb9.trans hbz)
      simp [Leaves, settle, results, Tryz.results17, go_sem, c1']
      exact hfin
end Go.Proofs.YtpanodaecjlgaaaGreatDoor.tm
/- The document's checker of templates: which. -/
namespace Go.Proofs.YtpanodaecjlgaaaGreatDoor.tc
set_option linter.unusedVariables false
open Go.ChangeShapes Go.WideShapes Go.ChangeAt Go.RowKit Go.Shelf
open mem lx ex tm

/-- None of the first ones is called so. -/
theorem nmd_no {ds : List D} {t : List UInt8} (h : ∀ d ∈ ds, d.nm ≠ t) : nmd ds t = none := by
  unfold nmd
  rw [List.findIdx?_eq_none_iff]
  intro d hd
  rw [beq_eq_false_iff_ne]
  exact h d hd
theorem nmd_yes {ds : List D} {t : List UInt8} {j : Nat} {d : D} (h : ds[j]? = some d) (hd : d.nm = t) (hn : ∀ k e, k < j → ds[k]? = some e → e.nm ≠ t) : nmd ds t = some j := by
  unfold nmd
  obtain ⟨hj, he⟩ := List.getElem?_eq_some_iff.1 h
  rw [List.findIdx?_eq_some_iff_getElem]
  refine ⟨hj, by rw [he, beq_iff_eq]; exact hd, fun k hk => ?_⟩
  have := hn k (ds[k]'(by omega)) hk (List.getElem?_eq_getElem _)
  simpa using this
set_option maxRecDepth 10000 in
set_option maxHeartbeats 2000000 in
theorem which_at (t : List UInt8) (cs : List C) (ok : Nat → Prop) (p : Option Addr) (n c : Nat) (w : World) (hin : ir.Lie w ok p n c cs) (hn : n ≤ 3000) (ht : t ≠ []) (hw : ∀ x ∈ cs, x.d.kd = 4 → x.d.nm = []) :
    Calls Tryz.prog 71 #[.slice p n c, .string (tx t)] w fun e w' => e = .returned (.int .i64 (idx (nmd (cs.map C.d) t))) ∧ Bl w w' := by
  have hnl : n = cs.length := hin.1
  have H0 : Hid (ir.Lie w ok p n c cs ∧ n = cs.length ∧ ∀ x ∈ cs, x.d.kd = 4 → x.d.nm = []) := ⟨hin, hnl, hw⟩
  have htl := tl_tx t
  obtain ⟨S, hS⟩ : ∃ S, S = tx t := ⟨_, rfl⟩
  rw [← hS] at htl ⊢
  clear hin hnl hw hS
  go_enter Tryz.func71, Tryz.ntmps71
  go_wp2
  go_loopw [9] (fun i wr => ∃ j : Nat, j ≤ n ∧ i = .int .i64 (j : Int) ∧ Hid (Bl w wr ∧ ∀ k e, k < j → (cs.map C.d)[k]? = some e → e.nm ≠ t)) (fun i _ => n - (intOf i).toNat)
  case atStart => exact ⟨0, by omega, rfl, Bl.refl _, fun k e hk => by omega⟩
  case round =>
    obtain ⟨j, hj, rfl, HB⟩ := hrel
    by_cases hjn : j < n
    · have d1 : decide ((j : Int) < (n : Int)) = true := decide_eq_true (by omega)
      have i0 : (0 : Int) ≤ (j : Int) := by omega
      have i1 : (j : Int) < (n : Int) := by omega
      obtain ⟨x, e1⟩ : ∃ x, cs[j]? = some x := ⟨_, List.getElem?_eq_getElem (by have := H0.out.2.1; omega)⟩
      obtain ⟨X, rfl, _, g0', g⟩ := lie_at (lie_bl H0.out.1 HB.out.1) j x e1
      have g0 : wr.cell? (X.add (j * 13)) = some (.int .i64 (x.d.kd : Int)) := g0'
      clear g0'
      have g1 := g 1 _ rfl
      have g2 := g 2 _ rfl
      have g3 := g 3 _ rfl
      have g4 := g 4 _ rfl
      have g5 := g 5 _ rfl
      have g6 := g 6 _ rfl
      have g7 := g 7 _ rfl
      have g8 := g 8 _ rfl
      have g9 := g 9 _ rfl
      have g10 := g 10 _ rfl
      have g11 := g 11 _ rfl
      have g12 := g 12 _ rfl
      have HX : Hid ((cs.map C.d)[j]? = some x.d ∧ (x.d.kd = 4 → x.d.nm = [])) := ⟨by rw [List.getElem?_map, e1]; rfl, H0.out.2.2 x (List.mem_of_getElem? e1)⟩
      obtain ⟨w3, hw3⟩ : ∃ w3, w3 = wr.alloc (.cells (cl x).toArray 75) := ⟨_, rfl⟩
      obtain ⟨M, hM⟩ : ∃ M, M = wr.heap.size := ⟨_, rfl⟩
      have hv3 : Iv w3 M x := ⟨by rw [hw3, hM]; exact new_at _ _⟩
      have HB3 : Hid (Bl w w3) := HB.out.1.trans (by rw [hw3]; exact (Bl.refl _).alloc _)
      clear g e1
      go_upto_region 4 with fail
      change Code.wp _ _ _ _ (wr.alloc (.cells (cl x).toArray 75))
      rw [← hw3, ← hM]
      clear hw3 hM g0 g1 g2 g3 g4 g5 g6 g7 g8 g9 g10 g11 g12
      have x0 : w3.cell? ⟨M, 0, none⟩ = some (.int .i64 (x.d.kd : Int)) := hv3.cell 0
      have x2 : w3.cell? ⟨M, 2, none⟩ = some (.string (tx x.d.nm)) := hv3.cell 2
      have htl2 := tl_tx x.d.nm
      obtain ⟨S2, hS2⟩ : ∃ S2, S2 = tx x.d.nm := ⟨_, rfl⟩
      rw [← hS2] at x2 htl2
      clear hv3 hS2
      by_cases h4 : x.d.kd = 4
      · have k4 : ((x.d.kd : Int) != 4) = false := by rw [bne_eq_false_iff_eq]; omega
        have HN : Hid (x.d.nm ≠ t) := by show x.d.nm ≠ t; rw [HX.out.2 h4]; exact fun e => ht e.symm
        clear htl htl2 h4
        go_wp2
        go_roundw
        case rel =>
          refine ⟨j + 1, by omega, by go_num, HB3.out, fun k e hk he => ?_⟩
          rcases Nat.lt_or_ge k j with h | h
          · exact HB.out.2 k e h he
          · obtain rfl : k = j := by omega
            rw [HX.out.1] at he
            injection he with he
            rw [← he]; exact HN.out
        case measure => simp [intOf]; omega
      · have k4 : ((x.d.kd : Int) != 4) = true := by rw [bne_iff_ne]; omega
        by_cases hnm : x.d.nm = t
        · have hq : (S2.toList == S.toList) = true := by rw [htl2, htl, hnm, beq_self_eq_true]
          have HN : Hid (nmd (cs.map C.d) t = some j) := nmd_yes HX.out.1 hnm HB.out.2
          clear htl htl2 h4 hnm
          go_wp2
          go_ret
          rw [HN.out]
          exact ⟨rfl, HB3.out⟩
        · have hq : (S2.toList == S.toList) = false := by rw [htl2, htl, beq_eq_false_iff_ne]; exact hnm
          have HN : Hid (x.d.nm ≠ t) := hnm
          clear htl htl2 h4 hnm
          go_wp2
          go_roundw
          case rel =>
            refine ⟨j + 1, by omega, by go_num, HB3.out, fun k e hk he => ?_⟩
            rcases Nat.lt_or_ge k j with h | h
            · exact HB.out.2 k e h he
            · obtain rfl : k = j := by omega
              rw [HX.out.1] at he
              injection he with he
              rw [← he]; exact HN.out
          case measure => simp [intOf]; omega
    · have d1 : decide ((j : Int) < (n : Int)) = false := decide_eq_false (by omega)
      have HN : Hid (nmd (cs.map C.d) t = none) := by
        refine nmd_no (fun d hd => ?_)
        obtain ⟨k, hk⟩ := List.mem_iff_getElem?.1 hd
        have h1 := (List.getElem?_eq_some_iff.1 hk).1
        rw [List.length_map] at h1
        exact HB.out.2 k d (by have := H0.out.2.1; omega) hk
      go_wp2
      go_ret
      rw [HN.out]
      exact ⟨rfl, HB.out.1⟩
end Go.Proofs.YtpanodaecjlgaaaGreatDoor.tc
/- The document's checker of templates: covers. -/
namespace Go.Proofs.YtpanodaecjlgaaaGreatDoor.tc
set_option linter.unusedVariables false
open Go.ChangeShapes Go.WideShapes Go.ChangeAt Go.RowKit Go.Shelf
open mem lx ex tm

/-- A row on which the document's checker may look: names of rules are names; what has others has no name. -/
structure Okr (cs : List C) : Prop where
  nm : ∀ x ∈ cs, x.d.kd = 4 → x.d.nm = []
  ru : ∀ x ∈ cs, x.d.ru = 3 → x.d.f1 ≠ [] ∧ x.d.l1 ≠ []
set_option maxRecDepth 10000 in
set_option maxHeartbeats 4000000 in
theorem covers_at (x : C) (i : Nat) (cs : List C) (ok : Nat → Prop) (p : Option Addr) (n c : Nat) (w : World) (hin : ir.Lie w ok p n c cs) (hn : n ≤ 3000) (hx : cs[i]? = some x) (hO : Okr cs) (hr3 : x.d.ru = 3) :
    Calls Tryz.prog 100 #[.slice p n c, .int .i64 (i : Int)] w fun e w' => ∃ v, e = .returned v ∧ Bl w w' ∧ ri.Own w' w.heap.size v (ints (under (cs.map C.d) i)) := by
  have hil := (List.getElem?_eq_some_iff.1 hx).1
  have hnc := hin.1
  have hncap := hin.2.1
  obtain ⟨X, rfl, _, g0', g⟩ := lie_at hin i x hx
  have g10 := g 10 _ rfl
  have g11' : ∀ wx, Bl w wx → wx.cell? ⟨(X.add (i * 13)).block, (X.add (i * 13)).off + 11, none⟩ = some (.string (tx x.d.l1)) := fun wx hb => at_bl hb (g 11 _ rfl)
  clear g g0'
  have i0 : (0 : Int) ≤ (i : Int) := by omega
  have i1 : (i : Int) < (n : Int) := by omega
  obtain ⟨f1n, l1n⟩ := hO.ru x (List.mem_of_getElem? hx) hr3
  have cE := fun wx (hb : Bl w wx) => which_at x.d.f1 cs ok (some X) n c wx (lie_bl hin hb) hn f1n hO.nm
  have cL := fun wx (hb : Bl w wx) => which_at x.d.l1 cs ok (some X) n c wx (lie_bl hin hb) hn l1n hO.nm
  obtain ⟨o1, o2, o3⟩ := under_is (cs.map C.d) i x.d (by rw [List.getElem?_map, hx]; rfl)
  have hends : ends (cs.map C.d) x.d = (nmd (cs.map C.d) x.d.f1, nmd (cs.map C.d) x.d.l1) := by unfold ends; rw [if_pos hr3]
  rw [hends] at o1 o2 o3
  obtain ⟨U, hU⟩ : ∃ U, U = under (cs.map C.d) i := ⟨_, rfl⟩
  rw [← hU] at o1 o2 o3 ⊢
  obtain ⟨ea, hea⟩ : ∃ ea, ea = nmd (cs.map C.d) x.d.f1 := ⟨_, rfl⟩
  obtain ⟨eb, heb⟩ : ∃ eb, eb = nmd (cs.map C.d) x.d.l1 := ⟨_, rfl⟩
  rw [← hea] at cE o1 o2 o3
  rw [← heb] at cL o1 o2 o3
  have HI : Hid (ir.Lie w ok (some X) n c cs ∧ n = cs.length ∧ (ea, eb) = ends (cs.map C.d) x.d) := ⟨hin, hnc, by rw [hends, hea, heb]⟩
  obtain ⟨F1, hF1⟩ : ∃ F1, F1 = tx x.d.f1 := ⟨_, rfl⟩
  obtain ⟨L1, hL1⟩ : ∃ L1, L1 = tx x.d.l1 := ⟨_, rfl⟩
  rw [← hF1] at g10 cE
  rw [← hL1] at g11' cL
  have HG : Hid (∀ wx, Bl w wx → wx.cell? ⟨(X.add (i * 13)).block, (X.add (i * 13)).off + 11, none⟩ = some (.string L1)) := g11'
  clear hin hnc hx hea heb hU hends hO hr3 f1n l1n hF1 hL1 g11'
  go_enter Tryz.func100, Tryz.ntmps100
  go_wp2_with fail
  refine (cE _ (Bl.refl _)).mono ?_
  rintro e w2 ⟨rfl, hb2⟩
  have H2 : Hid (Bl w w2) := hb2
  clear cE hb2 g10
  cases ea with
  | none =>
    have hi : idx (none : Option Nat) = -1 := rfl
    have HU : Hid (U = []) := o2 _ rfl
    rw [hi]
    clear o1 o2 o3 hi cL
    go_wp2
    go_loopw [5, 6] (fun v kv wr => v = .slice none 0 0 ∧ kv = .int .i64 (-1) ∧ Hid (Bl w wr)) (fun _ _ _ => 0)
    case atStart => exact ⟨rfl, rfl, H2.out⟩
    case round =>
      obtain ⟨rfl, rfl, HB⟩ := hrel
      go_wp2
      go_ret
      exact ⟨.slice none 0 0, rfl, HB.out, by rw [HU.out]; exact ri.Own.nil _ _⟩
  | some a =>
    have hi2 : idx (some a) = (a : Int) := rfl
    rw [hi2]
    obtain ⟨b1, hb1, hUb, hbn⟩ : ∃ b1 : Nat, idx eb = (b1 : Int) - 1 ∧ U = pf (cs.map C.d) a b1 ∧ b1 ≤ n := by
      cases eb with
      | none => exact ⟨0, rfl, by rw [o3 _ rfl, pf_start _ _ _ (Nat.zero_le _)], Nat.zero_le _⟩
      | some b =>
        refine ⟨b + 1, ?_, o1 a b rfl, ?_⟩
        · show ((b : Nat) : Int) = _
          omega
        · have := (ends_lt HI.out.2.2.symm).2
          rw [List.length_map, ← HI.out.2.1] at this
          omega
    have HU : Hid (U = pf (cs.map C.d) a b1) := hUb
    rw [hb1] at cL
    clear o1 o2 o3 hUb hi2 hb1
    go_wp2
    go_loopw [5, 6] (fun v s8 wr => ∃ j : Nat, a ≤ j ∧ (j ≤ b1 ∨ j = a) ∧ s8 = .int .i64 (j : Int) ∧ Hid (Bl w wr ∧ ri.Own wr w.heap.size v (ints (pf (cs.map C.d) a j)))) (fun _ s8 _ => b1 - (intOf s8).toNat)
    case atStart => exact ⟨a, Nat.le_refl _, Or.inr rfl, rfl, H2.out, by rw [pf_start _ _ _ (Nat.le_refl _)]; exact ri.Own.nil _ _⟩
    case round =>
      obtain ⟨j, hj1, hj2, rfl, HB⟩ := hrel
      have hb64 : (b1 : Int) - 1 < 9223372036854775808 := by omega
      have j0 : (0 : Int) ≤ (j : Int) := by omega
      have x11 := HG.out wr HB.out.1
      go_wp2_with fail
      refine (cL _ HB.out.1).mono ?_
      rintro e w4 ⟨rfl, hb4⟩
      have H4 : Hid (Bl w w4 ∧ ri.Own w4 w.heap.size u5 (ints (pf (cs.map C.d) a j))) := ⟨HB.out.1.trans hb4, HB.out.2.step hb4⟩
      clear hb4 x11
      by_cases hjb : j < b1
      · have d1 : decide ((j : Int) ≤ (b1 : Int) - 1) = true := decide_eq_true (by omega)
        have d1' : (j : Int) ≤ (b1 : Int) - 1 := by omega
        have j1 : (j : Int) < (n : Int) := by omega
        obtain ⟨y, hy⟩ : ∃ y, cs[j]? = some y := ⟨_, List.getElem?_eq_getElem (by have := HI.out.2.1; omega)⟩
        obtain ⟨Y, hY, _, _, gy⟩ := lie_at (lie_bl HI.out.1 H4.out.1) j y hy
        injection hY with hY
        subst hY
        have y9 := gy 9 _ rfl
        have hisC : isC (cs.map C.d) j = (y.d.ru == 3) := by
          unfold isC
          rw [List.getElem?_map, hy]
          rfl
        clear gy
        by_cases r3 : y.d.ru = 3
        · rw [r3] at y9
          obtain ⟨M, hM⟩ : ∃ M, M = w4.heap.size := ⟨_, rfl⟩
          obtain ⟨w7, hw7⟩ : ∃ w7, w7 = w4.alloc (.cells #[.int .i64 (j : Int)] 3) := ⟨_, rfl⟩
          have hb7 : Bl w4 w7 := by rw [hw7]; exact (Bl.refl _).alloc _
          have c7 : w7.cell? ⟨M, 0, none⟩ = some (.int .i64 (j : Int)) := by rw [hw7, hM, cell_of (new_at _ _)]; rfl
          obtain ⟨v', w8, hr8, ho8, hg8, _⟩ := ri.app_one w7 w.heap.size u5 _ (j : Int) M (H4.out.2.step hb7) c7 (by rw [ints_len]; have := pf_len (cs.map C.d) a j; omega) (Nat.le_trans H4.out.1.size hb7.size)
          have hb8 : Bl w w8 := bl_grown (H4.out.1.trans hb7) hg8 (fun k hk => (H4.out.2.block k hk).1)
          have HR : Hid _ := hr8
          have H8 : Hid (Bl w w8 ∧ ri.Own w8 w.heap.size v' (ints (pf (cs.map C.d) a (j + 1)))) := by
            refine ⟨hb8, ?_⟩
            rw [pf_step _ _ _ hj1, hisC, r3]
            rw [show (if ((3 : Nat) == 3) = true then [j] else []) = [j] from rfl, ints_app]
            exact ho8
          clear c7 hr8 ho8 hg8 hb8 hb7 hy hisC
          go_upto_region 6 with fail
          go_wp2_with (at_builtin; rw [← hw7, ← hM]; refine Lib.wpList_append_run _ rfl (.tmp 35) (.tmp 37) _ _ rfl _ _ rfl rfl _ _ HR.out ?_)
          go_roundw
          case rel => exact ⟨j + 1, by omega, Or.inl (by omega), by go_num, H8.out⟩
          case measure => simp [intOf]; omega
        · have r3' : ¬ ((y.d.ru : Int) = 3) := by omega
          have H8 : Hid (Bl w w4 ∧ ri.Own w4 w.heap.size u5 (ints (pf (cs.map C.d) a (j + 1)))) := by
            refine ⟨H4.out.1, ?_⟩
            rw [pf_step _ _ _ hj1, hisC]
            rw [show (y.d.ru == 3) = false by simpa using r3]
            rw [show (if false = true then [j] else []) = ([] : List Nat) from rfl, List.append_nil]
            exact H4.out.2
          clear hy hisC
          go_wp2
          go_roundw
          case rel => exact ⟨j + 1, by omega, Or.inl (by omega), by go_num, H8.out⟩
          case measure => simp [intOf]; omega
      · have d1 : decide ((j : Int) ≤ (b1 : Int) - 1) = false := decide_eq_false (by omega)
        have d1' : ¬ ((j : Int) ≤ (b1 : Int) - 1) := by omega
        have H9 : Hid (Bl w w4 ∧ ri.Own w4 w.heap.size u5 (ints U)) := by
          refine ⟨H4.out.1, ?_⟩
          have h := H4.out.2
          rw [HU.out]
          rcases hj2 with h2 | h2
          · obtain rfl : j = b1 := by omega
            exact h
          · subst h2
            rw [pf_start _ _ _ (Nat.le_refl _)] at h
            rw [pf_start _ _ _ (by omega)]
            exact h
        go_wp2
        go_ret
        exact ⟨_, rfl, H9.out⟩
end Go.Proofs.YtpanodaecjlgaaaGreatDoor.tc
/- The document's checker of templates: comes. -/
namespace Go.Proofs.YtpanodaecjlgaaaGreatDoor.tc
set_option linter.unusedVariables false
open Go.ChangeShapes Go.WideShapes Go.ChangeAt Go.RowKit Go.Shelf Go.Maps
open mem lx ex tm

theorem under_isC {ds : List D} {j k : Nat} (h : k ∈ under ds j) : isC ds k = true := by
  unfold under at h
  split at h
  · cases h
  · split at h
    · exact (List.mem_filter.1 h).2
    · cases h
theorem lawI : Keyed Tryz.prog 3 := int_keyed Tryz.underlying3
def keyI (n : Nat) : Lit := .int .i64 (n : Int)
theorem keyI_of {n : Nat} (h : n ≤ 9000) : keyOf Tryz.prog 3 (.int .i64 (n : Int)) = some (keyI n) := keyOf_int_mk Tryz.underlying3 (WalkArith.wf_i64 (by omega))
theorem isKeyI (z : Nat) : WideAt.IsKeyLit (keyI z) := trivial
theorem keyI_inj {a b : Nat} (h : a ≠ b) : keyI a ≠ keyI b := fun e => h (by unfold keyI at e; injection e with _ e; omega)
theorem zero_bool (w : World) : (zeroValue 4).run Tryz.prog w = .ok (.bool false) w := by kernel_rfl
theorem plainElem_bool_inv {P : Program} {e : TypeId} (he : P.underlying e = some .bool) {v : Value} {z : DataW Unit × List MemPlace} (h : plainElem P e v = some z) : ∃ x, v = .bool x ∧ z = (.lit (.bool x), []) := by
  unfold plainElem at h
  rw [he] at h
  cases v <;> simp at h
  exact ⟨_, rfl, h.symm⟩
theorem lit_bool {a b : Bool} (h : (DataW.lit (Lit.bool a) : DataW Unit) = .lit (.bool b)) : a = b := by
  injection h with h
  injection h
theorem hbool : Tryz.prog.underlying 4 = some .bool := Tryz.underlying4
/-- Which ones were met. -/
def Mq (w : World) (M n : Nat) (met : List Nat) : Prop :=
  n ≤ 9000 ∧ ∃ (D : DataW Unit) (c : Nat), c ≤ met.length ∧ w.ownsMap Tryz.prog 3 (plainElem Tryz.prog 4) M c D ∧ ∀ k : Nat, D.atKey (keyI k) (.lit (.bool false)) = .lit (.bool (decide (k ∈ met)))
theorem Mq.made (w : World) (n : Nat) (hn : n ≤ 9000) : Mq (w.alloc (.map #[] 0)) w.heap.size n [] :=
  ⟨hn, _, 0, Nat.le_refl _, World.ownsMap_made w Tryz.prog 3 _, fun c => by simp; rfl⟩
theorem Mq.grown {w w' : World} {M n : Nat} {met : List Nat} {row : Option Nat} (h : Mq w M n met) (hg : w.grownBy w' row) (hne : row ≠ some M) : Mq w' M n met := by
  obtain ⟨hn, D, c, hc, h1, h2⟩ := h
  exact ⟨hn, D, c, hc, h1.kept hg (fun e => hne e.symm), h2⟩
theorem Mq.bl {w w' : World} {M n : Nat} {met : List Nat} (h : Mq w M n met) (hb : Bl w w') : Mq w' M n met :=
  h.grown (row := none) ⟨hb.os, hb.tape, hb.output, hb.size, fun k hk _ => Below.block hb k hk⟩ (by simp)
theorem Mq.lt {w : World} {M n : Nat} {met : List Nat} (h : Mq w M n met) : M < w.heap.size := by
  obtain ⟨hn, D, c, hc, h1, h2⟩ := h
  obtain ⟨es, clock, hb, _⟩ := h1
  exact lt_of_heap hb
theorem Mq.look {w : World} {M n : Nat} {met : List Nat} (h : Mq w M n met) (k : Nat) (hk : k < n) : (Instr.lookup 164 (.map (some M)) (.int .i64 (k : Int)) false).run Tryz.prog w = .ok (.bool (decide (k ∈ met))) w := by
  obtain ⟨hn, D, c, hc, h1, h2⟩ := h
  obtain ⟨v, ps, hrun, hv⟩ := h1.lookup lawI Tryz.underlying164 (zero_bool w) (plainElem_bool Tryz.underlying4 false) (keyI_of (n := k) (by omega))
  rw [h2 k] at hv
  have e : v = .bool (decide (k ∈ met)) := by
    obtain ⟨x, e1, e2⟩ := plainElem_bool_inv hbool hv
    have e3 := congrArg Prod.fst e2
    have e4 : (DataW.lit (Lit.bool (decide (k ∈ met))) : DataW Unit) = .lit (.bool x) := e3
    rw [e1]
    exact congrArg Value.bool (lit_bool e4).symm
  rw [hrun, e]
theorem Mq.put {w : World} {M n : Nat} {met : List Nat} (h : Mq w M n met) (j : Nat) (hm : met.length ≤ 20000) (hj : j ≤ 9000) : ∃ w', (Instr.mapUpdate 164 (.map (some M)) (.int .i64 (j : Int)) (.bool true)).run Tryz.prog w = .ok () w' ∧ Mq w' M n (j :: met) ∧ w.grownBy w' (some M) := by
  obtain ⟨hn, D, c, hc, h1, h2⟩ := h
  obtain ⟨w', hr, ho, hg⟩ := h1.update lawI Tryz.underlying164 (by unfold maxLen; omega) (keyI_of hj) (plainElem_bool Tryz.underlying4 true)
  refine ⟨w', hr, ⟨hn, _, c + 1, by simp; omega, ho, fun d => ?_⟩, hg⟩
  by_cases e : d = j
  · subst e
    rw [atKey_put_same h1.isMap (isKeyI d)]
    simp
  · rw [atKey_put_other (keyI_inj e), h2 d]
    simp [e]
open Classical in
/-- How many were not met, as the world tells. -/
noncomputable def cntQ (w : World) (M n : Nat) : Nat := ((List.range n).filter (fun k : Nat => decide ((Instr.lookup 164 (.map (some M)) (.int .i64 (k : Int)) false).run Tryz.prog w = .ok (.bool false) w))).length
theorem cntQ_is {w : World} {M n : Nat} {met : List Nat} (h : Mq w M n met) : cntQ w M n = unm n met := by
  unfold cntQ unm
  congr 1
  apply List.filter_congr
  intro k hk
  rw [h.look k (List.mem_range.1 hk)]
  by_cases hm : k ∈ met
  · simp [hm]
  · simp [hm]
/-- How far going round has come. -/
structure Rq (w wr : World) (ds : List D) (i M n : Nat) (p : Option Addr) (c : Nat) (met todo : List Nat) : Prop where
  bl : Bl w wr
  q : qi.Q wr w.heap.size (.slice p todo.length c) (ints todo)
  mt : Mq wr M n met
  ne : ∀ k, (Value.slice p todo.length c).ownBlock = some k → k ≠ M
  isc : ∀ j ∈ todo, isC ds j = true
  is : rnd ds i = bR ds i met todo
  len : mu ds met todo + met.length ≤ 20000
theorem Rq.lt {w wr : World} {ds : List D} {i M n : Nat} {p : Option Addr} {c : Nat} {met todo : List Nat} (h : Rq w wr ds i M n p c met todo) : ∀ j ∈ todo, j < ds.length := fun j hj => isC_lt (h.isc j hj)
set_option maxRecDepth 10000 in
set_option maxHeartbeats 4000000 in
theorem comes_at (x : C) (i : Nat) (cs : List C) (ok : Nat → Prop) (p : Option Addr) (n c : Nat) (w : World) (hin : ir.Lie w ok p n c cs) (hn : n ≤ 100) (hx : cs[i]? = some x) (hO : Okr cs) (hr3 : x.d.ru = 3) :
    Calls Tryz.prog 73 #[.slice p n c, .int .i64 (i : Int), .int .i64 (i : Int)] w fun e w' => e = .returned (.bool (rnd (cs.map C.d) i)) ∧ Bl w w' := by
  have hmm : ∀ w, (Instr.makeMap 164 none).run Tryz.prog w = .ok (.map (some w.heap.size)) (w.alloc (.map #[] 0)) := fun w => by kernel_rfl
  obtain ⟨w1, hw1⟩ : ∃ w1, w1 = w.alloc (.map #[] 0) := ⟨_, rfl⟩
  obtain ⟨M, hM⟩ : ∃ M, M = w.heap.size := ⟨_, rfl⟩
  have hb1 : Bl w w1 := by rw [hw1]; exact (Bl.refl _).alloc _
  have hm1 : Mq w1 M n [] := by rw [hw1, hM]; exact Mq.made w n (by omega)
  have cU := covers_at x i cs ok p n c w1 (lie_bl hin hb1) (by omega) hx hO hr3
  have hnc := hin.1
  have HO : Hid (Okr cs) := hO
  have H1 : Hid (Bl w w1 ∧ Mq w1 M n [] ∧ M = w.heap.size ∧ ir.Lie w ok p n c cs ∧ n = (cs.map C.d).length ∧ i < n) := ⟨hb1, hm1, hM, hin, by rw [List.length_map]; exact hnc, by rw [hnc]; exact (List.getElem?_eq_some_iff.1 hx).1⟩
  clear hb1 hm1 hin hnc hx hO hr3
  go_enter Tryz.func73, Tryz.ntmps73
  go_wp2_with fail
  rw [← hw1]
  refine cU.mono ?_
  rintro e w2 ⟨v, rfl, hb2, ho2⟩
  rw [← hM]
  obtain ⟨p0, c0, rfl, hc0, _⟩ := (qi.Q.of ho2).shape
  rw [ints_len] at hc0
  have H2 : Hid (Rq w w2 (cs.map C.d) i M n p0 c0 [] (under (cs.map C.d) i)) := by
    have hq : qi.Q w2 w1.heap.size (.slice p0 (under (cs.map C.d) i).length c0) (ints (under (cs.map C.d) i)) := by
      have := qi.Q.of ho2
      rw [ints_len] at this
      exact this
    have hw1s : w.heap.size < w1.heap.size := by have := H1.out.2.1.lt; have := H1.out.2.2.1; omega
    refine ⟨H1.out.1.trans hb2, ?_, H1.out.2.1.bl hb2, fun k hk => ?_, fun j hj => under_isC hj, rnd_is _ _, ?_⟩
    · rcases hq with h | ⟨g, off, cap, h0, h1, h2⟩
      · exact Or.inl h
      · exact Or.inr ⟨g, off, cap, h0, by omega, h2⟩
    · have h1 := (hq.block k hk).1
      have h2 := H1.out.2.2.1
      omega
    · have h1 := under_len (cs.map C.d) i
      have h2 := unm_le (cs.map C.d).length []
      have h3 := H1.out.2.2.2.2.1
      have h4 : unm (cs.map C.d).length [] * ((cs.map C.d).length + 1) ≤ 100 * 101 := Nat.mul_le_mul (by omega) (by omega)
      unfold mu
      simp only [List.length_nil]
      omega
  rw [ints_len]
  clear cU hw1 hM ho2 hb2
  go_wp2
  go_loopw [8] (fun v wr => ∃ (met todo : List Nat) (p1 : Option Addr) (c1 : Nat), v = .slice p1 todo.length c1 ∧ todo.length ≤ c1 ∧ Hid (Rq w wr (cs.map C.d) i M n p1 c1 met todo)) (fun v wr => lnV v + cntQ wr M n * (n + 1))
  case atStart => exact ⟨[], _, p0, c0, rfl, hc0, H2.out⟩
  case round =>
    clear H2
    obtain ⟨met, todo, p1, c1, rfl, hc1, HR⟩ := hrel
    cases todo with
    | nil =>
      have HX : Hid (rnd (cs.map C.d) i = false ∧ Bl w wr) := ⟨by rw [HR.out.is]; exact bR_nil _ _ _, HR.out.bl⟩
      rw [show ([] : List Nat).length = 0 from rfl]
      go_wp2
      rw [HX.out.1]
      go_ret
      exact ⟨rfl, HX.out.2⟩
    | cons j r =>
      have hq0 : qi.Q wr w.heap.size (.slice p1 (j :: r).length c1) ((j : Int) :: ints r) := HR.out.q
      obtain ⟨X, rfl, _, hc2, q0, hq'⟩ := hq0.head
      rw [ints_len] at hq'
      have hjn : j < n := by have := HR.out.lt j (by simp); have := H1.out.2.2.2.2.1; omega
      have hds := H1.out.2.2.2.2.1
      obtain ⟨m, hm⟩ : ∃ m, m = r.length := ⟨_, rfl⟩
      have hlr : (j :: r).length = m + 1 := by rw [hm]; simp
      rw [hlr] at hc1 ⊢
      have j0 : (0 : Int) ≤ (j : Int) := by omega
      have j1 : (j : Int) < (n : Int) := by omega
      have hcm := (hq0.shape)
      have m1 : (1 : Int) ≤ ((m + 1 : Nat) : Int) := by omega
      have hgt : (0 : Int) < ((m + 1 : Nat) : Int) := by omega
      rw [← hm] at hq'
      obtain ⟨p2, hp2⟩ : ∃ p2, p2 = (if c1 = 1 then some X else some (⟨X.block, X.off + 1, none⟩ : Addr)) := ⟨_, rfl⟩
      rw [← hp2] at hq'
      have hne2 : ∀ k, (Value.slice p2 m (c1 - 1)).ownBlock = some k → k ≠ M := by
        intro k hk
        refine HR.out.ne k ?_
        rw [hp2] at hk
        split at hk
        · exact hk
        · exact hk
      rcases Nat.decEq c1 1 with hcc | hcc
      · obtain rfl : p2 = some (⟨X.block, X.off + 1, none⟩ : Addr) := by rw [hp2, if_neg hcc]
        clear hp2
        have hX0 : X.add 0 = X := Addr.add_zero' X
        have g1 := HR.out.mt.look j hjn
        have HQ : Hid (qi.Q wr w.heap.size (.slice (some (⟨X.block, X.off + 1, none⟩ : Addr)) m (c1 - 1)) (ints r) ∧ (∀ k, (Value.slice (some (⟨X.block, X.off + 1, none⟩ : Addr)) m (c1 - 1)).ownBlock = some k → k ≠ M) ∧ m = r.length ∧ n = (cs.map C.d).length) := ⟨hq', hne2, hm, hds⟩
        have hMs := HR.out.mt.lt
        clear hq' hne2 hq0 hcm hlr hm hds
        by_cases hji : j = i
        · have HX : Hid (rnd (cs.map C.d) i = true ∧ Bl w wr) := ⟨by rw [HR.out.is, hji]; exact bR_hit _ _ _ _, HR.out.bl⟩
          subst hji
          clear HQ HR g1
          go_wp2
          rw [HX.out.1]
          go_ret
          exact ⟨rfl, HX.out.2⟩
        · have hji' : ¬ ((j : Int) = (i : Int)) := by omega
          by_cases hmt : j ∈ met
          · rw [decide_eq_true hmt] at g1
            have H9 : Hid (Rq w wr (cs.map C.d) i M n (some (⟨X.block, X.off + 1, none⟩ : Addr)) ((c1 - 1)) met r ∧ m = r.length) := by
              refine ⟨⟨HR.out.bl, by rw [← HQ.out.2.2.1]; exact HQ.out.1, HR.out.mt, by rw [← HQ.out.2.2.1]; exact HQ.out.2.1, fun k hk => HR.out.isc k (by simp [hk]), ?_, ?_⟩, HQ.out.2.2.1⟩
              · rw [HR.out.is]; exact bR_met _ _ _ _ _ hji hmt HR.out.lt
              · have := HR.out.len
                unfold mu at this ⊢
                rw [List.length_cons] at this
                omega
            clear hmt HQ HR
            go_wp2
            go_roundw
            case rel => exact ⟨met, r, _, _, by rw [← H9.out.2], by rw [← H9.out.2]; omega, H9.out.1⟩
            case measure => simp [lnV]
          · rw [decide_eq_false hmt] at g1
            have hmu := mu_step (cs.map C.d) met r j (by rw [← HQ.out.2.2.2]; exact hjn) hmt
            have hcu := cntQ_is HR.out.mt
            obtain ⟨y, hy⟩ : ∃ y, cs[j]? = some y := ⟨_, List.getElem?_eq_getElem (by have := HQ.out.2.2.2; rw [List.length_map] at this; omega)⟩
            obtain ⟨w5, hw5, hm5, hg5⟩ := HR.out.mt.put j (by have := HR.out.len; omega) (by omega)
            have hyC : y.d.ru = 3 := by
              have h := HR.out.isc j (by simp)
              unfold isC at h
              rw [List.getElem?_map, hy] at h
              simpa using h
            have hb5 : Bl w w5 := bl_grown HR.out.bl hg5 (fun k hk => by injection hk with hk; have := H1.out.2.2.1; omega)
            have hq5 : qi.Q w5 w.heap.size (.slice (some (⟨X.block, X.off + 1, none⟩ : Addr)) m (c1 - 1)) (ints r) := by
              exact HQ.out.1.kept hg5 (fun k hk e => HQ.out.2.1 k hk (by injection e with e; exact e.symm))
            have cU := covers_at y j cs ok p n c w5 (lie_bl H1.out.2.2.2.1 hb5) (by omega) hy HO.out hyC
            have H5 : Hid (Bl w w5 ∧ Mq w5 M n (j :: met) ∧ qi.Q w5 w.heap.size (.slice (some (⟨X.block, X.off + 1, none⟩ : Addr)) m (c1 - 1)) (ints r) ∧ mu (cs.map C.d) (j :: met) (r ++ under (cs.map C.d) j) < mu (cs.map C.d) met (j :: r) ∧ j ∉ met ∧ cntQ wr M n = unm n met) := ⟨hb5, hm5, hq5, hmu, hmt, hcu⟩
            clear hb5 hm5 hq5 hmu hmt hy hcu hg5 hyC
            go_wp2_with fail
            refine cU.mono ?_
            rintro e w6 ⟨u, rfl, hb6, ho6⟩
            have hq6 := H5.out.2.2.1.bl hb6
            have hM5 := H5.out.2.1.lt
            obtain ⟨v7, w7, hr7, hq7, hg7, hv7⟩ := qi.Q.app hq6 ho6 (by rw [ints_len, ints_len]; have h1 := HR.out.len; have h2 := H5.out.2.2.2.1; unfold mu at h1 h2; rw [List.length_append] at h2; omega) (Nat.le_trans H5.out.1.size hb6.size)
            obtain ⟨p7, c7, rfl, hc7, _⟩ := hq7.shape
            have H7 : Hid (Rq w w7 (cs.map C.d) i M n p7 c7 (j :: met) (r ++ under (cs.map C.d) j) ∧ (ints r ++ ints (under (cs.map C.d) j)).length = (r ++ under (cs.map C.d) j).length) := by
              have el : (ints r ++ ints (under (cs.map C.d) j)).length = (r ++ under (cs.map C.d) j).length := by simp [ints]
              refine ⟨⟨bl_grown (H5.out.1.trans hb6) hg7 (fun k hk => (H5.out.2.2.1.block k hk).1), ?_, ?_, ?_, ?_, ?_, ?_⟩, el⟩
              · rw [← el]
                have := hq7
                rw [show ints r ++ ints (under (cs.map C.d) j) = ints (r ++ under (cs.map C.d) j) by simp [ints]] at this ⊢
                exact this
              · refine (H5.out.2.1.bl hb6).grown hg7 (fun e => ?_)
                exact HQ.out.2.1 M (by rw [← e]) rfl
              · intro k hk e
                rw [← el] at hk
                rcases hv7 with h | h
                · rw [h] at hk
                  exact HQ.out.2.1 k hk e
                · rw [h] at hk
                  injection hk with hk
                  have := hb6.size
                  omega
              · intro k hk
                rw [List.mem_append] at hk
                rcases hk with hk | hk
                · exact HR.out.isc k (by simp [hk])
                · exact under_isC hk
              · rw [HR.out.is]; exact bR_new _ _ _ _ _ hji H5.out.2.2.2.2.1 HR.out.lt
              · have h1 := HR.out.len
                have h2 := H5.out.2.2.2.1
                have h3 : (j :: met).length = met.length + 1 := rfl
                omega
            have HR7 : Hid _ := hr7
            have HC : Hid ((ints r ++ ints (under (cs.map C.d) j)).length ≤ c7) := hc7
            clear hr7 hq7 hg7 hv7 hq6 hb6 ho6 hc7 cU
            go_wp2_with (at_builtin; refine Lib.wpList_append_run _ rfl (.tmp 31) (.tmp 34) _ _ rfl _ _ rfl rfl _ _ HR7.out ?_)
            go_roundw
            case rel => exact ⟨j :: met, r ++ under (cs.map C.d) j, p7, c7, by rw [← H7.out.2, List.length_append], by rw [← H7.out.2]; exact HC.out, H7.out.1⟩
            case measure =>
              have h1 := H5.out.2.2.2.1
              have h2 := cntQ_is H7.out.1.mt
              have h3 := H5.out.2.2.2.2.2
              have h4 := HQ.out.2.2.1
              have h5 := HQ.out.2.2.2
              unfold mu at h1
              rw [← h5, ← h2, ← h3, List.length_cons, ← H7.out.2] at h1
              simp [lnV] at h1 ⊢
              omega
      · obtain rfl : p2 = some X := by rw [hp2, if_pos hcc]
        subst hcc
        obtain rfl : m = 0 := by omega
        clear hp2
        have hX0 : X.add 0 = X := Addr.add_zero' X
        have g1 := HR.out.mt.look j hjn
        have HQ : Hid (qi.Q wr w.heap.size (.slice (some X) 0 0) (ints r) ∧ (∀ k, (Value.slice (some X) 0 0).ownBlock = some k → k ≠ M) ∧ 0 = r.length ∧ n = (cs.map C.d).length) := ⟨hq', hne2, hm, hds⟩
        have hMs := HR.out.mt.lt
        clear hq' hne2 hq0 hcm hlr hm hds
        by_cases hji : j = i
        · have HX : Hid (rnd (cs.map C.d) i = true ∧ Bl w wr) := ⟨by rw [HR.out.is, hji]; exact bR_hit _ _ _ _, HR.out.bl⟩
          subst hji
          clear HQ HR g1
          go_wp2
          rw [HX.out.1]
          go_ret
          exact ⟨rfl, HX.out.2⟩
        · have hji' : ¬ ((j : Int) = (i : Int)) := by omega
          by_cases hmt : j ∈ met
          · rw [decide_eq_true hmt] at g1
            have H9 : Hid (Rq w wr (cs.map C.d) i M n (some X) (0) met r ∧ 0 = r.length) := by
              refine ⟨⟨HR.out.bl, by rw [← HQ.out.2.2.1]; exact HQ.out.1, HR.out.mt, by rw [← HQ.out.2.2.1]; exact HQ.out.2.1, fun k hk => HR.out.isc k (by simp [hk]), ?_, ?_⟩, HQ.out.2.2.1⟩
              · rw [HR.out.is]; exact bR_met _ _ _ _ _ hji hmt HR.out.lt
              · have := HR.out.len
                unfold mu at this ⊢
                rw [List.length_cons] at this
                omega
            clear hmt HQ HR
            go_wp2
            go_roundw
            case rel => exact ⟨met, r, _, _, by rw [← H9.out.2], by rw [← H9.out.2]; omega, H9.out.1⟩
            case measure => simp [lnV]
          · rw [decide_eq_false hmt] at g1
            have hmu := mu_step (cs.map C.d) met r j (by rw [← HQ.out.2.2.2]; exact hjn) hmt
            have hcu := cntQ_is HR.out.mt
            obtain ⟨y, hy⟩ : ∃ y, cs[j]? = some y := ⟨_, List.getElem?_eq_getElem (by have := HQ.out.2.2.2; rw [List.length_map] at this; omega)⟩
            obtain ⟨w5, hw5, hm5, hg5⟩ := HR.out.mt.put j (by have := HR.out.len; omega) (by omega)
            have hyC : y.d.ru = 3 := by
              have h := HR.out.isc j (by simp)
              unfold isC at h
              rw [List.getElem?_map, hy] at h
              simpa using h
            have hb5 : Bl w w5 := bl_grown HR.out.bl hg5 (fun k hk => by injection hk with hk; have := H1.out.2.2.1; omega)
            have hq5 : qi.Q w5 w.heap.size (.slice (some X) 0 0) (ints r) := by
              exact HQ.out.1.kept hg5 (fun k hk e => HQ.out.2.1 k hk (by injection e with e; exact e.symm))
            have cU := covers_at y j cs ok p n c w5 (lie_bl H1.out.2.2.2.1 hb5) (by omega) hy HO.out hyC
            have H5 : Hid (Bl w w5 ∧ Mq w5 M n (j :: met) ∧ qi.Q w5 w.heap.size (.slice (some X) 0 0) (ints r) ∧ mu (cs.map C.d) (j :: met) (r ++ under (cs.map C.d) j) < mu (cs.map C.d) met (j :: r) ∧ j ∉ met ∧ cntQ wr M n = unm n met) := ⟨hb5, hm5, hq5, hmu, hmt, hcu⟩
            clear hb5 hm5 hq5 hmu hmt hy hcu hg5 hyC
            go_wp2_with fail
            refine cU.mono ?_
            rintro e w6 ⟨u, rfl, hb6, ho6⟩
            have hq6 := H5.out.2.2.1.bl hb6
            have hM5 := H5.out.2.1.lt
            obtain ⟨v7, w7, hr7, hq7, hg7, hv7⟩ := qi.Q.app hq6 ho6 (by rw [ints_len, ints_len]; have h1 := HR.out.len; have h2 := H5.out.2.2.2.1; unfold mu at h1 h2; rw [List.length_append] at h2; omega) (Nat.le_trans H5.out.1.size hb6.size)
            obtain ⟨p7, c7, rfl, hc7, _⟩ := hq7.shape
            have H7 : Hid (Rq w w7 (cs.map C.d) i M n p7 c7 (j :: met) (r ++ under (cs.map C.d) j) ∧ (ints r ++ ints (under (cs.map C.d) j)).length = (r ++ under (cs.map C.d) j).length) := by
              have el : (ints r ++ ints (under (cs.map C.d) j)).length = (r ++ under (cs.map C.d) j).length := by simp [ints]
              refine ⟨⟨bl_grown (H5.out.1.trans hb6) hg7 (fun k hk => (H5.out.2.2.1.block k hk).1), ?_, ?_, ?_, ?_, ?_, ?_⟩, el⟩
              · rw [← el]
                have := hq7
                rw [show ints r ++ ints (under (cs.map C.d) j) = ints (r ++ under (cs.map C.d) j) by simp [ints]] at this ⊢
                exact this
              · refine (H5.out.2.1.bl hb6).grown hg7 (fun e => ?_)
                exact HQ.out.2.1 M (by rw [← e]) rfl
              · intro k hk e
                rw [← el] at hk
                rcases hv7 with h | h
                · rw [h] at hk
                  exact HQ.out.2.1 k hk e
                · rw [h] at hk
                  injection hk with hk
                  have := hb6.size
                  omega
              · intro k hk
                rw [List.mem_append] at hk
                rcases hk with hk | hk
                · exact HR.out.isc k (by simp [hk])
                · exact under_isC hk
              · rw [HR.out.is]; exact bR_new _ _ _ _ _ hji H5.out.2.2.2.2.1 HR.out.lt
              · have h1 := HR.out.len
                have h2 := H5.out.2.2.2.1
                have h3 : (j :: met).length = met.length + 1 := rfl
                omega
            have HR7 : Hid _ := hr7
            have HC : Hid ((ints r ++ ints (under (cs.map C.d) j)).length ≤ c7) := hc7
            clear hr7 hq7 hg7 hv7 hq6 hb6 ho6 hc7 cU
            go_wp2_with (at_builtin; refine Lib.wpList_append_run _ rfl (.tmp 31) (.tmp 34) _ _ rfl _ _ rfl rfl _ _ HR7.out ?_)
            go_roundw
            case rel => exact ⟨j :: met, r ++ under (cs.map C.d) j, p7, c7, by rw [← H7.out.2, List.length_append], by rw [← H7.out.2]; exact HC.out, H7.out.1⟩
            case measure =>
              have h1 := H5.out.2.2.2.1
              have h2 := cntQ_is H7.out.1.mt
              have h3 := H5.out.2.2.2.2.2
              have h4 := HQ.out.2.2.1
              have h5 := HQ.out.2.2.2
              unfold mu at h1
              rw [← h5, ← h2, ← h3, List.length_cons, ← H7.out.2] at h1
              simp [lnV] at h1 ⊢
              omega
end Go.Proofs.YtpanodaecjlgaaaGreatDoor.tc
/- The document's checker of templates: names as a set, and as a row. -/
namespace Go.Proofs.YtpanodaecjlgaaaGreatDoor.tc
set_option linter.unusedVariables false
open Go.ChangeShapes Go.WideShapes Go.ChangeAt Go.RowKit Go.Shelf Go.Maps
open mem lx ex tm

/-- A map[string]bool that holds just these names. -/
def SetB (w : World) (b : Nat) (S : List (List UInt8)) (k : Nat) : Prop :=
  ∃ (D : DataW Unit) (c : Nat), c ≤ k ∧ w.ownsMap Tryz.prog 9 (plainElem Tryz.prog 4) b c D ∧ ∀ y : List UInt8, y.length ≤ 5000 → D.atKey (skey y) (.lit (.bool false)) = .lit (.bool (decide (y ∈ S)))
theorem SetB.made (w : World) : SetB (w.alloc (.map #[] 0)) w.heap.size [] 0 :=
  ⟨_, 0, Nat.le_refl _, World.ownsMap_made w Tryz.prog 9 _, fun c _ => by simp; rfl⟩
theorem SetB.step {w w' : World} {b k : Nat} {S : List (List UInt8)} {row : Option Nat} (h : SetB w b S k) (hg : w.grownBy w' row) (hne : row ≠ some b) : SetB w' b S k := by
  obtain ⟨D, c, hc, h1, h2⟩ := h
  exact ⟨D, c, hc, h1.kept hg (fun e => hne e.symm), h2⟩
theorem SetB.bl {w w' : World} {b k : Nat} {S : List (List UInt8)} (h : SetB w b S k) (hb : Bl w w') : SetB w' b S k :=
  h.step (row := none) ⟨hb.os, hb.tape, hb.output, hb.size, fun k hk _ => Below.block hb k hk⟩ (by simp)
theorem gp_grown {P : Nat} {w w' : World} (h : Gp P w w') : w.grownBy w' (some P) := ⟨h.os, h.tape, h.output, h.size, fun k hk hne => h.block k hk (fun e => hne (by rw [e]))⟩
theorem grown_gp {P : Nat} {w w' : World} (h : w.grownBy w' (some P)) : Gp P w w' := ⟨h.os, h.tape, h.output, h.size, fun k hk hne => h.block k hk (fun e => hne (by injection e))⟩
theorem SetB.gp {w w' : World} {b k P : Nat} {S : List (List UInt8)} (h : SetB w b S k) (hg : Gp P w w') (hne : b ≠ P) : SetB w' b S k := h.step (gp_grown hg) (fun e => hne (by injection e with e; exact e.symm))
theorem SetB.mono {w : World} {b k k' : Nat} {S : List (List UInt8)} (h : SetB w b S k) (hk : k ≤ k') : SetB w b S k' := by
  obtain ⟨D, c, hc, h1, h2⟩ := h
  exact ⟨D, c, by omega, h1, h2⟩
theorem SetB.block {w : World} {b k : Nat} {S : List (List UInt8)} (h : SetB w b S k) : ∃ es clock, w.heap[b]? = some (.map es clock) := by
  obtain ⟨D, c, hc, h1, h2⟩ := h
  obtain ⟨es, clock, hb, _⟩ := h1
  exact ⟨es, clock, hb⟩
theorem SetB.lt {w : World} {b k : Nat} {S : List (List UInt8)} (h : SetB w b S k) : b < w.heap.size := by
  obtain ⟨es, clock, hb⟩ := h.block
  exact lt_of_heap hb
theorem SetB.look {w : World} {b k : Nat} {S : List (List UInt8)} (h : SetB w b S k) (t : List UInt8) (ht : t.length ≤ 5000) : (Instr.lookup 94 (.map (some b)) (.string (tx t)) false).run Tryz.prog w = .ok (.bool (decide (t ∈ S))) w := by
  obtain ⟨D, c, hc, h1, h2⟩ := h
  obtain ⟨v, ps, hrun, hv⟩ := h1.lookup lawS Tryz.underlying94 (zero_bool w) (plainElem_bool Tryz.underlying4 false) (WideMaps.keyOf_string_mk Tryz.underlying9 (s := tx t) (by rw [tx_size]; unfold maxLen; omega))
  have e0 : (tx t).data.toList = t := L_tx _
  rw [e0] at hv
  have h2' : D.atKey (.string t) (.lit (.bool false)) = .lit (.bool (decide (t ∈ S))) := h2 t ht
  rw [h2'] at hv
  have e : v = .bool (decide (t ∈ S)) := by
    obtain ⟨x, e1, e2⟩ := plainElem_bool_inv hbool hv
    have e3 := congrArg Prod.fst e2
    have e4 : (DataW.lit (Lit.bool (decide (t ∈ S))) : DataW Unit) = .lit (.bool x) := e3
    rw [e1]
    exact congrArg Value.bool (lit_bool e4).symm
  rw [hrun, e]
theorem SetB.put {w : World} {b k : Nat} {S : List (List UInt8)} (h : SetB w b S k) (t : List UInt8) (ht : t.length ≤ 5000) (hk : k ≤ 5000) : ∃ w', (Instr.mapUpdate 94 (.map (some b)) (.string (tx t)) (.bool true)).run Tryz.prog w = .ok () w' ∧ SetB w' b (t :: S) (k + 1) ∧ w.grownBy w' (some b) := by
  obtain ⟨D, c, hc, h1, h2⟩ := h
  obtain ⟨w', hr, ho, hg⟩ := h1.update lawS Tryz.underlying94 (by unfold maxLen; omega) (WideMaps.keyOf_string_mk Tryz.underlying9 (s := tx t) (by rw [tx_size]; unfold maxLen; omega)) (plainElem_bool Tryz.underlying4 true)
  have e0 : (tx t).data.toList = t := L_tx _
  rw [e0] at ho
  refine ⟨w', hr, ⟨_, c + 1, by omega, ho, fun y hy => ?_⟩, hg⟩
  show (D.put (skey t) _).atKey (skey y) _ = _
  by_cases e : y = t
  · subst e
    rw [atKey_put_same h1.isMap (skey_is y)]
    simp
  · rw [atKey_put_other (skey_inj e), h2 y hy]
    simp [e]
/- A row of names. -/
def rowS (l : List (List UInt8)) : List Value := l.map (fun t => .string (tx t))
theorem rowS_len (l : List (List UInt8)) : (rowS l).length = l.length := by simp [rowS]
theorem rowS_app (a b : List (List UInt8)) : rowS (a ++ b) = rowS a ++ rowS b := by simp [rowS]
theorem rowS_get {l : List (List UInt8)} {k : Nat} {t : List UInt8} (h : l[k]? = some t) : (rowS l)[k]? = some (.string (tx t)) := by simp [rowS, h]
theorem infoS : (Tryz.prog.info? 9).map (fun i => (i.zero, i.size, i.bytes)) = some (some (.string ⟨#[]⟩), 1, 16) := by kernel_rfl
theorem infoS' : ∃ i, Tryz.prog.info? 9 = some i ∧ i.zero = some (.string ⟨#[]⟩) ∧ i.size = 1 ∧ i.bytes = 16 := by
  obtain ⟨i, h1, h2⟩ := Option.map_eq_some_iff.1 infoS
  simp only [Prod.mk.injEq] at h2
  exact ⟨i, h1, h2.1, h2.2.1, h2.2.2⟩
def Sn (w : World) (p : Option Addr) (l : List (List UInt8)) : Prop := (p = none ∧ l = []) ∨ ∃ (g : Nat) (cs : Array Value), p = some ⟨g, 0, none⟩ ∧ w.heap[g]? = some (.cells cs 9 (0, 0)) ∧ ∀ (k : Nat) (u : Value), (rowS l)[k]? = some u → cs[k]? = some u
theorem Sn.keep {w w' : World} {p : Option Addr} {l : List (List UInt8)} (h : Sn w p l) (hk : ∀ (g : Nat) (cs : Array Value), w.heap[g]? = some (.cells cs 9 (0, 0)) → w'.heap[g]? = some (.cells cs 9 (0, 0))) : Sn w' p l := by
  rcases h with h | ⟨g, cs, h1, h2, h3⟩
  · exact Or.inl h
  · exact Or.inr ⟨g, cs, h1, hk _ _ h2, h3⟩
theorem Sn.bl {w w' : World} {p : Option Addr} {l : List (List UInt8)} (h : Sn w p l) (hb : Bl w w') : Sn w' p l := h.keep (fun g cs hg => (Below.block hb g (lt_of_heap hg)).trans hg)
theorem Sn.gp {w w' : World} {p : Option Addr} {l : List (List UInt8)} {P k : Nat} {S : List (List UInt8)} (h : Sn w p l) (hg : Gp P w w') (hs : SetB w P S k) : Sn w' p l :=
  h.keep (fun g cs hc => (hg.block g (lt_of_heap hc) (fun e => by obtain ⟨es, clock, hb⟩ := hs.block; rw [← e, hc] at hb; cases hb)).trans hc)
theorem Kx.gpB {P k : Nat} {w w' : World} {S : List (List UInt8)} (h : Gp P w w') (hs : SetB w P S k) : Kx w w' := fun b cs hc =>
  (h.block b (lt_of_heap hc) (fun e => by obtain ⟨es, clock, hb⟩ := hs.block; rw [← e, hc] at hb; cases hb)).trans hc
/-- A name of the row. -/
theorem Sn.at {w : World} {p : Option Addr} {l : List (List UInt8)} (h : Sn w p l) {k : Nat} {t : List UInt8} (hk : l[k]? = some t) : ∃ g, p = some ⟨g, 0, none⟩ ∧ g < w.heap.size ∧ w.cell? ⟨g, k, none⟩ = some (.string (tx t)) := by
  rcases h with ⟨_, rfl⟩ | ⟨g, cs, h1, h2, h3⟩
  · cases hk
  · refine ⟨g, h1, lt_of_heap h2, ?_⟩
    rw [cell_of h2]
    exact h3 k _ (rowS_get hk)
/-- A name more: the row lies anew. -/
theorem Sn.app {w : World} {p : Option Addr} {l : List (List UInt8)} (h : Sn w p l) (X : Nat) (z : List UInt8) (hX : w.cell? ⟨X, 0, none⟩ = some (.string (tx z))) (hn : l.length ≤ 5000) :
    ∃ g c w', (Builtin.append_ #[126, 126] 126 #[.slice p l.length l.length, .slice (some ⟨X, 0, none⟩) 1 1]).run Tryz.prog w = .ok (.slice (some ⟨g, 0, none⟩) (l.length + 1) c) w' ∧ l.length + 1 ≤ c ∧ Sn w' (some ⟨g, 0, none⟩) (l ++ [z]) ∧ Bl w w' := by
  obtain ⟨i, hi, hz, h1, h2⟩ := infoS'
  have hs : Src Tryz.prog i.size 126 (.slice (some ⟨X, 0, none⟩) 1 1) 1 [Value.string (tx z)] w := by
    rw [h1]
    refine Src.ofSlice w Tryz.underlying126 _ _ _ _ rfl (fun j x hx => ?_) (fun x hx => ?_)
    · cases j with
      | zero => simp at hx; subst hx; simpa [Addr.add] using hX
      | succ j => simp at hx
    · simp at hx; subst hx; rfl
  have hold : (Builtin.firstCells i.size l.length (.slice p l.length l.length)).run Tryz.prog w.drew = .ok (rowS l).toArray w.drew := by
    rw [h1]
    rcases h with ⟨rfl, rfl⟩ | ⟨g, cs, rfl, g2, g3⟩
    · exact run_firstCells_none w.drew 1 0 0 0
    · exact run_firstCells_some w.drew 1 l.length ⟨g, 0, none⟩ l.length l.length (rowS l) (by rw [rowS_len, Nat.mul_one]) (fun j x hx => by
        have := cell_of g2 (j := j)
        rw [Addr.add_lit, Nat.zero_add, World.cell?_drew, this]
        exact g3 j x hx)
  have hrun := run_append_grow_src (P := Tryz.prog) w 126 126 126 9 i (.string ⟨#[]⟩) Tryz.underlying126 hi hz p l.length l.length (rowS l) hold _ 1 _ hs (by omega) (by omega) (growslice_fits (by omega) (by rw [h2]; omega))
  have hge := grownCap_ge w (l.length + 1) l.length 9
  obtain ⟨A, hA⟩ : ∃ A, A = (rowS l ++ [Value.string (tx z)]).toArray ++ Builtin.zeroCells (Value.string ⟨#[]⟩).cells (grownCap w (l.length + 1) l.length 9 - (l.length + 1)) := ⟨_, rfl⟩
  rw [← hA] at hrun
  have hnew : (w.drew.alloc (.cells A 9)).heap[w.heap.size]? = some (.cells A 9 (0, 0)) := new_at w.drew (.cells A 9)
  refine ⟨_, _, _, hrun, hge, Or.inr ⟨w.heap.size, A, rfl, hnew, fun k u hu => ?_⟩, ((Bl.refl w).drew).trans ((Bl.refl _).alloc _)⟩
  rw [rowS_app] at hu
  have hk := (List.getElem?_eq_some_iff.1 hu).1
  rw [hA, Array.getElem?_append_left (by rw [List.size_toArray]; exact hk), List.getElem?_toArray]
  exact hu
end Go.Proofs.YtpanodaecjlgaaaGreatDoor.tc
