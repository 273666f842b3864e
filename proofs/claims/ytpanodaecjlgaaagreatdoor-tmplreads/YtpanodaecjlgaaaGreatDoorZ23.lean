/- Texts laid together: TyS, TmN, TmO, TmU. -/
import Derived.Test.YtpanodaecjlgaaaGreatDoorZ22
/- Check of package types. -/
namespace Go.Proofs.YtpanodaecjlgaaaGreatDoor.tm
set_option linter.unusedVariables false
open Go.ChangeShapes Go.WideShapes Go.ChangeAt Go.RowKit Go.Shelf
open mem lx ex

def thrYV (A : Nat) : Value := .iface 86 (.agg #[.iface 110 (.pointer (some ⟨A, 0, none⟩))])
theorem ycatch_idle (p : Addr) (w : World) :
    CallsD Tryz.prog 42 #[.pointer (some p)] .returning w fun e u' w' => e = .returned (.tuple #[]) ∧ u' = .returning ∧ Bl w w' := by
  have hta : ∀ w : World, (Instr.typeAssert Value.nilIface 20 86 true).run Tryz.prog w = .ok (.tuple #[.agg #[.nilIface], .bool false]) w := fun _ => by kernel_rfl
  refine callsD_of_wpS Tryz.func42 rfl fun c₀ cs hu => ?_
  apply wpS_seq
  apply wpS_region
  simp [wpOpsS, go_sem, recoverD, hu, Tryz.ntmps42, Exit.thenS, hta]
  apply wpS_seq
  apply wpS_region
  simp [wpOpsS, go_sem, Exit.thenS]
  refine wpS_cond (t := false) (by simp [Act.eval, Array.replicate]) ?_
  simp only [Bool.false_eq_true, if_false]
  refine wpS_of_wp (wp_skip ?_)
  cases c₀
  simp_all [bodyPostS, results, Tryz.results42]
  exact (Bl.refl _).alloc _
theorem ycatch_thrown (N A : Nat) (w0 w : World) (e0 : Value) (c p : Int) (hv : Vr w N e0 30) (hb : Bl w0 w) (hN : w0.heap.size ≤ N) (hA : AtX w A c p) (hne : A ≠ N) :
    CallsD Tryz.prog 42 #[.pointer (some ⟨N, 0, none⟩)] (.panicking [{ v := thrYV A, recovered := false }]) w fun e u' w' =>
      e = .returned (.tuple #[]) ∧ u' = .panicking [{ v := thrYV A, recovered := true }] ∧ Vr w' N (atV A) 30 ∧ Bl w0 w' ∧ AtX w' A c p := by
  have hta : ∀ w : World, (Instr.typeAssert (thrYV A) 20 86 true).run Tryz.prog w = .ok (.tuple #[.agg #[.iface 110 (.pointer (some ⟨A, 0, none⟩))], .bool true]) w := fun _ => by kernel_rfl
  refine callsD_of_wpS Tryz.func42 rfl fun c₀ cs hu => ?_
  apply wpS_seq
  apply wpS_region
  simp [wpOpsS, go_sem, recoverD, hu, Tryz.ntmps42, Exit.thenS, hta]
  apply wpS_seq
  apply wpS_region
  simp [wpOpsS, go_sem, Exit.thenS]
  refine wpS_cond (t := true) (by simp [Act.eval, Array.replicate]) ?_
  simp only [if_true]
  have hM := hv.lt
  obtain ⟨M, hMe⟩ : ∃ M, M = w.heap.size := ⟨_, rfl⟩
  rw [← hMe] at hM ⊢
  obtain ⟨w1, hw1⟩ : ∃ w1, w1 = w.alloc (.cells #[.iface 110 (.pointer (some ⟨A, 0, none⟩))] 86) := ⟨_, rfl⟩
  have hb1 : Bl w w1 := by rw [hw1]; exact (Bl.refl _).alloc _
  have hcM : w1.cell? ⟨M, 0, none⟩ = some (.iface 110 (.pointer (some ⟨A, 0, none⟩))) := by
    have := new_at w (.cells #[.iface 110 (.pointer (some ⟨A, 0, none⟩))] 86)
    rw [hMe, hw1, cell_of this]; rfl
  have H1 : Hid (Vr w1 N e0 30 ∧ Bl w0 w1 ∧ AtX w1 A c p) := ⟨hv.step hb1, hb.trans hb1, AtX.bl hA hb1⟩
  rw [← hw1]
  clear hw1 hb1 hA hv hb hMe
  have c1 := H1.out.1.cell
  have f1 := H1.out.1.frozen
  have hMN : ¬ M = N := by omega
  have H9 : Vr (w1.setCell ⟨N, 0, none⟩ (atV A)) N (atV A) 30 ∧ Bl w0 (w1.setCell ⟨N, 0, none⟩ (atV A)) ∧ AtX (w1.setCell ⟨N, 0, none⟩ (atV A)) A c p := ⟨H1.out.1.set _, H1.out.2.1.setCell hN _, H1.out.2.2.set hne⟩
  unfold atV at H9
  apply wpS_region
  cases c₀
  simp [wpOpsS, go_sem, hcM, c1, f1, bodyPostS, results, Tryz.results42, Array.replicate, atV]
  exact H9
/-- What Check answers. -/
def CkA (w : World) (q : Option (Int × Nat)) (e : Ending) (w' : World) : Prop := Bl w w' ∧ match q with
  | none => e = .returned .nilIface
  | some (c, p) => ∃ A : Nat, e = .returned (atV A) ∧ w.heap.size ≤ A ∧ AtX w' A c (p : Int)
theorem CkA.of_err {w w' : World} {q : Option (Int × Nat)} {c : Int} {p A : Nat} (hq : q = some (c, p)) (hb : Bl w w') (hA : w.heap.size ≤ A) (h : AtX w' A c (p : Int)) : CkA w q (.returned (atV A)) w' := by
  rw [hq]; exact ⟨hb, A, rfl, hA, h⟩
theorem CkA.of_ok {w w' : World} {q : Option (Int × Nat)} (hq : q = none) (hb : Bl w w') : CkA w q (.returned .nilIface) w' := by
  rw [hq]; exact ⟨hb, rfl⟩
theorem chkT_step (earl : List (List UInt8)) (l : List Ty) (j : Nat) (t : Ty) (h : l[j]? = some t) : (t.nm ∈ earl → chkT earl (l.drop j) = some (9, t.at_)) ∧ (t.nm ∉ earl → (∀ e, chkB earl t.l [] [] = .error e → chkT earl (l.drop j) = some e) ∧ ∀ n, chkB earl t.l [] [] = .ok n → chkT earl (l.drop j) = chkT (t.nm :: earl) (l.drop (j + 1))) := by
  obtain ⟨hl, he⟩ := List.getElem?_eq_some_iff.1 h
  rw [List.drop_eq_getElem_cons hl, he, chkT]
  refine ⟨fun hm => by rw [if_pos hm], fun hm => ?_⟩
  rw [if_neg hm]
  exact ⟨fun e hc => by rw [hc], fun n hc => by rw [hc]⟩
/-- What Check asks. -/
structure CI (l : List Ty) : Prop where
  wt : WT l
  at_ : ∀ t ∈ l, t.at_ ≤ 100000 ∧ AtB t.l ∧ tot t.l ≤ 4000
/-- How far Check has come. -/
structure Cs (l : List Ty) (w wr : World) (N eb : Nat) (earl : List (List UInt8)) (j : Nat) : Prop where
  v : Vr wr N .nilIface 30
  bl : Bl w wr
  e : SetM wr eb earl j
  eq : chkT [] l = chkT earl (l.drop j)
theorem Cs.bl' {l : List Ty} {w wr w' : World} {N eb : Nat} {earl : List (List UInt8)} {j : Nat} (h : Cs l w wr N eb earl j) (hb : Bl wr w') : Cs l w w' N eb earl j := ⟨h.v.step hb, h.bl.trans hb, h.e.bl hb, h.eq⟩
set_option maxRecDepth 10000 in
set_option maxHeartbeats 8000000 in
theorem Check_at (l : List Ty) (v : Value) (w : World) (ok : Nat → Prop) (h : IsTs w ok v l) (hc : CI l) :
    Calls Tryz.prog 17 #[v] w fun e w' => CkA w (chk l) e w' := by
  have hmf : ∀ (fn : Fn) (first cap : Array Value) (w : World), (Instr.makeFunc fn first cap).run Tryz.prog w = .ok (.func fn first cap) w := fun _ _ _ _ => rfl
  have hmm : ∀ w, (Instr.makeMap 66 none).run Tryz.prog w = .ok (.map (some w.heap.size)) (w.alloc (.map #[] 0)) := fun w => by kernel_rfl
  obtain ⟨p, c, cs, rfl, h1, h2⟩ := h
  have h1 := h1.mono (ok' := fun g => g < w.heap.size) (fun g _ hg => hg)
  have h2 := h2.mono (ok' := fun g => g < w.heap.size) (fun g _ hg => hg)
  obtain ⟨n, hn⟩ : ∃ n, n = l.length := ⟨_, rfl⟩
  have hn8 : n ≤ 8 := by rw [hn]; exact hc.wt.1
  obtain ⟨w1, hw1⟩ : ∃ w1, w1 = w.alloc (.cells #[.nilIface] 30) := ⟨_, rfl⟩
  obtain ⟨N, hN⟩ : ∃ N, N = w.heap.size := ⟨_, rfl⟩
  have hv1 : Vr w1 N .nilIface 30 := by rw [hw1, hN]; exact Vr.new w _ _
  have hb1 : Bl w w1 := by rw [hw1]; exact (Bl.refl _).alloc _
  obtain ⟨eb, heb⟩ : ∃ eb, eb = w1.heap.size := ⟨_, rfl⟩
  obtain ⟨w2, hw2⟩ : ∃ w2, w2 = w1.alloc (.map #[] 0) := ⟨_, rfl⟩
  have hb2 : Bl w1 w2 := by rw [hw2]; exact (Bl.refl _).alloc _
  have hs2 : SetM w2 eb [] 0 := by rw [hw2, heb]; exact SetM.made w1
  obtain ⟨q, hq⟩ : ∃ q, q = chk l := ⟨_, rfl⟩
  rw [← hq, ← hn]
  have H0 : Hid (sr.Lie w (fun g => g < w.heap.size) p l.length c cs ∧ RepT w (fun g => g < w.heap.size) l cs ∧ CI l ∧ n = l.length ∧ N = w.heap.size ∧ q = chk l) := ⟨h1, h2, hc, hn, hN, hq⟩
  have HE0 : Hid (w.heap.size ≤ eb) := by show w.heap.size ≤ eb; rw [heb]; exact hb1.size
  have H2 : Hid (Cs l w w2 N eb [] 0) := ⟨hv1.step hb2, hb1.trans hb2, hs2, rfl⟩
  clear h1 h2 hn hc hv1 hb1 hb2 hs2 hq
  go_enter_defers Tryz.func17, Tryz.ntmps17
  go_upto_region 4 with fail
  rw [← hw1, ← hN]
  have heb2 : eb = N + 1 := by rw [heb, hw1, hN]; simp
  rw [← heb2, ← hw2]
  clear hw1 hw2 hN heb heb2
  go_loopw [13] (fun i wr => ∃ (j : Nat) (earl : List (List UInt8)), j ≤ n ∧ i = .int .i64 (j : Int) ∧ Hid (Cs l w wr N eb earl j)) (fun i _ => n - (intOf i).toNat)
  case atStart => exact ⟨0, [], by omega, rfl, H2.out⟩
  case round =>
    clear H2
    obtain ⟨j, earl, hj, rfl, HB⟩ := hrel
    by_cases hjn : j < n
    · obtain ⟨x, t, e1, e2, e3, e4, cs2, e5, e6⟩ := H0.out.2.1.at j (by rw [← H0.out.2.2.2.1]; exact hjn)
      obtain ⟨X, hX, _, g0', g⟩ := lieT_at (lieT_low H0.out.1 HB.out.bl) j x e1
      subst hX
      have g0 : wr.cell? (X.add (j * 3)) = some (.string (tx x.nm)) := g0'
      clear g0'
      have g1 := g 1 _ rfl
      have g2 := g 2 _ rfl
      have d1 : decide ((j : Int) < (n : Int)) = true := decide_eq_true (by omega)
      have i0 : (0 : Int) ≤ (j : Int) := by omega
      have i1 : (j : Int) < (n : Int) := by omega
      obtain ⟨w3, hw3⟩ : ∃ w3, w3 = wr.alloc (.cells (clT x).toArray 36) := ⟨_, rfl⟩
      obtain ⟨M, hM⟩ : ∃ M, M = wr.heap.size := ⟨_, rfl⟩
      have hv3 : w3.heap[M]? = some (.cells (clT x).toArray 36 (0, 0)) := by rw [hw3, hM]; exact new_at _ _
      have hbl3 : Bl wr w3 := by rw [hw3]; exact (Bl.refl _).alloc _
      have C3 := HB.out.bl' hbl3
      obtain ⟨hnm, hit, hwi⟩ := H0.out.2.2.1.wt.2 t (List.mem_of_getElem? e2)
      obtain ⟨ha1, ha2, ha3⟩ := H0.out.2.2.1.at_ t (List.mem_of_getElem? e2)
      have hnl : x.nm.length ≤ 5000 := by rw [e3]; have := hnm.2.2.1; omega
      obtain ⟨z1, hlk⟩ := C3.e.look x.nm hnl
      obtain ⟨o1, o2⟩ := chkT_step earl l j t e2
      rw [← e3] at o1 o2
      have hMs : M < w3.heap.size := lt_of_heap hv3
      have k0 : w3.cell? ⟨M, 0, none⟩ = some (.string (tx x.nm)) := by rw [cell_of hv3]; rfl
      have k1 : w3.cell? ⟨M, 1, none⟩ = some (.int .i64 (x.a : Int)) := by rw [cell_of hv3]; rfl
      have k2 : w3.cell? ⟨M, 2, none⟩ = some (.slice x.p x.n x.c) := by rw [cell_of hv3]; rfl
      have HX : Hid (Cs l w w3 N eb earl j ∧ w3.heap[M]? = some (.cells (clT x).toArray 36 (0, 0)) ∧ x.a = t.at_ ∧ ir.Lie w (fun g => g < w.heap.size) x.p x.n x.c cs2 ∧ Rep w (fun g => g < w.heap.size) t.l cs2 ∧ t.l.len ≤ 16 ∧ WI 7 t.l ∧ AtB t.l ∧ tot t.l ≤ 4000 ∧ x.nm.length ≤ 5000) := ⟨C3, hv3, e4, e5, e6, hit, hwi, ha2, ha3, hnl⟩
      clear g e1 e2 e3 e4 e5 e6 C3 hv3 hbl3 hnm hit hwi ha1 ha2 ha3 hnl
      go_upto_region 6 with fail
      change Code.wp _ _ _ _ (wr.alloc (.cells (clT x).toArray 36))
      rw [← hw3, ← hM]
      clear hw3 hM g0 g1 g2
      by_cases hin : x.nm ∈ earl
      · rw [decide_eq_true hin] at hlk
        have HQ : Hid (q = some (9, x.a)) := by
          show q = _
          rw [H0.out.2.2.2.2.2, HX.out.2.2.1]
          exact HB.out.eq.trans (o1 hin)
        have cT := ythrow_at (x.a : Int)
        clear o1 o2 hin
        go_wp2_with fail
        refine (cT 9 w3).mono ?_
        rintro e w9 ⟨A, rfl, hA1, hA2, hb9⟩
        have HF : Hid (Vr w9 N .nilIface 30 ∧ Bl w w9 ∧ AtX w9 A 9 (x.a : Int) ∧ A ≠ N ∧ w.heap.size ≤ A) := ⟨HX.out.1.v.step hb9, HX.out.1.bl.trans hb9, hA2, by have := HX.out.1.v.lt; omega, Nat.le_trans HX.out.1.bl.size hA1⟩
        clear hb9 hA1 hA2
        unfold thrownY
        go_wp2
        refine leaves_cons (f := 42) (args := #[.pointer (some ⟨N, 0, none⟩)]) (by simp) (by simp [go_sem]) ?_
        refine (ycatch_thrown N A w w9 .nilIface 9 (x.a : Int) HF.out.1 HF.out.2.1 (by have := H0.out.2.2.2.2.1; omega) HF.out.2.2.1 HF.out.2.2.2.1).mono ?_
        rintro e u' wz ⟨rfl, rfl, hvz, hbz, haz⟩
        have c1' := hvz.cell
        have hfin := CkA.of_err HQ.out hbz HF.out.2.2.2.2 haz
        unfold thrYV
        simp [Leaves, settle, results, Tryz.results17, go_sem, c1']
        exact hfin
      · rw [decide_eq_false hin] at hlk
        obtain ⟨o3, o4⟩ := o2 hin
        have HO : Hid ((∀ e, chkB earl t.l [] [] = .error e → chkT earl (l.drop j) = some e) ∧ ∀ n, chkB earl t.l [] [] = .ok n → chkT earl (l.drop j) = chkT (x.nm :: earl) (l.drop (j + 1))) := ⟨o3, o4⟩
        obtain ⟨B, hB⟩ : ∃ B, B = w3.heap.size := ⟨_, rfl⟩
        obtain ⟨w4, hw4⟩ : ∃ w4, w4 = w3.alloc (.map #[] 0) := ⟨_, rfl⟩
        obtain ⟨S, hS⟩ : ∃ S, S = B + 1 := ⟨_, rfl⟩
        have hS4 : S = w4.heap.size := by rw [hS, hB, hw4]; simp
        obtain ⟨w5, hw5⟩ : ∃ w5, w5 = w4.alloc (.map #[] 0) := ⟨_, rfl⟩
        obtain ⟨K, hK⟩ : ∃ K, K = B + 1 + 1 := ⟨_, rfl⟩
        have hK5 : K = w5.heap.size := by rw [hK, hB, hw5, hw4]; simp
        obtain ⟨w6, hw6⟩ : ∃ w6, w6 = w5.alloc (.cells #[.map (some eb), .map (some B), .map (some S)] 92) := ⟨_, rfl⟩
        have hb4 : Bl w3 w4 := by rw [hw4]; exact (Bl.refl _).alloc _
        have hb5 : Bl w4 w5 := by rw [hw5]; exact (Bl.refl _).alloc _
        have hb6 : Bl w5 w6 := by rw [hw6]; exact (Bl.refl _).alloc _
        have sB : SetM w4 B [] 0 := by rw [hw4, hB]; exact SetM.made w3
        have sS : SetM w5 S [] 0 := by rw [hw5, hS4]; exact SetM.made w4
        have hbl36 := (hb4.trans hb5).trans hb6
        have hebl := HX.out.1.e.lt
        have hBl := sB.lt
        have hck : Ck w6 K eb B S earl [] [] j 0 0 := ⟨by rw [hw6, hK5]; exact new_at _ _, HX.out.1.e.bl hbl36, sB.bl (hb5.trans hb6), sS.bl hb6, by omega, by omega, by omega⟩
        have hwB : w.heap.size ≤ B := by have := HX.out.1.bl.size; omega
        have hNB : N < B := by have := HX.out.1.v.lt; omega
        have hbw6 : Bl w w6 := HX.out.1.bl.trans hbl36
        have cR := block_ya 7 t.l B K eb B S earl [] [] j 0 0 x.n x.p x.c cs2 w6 ⟨HX.out.2.2.2.2.2.2.1, HX.out.2.2.2.2.2.1, HX.out.2.2.2.2.2.2.2.1, hck, Nat.le_refl _, by omega, by have := hbl36.size; omega, by have := HX.out.2.2.2.2.2.2.2.2.1; omega, by have := HX.out.2.2.2.2.2.2.2.2.1; omega,
          (HX.out.2.2.2.1.keep (fun g hg _ => hbw6.block g hg) hbw6.size).mono (fun g hg _ => by omega), (HX.out.2.2.2.2.1.keep (fun g hg _ => hbw6.block g hg) hbw6.size (Kx.bl hbw6)).mono (fun g hg _ => by omega), fun y hy => (by cases hy), fun y hy => (by cases hy), by rw [HX.out.2.2.2.1.1]; exact HX.out.2.2.2.2.1.len.1⟩
        have k2' := at_bl hbl36 k2
        have hMs6 : M < w6.heap.size := Nat.lt_of_lt_of_le hMs hbl36.size
        have H6 : Hid (Bl w w6 ∧ Bl w3 w6 ∧ B = w3.heap.size ∧ w.heap.size ≤ B ∧ N < B) := ⟨hbw6, hbl36, hB, hwB, hNB⟩
        clear o1 o2 o3 o4 hin hck hbw6 hbl36 hb4 hb5 hb6 sB sS hebl hBl k1
        go_upto_region 10 with fail
        rw [← hB, ← hK, ← hS, ← hw4, ← hw5, ← hw6]
        clear hB hw4 hS hw5 hK hw6 k0 k2 hlk hS4 hK5
        go_wp2_with fail
        refine cR.mono ?_
        rintro e w7 ⟨hb7, hx7, hans⟩
        clear cR
        have H7 : Hid (Vr w7 N .nilIface 30 ∧ Bl w w7 ∧ w7.heap[M]? = some (.cells (clT x).toArray 36 (0, 0))) := by
          refine ⟨?_, Below.trans (show Below w.heap.size w w6 from H6.out.1) (hb7.mono H6.out.2.2.2.1), ?_⟩
          · have hv := HX.out.1.v.step H6.out.2.1
            unfold Vr at hv ⊢
            rw [hb7.block N H6.out.2.2.2.2]
            exact hv
          · rw [hb7.block M (by rw [H6.out.2.2.1]; exact hMs), Below.block H6.out.2.1 M hMs]
            exact HX.out.2.1
        cases hcB : chkB earl t.l [] [] with
        | error cp =>
          obtain ⟨cc, pp⟩ := cp
          rw [hcB] at hans
          obtain ⟨A, rfl, hA1, hA2⟩ := hans
          have HF : Hid (AtX w7 A cc (pp : Int) ∧ A ≠ N ∧ w.heap.size ≤ A ∧ q = some (cc, pp)) := ⟨hA2, by have := H6.out.2.2.2.2; omega, by have := H6.out.2.2.2.1; omega, by rw [H0.out.2.2.2.2.2]; exact HB.out.eq.trans (HO.out.1 _ hcB)⟩
          clear hcB hA1 hA2 hb7 hx7 k2'
          unfold thrownY
          go_wp2
          refine leaves_cons (f := 42) (args := #[.pointer (some ⟨N, 0, none⟩)]) (by simp) (by simp [go_sem]) ?_
          refine (ycatch_thrown N A w w7 .nilIface cc (pp : Int) H7.out.1 H7.out.2.1 (by have := H0.out.2.2.2.2.1; omega) HF.out.1 HF.out.2.1).mono ?_
          rintro e u' wz ⟨rfl, rfl, hvz, hbz, haz⟩
          have c1' := hvz.cell
          have hfin := CkA.of_err HF.out.2.2.2 hbz HF.out.2.2.1 haz
          unfold thrYV
          simp [Leaves, settle, results, Tryz.results17, go_sem, c1']
          exact hfin
        | ok n2 =>
          rw [hcB] at hans
          obtain ⟨rfl, _, _, kn2, ks2, _, _, hck⟩ := hans
          obtain ⟨w8, hr8, hn8', hg8⟩ := hck.e.put x.nm (j : Int) HX.out.2.2.2.2.2.2.2.2.2 (by unfold R64; omega) (by omega)
          have m0 : w7.cell? ⟨M, 0, none⟩ = some (.string (tx x.nm)) := by rw [cell_of H7.out.2.2]; rfl
          have hebN : eb ≠ N := by
            intro e
            obtain ⟨es, clock, hb⟩ := hck.e.block
            have := H7.out.1
            unfold Vr at this
            rw [e, this] at hb
            cases hb
          have hebw : w.heap.size ≤ eb := HE0.out
          have H8 : Hid (Cs l w w8 N eb (x.nm :: earl) (j + 1)) := by
            refine ⟨?_, bl_grown H7.out.2.1 hg8 (fun k hk => by injection hk with hk; omega), hn8', HB.out.eq.trans (HO.out.2 _ hcB)⟩
            have hv := H7.out.1
            have hl := H7.out.1.lt
            unfold Vr at hv ⊢
            rw [hg8.block N hl (fun e => by injection e with e; exact hebN e.symm)]
            exact hv
          clear hcB hck hn8' hg8 hb7 hx7 k2' hebN hebw
          go_wp2
          go_roundw
          case rel => exact ⟨j + 1, x.nm :: earl, by omega, by go_num, H8.out⟩
          case measure => simp [intOf]; omega
    · obtain rfl : n = j := by omega
      have HQ : Hid (q = none) := by
        show q = none
        rw [H0.out.2.2.2.2.2]
        refine HB.out.eq.trans ?_
        rw [H0.out.2.2.2.1, List.drop_length]
        rfl
      have d1 := HB.out.v.cell
      have e1 := HB.out.v.frozen
      have hNs := HB.out.v.lt
      go_wp2
      have hv9 : Vr (wr.setCell ⟨N, 0, none⟩ .nilIface) N .nilIface 30 := HB.out.v.set _
      have hb9 : Bl w (wr.setCell ⟨N, 0, none⟩ .nilIface) := HB.out.bl.setCell (by show w.heap.size ≤ N; have := H0.out.2.2.2.2.1; omega) _
      generalize wr.setCell ⟨N, 0, none⟩ .nilIface = w9 at hv9 hb9 ⊢
      refine leaves_cons (f := 42) (args := #[.pointer (some ⟨N, 0, none⟩)]) (by simp) (by simp [go_sem]) ?_
      refine (ycatch_idle _ _).mono ?_
      rintro e u' wz ⟨rfl, rfl, hbz⟩
      have c1' := (hv9.step hbz).cell
      have hfin := CkA.of_ok HQ.out (hb9.trans hbz)
      simp [Leaves, settle, results, Tryz.results17, go_sem, c1']
      exact hfin
end Go.Proofs.YtpanodaecjlgaaaGreatDoor.tm
/- Templates: how long what is written is; what Parse tells (pure). -/
namespace Go.Proofs.YtpanodaecjlgaaaGreatDoor.tm
set_option linter.unusedVariables false
open lx ex

theorem txO_len {o : Option Ex} (h : ∀ x, o = some x → WX x) : (txO o).length ≤ 40 * szO o := by
  cases o with
  | none => exact Nat.zero_le _
  | some x =>
    have w := h x rfl
    have := txt_len w.2.1 w.1.okb
    show (txt x).length ≤ 40 * sz x
    omega
theorem wd_wx {d : D} (h : WD d) : ∀ x, d.ct = some x → WX x := by
  intro y hy
  rcases h with h | h | h | h
  · obtain ⟨x, hx, wx⟩ := h.2.1
    rw [hx] at hy; injection hy with hy; rw [← hy]; exact wx
  · obtain ⟨x, hx, wx⟩ := h.2.2.1
    rw [hx] at hy; injection hy with hy; rw [← hy]; exact wx
  · rcases h.2.2.2.2.2.2.2.2.2 with ⟨_, x, hx, wx⟩ | ⟨_, hx⟩
    · rw [hx] at hy; injection hy with hy; rw [← hy]; exact wx
    · rw [hx] at hy; cases hy
  · rcases h.2.2.2.2 with ⟨_, ⟨x, hx, wx⟩, _⟩ | ⟨_, hx, _⟩
    · rw [hx] at hy; injection hy with hy; rw [← hy]; exact wx
    · rw [hx] at hy; cases hy
theorem rw_len (r : Nat) : (rw_ r).length ≤ 5 := by
  unfold rw_
  split
  · decide
  · split <;> decide
theorem paT_len {d : D} (h : WD d) (h4 : d.kd ≠ 4) : (paT d).length ≤ 70 + 40 * szO d.ct := by
  have h1 := kw_len h h4
  have h2 := (wd_nm h h4).2.2.1
  have h3 := txO_len (wd_wx h)
  have h5 : (mnT d).length ≤ 2 + (txO d.ct).length := by
    unfold mnT
    split
    · simp only [List.length_append, List.length_cons, List.length_nil]; omega
    · exact Nat.zero_le _
  have h6 : (ruT d).length ≤ 40 := by
    unfold ruT
    by_cases hr : d.ru = 0 ∨ 4 ≤ d.ru
    · rw [if_pos hr]; exact Nat.zero_le _
    · rw [if_neg hr]
      obtain ⟨wr, _⟩ := ru_wr h (fun e => hr (Or.inl e))
      have f1 : d.f1.length ≤ 12 ∧ d.l1.length ≤ 12 := by
        rcases wr with w | w | w
        · exact absurd (Or.inl w.1) hr
        · exact ⟨w.2.1.2.2.1, by rw [w.2.2]; exact Nat.zero_le _⟩
        · exact ⟨w.2.1.2.2.1, w.2.2.2.2.1⟩
      have r5 := rw_len d.ru
      split <;> simp only [List.length_append, List.length_cons, List.length_nil] <;> omega
  unfold paT
  simp only [List.length_append, List.length_cons, List.length_nil]
  omega
theorem itx_len (l : Its) : ∀ (k : Nat) (pad : List UInt8), WI k l → pad.length + 2 * k ≤ 16 → (itx pad l).length ≤ 100 * zI l := by
  induction l with
  | nil => intro k pad _ _; exact Nat.zero_le _
  | cons d s t is it =>
    intro k pad hw hp
    obtain ⟨w1, w2, w3, w4⟩ := hw
    have ht := it k pad w4 hp
    rw [itx, zI]
    by_cases h4 : d.kd = 4
    · obtain ⟨g1, g2, g3⟩ := w3 h4
      have hs := is (k - 1) (pad ++ [32, 32]) g3 (by simp; omega)
      have h3 := txO_len (wd_wx w1)
      rw [if_pos h4]
      simp only [List.length_append, List.length_cons, List.length_nil]
      rw [show wWhen.length = 4 from rfl]
      omega
    · rw [if_neg h4]
      have h3 := paT_len w1 h4
      simp only [List.length_append, List.length_cons, List.length_nil]
      omega
theorem ptxt_len (l : List Ty) (h : ∀ t ∈ l, NM t.nm ∧ t.l.len ≤ 16 ∧ WI 7 t.l) : (ptxt l).length ≤ 100 * zT l := by
  induction l with
  | nil => exact Nat.zero_le _
  | cons t l ih =>
    have k1 := ih (fun u hu => h u (by simp [hu]))
    obtain ⟨n1, n2, n3⟩ := h t (by simp)
    have k2 := itx_len t.l 7 [] n3 (by decide)
    have k3 := n1.2.2.1
    unfold ptxt at k1 ⊢
    unfold zT at k1 ⊢
    rw [List.flatMap_cons, List.length_append, List.map_cons, List.sum_cons]
    have k4 : (tyx t).length = 6 + 1 + t.nm.length + 3 + (itx [] t.l).length + 2 := by
      unfold tyx
      simp only [List.length_append, List.length_cons, List.length_nil]
      rw [show wStruct.length = 6 from rfl]
    omega
theorem zT_mem {l : List Ty} {t : Ty} (h : t ∈ l) : zI t.l ≤ zT l := by
  induction l with
  | nil => cases h
  | cons u l ih =>
    unfold zT at ih ⊢
    rw [List.map_cons, List.sum_cons]
    rw [List.mem_cons] at h
    rcases h with rfl | h
    · omega
    · have := ih h; omega
theorem ch_at {s : List UInt8} {l : List Tk} : ∀ {p : Nat}, Ch s p l → ∀ t ∈ l, t.a ≤ s.length := by
  induction l with
  | nil => intro p h t ht; cases ht
  | cons u r ih =>
    intro p h t ht
    obtain ⟨h1, h2, _, _, h5⟩ := (show p ≤ u.a ∧ u.a + u.t.length ≤ s.length ∧ _ ∧ _ ∧ Ch s (u.a + u.t.length) r from h)
    rw [List.mem_cons] at ht
    rcases ht with rfl | ht
    · omega
    · exact ih h5 t ht
theorem ch_is {s : List UInt8} {l : List Tk} : ∀ {p : Nat}, Ch s p l → ∀ t ∈ l, IsT t.t := by
  induction l with
  | nil => intro p h t ht; cases ht
  | cons u r ih =>
    intro p h t ht
    obtain ⟨_, _, _, h4, h5⟩ := (show p ≤ u.a ∧ u.a + u.t.length ≤ s.length ∧ (s.drop u.a).take u.t.length = u.t ∧ IsT u.t ∧ Ch s (u.a + u.t.length) r from h)
    rw [List.mem_cons] at ht
    rcases ht with rfl | ht
    · exact h4
    · exact ih h5 t ht
/-- What Parse tells of a text that is not too long. -/
theorem prT_told {s : List UInt8} {l : List Ty} (h : prT s = .ok l) (hs : s.length ≤ 3000) : CI l ∧ WT l ∧ (ptxt l).length ≤ 300000 ∧ l.length ≤ 8 := by
  unfold prT at h
  split at h
  · cases h
  · rename_i h0
    have hch := lx_ch s _ 0 (Nat.le_refl _) (Nat.zero_le _)
    rw [List.drop_zero] at hch
    have hln := lx_len s _ 0 (Nat.le_refl _)
    have hT : TS (lx s 0).1 := ch_is hch
    have hP : TP s.length (lx s 0).1 := ⟨by omega, fun t ht => by have := ch_at hch t ht; omega⟩
    obtain ⟨g1, g2⟩ := typs_told 8 _ _ hT h
    obtain ⟨k1, k2⟩ := typs_len 8 _ _ hT hP h
    have hw : WT l := ⟨g1, g2⟩
    have hp := ptxt_len l g2
    refine ⟨⟨hw, fun t ht => ⟨(k2 t ht).1, (k2 t ht).2, ?_⟩⟩, hw, by omega, g1⟩
    have h1 := tot_le t.l
    have h2 := zT_mem ht
    omega
end Go.Proofs.YtpanodaecjlgaaaGreatDoor.tm
/- Templates: what is printed of the same is the same; the fixed one (pure). -/
namespace Go.Proofs.YtpanodaecjlgaaaGreatDoor.tm
set_option linter.unusedVariables false
open lx ex

theorem rx_sm {x y : Ex} (h : Rx id x y) : Sm x y := by
  induction h with
  | num a b k => exact Sm.num _ _ _
  | nam a b t => exact Sm.nam _ _ _
  | bin a b o l l' r r' _ _ il ir => exact Sm.bin _ _ _ _ _ _ _ il ir
theorem txO_id {o o' : Option Ex} (h : RO id o o') : txO o' = txO o := by
  cases h with
  | none => rfl
  | some hx => exact (Sm.txt (rx_sm hx)).1
theorem paT_id {d d' : D} (h : RD id d d') : paT d' = paT d := by
  have h1 : kw d' = kw d := by unfold kw; rw [h.kd, h.ty, h.wd, h.od, h.sg]; rfl
  have h2 : mnT d' = mnT d := by unfold mnT; rw [h.mn, h.kd, txO_id h.ct]
  have h3 : ruT d' = ruT d := by unfold ruT; rw [h.ru, h.f1, h.l1]; rfl
  unfold paT
  rw [h1, h2, h3, h.nm]
  rfl
theorem itx_id {l l' : Its} (h : RI id l l') : ∀ pad, itx pad l' = itx pad l := by
  induction h with
  | nil => intro pad; rfl
  | cons hd hs ht is it =>
    intro pad
    rw [itx, itx, hd.kd, txO_id hd.ct, is, paT_id hd, it]
theorem ptxt_id {l l' : List Ty} (h : RT id l l') : ptxt l' = ptxt l := by
  induction h with
  | nil => rfl
  | cons hn hi _ ih =>
    unfold ptxt at ih ⊢
    rw [List.flatMap_cons, List.flatMap_cons, ih]
    unfold tyx
    rw [hn, itx_id hi]
    rfl
/-- What is printed is read so, and printed again so. -/
theorem prT_print {l : List Ty} (h : WT l) : ∃ l', prT (ptxt l) = .ok l' ∧ RT id l l' ∧ ptxt l' = ptxt l ∧ (chk l' = none ↔ chk l = none) := by
  obtain ⟨h0, l', h1, h2⟩ := print_reads l h
  refine ⟨l', ?_, h2, ptxt_id h2, ?_⟩
  · unfold prT
    rw [h0]
    exact h1
  · have hc := chk_ren (ρ := id) (fun a b h => h) h2
    exact (code_none hc).symm
/-- The fixed one. -/
def bxL : List Ty :=
  [⟨[112, 97, 105, 114], 0, .cons { D0 with kd := 1, nm := [110], wd := 1, ru := 1, f1 := [115] } .nil (.cons { D0 with kd := 2, nm := [115], ct := some (.nam 0 [110]) } .nil .nil)⟩,
   ⟨[98, 111, 120], 0, .cons { D0 with kd := 1, nm := [107, 105, 110, 100], wd := 2, od := 1 } .nil
     (.cons { D0 with kd := 1, nm := [109, 97, 110, 121], wd := 1, ru := 2, f1 := [108] } .nil
     (.cons { D0 with kd := 3, ty := [112, 97, 105, 114], nm := [108], mn := true, ct := some (.nam 0 [109, 97, 110, 121]) } .nil
     (.cons { D0 with kd := 4, ct := some (.bin 0 [61, 61] (.nam 0 [107, 105, 110, 100]) (.num 0 1)) } (.cons { D0 with kd := 1, nm := [109, 111, 114, 101], wd := 1, sg := true } .nil .nil)
     (.cons { D0 with kd := 1, nm := [115, 117, 109], wd := 4, ru := 3, f1 := [107, 105, 110, 100], l1 := [108] } .nil .nil))))⟩]
def bxT : List UInt8 := [115, 116, 114, 117, 99, 116, 32, 112, 97, 105, 114, 32, 123, 10, 32, 32, 117, 56, 32, 110, 32, 61, 32, 115, 105, 122, 101, 32, 115, 59, 10, 32, 32, 98, 121, 116, 101, 115, 32, 115, 91, 110, 93, 59, 10, 125, 10, 115, 116, 114, 117, 99, 116, 32, 98, 111, 120, 32, 123, 10, 32, 32, 117, 49, 54, 98, 101, 32, 107, 105, 110, 100, 59, 10, 32, 32, 117, 56, 32, 109, 97, 110, 121, 32, 61, 32, 99, 111, 117, 110, 116, 32, 108, 59, 10, 32, 32, 112, 97, 105, 114, 32, 108, 91, 109, 97, 110, 121, 93, 59, 10, 32, 32, 119, 104, 101, 110, 32, 107, 105, 110, 100, 32, 61, 61, 32, 49, 32, 123, 10, 32, 32, 32, 32, 105, 56, 32, 109, 111, 114, 101, 59, 10, 32, 32, 125, 10, 32, 32, 117, 51, 50, 108, 101, 32, 115, 117, 109, 32, 61, 32, 99, 104, 101, 99, 107, 32, 107, 105, 110, 100, 32, 108, 59, 10, 125, 10]
theorem bx_txt : ptxt bxL = bxT := by
  have e1 : txO (some (.bin 0 [61, 61] (.nam 0 [107, 105, 110, 100]) (.num 0 1))) = [107, 105, 110, 100, 32, 61, 61, 32, 49] := by
    show txt _ = _
    have h1 : Lib.itoa 1 = [49] := itoa_small 1 (by omega)
    simp only [txt, h1]
    rfl
  unfold bxL ptxt
  simp only [List.flatMap_cons, List.flatMap_nil, tyx, itx, e1]
  rfl
theorem bx_chk : chk bxL = none := by decide
theorem bx_wt : WT bxL := by
  have w : ∀ n : Int, 0 ≤ n → n < 9223372036854775808 → isN (Lib.itoa n) = false ∧ isU (Lib.itoa n) = true ∧ nb (Lib.itoa n) = (n, 0) := fun n h1 h2 => by
    obtain ⟨a, b, c, _⟩ := nb_itoa n h1 h2
    exact ⟨a, b, c⟩
  have nm : ∀ t ∈ [[112, 97, 105, 114], [98, 111, 120], [110], [115], [107, 105, 110, 100], [109, 97, 110, 121], [108], [109, 111, 114, 101], [115, 117, 109]], NM t := by
    unfold NM
    decide
  have wn : ∀ t : List UInt8, NM t → WX (.nam 0 t) := fun t h => ⟨⟨h.2.1, h.2.2.1⟩, ⟨h.2.2.2, fun e => by have := h.2.1; rw [e] at this; revert this; decide, h.2.2.1⟩, Nat.zero_le _⟩
  have wk : WX (.bin 0 [61, 61] (.nam 0 [107, 105, 110, 100]) (.num 0 1)) := ⟨⟨by decide, ⟨by decide, by decide⟩, w 1 (by omega) (by omega)⟩, ⟨⟨by decide, by decide, by decide⟩, by omega, by omega⟩, by decide⟩
  refine ⟨by decide, fun t ht => ?_⟩
  unfold bxL at ht
  simp only [List.mem_cons, List.not_mem_nil, or_false] at ht
  rcases ht with rfl | rfl
  · refine ⟨nm _ (by simp), by decide, ?_, fun _ => rfl, fun h => absurd h (by decide), ?_, fun _ => rfl, fun h => absurd h (by decide), trivial⟩
    · exact Or.inr (Or.inr (Or.inr ⟨rfl, rfl, ⟨[117, 56], by decide⟩, nm _ (by simp), Or.inr ⟨rfl, rfl, Or.inr (Or.inl ⟨Or.inl rfl, nm _ (by simp), rfl⟩)⟩⟩))
    · exact Or.inr (Or.inl ⟨rfl, nm _ (by simp), ⟨_, rfl, wn _ (nm _ (by simp))⟩, rfl, rfl, rfl, rfl, rfl, rfl, rfl, rfl⟩)
  · refine ⟨nm _ (by simp), by decide, ?_, fun _ => rfl, fun h => absurd h (by decide), ?_, fun _ => rfl, fun h => absurd h (by decide), ?_, fun _ => rfl, fun h => absurd h (by decide), ?_, fun h => absurd rfl h, fun _ => ⟨by decide, by decide, ?_, fun _ => rfl, fun h => absurd h (by decide), trivial⟩, ?_, fun _ => rfl, fun h => absurd h (by decide), trivial⟩
    · exact Or.inr (Or.inr (Or.inr ⟨rfl, rfl, ⟨[117, 49, 54, 98, 101], by decide⟩, nm _ (by simp), Or.inr ⟨rfl, rfl, Or.inl ⟨rfl, rfl, rfl⟩⟩⟩))
    · exact Or.inr (Or.inr (Or.inr ⟨rfl, rfl, ⟨[117, 56], by decide⟩, nm _ (by simp), Or.inr ⟨rfl, rfl, Or.inr (Or.inl ⟨Or.inr rfl, nm _ (by simp), rfl⟩)⟩⟩))
    · exact Or.inr (Or.inr (Or.inl ⟨rfl, nm _ (by simp), nm _ (by simp), rfl, rfl, rfl, rfl, rfl, rfl, Or.inl ⟨rfl, _, rfl, wn _ (nm _ (by simp))⟩⟩))
    · exact Or.inl ⟨rfl, ⟨_, rfl, wk⟩, rfl, rfl, rfl, rfl, rfl, rfl, rfl, rfl, rfl⟩
    · exact Or.inr (Or.inr (Or.inr ⟨rfl, rfl, ⟨[105, 56], by decide⟩, nm _ (by simp), Or.inr ⟨rfl, rfl, Or.inl ⟨rfl, rfl, rfl⟩⟩⟩))
    · exact Or.inr (Or.inr (Or.inr ⟨rfl, rfl, ⟨[117, 51, 50, 108, 101], by decide⟩, nm _ (by simp), Or.inr ⟨rfl, rfl, Or.inr (Or.inr ⟨rfl, nm _ (by simp), nm _ (by simp)⟩)⟩⟩))
/-- It is read, and right. -/
theorem bx_reads : ∃ l, prT bxT = .ok l ∧ chk l = none ∧ ptxt l = bxT ∧ l.length = 2 := by
  obtain ⟨l, h1, h2, h3, h4⟩ := prT_print bx_wt
  rw [bx_txt] at h1 h3
  exact ⟨l, h1, h4.2 bx_chk, h3, by rw [h2.len]; rfl⟩
end Go.Proofs.YtpanodaecjlgaaaGreatDoor.tm
/- The fixed template: the walk. -/
namespace Go.Proofs.YtpanodaecjlgaaaGreatDoor.tm
set_option linter.unusedVariables false
open Go.ChangeShapes Go.WideShapes Go.ChangeAt Go.RowKit Go.Shelf
open mem lx ex

theorem long_at (s : ByteArray) (w : World) : Calls Tryz.prog 16 #[.string s] w fun e w' => e = .returned (.bool (decide (900 < s.size))) ∧ w' = w := by
  go_enter Tryz.func16, Tryz.ntmps16
  go_wp2
  all_goals
    go_ret
    first | exact ⟨rfl, rfl⟩ | (refine ⟨ret_bool ?_, rfl⟩; rw [Bool.eq_iff_iff]; simp; omega)
set_option maxRecDepth 10000 in
set_option maxHeartbeats 2000000 in
theorem boxed_at (w : World) (hG : Gt w) : Calls Tryz.prog 15 #[] w fun e w' => (∃ v, e = .returned (.tuple #[v, .bool true])) ∧ Bl w w' := by
  obtain ⟨l, h1, h2, h3, h4⟩ := bx_reads
  have cP := fun (s : ByteArray) (hs : s = tx bxT) => Parse_at s w (by rw [hs, tx_size]; decide) hG
  go_enter Tryz.func15, Tryz.ntmps15
  go_wp2_with fail
  refine (cP _ rfl).mono ?_
  rintro e w1 ⟨hb1, hans⟩
  rw [show L _ = bxT from L_tx bxT, h1] at hans
  obtain ⟨v, rfl, hv⟩ := hans
  obtain ⟨c1, c2, c3, c4⟩ := prT_told h1 (by decide)
  have cC := Check_at l v w1 _ hv c1
  rw [h2] at cC
  have hv0 := hv
  obtain ⟨p, c, cs, rfl, _, _⟩ := hv0
  have cX := fun wx (hb : Bl w1 wx) => Print_at l (.slice p l.length c) wx _ (hv.bl hb) c2 (hG.bl (hb1.trans hb)) (by omega)
  rw [h3] at cX
  have HB : Hid (Bl w w1) := hb1
  rw [h4] at cC cX ⊢
  clear hv h1 h2 h3 h4 c1 c2 c3 c4 cP hb1 hG
  go_wp2_with fail
  refine cC.mono ?_
  rintro e w2 ⟨hb2, rfl⟩
  go_wp2_with fail
  refine (cX w2 hb2).mono ?_
  rintro e w3 ⟨rfl, hb3⟩
  have HB3 : Hid (Bl w w3) := (HB.out.trans hb2).trans hb3
  have htl : (tx bxT).toList = [115, 116, 114, 117, 99, 116, 32, 112, 97, 105, 114, 32, 123, 10, 32, 32, 117, 56, 32, 110, 32, 61, 32, 115, 105, 122, 101, 32, 115, 59, 10, 32, 32, 98, 121, 116, 101, 115, 32, 115, 91, 110, 93, 59, 10, 125, 10, 115, 116, 114, 117, 99, 116, 32, 98, 111, 120, 32, 123, 10, 32, 32, 117, 49, 54, 98, 101, 32, 107, 105, 110, 100, 59, 10, 32, 32, 117, 56, 32, 109, 97, 110, 121, 32, 61, 32, 99, 111, 117, 110, 116, 32, 108, 59, 10, 32, 32, 112, 97, 105, 114, 32, 108, 91, 109, 97, 110, 121, 93, 59, 10, 32, 32, 119, 104, 101, 110, 32, 107, 105, 110, 100, 32, 61, 61, 32, 49, 32, 123, 10, 32, 32, 32, 32, 105, 56, 32, 109, 111, 114, 101, 59, 10, 32, 32, 125, 10, 32, 32, 117, 51, 50, 108, 101, 32, 115, 117, 109, 32, 61, 32, 99, 104, 101, 99, 107, 32, 107, 105, 110, 100, 32, 108, 59, 10, 125, 10] := by rw [tl_tx]; rfl
  clear cX cC
  generalize tx bxT = S at *
  go_wp2
  go_ret2
  exact ⟨⟨_, rfl⟩, HB3.out⟩
end Go.Proofs.YtpanodaecjlgaaaGreatDoor.tm
