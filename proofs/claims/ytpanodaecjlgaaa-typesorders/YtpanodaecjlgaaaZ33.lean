/- Texts laid together: Tr7, ErL, Tr8, OrE. -/
import Derived.Test.YtpanodaecjlgaaaZ32
import Derived.Test.YtpanodaecjlgaaaZ29
import Derived.Test.YtpanodaecjlgaaaZ24
import Derived.Test.YtpanodaecjlgaaaZ30
/- The document's reader of templates: TmplParse. -/
namespace Go.Proofs.Ytpanodaecjlgaaa.tr
set_option linter.unusedVariables false
open Go.ChangeShapes Go.WideShapes Go.ChangeAt Go.RowKit Go.Shelf
open mem lx ex tm

/-- What the document tells of a text. -/
def RtA (s : ByteArray) (w : World) (e : Ending) (w' : World) : Prop :=
  Bl w w' ∧ match prT (L s) with
  | .ok l => ∃ v, e = .returned (.tuple #[v, flt 0 (-1)]) ∧ IsTs w' (fun g => w.heap.size ≤ g) v l
  | .error (c, p) => e = .returned (.tuple #[.slice none 0 0, flt c (p : Int)]) ∧ c ≠ 0
theorem RtA.bad {s : ByteArray} {w w' : World} {c : Int} {p : Nat} (hb : Bl w w') (hq : prT (L s) = .error (c, p)) (hc : c ≠ 0) : RtA s w (.returned (.tuple #[.slice none 0 0, flt c (p : Int)])) w' := by
  refine ⟨hb, ?_⟩
  rw [hq]
  exact ⟨rfl, hc⟩
def lenV' (v : Value) : Nat := match v with | .slice _ n _ => n | _ => 0
set_option maxRecDepth 10000 in
set_option maxHeartbeats 4000000 in
theorem TParse_at (s : ByteArray) (w : World) (hs : s.size ≤ 3000) (hm : Ml w) (hMw : 0 < w.heap.size) :
    Calls Try.prog 7 #[.string s] w fun e w' => RtA s w e w' := by
  have cX := fun w => newEyes_at s w hs
  have HM0 : Hid (Ml w ∧ 0 < w.heap.size) := ⟨hm, hMw⟩
  clear hm hMw
  go_enter Try.func7, Try.ntmps7
  go_wp2_with fail
  refine (cX _).mono ?_
  rintro e w2 ⟨hb2, P, hP, ⟨h1, rfl, hE⟩ | ⟨p, h1, rfl⟩⟩
  · have hF := Fl.made (c := 0) (p := -1) hb2
    have hPs := hE.lt
    have hPM : w.heap.size < P := by simp at hP; omega
    obtain ⟨W, hW⟩ : ∃ W, W = w2.alloc (.cells #[.int .i64 0, .int .i64 (-1)] 32) := ⟨_, rfl⟩
    have hbW : Bl w2 W := by rw [hW]; exact (Bl.refl _).alloc _
    obtain ⟨M, hM⟩ : ∃ M, M = w.heap.size := ⟨_, rfl⟩
    obtain ⟨N, hN⟩ : ∃ N, N = w2.heap.size := ⟨_, rfl⟩
    have hMP : M ≠ P := by omega
    have hNP : N ≠ P := by omega
    have hprs : prT (L s) = typs nb s.size 8 (lx (L s) 0).1 := by
      unfold prT
      rw [h1]
      dsimp only
      rw [L_len]
    generalize (lx (L s) 0).1 = ts at hE hprs
    have hEW := hE.step hbW
    rw [← hW, ← hM, ← hN] at hF
    obtain ⟨q, hq⟩ : ∃ q, prT (L s) = q := ⟨_, rfl⟩
    have hMl : Ml W := (HM0.out.1.step ((Bl.refl w).alloc (.cells #[.int .i64 0, .int .i64 0] 32))).step (hb2.trans hbW)
    have HF : Hid (Fl w W M N 0 (-1) ∧ w.heap.size ≤ P ∧ M ≠ P ∧ N ≠ P ∧ prT (L s) = q ∧ P < W.heap.size) := ⟨hF, by omega, hMP, hNP, hq, hEW.lt⟩
    obtain ⟨base, hbase⟩ : ∃ base, base = W.heap.size := ⟨_, rfl⟩
    have H0 : Hid (Bz W W P s.size (.ok ts) base (.slice none 0 0) [] ∧ LfT s.size q (.ok ts) [] 8 ∧ base = W.heap.size) := by
      refine ⟨⟨Gp.refl _ _, hEW, hMl, sr.Own.nil _ _, by have := HM0.out.2; omega, by rw [hbase]; exact hEW.lt, by rw [hbase]; exact Nat.le_refl _, by rw [hbase]; exact Nat.le_refl _⟩, ?_, hbase⟩
      show preT [] (typs nb s.size 8 ts) = q
      rw [← hq, hprs]
      cases typs nb s.size 8 ts with
      | error e => rfl
      | ok x => rfl
    unfold flt
    obtain ⟨g0, g1, m0, m1, z0, z1, hMs, hNs⟩ := hF.cells
    clear hE hEW hF h1 hP hPs hPM hMP hNP cX hb2 hbW hprs hq hMl hbase
    go_wp2_with fail
    rw [← hW, ← hM, ← hN]
    clear hW hM hN
    refine (Is_at 0 (-1) W).mono ?_
    rintro e w3 ⟨rfl, hb3⟩
    have H3 : Hid (Bz W w3 P s.size (.ok ts) base (.slice none 0 0) []) := H0.out.1.bl hb3
    clear hb3 g0 g1 m0 m1 z0 z1 hMs hNs
    have h00 : ((0 : Int) == 0) = true := rfl
    rw [h00]
    go_wp2
    go_loopw [6] (fun v6 wr => ∃ (σ : Sg) (cs : List CT) (l : List Ty) (n : Nat), Hid (Bz W wr P s.size σ base v6 cs ∧ LfT s.size q σ l n ∧ (∀ ts, σ = .ok ts → RepY W wr v6 l cs) ∧ ∀ ts, σ = .ok ts → n + cs.length = 8)) (fun v6 _ => 9 - lenV' v6)
    case atStart => exact ⟨_, [], [], 8, H3.out, H0.out.2.1, fun _ _ => rfl, fun _ _ => rfl⟩
    case round =>
      obtain ⟨σ, cs, l, n, HB⟩ := hrel
      obtain ⟨lp, lc, rfl, hlie⟩ := HB.out.1.own.lie
      obtain ⟨m, hm⟩ : ∃ m, m = cs.length := ⟨_, rfl⟩
      have cS := stop_es wr P s.size σ HB.out.1.es
      have HL : Hid (sr.Lie wr (fun g => base ≤ g) lp cs.length lc cs ∧ m = cs.length) := ⟨hlie, hm⟩
      rw [← hm] at HB ⊢
      clear hlie hm
      cases σ with
      | error x =>
        obtain ⟨xc, xp⟩ := x
        have HA : Hid (q = .error (xc, xp)) := HB.out.2.1
        go_wp2_with fail
        refine cS.mono ?_
        rintro e w4 ⟨rfl, hb4⟩
        have H4 : Hid (Bz W w4 P s.size (.error (xc, xp)) base (.slice lp m lc) cs) := HB.out.1.bl hb4
        have cS4 := stop_es w4 P s.size _ H4.out.es
        clear hb4 cS
        go_wp2_with fail
        refine cS4.mono ?_
        rintro e w5 ⟨rfl, hb5⟩
        have H5 : Hid (Bz W w5 P s.size (.error (xc, xp)) base (.slice lp m lc) cs) := H4.out.bl hb5
        have HF5 : Hid (Fl w w5 M N 0 (-1)) := HF.out.1.gp H5.out.gp HF.out.2.2.1 HF.out.2.2.2.1 HF.out.2.1
        obtain ⟨hxc, us, hEy⟩ := H5.out.es
        obtain ⟨_, e2, e3, eF, _, _⟩ := hEy.cells
        have hPs := hEy.lt
        have HC : Hid (xc ≠ 0) := hxc
        obtain ⟨g0, g1, m0, m1, z0, z1, hMs, hNs⟩ := HF5.out.cells
        clear hb5 cS4 hEy hxc
        go_upto_region 14 with fail
        go_region
        go_wp2
        obtain ⟨k1, k2⟩ := HF5.out.told xc xp
        exact bodyPost_ret (v := .tuple #[.slice none 0 0, flt xc (xp : Int)]) (results_tmp_cell (p := 3) (u := 2) (ty := 32) rfl _ _ _ M (flt xc (xp : Int)) rfl (ldF _ _ _ _ k2)) rfl (RtA.bad (k1.trans ((Bl.refl _).drew)) (HF.out.2.2.2.2.1.trans HA.out) HC.out)
      | ok ts' =>
        go_wp2_with fail
        refine cS.mono ?_
        rintro e w4 ⟨rfl, hb4⟩
        have H4 : Hid (Bz W w4 P s.size (.ok ts') base (.slice lp m lc) cs ∧ Bl wr w4) := ⟨HB.out.1.bl hb4, hb4⟩
        clear hb4 cS
        obtain ⟨sq, sk, c0⟩ := Ey.cell0 H4.out.1.es
        have hPs := H4.out.1.es.lt
        cases ts' with
        | nil =>
          have HA : Hid (q = .ok l) := by have h : preT l (typs nb s.size n []) = q := HB.out.2.1; rw [typs_end] at h; exact h.symm
          rw [show ([] : List Tk).length = 0 from rfl] at c0
          have cS4 := stop_es w4 P s.size _ H4.out.1.es
          have cG : ∀ w, Calls Try.prog 21 #[] w fun e w' => e = .returned (.agg #[.int .i64 0, .int .i64 (-1)]) ∧ Bl w w' := Good_at
          go_wp2_with fail
          refine cS4.mono ?_
          rintro e w5 ⟨rfl, hb5⟩
          go_wp2_with fail
          refine (cG _).mono ?_
          rintro e w6 ⟨rfl, hb6⟩
          have H6 : Hid (Bz W w6 P s.size (.ok []) base (.slice lp m lc) cs ∧ Bl w4 w6) := ⟨H4.out.1.bl (hb5.trans hb6), hb5.trans hb6⟩
          have HF6 : Hid (Fl w w6 M N 0 (-1)) := HF.out.1.gp H6.out.1.gp HF.out.2.2.1 HF.out.2.2.2.1 HF.out.2.1
          obtain ⟨g0, g1, m0, m1, z0, z1, hMs, hNs⟩ := HF6.out.cells
          clear hb5 hb6 cS4 cG c0 hPs
          go_wp2
          obtain ⟨k1, k2⟩ := HF6.out.told 0 (-1)
          refine bodyPost_ret (v := .tuple #[.slice lp m lc, flt 0 (-1)]) (results_tmp_cell (p := 3) (u := 2) (ty := 32) rfl _ _ _ M (flt 0 (-1)) rfl (ldF _ _ _ _ k2)) rfl ⟨k1, ?_⟩
          rw [HF.out.2.2.2.2.1, HA.out]
          have hg1 : Gp P wr w6 := Gp.bl (H4.out.2.trans H6.out.2)
          have hg2 : Gp M w6 ((w6.setCell ⟨M, 0, none⟩ (.int .i64 0)).setCell ⟨M, 1, none⟩ (.int .i64 (-1))) := (Gp.set _).trans (Gp.set _)
          have hMW : M < W.heap.size := lt_of_heap HF.out.1.m
          have hrep := RepY.go (HB.out.2.2.1 _ rfl) hg1 HF.out.2.2.2.2.2 (HB.out.1.es.kx hg1)
          have hcl := hrep.len
          have hWw := HF.out.1.bl.size
          have hbase := HB.out.1.ord
          refine ⟨_, rfl, lp, lc, cs, by rw [HL.out.2, hcl], ?_, ?_⟩
          · rw [← hcl]
            exact ((HL.out.1.keep (fun g h1 h2 => hg1.block g h2 (by omega)) hg1.size).keep (fun g h1 h2 => hg2.block g h2 (by omega)) hg2.size).mono (fun g h1 _ => by omega)
          · exact (hrep.keep (fun g h1 h2 => hg2.block g h2 (by omega)) hg2.size (HF6.out.kx 0 (-1))).mono (fun g h1 _ => by omega)
        | cons t r =>
          have hn := HB.out.2.2.2 _ rfl
          obtain ⟨j, hj⟩ : ∃ j, j = r.length := ⟨_, rfl⟩
          rw [show (t :: r).length = j + 1 by rw [hj]; rfl] at c0
          have hpos : (0 : Int) < ((j : Nat) : Int) + 1 := by omega
          have cT := text_es w4 P s.size _ H4.out.1.es
          rw [show seeT s.size (.ok (t :: r)) = t.t from rfl] at cT
          have htl := tl_tx t.t
          obtain ⟨S, hS⟩ : ∃ S, S = tx t.t := ⟨_, rfl⟩
          rw [← hS] at cT htl
          clear hj hS
          go_wp2_with fail
          refine cT.mono ?_
          rintro e w5 ⟨rfl, hb5⟩
          have H5 : Hid (Bz W w5 P s.size (.ok (t :: r)) base (.slice lp m lc) cs ∧ RepY W w5 (.slice lp m lc) l cs) := ⟨H4.out.1.bl hb5, RepY.go (RepY.go (HB.out.2.2.1 _ rfl) (Gp.bl H4.out.2) HF.out.2.2.2.2.2 (Kx.bl H4.out.2)) (Gp.bl hb5) HF.out.2.2.2.2.2 (Kx.bl hb5)⟩
          clear hb5 cT c0 hPs
          by_cases hfull : t.t = wStruct ∧ n = 0
          · have hq1 : (S.toList == [115, 116, 114, 117, 99, 116]) = true := by rw [htl, hfull.1]; rfl
            have hm8 : (8 : Int) ≤ (m : Int) := by omega
            have HQ : Hid (q = .error (4, t.a)) := by
              have h := HB.out.2.1
              rw [hfull.2] at h
              exact h.full hfull.1
            obtain ⟨hf1, hf2⟩ := hfull
            clear htl hf1 hf2
            have cA1 := place_es w5 P s.size _ H5.out.1.es
            go_wp2_with fail
            refine cA1.mono ?_
            rintro e w6 ⟨⟨a1, rfl, ha1⟩, hw6⟩
            obtain rfl := hw6.symm
            have ha2 : a1 = t.a := ha1 _ rfl
            clear ha1 cA1
            have cW := wrong_es w5 P s.size (.ok (t :: r)) 4 a1 (by decide) H5.out.1.es
            rw [show fl 4 a1 (.ok (t :: r)) = (.error (4, a1) : Sg) from rfl] at cW
            have HQ2 : Hid (q = .error (4, a1)) := by rw [ha2]; exact HQ.out
            clear ha2
            go_wp2_with fail
            refine cW.mono ?_
            rintro e w6 ⟨rfl, hE, hg⟩
            have H6 : Hid (Bz W w6 P s.size (.error (4, a1)) base (.slice lp m lc) cs ∧ RepY W w6 (.slice lp m lc) l cs) := ⟨H5.out.1.go hE hg, RepY.go H5.out.2 hg HF.out.2.2.2.2.2 (H5.out.1.es.kx hg)⟩
            clear hE hg cW
            have cM := must_es w6 P s.size _ wStruct (by decide) H6.out.1.es
            go_wp2_with fail
            refine cM.mono ?_
            rintro e wb ⟨rfl, hE, hg⟩
            have Hb : Hid (Bz W wb P s.size (mu s.size wStruct (.error (4, a1))) base (.slice lp m lc) cs ∧ RepY W wb (.slice lp m lc) l cs) := ⟨H6.out.1.go hE hg, RepY.go H6.out.2 hg HF.out.2.2.2.2.2 (H6.out.1.es.kx hg)⟩
            have cA := place_es wb P s.size _ Hb.out.1.es
            clear hE hg cM
            go_wp2_with fail
            refine cA.mono ?_
            rintro e wc ⟨⟨a, rfl, ha⟩, hwc⟩
            obtain rfl := hwc.symm
            have HA : Hid (∀ us, (mu s.size wStruct (.error (4, a1))) = .ok us → a = (hd s.size us).a) := ha
            obtain ⟨T, hT⟩ : ∃ T, T = wb.heap.size := ⟨_, rfl⟩
            obtain ⟨wd, hwd⟩ : ∃ wd, wd = wb.alloc (.cells (clT ⟨[], a, none, 0, 0⟩).toArray 28) := ⟨_, rfl⟩
            have hbd : Bl wb wd := by rw [hwd]; exact (Bl.refl _).alloc _
            have Hd : Hid (Bz W wd P s.size (mu s.size wStruct (.error (4, a1))) base (.slice lp m lc) cs ∧ RepZ W wd (.slice lp m lc) T l cs ∧ wd.heap[T]? = some (.cells (clT ⟨[], a, none, 0, 0⟩).toArray 28 (0, 0)) ∧ base ≤ T ∧ P < T ∧ (∀ k, (Value.slice lp m lc).ownBlock = some k → k < T)) := by
              have h1 := Hb.out.1.ord
              refine ⟨Hb.out.1.bl hbd, (Hb.out.2.mono (fun g h1 h2 => ⟨h1, by omega⟩)).keep (fun g h1 h2 => Below.block hbd g h2) hbd.size (Kx.bl hbd), by rw [hwd, hT]; exact new_at _ _, by omega, by omega, fun k hk => ?_⟩
              have := (Hb.out.1.own.block k hk).2
              omega
            have cN := name_es wd P s.size _ Hd.out.1.es Hd.out.1.ml
            clear ha cA hbd Hb
            go_upto_region 10 with fail
            change Code.wp _ _ _ _ (wb.alloc (.cells (clT ⟨[], a, none, 0, 0⟩).toArray 28))
            rw [← hwd, ← hT]
            clear hwd hT
            go_wp2_with fail
            refine cN.mono ?_
            rintro e we ⟨rfl, hE, hg⟩
            obtain ⟨V, hV⟩ : ∃ V, V = tx (seeT s.size (mu s.size wStruct (.error (4, a1)))) := ⟨_, rfl⟩
            rw [← hV]
            have He : Hid (Bz W we P s.size (nmS s.size (mu s.size wStruct (.error (4, a1)))) base (.slice lp m lc) cs ∧ RepZ W we (.slice lp m lc) T l cs ∧ we.heap[T]? = some (.cells (clT ⟨[], a, none, 0, 0⟩).toArray 28 (0, 0))) := ⟨Hd.out.1.go hE hg, RepZ.go Hd.out.2.1 hg HF.out.2.2.2.2.2 (Hd.out.1.es.kx hg), by rw [hg.block T (lt_of_heap Hd.out.2.2.1) (by have := Hd.out.2.2.2.2.1; omega)]; exact Hd.out.2.2.1⟩
            have y0 : we.cell? ⟨T, 0, none⟩ = some (.string (tx [])) := by rw [cell_of He.out.2.2]; rfl
            have yz : we.frozen? ⟨T, 0, none⟩ = false := by simp [World.frozen?, He.out.2.2]
            have hTs := lt_of_heap He.out.2.2
            obtain ⟨wf, hwf⟩ : ∃ wf, wf = we.setCell ⟨T, 0, none⟩ (.string V) := ⟨_, rfl⟩
            have Hf : Hid (Bz W wf P s.size (nmS s.size (mu s.size wStruct (.error (4, a1)))) base (.slice lp m lc) cs ∧ RepZ W wf (.slice lp m lc) T l cs ∧ wf.heap[T]? = some (.cells (clT ⟨seeT s.size (mu s.size wStruct (.error (4, a1))), a, none, 0, 0⟩).toArray 28 (0, 0))) := by
              have hgs := grown_set we T 0 (.string V)
              have hTT := lt_of_heap He.out.2.2
              rw [hwf]
              refine ⟨He.out.1.put Hd.out.2.2.2.1 (fun k hk => by have := Hd.out.2.2.2.2.2 k hk; omega), He.out.2.1.keep (fun g h1 h2 => hgs.block g h2 (fun e => by injection e with e; omega)) hgs.size ?_, ?_⟩
              · exact fun b cs' hb => by
                  rw [hgs.block b (lt_of_heap hb) (fun e => by injection e with e; subst e; rw [He.out.2.2] at hb; simp at hb)]
                  exact hb
              · rw [hV]
                simp [World.setCell, Array.getElem?_modify, He.out.2.2, clT]
            have cB := block_es 8 wf P s.size 1 (nmS s.size (mu s.size wStruct (.error (4, a1)))) (by omega) Hf.out.1.es Hf.out.1.ml Hf.out.1.ord.1
            clear hE hg cN hV
            go_upto_region 11 with fail
            rw [← hwf]
            clear hwf y0 yz hTs He
            go_wp2_with fail
            refine cB.mono ?_
            rintro e wg ⟨⟨bp, bn, bc, rfl, hl⟩, hE, hg⟩
            have Hg : Hid (Bz W wg P s.size (bkS 8 s.size (nmS s.size (mu s.size wStruct (.error (4, a1))))) base (.slice lp m lc) cs ∧ RepZ W wg (.slice lp m lc) T l cs ∧ wg.heap[T]? = some (.cells (clT ⟨seeT s.size (mu s.size wStruct (.error (4, a1))), a, none, 0, 0⟩).toArray 28 (0, 0)) ∧ (∀ ts l rr, (nmS s.size (mu s.size wStruct (.error (4, a1)))) = .ok ts → blk nb s.size 8 ts = .ok (l, rr) → LV wf.heap.size wg (.slice bp bn bc) l)) := ⟨Hf.out.1.go hE hg, RepZ.go Hf.out.2.1 hg HF.out.2.2.2.2.2 (Hf.out.1.es.kx hg), by rw [hg.block T (lt_of_heap Hf.out.2.2) (by have := Hd.out.2.2.2.2.1; omega)]; exact Hf.out.2.2, hl⟩
            have y2 : wg.cell? ⟨T, 2, none⟩ = some (.slice none 0 0) := by rw [cell_of Hg.out.2.2.1]; rfl
            have yz : wg.frozen? ⟨T, 2, none⟩ = false := by simp [World.frozen?, Hg.out.2.2.1]
            have hTs := lt_of_heap Hg.out.2.2.1
            obtain ⟨wh, hwh⟩ : ∃ wh, wh = wg.setCell ⟨T, 2, none⟩ (.slice bp bn bc) := ⟨_, rfl⟩
            obtain ⟨c, hc⟩ : ∃ c : CT, c = ⟨seeT s.size (mu s.size wStruct (.error (4, a1))), a, bp, bn, bc⟩ := ⟨_, rfl⟩
            have Hh : Hid (Bz W wh P s.size (bkS 8 s.size (nmS s.size (mu s.size wStruct (.error (4, a1))))) base (.slice lp m lc) cs ∧ RepZ W wh (.slice lp m lc) T l cs ∧ wh.heap[T]? = some (.cells (clT c).toArray 28 (0, 0)) ∧ (∀ ts l rr, (nmS s.size (mu s.size wStruct (.error (4, a1)))) = .ok ts → blk nb s.size 8 ts = .ok (l, rr) → LV wf.heap.size wh (.slice bp bn bc) l) ∧ c = ⟨seeT s.size (mu s.size wStruct (.error (4, a1))), a, bp, bn, bc⟩ ∧ T < wf.heap.size ∧ W.heap.size ≤ wf.heap.size) := by
              have hgs := grown_set wg T 2 (.slice bp bn bc)
              have hTf := lt_of_heap Hf.out.2.2
              have hkx : Kx wg (wg.setCell ⟨T, 2, none⟩ (.slice bp bn bc)) := fun b cs' hb => by
                rw [hgs.block b (lt_of_heap hb) (fun e => by injection e with e; subst e; rw [Hg.out.2.2.1] at hb; simp at hb)]
                exact hb
              rw [hwh, hc]
              refine ⟨Hg.out.1.put Hd.out.2.2.2.1 (fun k hk => by have := Hd.out.2.2.2.2.2 k hk; omega), Hg.out.2.1.keep (fun g h1 h2 => hgs.block g h2 (fun e => by injection e with e; omega)) hgs.size hkx, ?_, fun ts l r h1 h2 => ?_, rfl, hTf, Hf.out.1.gp.size⟩
              · simp [World.setCell, Array.getElem?_modify, Hg.out.2.2.1, clT]
              · obtain ⟨p, c, cs, k1, k2, k3⟩ := Hg.out.2.2.2 ts l r h1 h2
                exact ⟨p, c, cs, k1, k2.keep (fun g h1 h2 => hgs.block g h2 (fun e => by injection e with e; omega)) hgs.size, k3.keep (fun g h1 h2 => hgs.block g h2 (fun e => by injection e with e; omega)) hgs.size hkx⟩
            clear hE hg cB hl hc
            go_upto_region 12 with fail
            rw [← hwh]
            clear hwh y2 yz hTs
            have y0 : wh.cell? ⟨T, 0, none⟩ = some (.string (tx c.nm)) := by rw [cell_of Hh.out.2.2.1]; rfl
            have y1 : wh.cell? ⟨T, 1, none⟩ = some (.int .i64 (c.a : Int)) := by rw [cell_of Hh.out.2.2.1]; rfl
            have y2 : wh.cell? ⟨T, 2, none⟩ = some (.slice c.p c.n c.c) := by rw [cell_of Hh.out.2.2.1]; rfl
            have hTs := lt_of_heap Hh.out.2.2.1
            obtain ⟨wi, hwi⟩ : ∃ wi, wi = wh.alloc (.cells (clT c).toArray 28) := ⟨_, rfl⟩
            have hbi : Bl wh wi := by rw [hwi]; exact (Bl.refl _).alloc _
            obtain ⟨X, hX⟩ : ∃ X, X = wh.heap.size := ⟨_, rfl⟩
            have hXi : wi.heap[X]? = some (.cells (clT c).toArray 28 (0, 0)) := by rw [hwi, hX]; exact new_at _ _
            have hown := Hh.out.1.own.bl hbi
            have hcells : ∀ j u, (clT c)[j]? = some u → wi.cell? ((⟨X, 0, none⟩ : Addr).add j) = some u := fun j u hu => by
              rw [Addr.add_lit, Nat.zero_add, cell_of hXi]; simpa using hu
            have hbw : base ≤ wi.heap.size := Nat.le_trans Hh.out.1.ord.2.2.2 hbi.size
            have hcs8 : cs.length ≤ 8 := by have := HL.out.2; omega
            obtain ⟨v', wj, hr, hoj, hgj⟩ := sr.app_one wi base (.slice lp m lc) cs c ⟨X, 0, none⟩ hown hcells (by omega) hbw
            have hwhere := sr_where wi base (.slice lp m lc) cs c ⟨X, 0, none⟩ hown hcells (by omega) v' wj hr
            have HJ : Hid (∃ σ' l' n', Bz W wj P s.size σ' base v' (cs ++ [c]) ∧ LfT s.size q σ' l' n' ∧ (∀ ts, σ' = .ok ts → RepY W wj v' l' (cs ++ [c])) ∧ (∀ ts, σ' = .ok ts → n' + (cs ++ [c]).length = 8)) := by
              have hB := Hh.out.1.app hwi hoj hgj
              exact ⟨.error (4, a1), l, 0, hB, HQ2.out, fun ts h => (by cases h), fun ts h => (by cases h)⟩
            have HV : Hid (lenV' v' = m + 1 ∧ m ≤ 8) := by
              obtain ⟨p8, c8, hv8, _⟩ := hoj.lie
              refine ⟨?_, by have := HL.out.2; omega⟩
              rw [hv8]
              show (cs ++ [c]).length = m + 1
              rw [List.length_append, ← HL.out.2]; rfl
            have HRn : Hid _ := hr
            have hcl : (clT c).toArray = #[.string (tx c.nm), .int .i64 (c.a : Int), .slice c.p c.n c.c] := rfl
            rw [hcl] at hwi
            have hwi' := hwi.symm
            have hX' : wh.heap.size = X := hX.symm
            clear hcl hwi hX hbi hXi hown hcells hbw hr hoj hgj hwhere hcs8 hn
            go_wp2_with (at_builtin; refine Lib.wpList_append_run _ rfl (.tmp 51) (.tmp 53) _ _ rfl _ _ rfl rfl _ _ HRn.out ?_)
            obtain ⟨σ', l', n', h1, h2, h3, h4⟩ := HJ.out
            refine ⟨⟨σ', cs ++ [c], l', n', h1, h2, h3, h4⟩, ?_⟩
            rw [HV.out.1]
            show 9 - (m + 1) < 9 - m
            have := HV.out.2
            omega
          · have HNF : Hid (¬ (t.t = wStruct ∧ n = 0)) := hfull
            cases hq1 : (S.toList == [115, 116, 114, 117, 99, 116]) with
            | true =>
              have hm8 : ¬ (8 : Int) ≤ (m : Int) := by
                have h0 : t.t = wStruct := by rw [htl, beq_iff_eq] at hq1; exact hq1
                have h1 : n ≠ 0 := fun h => hfull ⟨h0, h⟩
                omega
              clear hfull htl
              have cM := must_es w5 P s.size _ wStruct (by decide) H5.out.1.es
              go_wp2_with fail
              refine cM.mono ?_
              rintro e wb ⟨rfl, hE, hg⟩
              have Hb : Hid (Bz W wb P s.size (mu s.size wStruct (.ok (t :: r))) base (.slice lp m lc) cs ∧ RepY W wb (.slice lp m lc) l cs) := ⟨H5.out.1.go hE hg, RepY.go H5.out.2 hg HF.out.2.2.2.2.2 (H5.out.1.es.kx hg)⟩
              have cA := place_es wb P s.size _ Hb.out.1.es
              clear hE hg cM
              go_wp2_with fail
              refine cA.mono ?_
              rintro e wc ⟨⟨a, rfl, ha⟩, hwc⟩
              obtain rfl := hwc.symm
              have HA : Hid (∀ us, (mu s.size wStruct (.ok (t :: r))) = .ok us → a = (hd s.size us).a) := ha
              obtain ⟨T, hT⟩ : ∃ T, T = wb.heap.size := ⟨_, rfl⟩
              obtain ⟨wd, hwd⟩ : ∃ wd, wd = wb.alloc (.cells (clT ⟨[], a, none, 0, 0⟩).toArray 28) := ⟨_, rfl⟩
              have hbd : Bl wb wd := by rw [hwd]; exact (Bl.refl _).alloc _
              have Hd : Hid (Bz W wd P s.size (mu s.size wStruct (.ok (t :: r))) base (.slice lp m lc) cs ∧ RepZ W wd (.slice lp m lc) T l cs ∧ wd.heap[T]? = some (.cells (clT ⟨[], a, none, 0, 0⟩).toArray 28 (0, 0)) ∧ base ≤ T ∧ P < T ∧ (∀ k, (Value.slice lp m lc).ownBlock = some k → k < T)) := by
                have h1 := Hb.out.1.ord
                refine ⟨Hb.out.1.bl hbd, (Hb.out.2.mono (fun g h1 h2 => ⟨h1, by omega⟩)).keep (fun g h1 h2 => Below.block hbd g h2) hbd.size (Kx.bl hbd), by rw [hwd, hT]; exact new_at _ _, by omega, by omega, fun k hk => ?_⟩
                have := (Hb.out.1.own.block k hk).2
                omega
              have cN := name_es wd P s.size _ Hd.out.1.es Hd.out.1.ml
              clear ha cA hbd Hb
              go_upto_region 10 with fail
              change Code.wp _ _ _ _ (wb.alloc (.cells (clT ⟨[], a, none, 0, 0⟩).toArray 28))
              rw [← hwd, ← hT]
              clear hwd hT
              go_wp2_with fail
              refine cN.mono ?_
              rintro e we ⟨rfl, hE, hg⟩
              obtain ⟨V, hV⟩ : ∃ V, V = tx (seeT s.size (mu s.size wStruct (.ok (t :: r)))) := ⟨_, rfl⟩
              rw [← hV]
              have He : Hid (Bz W we P s.size (nmS s.size (mu s.size wStruct (.ok (t :: r)))) base (.slice lp m lc) cs ∧ RepZ W we (.slice lp m lc) T l cs ∧ we.heap[T]? = some (.cells (clT ⟨[], a, none, 0, 0⟩).toArray 28 (0, 0))) := ⟨Hd.out.1.go hE hg, RepZ.go Hd.out.2.1 hg HF.out.2.2.2.2.2 (Hd.out.1.es.kx hg), by rw [hg.block T (lt_of_heap Hd.out.2.2.1) (by have := Hd.out.2.2.2.2.1; omega)]; exact Hd.out.2.2.1⟩
              have y0 : we.cell? ⟨T, 0, none⟩ = some (.string (tx [])) := by rw [cell_of He.out.2.2]; rfl
              have yz : we.frozen? ⟨T, 0, none⟩ = false := by simp [World.frozen?, He.out.2.2]
              have hTs := lt_of_heap He.out.2.2
              obtain ⟨wf, hwf⟩ : ∃ wf, wf = we.setCell ⟨T, 0, none⟩ (.string V) := ⟨_, rfl⟩
              have Hf : Hid (Bz W wf P s.size (nmS s.size (mu s.size wStruct (.ok (t :: r)))) base (.slice lp m lc) cs ∧ RepZ W wf (.slice lp m lc) T l cs ∧ wf.heap[T]? = some (.cells (clT ⟨seeT s.size (mu s.size wStruct (.ok (t :: r))), a, none, 0, 0⟩).toArray 28 (0, 0))) := by
                have hgs := grown_set we T 0 (.string V)
                have hTT := lt_of_heap He.out.2.2
                rw [hwf]
                refine ⟨He.out.1.put Hd.out.2.2.2.1 (fun k hk => by have := Hd.out.2.2.2.2.2 k hk; omega), He.out.2.1.keep (fun g h1 h2 => hgs.block g h2 (fun e => by injection e with e; omega)) hgs.size ?_, ?_⟩
                · exact fun b cs' hb => by
                    rw [hgs.block b (lt_of_heap hb) (fun e => by injection e with e; subst e; rw [He.out.2.2] at hb; simp at hb)]
                    exact hb
                · rw [hV]
                  simp [World.setCell, Array.getElem?_modify, He.out.2.2, clT]
              have cB := block_es 8 wf P s.size 1 (nmS s.size (mu s.size wStruct (.ok (t :: r)))) (by omega) Hf.out.1.es Hf.out.1.ml Hf.out.1.ord.1
              clear hE hg cN hV
              go_upto_region 11 with fail
              rw [← hwf]
              clear hwf y0 yz hTs He
              go_wp2_with fail
              refine cB.mono ?_
              rintro e wg ⟨⟨bp, bn, bc, rfl, hl⟩, hE, hg⟩
              have Hg : Hid (Bz W wg P s.size (bkS 8 s.size (nmS s.size (mu s.size wStruct (.ok (t :: r))))) base (.slice lp m lc) cs ∧ RepZ W wg (.slice lp m lc) T l cs ∧ wg.heap[T]? = some (.cells (clT ⟨seeT s.size (mu s.size wStruct (.ok (t :: r))), a, none, 0, 0⟩).toArray 28 (0, 0)) ∧ (∀ ts l rr, (nmS s.size (mu s.size wStruct (.ok (t :: r)))) = .ok ts → blk nb s.size 8 ts = .ok (l, rr) → LV wf.heap.size wg (.slice bp bn bc) l)) := ⟨Hf.out.1.go hE hg, RepZ.go Hf.out.2.1 hg HF.out.2.2.2.2.2 (Hf.out.1.es.kx hg), by rw [hg.block T (lt_of_heap Hf.out.2.2) (by have := Hd.out.2.2.2.2.1; omega)]; exact Hf.out.2.2, hl⟩
              have y2 : wg.cell? ⟨T, 2, none⟩ = some (.slice none 0 0) := by rw [cell_of Hg.out.2.2.1]; rfl
              have yz : wg.frozen? ⟨T, 2, none⟩ = false := by simp [World.frozen?, Hg.out.2.2.1]
              have hTs := lt_of_heap Hg.out.2.2.1
              obtain ⟨wh, hwh⟩ : ∃ wh, wh = wg.setCell ⟨T, 2, none⟩ (.slice bp bn bc) := ⟨_, rfl⟩
              obtain ⟨c, hc⟩ : ∃ c : CT, c = ⟨seeT s.size (mu s.size wStruct (.ok (t :: r))), a, bp, bn, bc⟩ := ⟨_, rfl⟩
              have Hh : Hid (Bz W wh P s.size (bkS 8 s.size (nmS s.size (mu s.size wStruct (.ok (t :: r))))) base (.slice lp m lc) cs ∧ RepZ W wh (.slice lp m lc) T l cs ∧ wh.heap[T]? = some (.cells (clT c).toArray 28 (0, 0)) ∧ (∀ ts l rr, (nmS s.size (mu s.size wStruct (.ok (t :: r)))) = .ok ts → blk nb s.size 8 ts = .ok (l, rr) → LV wf.heap.size wh (.slice bp bn bc) l) ∧ c = ⟨seeT s.size (mu s.size wStruct (.ok (t :: r))), a, bp, bn, bc⟩ ∧ T < wf.heap.size ∧ W.heap.size ≤ wf.heap.size) := by
                have hgs := grown_set wg T 2 (.slice bp bn bc)
                have hTf := lt_of_heap Hf.out.2.2
                have hkx : Kx wg (wg.setCell ⟨T, 2, none⟩ (.slice bp bn bc)) := fun b cs' hb => by
                  rw [hgs.block b (lt_of_heap hb) (fun e => by injection e with e; subst e; rw [Hg.out.2.2.1] at hb; simp at hb)]
                  exact hb
                rw [hwh, hc]
                refine ⟨Hg.out.1.put Hd.out.2.2.2.1 (fun k hk => by have := Hd.out.2.2.2.2.2 k hk; omega), Hg.out.2.1.keep (fun g h1 h2 => hgs.block g h2 (fun e => by injection e with e; omega)) hgs.size hkx, ?_, fun ts l r h1 h2 => ?_, rfl, hTf, Hf.out.1.gp.size⟩
                · simp [World.setCell, Array.getElem?_modify, Hg.out.2.2.1, clT]
                · obtain ⟨p, c, cs, k1, k2, k3⟩ := Hg.out.2.2.2 ts l r h1 h2
                  exact ⟨p, c, cs, k1, k2.keep (fun g h1 h2 => hgs.block g h2 (fun e => by injection e with e; omega)) hgs.size, k3.keep (fun g h1 h2 => hgs.block g h2 (fun e => by injection e with e; omega)) hgs.size hkx⟩
              clear hE hg cB hl hc
              go_upto_region 12 with fail
              rw [← hwh]
              clear hwh y2 yz hTs
              have y0 : wh.cell? ⟨T, 0, none⟩ = some (.string (tx c.nm)) := by rw [cell_of Hh.out.2.2.1]; rfl
              have y1 : wh.cell? ⟨T, 1, none⟩ = some (.int .i64 (c.a : Int)) := by rw [cell_of Hh.out.2.2.1]; rfl
              have y2 : wh.cell? ⟨T, 2, none⟩ = some (.slice c.p c.n c.c) := by rw [cell_of Hh.out.2.2.1]; rfl
              have hTs := lt_of_heap Hh.out.2.2.1
              obtain ⟨wi, hwi⟩ : ∃ wi, wi = wh.alloc (.cells (clT c).toArray 28) := ⟨_, rfl⟩
              have hbi : Bl wh wi := by rw [hwi]; exact (Bl.refl _).alloc _
              obtain ⟨X, hX⟩ : ∃ X, X = wh.heap.size := ⟨_, rfl⟩
              have hXi : wi.heap[X]? = some (.cells (clT c).toArray 28 (0, 0)) := by rw [hwi, hX]; exact new_at _ _
              have hown := Hh.out.1.own.bl hbi
              have hcells : ∀ j u, (clT c)[j]? = some u → wi.cell? ((⟨X, 0, none⟩ : Addr).add j) = some u := fun j u hu => by
                rw [Addr.add_lit, Nat.zero_add, cell_of hXi]; simpa using hu
              have hbw : base ≤ wi.heap.size := Nat.le_trans Hh.out.1.ord.2.2.2 hbi.size
              have hcs8 : cs.length ≤ 8 := by have := HL.out.2; omega
              obtain ⟨v', wj, hr, hoj, hgj⟩ := sr.app_one wi base (.slice lp m lc) cs c ⟨X, 0, none⟩ hown hcells (by omega) hbw
              have hwhere := sr_where wi base (.slice lp m lc) cs c ⟨X, 0, none⟩ hown hcells (by omega) v' wj hr
              have HJ : Hid (∃ σ' l' n', Bz W wj P s.size σ' base v' (cs ++ [c]) ∧ LfT s.size q σ' l' n' ∧ (∀ ts, σ' = .ok ts → RepY W wj v' l' (cs ++ [c])) ∧ (∀ ts, σ' = .ok ts → n' + (cs ++ [c]).length = 8)) := by
                have hB := Hh.out.1.app hwi hoj hgj
                rcases HB.out.2.1.on (fun h1 h2 => HNF.out ⟨h1, h2⟩) HA.out with ⟨x, q1, q2⟩ | ⟨us, r1, it, r2, q1, q2, q3, q4, q5⟩
                · rw [q2] at hB
                  exact ⟨.error x, l, 0, hB, q1, fun ts h => (by cases h), fun ts h => (by cases h)⟩
                · have hB2 := Hh.out.1
                  rw [q4] at hB hB2
                  have q6 : nmS s.size (mu s.size wStruct (.ok (t :: r))) = .ok r1 := by rw [q1]; exact q2
                  obtain ⟨bp', bc', cs2, k1, k2, k3⟩ := Hh.out.2.2.2.1 r1 it r2 q6 q3
                  injection k1 with k1 k4 k5
                  subst k1 k4 k5
                  have hce := Hh.out.2.2.2.2.1
                  refine ⟨.ok r2, _, n - 1, hB, q5, fun ts h => ?_, fun ts h => ?_⟩
                  · have := RepZ.app (c := c) (it := it) (M := wf.heap.size) hB2 Hh.out.2.1 (by rw [hce]; exact ⟨cs2, k2, k3⟩) Hh.out.2.2.2.2.2.2 (fun k hk => by have := Hd.out.2.2.2.2.2 k hk; have := Hh.out.2.2.2.2.2.1; omega) (Nat.le_of_lt (lt_of_heap Hh.out.2.2.1)) hwi hgj hwhere
                    rw [show c.nm = (hd s.size us).t by rw [hce, q1]; rfl, show c.a = a by rw [hce]] at this
                    exact this
                  · have h0 : n ≠ 0 := fun h0 => by
                      have h5 := q1
                      have h6 : t.t = wStruct := by
                        have h7 : want s.size wStruct (t :: r) = .ok us := h5
                        unfold want at h7
                        split at h7
                        · assumption
                        · cases h7
                      exact HNF.out ⟨h6, h0⟩
                    rw [List.length_append, ← HL.out.2]
                    show n - 1 + (m + 1) = 8
                    omega
              have HV : Hid (lenV' v' = m + 1 ∧ m ≤ 8) := by
                obtain ⟨p8, c8, hv8, _⟩ := hoj.lie
                refine ⟨?_, by have := HL.out.2; omega⟩
                rw [hv8]
                show (cs ++ [c]).length = m + 1
                rw [List.length_append, ← HL.out.2]; rfl
              have HRn : Hid _ := hr
              have hcl : (clT c).toArray = #[.string (tx c.nm), .int .i64 (c.a : Int), .slice c.p c.n c.c] := rfl
              rw [hcl] at hwi
              have hwi' := hwi.symm
              have hX' : wh.heap.size = X := hX.symm
              clear hcl hwi hX hbi hXi hown hcells hbw hr hoj hgj hwhere hcs8 hn
              go_wp2_with (at_builtin; refine Lib.wpList_append_run _ rfl (.tmp 51) (.tmp 53) _ _ rfl _ _ rfl rfl _ _ HRn.out ?_)
              obtain ⟨σ', l', n', h1, h2, h3, h4⟩ := HJ.out
              refine ⟨⟨σ', cs ++ [c], l', n', h1, h2, h3, h4⟩, ?_⟩
              rw [HV.out.1]
              show 9 - (m + 1) < 9 - m
              have := HV.out.2
              omega
            | false =>
              clear hfull htl
              have cM := must_es w5 P s.size _ wStruct (by decide) H5.out.1.es
              go_wp2_with fail
              refine cM.mono ?_
              rintro e wb ⟨rfl, hE, hg⟩
              have Hb : Hid (Bz W wb P s.size (mu s.size wStruct (.ok (t :: r))) base (.slice lp m lc) cs ∧ RepY W wb (.slice lp m lc) l cs) := ⟨H5.out.1.go hE hg, RepY.go H5.out.2 hg HF.out.2.2.2.2.2 (H5.out.1.es.kx hg)⟩
              have cA := place_es wb P s.size _ Hb.out.1.es
              clear hE hg cM
              go_wp2_with fail
              refine cA.mono ?_
              rintro e wc ⟨⟨a, rfl, ha⟩, hwc⟩
              obtain rfl := hwc.symm
              have HA : Hid (∀ us, (mu s.size wStruct (.ok (t :: r))) = .ok us → a = (hd s.size us).a) := ha
              obtain ⟨T, hT⟩ : ∃ T, T = wb.heap.size := ⟨_, rfl⟩
              obtain ⟨wd, hwd⟩ : ∃ wd, wd = wb.alloc (.cells (clT ⟨[], a, none, 0, 0⟩).toArray 28) := ⟨_, rfl⟩
              have hbd : Bl wb wd := by rw [hwd]; exact (Bl.refl _).alloc _
              have Hd : Hid (Bz W wd P s.size (mu s.size wStruct (.ok (t :: r))) base (.slice lp m lc) cs ∧ RepZ W wd (.slice lp m lc) T l cs ∧ wd.heap[T]? = some (.cells (clT ⟨[], a, none, 0, 0⟩).toArray 28 (0, 0)) ∧ base ≤ T ∧ P < T ∧ (∀ k, (Value.slice lp m lc).ownBlock = some k → k < T)) := by
                have h1 := Hb.out.1.ord
                refine ⟨Hb.out.1.bl hbd, (Hb.out.2.mono (fun g h1 h2 => ⟨h1, by omega⟩)).keep (fun g h1 h2 => Below.block hbd g h2) hbd.size (Kx.bl hbd), by rw [hwd, hT]; exact new_at _ _, by omega, by omega, fun k hk => ?_⟩
                have := (Hb.out.1.own.block k hk).2
                omega
              have cN := name_es wd P s.size _ Hd.out.1.es Hd.out.1.ml
              clear ha cA hbd Hb
              go_upto_region 10 with fail
              change Code.wp _ _ _ _ (wb.alloc (.cells (clT ⟨[], a, none, 0, 0⟩).toArray 28))
              rw [← hwd, ← hT]
              clear hwd hT
              go_wp2_with fail
              refine cN.mono ?_
              rintro e we ⟨rfl, hE, hg⟩
              obtain ⟨V, hV⟩ : ∃ V, V = tx (seeT s.size (mu s.size wStruct (.ok (t :: r)))) := ⟨_, rfl⟩
              rw [← hV]
              have He : Hid (Bz W we P s.size (nmS s.size (mu s.size wStruct (.ok (t :: r)))) base (.slice lp m lc) cs ∧ RepZ W we (.slice lp m lc) T l cs ∧ we.heap[T]? = some (.cells (clT ⟨[], a, none, 0, 0⟩).toArray 28 (0, 0))) := ⟨Hd.out.1.go hE hg, RepZ.go Hd.out.2.1 hg HF.out.2.2.2.2.2 (Hd.out.1.es.kx hg), by rw [hg.block T (lt_of_heap Hd.out.2.2.1) (by have := Hd.out.2.2.2.2.1; omega)]; exact Hd.out.2.2.1⟩
              have y0 : we.cell? ⟨T, 0, none⟩ = some (.string (tx [])) := by rw [cell_of He.out.2.2]; rfl
              have yz : we.frozen? ⟨T, 0, none⟩ = false := by simp [World.frozen?, He.out.2.2]
              have hTs := lt_of_heap He.out.2.2
              obtain ⟨wf, hwf⟩ : ∃ wf, wf = we.setCell ⟨T, 0, none⟩ (.string V) := ⟨_, rfl⟩
              have Hf : Hid (Bz W wf P s.size (nmS s.size (mu s.size wStruct (.ok (t :: r)))) base (.slice lp m lc) cs ∧ RepZ W wf (.slice lp m lc) T l cs ∧ wf.heap[T]? = some (.cells (clT ⟨seeT s.size (mu s.size wStruct (.ok (t :: r))), a, none, 0, 0⟩).toArray 28 (0, 0))) := by
                have hgs := grown_set we T 0 (.string V)
                have hTT := lt_of_heap He.out.2.2
                rw [hwf]
                refine ⟨He.out.1.put Hd.out.2.2.2.1 (fun k hk => by have := Hd.out.2.2.2.2.2 k hk; omega), He.out.2.1.keep (fun g h1 h2 => hgs.block g h2 (fun e => by injection e with e; omega)) hgs.size ?_, ?_⟩
                · exact fun b cs' hb => by
                    rw [hgs.block b (lt_of_heap hb) (fun e => by injection e with e; subst e; rw [He.out.2.2] at hb; simp at hb)]
                    exact hb
                · rw [hV]
                  simp [World.setCell, Array.getElem?_modify, He.out.2.2, clT]
              have cB := block_es 8 wf P s.size 1 (nmS s.size (mu s.size wStruct (.ok (t :: r)))) (by omega) Hf.out.1.es Hf.out.1.ml Hf.out.1.ord.1
              clear hE hg cN hV
              go_upto_region 11 with fail
              rw [← hwf]
              clear hwf y0 yz hTs He
              go_wp2_with fail
              refine cB.mono ?_
              rintro e wg ⟨⟨bp, bn, bc, rfl, hl⟩, hE, hg⟩
              have Hg : Hid (Bz W wg P s.size (bkS 8 s.size (nmS s.size (mu s.size wStruct (.ok (t :: r))))) base (.slice lp m lc) cs ∧ RepZ W wg (.slice lp m lc) T l cs ∧ wg.heap[T]? = some (.cells (clT ⟨seeT s.size (mu s.size wStruct (.ok (t :: r))), a, none, 0, 0⟩).toArray 28 (0, 0)) ∧ (∀ ts l rr, (nmS s.size (mu s.size wStruct (.ok (t :: r)))) = .ok ts → blk nb s.size 8 ts = .ok (l, rr) → LV wf.heap.size wg (.slice bp bn bc) l)) := ⟨Hf.out.1.go hE hg, RepZ.go Hf.out.2.1 hg HF.out.2.2.2.2.2 (Hf.out.1.es.kx hg), by rw [hg.block T (lt_of_heap Hf.out.2.2) (by have := Hd.out.2.2.2.2.1; omega)]; exact Hf.out.2.2, hl⟩
              have y2 : wg.cell? ⟨T, 2, none⟩ = some (.slice none 0 0) := by rw [cell_of Hg.out.2.2.1]; rfl
              have yz : wg.frozen? ⟨T, 2, none⟩ = false := by simp [World.frozen?, Hg.out.2.2.1]
              have hTs := lt_of_heap Hg.out.2.2.1
              obtain ⟨wh, hwh⟩ : ∃ wh, wh = wg.setCell ⟨T, 2, none⟩ (.slice bp bn bc) := ⟨_, rfl⟩
              obtain ⟨c, hc⟩ : ∃ c : CT, c = ⟨seeT s.size (mu s.size wStruct (.ok (t :: r))), a, bp, bn, bc⟩ := ⟨_, rfl⟩
              have Hh : Hid (Bz W wh P s.size (bkS 8 s.size (nmS s.size (mu s.size wStruct (.ok (t :: r))))) base (.slice lp m lc) cs ∧ RepZ W wh (.slice lp m lc) T l cs ∧ wh.heap[T]? = some (.cells (clT c).toArray 28 (0, 0)) ∧ (∀ ts l rr, (nmS s.size (mu s.size wStruct (.ok (t :: r)))) = .ok ts → blk nb s.size 8 ts = .ok (l, rr) → LV wf.heap.size wh (.slice bp bn bc) l) ∧ c = ⟨seeT s.size (mu s.size wStruct (.ok (t :: r))), a, bp, bn, bc⟩ ∧ T < wf.heap.size ∧ W.heap.size ≤ wf.heap.size) := by
                have hgs := grown_set wg T 2 (.slice bp bn bc)
                have hTf := lt_of_heap Hf.out.2.2
                have hkx : Kx wg (wg.setCell ⟨T, 2, none⟩ (.slice bp bn bc)) := fun b cs' hb => by
                  rw [hgs.block b (lt_of_heap hb) (fun e => by injection e with e; subst e; rw [Hg.out.2.2.1] at hb; simp at hb)]
                  exact hb
                rw [hwh, hc]
                refine ⟨Hg.out.1.put Hd.out.2.2.2.1 (fun k hk => by have := Hd.out.2.2.2.2.2 k hk; omega), Hg.out.2.1.keep (fun g h1 h2 => hgs.block g h2 (fun e => by injection e with e; omega)) hgs.size hkx, ?_, fun ts l r h1 h2 => ?_, rfl, hTf, Hf.out.1.gp.size⟩
                · simp [World.setCell, Array.getElem?_modify, Hg.out.2.2.1, clT]
                · obtain ⟨p, c, cs, k1, k2, k3⟩ := Hg.out.2.2.2 ts l r h1 h2
                  exact ⟨p, c, cs, k1, k2.keep (fun g h1 h2 => hgs.block g h2 (fun e => by injection e with e; omega)) hgs.size, k3.keep (fun g h1 h2 => hgs.block g h2 (fun e => by injection e with e; omega)) hgs.size hkx⟩
              clear hE hg cB hl hc
              go_upto_region 12 with fail
              rw [← hwh]
              clear hwh y2 yz hTs
              have y0 : wh.cell? ⟨T, 0, none⟩ = some (.string (tx c.nm)) := by rw [cell_of Hh.out.2.2.1]; rfl
              have y1 : wh.cell? ⟨T, 1, none⟩ = some (.int .i64 (c.a : Int)) := by rw [cell_of Hh.out.2.2.1]; rfl
              have y2 : wh.cell? ⟨T, 2, none⟩ = some (.slice c.p c.n c.c) := by rw [cell_of Hh.out.2.2.1]; rfl
              have hTs := lt_of_heap Hh.out.2.2.1
              obtain ⟨wi, hwi⟩ : ∃ wi, wi = wh.alloc (.cells (clT c).toArray 28) := ⟨_, rfl⟩
              have hbi : Bl wh wi := by rw [hwi]; exact (Bl.refl _).alloc _
              obtain ⟨X, hX⟩ : ∃ X, X = wh.heap.size := ⟨_, rfl⟩
              have hXi : wi.heap[X]? = some (.cells (clT c).toArray 28 (0, 0)) := by rw [hwi, hX]; exact new_at _ _
              have hown := Hh.out.1.own.bl hbi
              have hcells : ∀ j u, (clT c)[j]? = some u → wi.cell? ((⟨X, 0, none⟩ : Addr).add j) = some u := fun j u hu => by
                rw [Addr.add_lit, Nat.zero_add, cell_of hXi]; simpa using hu
              have hbw : base ≤ wi.heap.size := Nat.le_trans Hh.out.1.ord.2.2.2 hbi.size
              have hcs8 : cs.length ≤ 8 := by have := HL.out.2; omega
              obtain ⟨v', wj, hr, hoj, hgj⟩ := sr.app_one wi base (.slice lp m lc) cs c ⟨X, 0, none⟩ hown hcells (by omega) hbw
              have hwhere := sr_where wi base (.slice lp m lc) cs c ⟨X, 0, none⟩ hown hcells (by omega) v' wj hr
              have HJ : Hid (∃ σ' l' n', Bz W wj P s.size σ' base v' (cs ++ [c]) ∧ LfT s.size q σ' l' n' ∧ (∀ ts, σ' = .ok ts → RepY W wj v' l' (cs ++ [c])) ∧ (∀ ts, σ' = .ok ts → n' + (cs ++ [c]).length = 8)) := by
                have hB := Hh.out.1.app hwi hoj hgj
                rcases HB.out.2.1.on (fun h1 h2 => HNF.out ⟨h1, h2⟩) HA.out with ⟨x, q1, q2⟩ | ⟨us, r1, it, r2, q1, q2, q3, q4, q5⟩
                · rw [q2] at hB
                  exact ⟨.error x, l, 0, hB, q1, fun ts h => (by cases h), fun ts h => (by cases h)⟩
                · have hB2 := Hh.out.1
                  rw [q4] at hB hB2
                  have q6 : nmS s.size (mu s.size wStruct (.ok (t :: r))) = .ok r1 := by rw [q1]; exact q2
                  obtain ⟨bp', bc', cs2, k1, k2, k3⟩ := Hh.out.2.2.2.1 r1 it r2 q6 q3
                  injection k1 with k1 k4 k5
                  subst k1 k4 k5
                  have hce := Hh.out.2.2.2.2.1
                  refine ⟨.ok r2, _, n - 1, hB, q5, fun ts h => ?_, fun ts h => ?_⟩
                  · have := RepZ.app (c := c) (it := it) (M := wf.heap.size) hB2 Hh.out.2.1 (by rw [hce]; exact ⟨cs2, k2, k3⟩) Hh.out.2.2.2.2.2.2 (fun k hk => by have := Hd.out.2.2.2.2.2 k hk; have := Hh.out.2.2.2.2.2.1; omega) (Nat.le_of_lt (lt_of_heap Hh.out.2.2.1)) hwi hgj hwhere
                    rw [show c.nm = (hd s.size us).t by rw [hce, q1]; rfl, show c.a = a by rw [hce]] at this
                    exact this
                  · have h0 : n ≠ 0 := fun h0 => by
                      have h5 := q1
                      have h6 : t.t = wStruct := by
                        have h7 : want s.size wStruct (t :: r) = .ok us := h5
                        unfold want at h7
                        split at h7
                        · assumption
                        · cases h7
                      exact HNF.out ⟨h6, h0⟩
                    rw [List.length_append, ← HL.out.2]
                    show n - 1 + (m + 1) = 8
                    omega
              have HV : Hid (lenV' v' = m + 1 ∧ m ≤ 8) := by
                obtain ⟨p8, c8, hv8, _⟩ := hoj.lie
                refine ⟨?_, by have := HL.out.2; omega⟩
                rw [hv8]
                show (cs ++ [c]).length = m + 1
                rw [List.length_append, ← HL.out.2]; rfl
              have HRn : Hid _ := hr
              have hcl : (clT c).toArray = #[.string (tx c.nm), .int .i64 (c.a : Int), .slice c.p c.n c.c] := rfl
              rw [hcl] at hwi
              have hwi' := hwi.symm
              have hX' : wh.heap.size = X := hX.symm
              clear hcl hwi hX hbi hXi hown hcells hbw hr hoj hgj hwhere hcs8 hn
              go_wp2_with (at_builtin; refine Lib.wpList_append_run _ rfl (.tmp 51) (.tmp 53) _ _ rfl _ _ rfl rfl _ _ HRn.out ?_)
              obtain ⟨σ', l', n', h1, h2, h3, h4⟩ := HJ.out
              refine ⟨⟨σ', cs ++ [c], l', n', h1, h2, h3, h4⟩, ?_⟩
              rw [HV.out.1]
              show 9 - (m + 1) < 9 - m
              have := HV.out.2
              omega

  · have hF := Fl.made (c := 3) (p := (p : Int)) hb2
    have HP : Hid (prT (L s) = .error (3, p)) := by show prT (L s) = _; unfold prT; rw [h1]
    obtain ⟨W, hW⟩ : ∃ W, W = w2.alloc (.cells #[.int .i64 3, .int .i64 (p : Int)] 32) := ⟨_, rfl⟩
    obtain ⟨M, hM⟩ : ∃ M, M = w.heap.size := ⟨_, rfl⟩
    obtain ⟨N, hN⟩ : ∃ N, N = w2.heap.size := ⟨_, rfl⟩
    rw [← hW, ← hM, ← hN] at hF
    have HF : Hid (Fl w W M N 3 (p : Int)) := hF
    unfold flt
    clear hF h1 cX hb2
    go_wp2_with fail
    rw [← hW, ← hM, ← hN]
    clear hW hM hN
    refine (Is_at 3 (p : Int) W).mono ?_
    rintro e w3 ⟨rfl, hb3⟩
    have HF3 : Hid (Fl w w3 M N 3 (p : Int)) := HF.out.step hb3
    obtain ⟨g0, g1, m0, m1, z0, z1, hMs, hNs⟩ := HF3.out.cells
    clear hb3
    have h00 : ((3 : Int) == 0) = false := rfl
    rw [h00]
    go_upto_region 3 with fail
    go_region
    go_wp2
    obtain ⟨k1, k2⟩ := HF3.out.told 3 (p : Int)
    exact bodyPost_ret (v := .tuple #[.slice none 0 0, flt 3 (p : Int)]) (results_tmp_cell (p := 3) (u := 2) (ty := 32) rfl _ _ _ M (flt 3 (p : Int)) rfl (ldF _ _ _ _ k2)) rfl (RtA.bad (k1.trans ((Bl.refl _).drew)) HP.out (by decide))
end Go.Proofs.Ytpanodaecjlgaaa.tr
/- The document's reader at a text that is too long. -/
namespace Go.Proofs.Ytpanodaecjlgaaa.ex
set_option linter.unusedVariables false
open Go.ChangeShapes Go.WideShapes Go.ChangeAt Go.RowKit
open mem lx

theorem eyes_far {w W w6 : World} {M N : Nat} {c p : Int} {o : Obj} (hF : Fl w W M N c p) (h6 : Bl W w6) (hM : M = w.heap.size) :
    Bl w (((w6.setCell ⟨M, 0, none⟩ (.int .i64 c)).setCell ⟨M, 1, none⟩ (.int .i64 p)).alloc o) ∧
    (((w6.setCell ⟨M, 0, none⟩ (.int .i64 c)).setCell ⟨M, 1, none⟩ (.int .i64 p)).alloc o).heap[M]? = some (.cells #[.int .i64 c, .int .i64 p] 32 (0, 0)) ∧
    w.heap.size ≤ w6.heap.size := by
  have hF6 := hF.step h6
  have hset := upd2 w6 M _ _ (.int .i64 c) (.int .i64 p) _ hF6.m
  have hgp : Gp M w6 ((w6.setCell ⟨M, 0, none⟩ (.int .i64 c)).setCell ⟨M, 1, none⟩ (.int .i64 p)) := (Gp.set _).trans (Gp.set _)
  have hbs : Bl w ((w6.setCell ⟨M, 0, none⟩ (.int .i64 c)).setCell ⟨M, 1, none⟩ (.int .i64 p)) := Gp.below hF6.bl hgp (by omega)
  generalize ((w6.setCell ⟨M, 0, none⟩ (.int .i64 c)).setCell ⟨M, 1, none⟩ (.int .i64 p)) = X at *
  have hX : Bl X (X.alloc o) := (Bl.refl _).alloc _
  exact ⟨hbs.trans hX, by rw [Below.block hX M (lt_of_heap hset)]; exact hset, hF6.bl.size⟩
set_option maxRecDepth 10000 in
set_option maxHeartbeats 2000000 in
theorem newEyes_long (s : ByteArray) (w : World) (hs : 3000 < s.size) :
    Calls Try.prog 13 #[.string s] w fun e w' => Bl w w' ∧ ∃ P, w.heap.size ≤ P ∧ e = .returned (.tuple #[.pointer (some ⟨P, 0, none⟩), flt 4 (-1)]) := by
  have cX := fun w => refLex_long s w hs
  go_enter Try.func13, Try.ntmps13
  go_wp2_with fail
  refine (cX _).mono ?_
  rintro e w2 ⟨rfl, hb2⟩
  unfold flt
  go_upto_region 2 with fail
  have hF := Fl.made (c := 4) (p := -1) hb2
  obtain ⟨W, hW⟩ : ∃ W, W = (w2.alloc (.cells #[.int .i64 4, .int .i64 (-1)] 32)) := ⟨_, rfl⟩
  rw [← hW] at hF ⊢
  obtain ⟨M, hM⟩ : ∃ M, M = w.heap.size := ⟨_, rfl⟩
  obtain ⟨N, hN⟩ : ∃ N, N = w2.heap.size := ⟨_, rfl⟩
  rw [← hM, ← hN] at hF
  rw [← hM, ← hN]
  have HF : Hid (Fl w W M N 4 (-1) ∧ M = w.heap.size) := ⟨hF, hM⟩
  obtain ⟨g0, g1, m0, m1, z0, z1, hMs, hNs⟩ := hF.cells
  have hMN := hF.ge.2.2
  clear hW hM hN hF hb2 cX
  have cG : ∀ w, Calls Try.prog 21 #[] w fun e w' => e = .returned (.agg #[.int .i64 0, .int .i64 (-1)]) ∧ Bl w w' := Good_at
  go_region_with (go_at_call 21; refine (cG _).mono ?_; rintro e w6 ⟨rfl, hb6⟩; have HB6 : Hid (Bl W w6) := ((Bl.refl W).drew).trans hb6; obtain ⟨q0, q1, q2, q3, y0, y1, hM6, hN6⟩ := (HF.out.1.step HB6.out).cells; clear hb6)
  all_goals
    have HK : Hid _ := eyes_far (o := .cells #[.slice none 0 0, .int .i64 (s.size : Int), .int .i64 0, .int .i64 (-1)] 48) HF.out.1 HB6.out HF.out.2
    clear q0 q1 q2 q3 y0 y1 g0 g1 m0 m1 z0 z1
    go_wp2
    exact bodyPost_ret (v := .tuple #[.pointer (some ⟨w6.heap.size, 0, none⟩), flt 4 (-1)]) (results_tmp_cell (p := 3) (u := 2) (ty := 32) rfl _ _ _ M (flt 4 (-1)) rfl (ldF _ _ _ _ HK.out.2.1)) rfl ⟨HK.out.1, _, HK.out.2.2, rfl⟩
end Go.Proofs.Ytpanodaecjlgaaa.ex
/- The document's reader of templates at a text that is too long. -/
namespace Go.Proofs.Ytpanodaecjlgaaa.tr
set_option linter.unusedVariables false
open Go.ChangeShapes Go.WideShapes Go.ChangeAt Go.RowKit
open mem lx ex tm

set_option maxRecDepth 10000 in
set_option maxHeartbeats 2000000 in
theorem TParse_long (s : ByteArray) (w : World) (hs : 3000 < s.size) :
    Calls Try.prog 7 #[.string s] w fun e w' => e = .returned (.tuple #[(.slice none 0 0), flt 4 (-1)]) ∧ Bl w w' := by
  have cX := fun w => newEyes_long s w hs
  go_enter Try.func7, Try.ntmps7
  go_wp2_with fail
  refine (cX _).mono ?_
  rintro e w2 ⟨hb2, P, hP, rfl⟩
  have hF := Fl.made (c := 4) (p := -1) hb2
  obtain ⟨W, hW⟩ : ∃ W, W = w2.alloc (.cells #[.int .i64 4, .int .i64 (-1)] 32) := ⟨_, rfl⟩
  obtain ⟨M, hM⟩ : ∃ M, M = w.heap.size := ⟨_, rfl⟩
  obtain ⟨N, hN⟩ : ∃ N, N = w2.heap.size := ⟨_, rfl⟩
  rw [← hW, ← hM, ← hN] at hF
  have HF : Hid (Fl w W M N 4 (-1)) := hF
  unfold flt
  clear hF hP cX hb2
  go_wp2_with fail
  rw [← hW, ← hM, ← hN]
  clear hW hM hN
  refine (Is_at 4 (-1) W).mono ?_
  rintro e w3 ⟨rfl, hb3⟩
  have HF3 : Hid (Fl w w3 M N 4 (-1)) := HF.out.step hb3
  obtain ⟨g0, g1, m0, m1, z0, z1, hMs, hNs⟩ := HF3.out.cells
  clear hb3
  have h00 : ((4 : Int) == 0) = false := rfl
  rw [h00]
  go_upto_region 3 with fail
  go_region
  go_wp2
  obtain ⟨k1, k2⟩ := HF3.out.told 4 (-1)
  exact bodyPost_ret (v := .tuple #[(.slice none 0 0), flt 4 (-1)]) (results_tmp_cell (p := 3) (u := 2) (ty := 32) rfl _ _ _ M (flt 4 (-1)) rfl (ldF _ _ _ _ k2)) rfl ⟨rfl, k1.trans ((Bl.refl _).drew)⟩
end Go.Proofs.Ytpanodaecjlgaaa.tr
/- In which order rules are done: a block and all within it. -/
namespace Go.Proofs.Ytpanodaecjlgaaa.oq
set_option linter.unusedVariables false
set_option linter.unusedSimpArgs false
open Go.ChangeShapes Go.WideShapes Go.ChangeAt Go.RowKit Go.Shelf Go.Maps
open mem lx ex tm tc

theorem ordC_len (ds : List D) : ∀ (f : Nat) (l : List Nat), (ordC ds f l).length ≤ l.length := by
  intro f
  induction f with
  | zero => intro l; exact Nat.zero_le _
  | succ f ih =>
    intro l
    rw [ordC]
    split
    · exact Nat.zero_le _
    · rename_i i hi
      have hm := List.mem_of_find?_eq_some hi
      have h1 := ih (l.erase i)
      have h2 := List.length_erase_of_mem hm
      have h3 := List.length_pos_of_mem hm
      rw [List.length_cons]
      omega
theorem ordr_len (ds : List D) : (ordr ds).length ≤ 2 * ds.length := by
  rw [ordr_is, List.length_append]
  have h1 := idxs_len (fun d : D => d.ru == 1 || d.ru == 2) ds
  have h2 := ordC_len ds ds.length (lft ds [])
  have h3 := lft_len ds []
  omega
/-- What is asked of a block. -/
def OrdK (k : Nat) : Prop := ∀ (l : Its) (ok : Nat → Prop) (p : Option Addr) (n c : Nat) (cs : List C) (w : World), WI k l → l.len ≤ 16 → n = l.len → ir.Lie w ok p n c cs → Rep w ok l cs →
  Calls Try.prog 5 #[.slice p n c] w fun e w' => e = .returned (.bool true) ∧ Bl w w'
theorem rep_b {w w' : World} {ok : Nat → Prop} {l : Its} {cs : List C} (h : Rep w ok l cs) (hb : Bl w w') : Rep w' ok l cs := h.keep (fun g _ hg => Below.block hb g hg) hb.size (Kx.bl hb)
set_option maxRecDepth 10000 in
set_option maxHeartbeats 4000000 in
theorem ordered_k (k : Nat) (hrec : ∀ k', k' < k → OrdK k') : OrdK k := by
  intro l ok p n c cs w hwi hlen hn hlie hrep
  have hn16 : n ≤ 16 := by omega
  have H0 : Hid (ir.Lie w ok p n c cs ∧ Rep w ok l cs ∧ WI k l ∧ n = l.len) := ⟨hlie, hrep, hwi, hn⟩
  have cA := Order_at cs ok p n c w hlie (by omega)
  have hOk := okr_of hwi hrep
  have cB := fun wx (hb : Bl w wx) => TOrder_at cs ok p n c wx (lie_bl hlie hb) (by omega) hOk
  have hol : (ints (ordr (cs.map C.d))).length ≤ 5000 := by
    rw [ints_len]
    have h1 := ordr_len (cs.map C.d)
    rw [List.length_map, ← hlie.1] at h1
    omega
  clear hlie hrep hwi hn hOk hlen
  go_enter Try.func5, Try.ntmps5
  go_wp2_with fail
  refine cA.mono ?_
  rintro e w2 ⟨v2, rfl, hb2, ho2⟩
  have cB2 := cB w2 hb2
  clear cA cB
  go_wp2_with fail
  refine cB2.mono ?_
  rintro e w3 ⟨v3, rfl, hb3, ho3⟩
  have cS := ri.same_at v2 v3 _ w3 _ _ (ho2.step hb3) ho3 hol
  have HB3 : Hid (Bl w w3) := hb2.trans hb3
  clear cB2 hb2 ho2 hb3 ho3 hol
  go_wp2_with fail
  refine cS.mono ?_
  rintro e w4 ⟨rfl, hb4⟩
  have HB4 : Hid (Bl w w4) := HB3.out.trans hb4
  clear cS hb4
  go_wp2_with fail
  go_loopw [3] (fun i wr => ∃ j : Nat, j ≤ n ∧ i = .int .i64 (j : Int) ∧ Hid (Bl w wr)) (fun i _ => n - (intOf i).toNat)
  case atStart => exact ⟨0, Nat.zero_le _, rfl, HB4.out⟩
  case round =>
    obtain ⟨j, hj, rfl, HB⟩ := hrel
    by_cases hjn : j < n
    · have d1 : decide ((j : Int) < (n : Int)) = true := decide_eq_true (by omega)
      have i0 : (0 : Int) ≤ (j : Int) := by omega
      have i1 : (j : Int) < (n : Int) := by omega
      obtain ⟨x, d, s, e1, e2, e3, e4, cs2, e5, e6⟩ := H0.out.2.1.at j (by have := H0.out.2.2.2; omega)
      subst e3
      obtain ⟨X, hX, _, g0', g⟩ := lie_at (lie_bl H0.out.1 HB.out) j x e1
      subst hX
      have g0 : wr.cell? (X.add (j * 13)) = some (.int .i64 (x.d.kd : Int)) := g0'
      have g12 := g 12 _ rfl
      clear g0' g
      obtain ⟨u1, u2, u3⟩ := H0.out.2.2.1.at j _ _ e2
      by_cases h4 : x.d.kd = 4
      · obtain ⟨z1, z2, z3⟩ := u3 h4
        have hen : x.n = s.len := by rw [e5.1]; exact e6.len.1
        have cR := hrec (k - 1) (by omega) s ok x.p x.n x.c cs2 wr z3 z2 hen (lie_bl e5 HB.out) (rep_b e6 HB.out)
        rw [h4] at g0
        clear e1 e2 e4 e5 e6 u1 u2 u3 z1 z2 z3 h4 hen
        go_wp2_with fail
        refine cR.mono ?_
        rintro e w6 ⟨rfl, hb6⟩
        have HB6 : Hid (Bl w w6) := HB.out.trans hb6
        clear cR hb6 g0 g12
        go_wp2
        go_roundw
        case rel => exact ⟨j + 1, by omega, by go_num, HB6.out⟩
        case measure => simp [intOf]; omega
      · have h4' : ¬ ((x.d.kd : Int) = 4) := by omega
        clear e1 e2 e4 e5 e6 u1 u2 u3 h4
        go_wp2
        go_roundw
        case rel => exact ⟨j + 1, by omega, by go_num, HB.out⟩
        case measure => simp [intOf]; omega
    · obtain rfl : n = j := by omega
      have d1 : decide ((n : Int) < (n : Int)) = false := decide_eq_false (by omega)
      go_wp2
      go_ret
      exact ⟨rfl, HB.out⟩
theorem ordered_at (k : Nat) : OrdK k := by
  induction k using Nat.strongRecOn with
  | ind k ih => exact ordered_k k ih
theorem far_o (s : ByteArray) (w : World) : Calls Try.prog 6 #[.string s] w fun e w' => e = .returned (.bool (decide ((900 < s.size ∧ s.size ≤ 3000) ∨ 3009 < s.size))) ∧ w' = w := by
  go_enter Try.func6, Try.ntmps6
  go_wp2
  all_goals
    go_ret
    refine ⟨ret_bool ?_, rfl⟩
    rw [Bool.eq_iff_iff]
    simp
    try omega
/-- What right answers: templates that are right, or no. -/
def RgA (w : World) (e : Ending) (w' : World) : Prop := Bl w w' ∧ ∃ (v : Value), (e = .returned (.tuple #[v, .bool false]) ∨ ∃ (ok : Nat → Prop) (l : List Ty), e = .returned (.tuple #[v, .bool true]) ∧ IsTs w' ok v l ∧ WT l)
set_option maxRecDepth 10000 in
set_option maxHeartbeats 4000000 in
theorem right_at (a0 : ByteArray) (w : World) (hM : tr.Ml w) (hMw : 0 < w.heap.size) : Calls Try.prog 4 #[.string a0] w fun e w' => RgA w e w' := by
  have cF := far_o a0
  have HG : Hid (tr.Ml w ∧ 0 < w.heap.size) := ⟨hM, hMw⟩
  clear hM hMw
  go_enter Try.func4, Try.ntmps4
  by_cases hf : (900 < a0.size ∧ a0.size ≤ 3000) ∨ 3009 < a0.size
  · rw [decide_eq_true hf] at cF
    go_wp2_with fail
    refine (cF _).mono ?_
    rintro e w2 ⟨rfl, hw⟩
    obtain rfl := hw.symm
    go_wp2
    go_ret2
    exact ⟨Bl.refl _, _, Or.inl rfl⟩
  · rw [decide_eq_false hf] at cF
    go_wp2_with fail
    refine (cF _).mono ?_
    rintro e w2 ⟨rfl, hw⟩
    obtain rfl := hw.symm
    clear cF
    by_cases hl : 3000 < a0.size
    · clear hf
      go_wp2_with fail
      refine (tr.TParse_long a0 _ hl).mono ?_
      rintro e w3 ⟨rfl, hb3⟩
      have HB3 : Hid (Bl w w3) := hb3
      clear hb3
      unfold flt
      go_wp2_with fail
      refine (Is_at 4 (-1) _).mono ?_
      rintro e w4 ⟨rfl, hb4⟩
      have HB4 : Hid (Bl w w4) := HB3.out.trans (fl_cl hb4).2.2.1
      clear hb4
      go_wp2
      go_ret2
      exact ⟨HB4.out, _, Or.inl rfl⟩
    · have hl' : a0.size ≤ 900 := by omega
      clear hf hl
      have cR := tr.TParse_at a0 w (by omega) HG.out.1 HG.out.2
      go_wp2_with fail
      refine cR.mono ?_
      rintro e w3 ⟨hb3, hans⟩
      clear cR
      have HB3 : Hid (Bl w w3) := hb3
      clear hb3
      cases hp : prT (L a0) with
      | error cp =>
        obtain ⟨c, p⟩ := cp
        rw [hp] at hans
        obtain ⟨rfl, hc⟩ := hans
        have hc0 : (c == 0) = false := by rw [beq_eq_false_iff_ne]; exact hc
        clear hp hc
        unfold flt
        go_wp2_with fail
        refine (Is_at c (p : Int) _).mono ?_
        rintro e w4 ⟨rfl, hb4⟩
        have HB4 : Hid (Bl w w4) := HB3.out.trans (fl_cl hb4).2.2.1
        clear hb4
        go_wp2
        go_ret2
        exact ⟨HB4.out, _, Or.inl rfl⟩
      | ok l =>
        rw [hp] at hans
        obtain ⟨v, rfl, hv⟩ := hans
        obtain ⟨hci, hwt, hpl, hl8⟩ := prT_told hp (by rw [L_len]; omega)
        have hzz := prT_z hp (by rw [L_len]; omega)
        have HV : Hid (WT l ∧ ∀ t ∈ l, zI t.l ≤ 4000) := ⟨hwt, fun t ht => by have := hzz t ht; rw [L_len] at this; omega⟩
        obtain ⟨ok, HK⟩ : ∃ ok : Nat → Prop, Hid (IsTs w3 ok v l) := ⟨_, hv⟩
        clear hv hci hwt hpl hl8 hzz hp
        unfold flt
        go_wp2_with fail
        refine (Is_at 0 (-1) _).mono ?_
        rintro e w4 ⟨rfl, hb4⟩
        have HB4 : Hid (Bl w3 w4) := (fl_cl hb4).2.2.1
        have cB := TypesCheck_at l v w4 ok (HK.out.bl HB4.out) HV.out.1 HV.out.2
        clear hb4
        cases hc : chk l with
        | none =>
          rw [hc] at cB
          clear hc
          go_wp2_with fail
          refine cB.mono ?_
          rintro e w6 ⟨rfl, hb6⟩
          have HB6 : Hid (Bl w3 w6) := HB4.out.trans hb6
          rw [show chkV none = .agg #[.int .i64 0, .int .i64 (-1)] from rfl]
          clear hb6 cB
          go_wp2_with fail
          refine (Is_at 0 (-1) _).mono ?_
          rintro e w7 ⟨rfl, hb7⟩
          have HB7 : Hid (Bl w3 w7) := HB6.out.trans hb7
          clear hb7
          go_wp2
          go_ret2
          exact ⟨HB3.out.trans HB7.out, v, Or.inr ⟨ok, l, rfl, HK.out.bl HB7.out, HV.out.1⟩⟩
        | some cp =>
          obtain ⟨c, p⟩ := cp
          rw [hc] at cB
          have hne : (c == 0) = false := by rw [beq_eq_false_iff_ne]; exact chkT_ne0 _ _ _ hc
          clear hc
          go_wp2_with fail
          refine cB.mono ?_
          rintro e w6 ⟨rfl, hb6⟩
          have HB6 : Hid (Bl w3 w6) := HB4.out.trans hb6
          rw [show chkV (some (c, p)) = .agg #[.int .i64 c, .int .i64 (p : Int)] from rfl]
          clear hb6 cB
          go_wp2_with fail
          refine (Is_at c (p : Int) _).mono ?_
          rintro e w7 ⟨rfl, hb7⟩
          have HB7 : Hid (Bl w3 w7) := HB6.out.trans hb7
          clear hb7
          go_wp2
          go_ret2
          exact ⟨HB3.out.trans HB7.out, v, Or.inl rfl⟩
set_option maxRecDepth 10000 in
set_option maxHeartbeats 4000000 in
theorem orders_at (a0 : ByteArray) (w : World) (hM : tr.Ml w) (hMw : 0 < w.heap.size) : Calls Try.prog 3 #[.string a0] w fun e w' => e = .returned (.bool true) ∧ Bl w w' := by
  have cR := right_at a0 w hM hMw
  clear hM hMw
  go_enter Try.func3, Try.ntmps3
  go_wp2_with fail
  refine cR.mono ?_
  rintro e w2 ⟨hb2, v, rfl | ⟨ok, l, rfl, hv, hw⟩⟩
  · have HB2 : Hid (Bl w w2) := hb2
    clear cR hb2
    go_wp2_with fail
    go_loopw [5] (fun i wr => i = .int .i64 0 ∧ wr = w2) (fun _ _ => 0)
    case atStart => exact ⟨rfl, rfl⟩
    case round =>
      obtain ⟨rfl, rfl⟩ := hrel
      go_wp2
      go_ret
      exact ⟨rfl, HB2.out⟩
  · obtain ⟨p, c, cs, rfl, hv2, hv3⟩ := hv
    obtain ⟨n, hn⟩ : ∃ n, n = l.length := ⟨_, rfl⟩
    have hn8 : n ≤ 8 := by rw [hn]; exact hw.1
    have H2 : Hid (Bl w w2 ∧ sr.Lie w2 ok p l.length c cs ∧ RepT w2 ok l cs ∧ WT l ∧ n = l.length) := ⟨hb2, hv2, hv3, hw, hn⟩
    rw [← hn]
    clear cR hb2 hv2 hv3 hw hn
    go_wp2_with fail
    go_loopw [5] (fun i wr => ∃ j : Nat, j ≤ n ∧ i = .int .i64 (j : Int) ∧ Hid (Bl w2 wr)) (fun i _ => n - (intOf i).toNat)
    case atStart => exact ⟨0, Nat.zero_le _, rfl, Bl.refl _⟩
    case round =>
      obtain ⟨j, hj, rfl, HB⟩ := hrel
      by_cases hjn : j < n
      · have d1 : decide ((j : Int) < (n : Int)) = true := decide_eq_true (by omega)
        have i0 : (0 : Int) ≤ (j : Int) := by omega
        have i1 : (j : Int) < (n : Int) := by omega
        obtain ⟨x, t, e1, e2, e3, e4, cs2, e5, e6⟩ := H2.out.2.2.1.at j (by have := H2.out.2.2.2.2; omega)
        obtain ⟨t1, t2, t3⟩ := H2.out.2.2.2.1.2 t (List.mem_of_getElem? e2)
        have hls : sr.Lie wr ok p l.length c cs := H2.out.2.1.keep (fun g _ hg => Below.block HB.out g hg) HB.out.size
        obtain ⟨X, hX, _, g0', g⟩ := lieT_at hls j x e1
        subst hX
        have g2 := g 2 _ rfl
        have hxn : x.n = t.l.len := by rw [e5.1]; exact e6.len.1
        have cO := ordered_at 7 t.l ok x.p x.n x.c cs2 wr t3 t2 hxn (lie_bl e5 HB.out) (rep_b e6 HB.out)
        clear g0' g e1 e2 e3 e4 e5 e6 t1 t2 t3 hls hxn
        go_wp2_with fail
        refine cO.mono ?_
        rintro e w6 ⟨rfl, hb6⟩
        have HB6 : Hid (Bl w2 w6) := HB.out.trans hb6
        clear cO hb6
        go_wp2
        go_roundw
        case rel => exact ⟨j + 1, by omega, by go_num, HB6.out⟩
        case measure => simp [intOf]; omega
      · have d1 : decide ((j : Int) < (n : Int)) = false := decide_eq_false (by omega)
        go_wp2
        go_ret
        exact ⟨rfl, H2.out.1.trans HB.out⟩
end Go.Proofs.Ytpanodaecjlgaaa.oq
