/- Texts laid together: LrJ, LrL, LrM, Tc1, Tc2. -/
import Derived.Test.YtococaecjecjgaaGreatDoorXLayoutReads32
import Derived.Test.YtococaecjecjgaaGreatDoorXLayoutReads17
import Derived.Test.YtococaecjecjgaaGreatDoorXLayoutReads30
import Derived.Test.YtococaecjecjgaaGreatDoorXLayoutReads27
import Derived.Deep.RegionHeld3
import Derived.Test.YtococaecjecjgaaGreatDoorXLayoutReads25
import Derived.Test.YtococaecjecjgaaGreatDoorXLayoutReads20
namespace Go.Proofs.YtococaecjecjgaaGreatDoor.ly
set_option linter.unusedVariables false
set_option linter.unusedSimpArgs false
open Go.ChangeShapes Go.WideShapes Go.ChangeAt Go.RowKit
open mem lx ex tm num

attribute [local go_sem] World.cell?_alloc_some
set_option maxRecDepth 10000 in
set_option maxHeartbeats 16000000 in
theorem vblk_succ (s : ByteArray) (l : List Ty) (hl : LK l) (f : Nat) (hB : VBlk s l f) : VBlk s l (f + 1) := by
  intro w P m2 st i p n c csI en en' k0 earl names seen n2 h hoki hli hre hom hk0 hPm hag hsn hch hea hf hk4 hr
  obtain ⟨q, hq⟩ : ∃ q, q = rdB (L s) l (f + 1) i en st := ⟨_, rfl⟩
  rw [← hq]
  obtain ⟨M, hM⟩ : ∃ M, M = w.heap.size := ⟨_, rfl⟩
  have hn : n = csI.length := hli.1
  have hn16 : n ≤ 16 := by have := (hre.len).1; have := hoki.len; omega
  have H0 : Hid (Bkv w w P m2 M s l st.1 st (0, -1) p n c csI 0 none 0 0 [] .nil ∧ Bg w P m2 s l f earl names en' st.2 q .nil csI 0 st (0, -1)) :=
    ⟨⟨Gq.refl _ _ _, h, hli, Gn.nil _ _ _, rfl, Nat.le_refl _, Nat.le_refl _, hPm, by rw [hM]; exact Om.blt hom, hM, by rw [hM]; exact Nat.le_refl _⟩, Or.inl ⟨rfl, Nat.le_refl _, hk4, i, en, en', k0, names, seen, by rw [List.drop_zero]; exact hre, hoki, hom, hk0, by rw [preN_nil, hq]; rfl, hag, hsn, fun y hy => ⟨hy, rfl⟩, ⟨n2, hch⟩, hr⟩⟩
  have HB : Hid (VBlk s l f ∧ LK l ∧ 400 ≤ st.2 + f ∧ n = csI.length ∧ ∀ y ∈ earl, fnd l y ≠ none) := ⟨hB, hl, by omega, hn, hea⟩
  clear hq hr hM h hoki hli hre hom hk0 hPm hf hB hl hn hag hsn hch hea hk4
  go_enter Tryz.func50, Tryz.ntmps50
  go_wp2
  go_loopw [7, 15] (fun v7 v15 wr => ∃ (j m : Nat) (p' : Option Addr) (lc : Nat) (cs : List CN) (ks : Nds) (st' : St) (b : Er), v7 = .slice p' m lc ∧ v15 = .int .i64 (j : Int) ∧ j ≤ n ∧ Hid (Bkv w wr P m2 M s l st.1 st' b p n c csI j p' m lc cs ks ∧ Bg wr P m2 s l f earl names en' st.2 q ks csI j st' b)) (fun _ v15 _ => n - (intOf v15).toNat)
  case atStart => exact ⟨0, 0, none, 0, [], .nil, st, (0, -1), rfl, rfl, Nat.zero_le _, H0.out.1, H0.out.2⟩
  case round =>
    obtain ⟨j, m, p', lc, cs, ks, st', b, rfl, rfl, hj, HM⟩ := hrel
    by_cases hlt : j < n
    · obtain ⟨c1, hc1⟩ : ∃ c1, csI[j]? = some c1 := by
        have : j < csI.length := by have := HB.out.2.2.2.1; omega
        exact ⟨_, List.getElem?_eq_getElem this⟩
      obtain ⟨hnn, hnc, hlc⟩ := HM.out.1.li
      obtain ⟨g, rfl, hgm, hgs, hcell⟩ : ∃ g, p = some ⟨g, 0, none⟩ ∧ g < P ∧ g < wr.heap.size ∧ ∀ j u, (ir.rowE csI)[j]? = some u → wr.cell? ⟨g, j, none⟩ = some u := by
        rcases hlc with hlc | hlc
        · rw [hlc] at hc1; cases hc1
        · exact hlc
      have hcj : ∀ i u, (tm.cl c1)[i]? = some u → wr.cell? ⟨g, j * 13 + i, none⟩ = some u := fun i u hu => by
        have hi : i < 13 := by
          have := (List.getElem?_eq_some_iff.1 hu).1
          rw [ir.cl_len] at this
          exact this
        obtain ⟨hjl, e⟩ := List.getElem?_eq_some_iff.1 hc1
        exact hcell _ _ (by rw [ir.rowE_get csI j hjl i hi, e]; exact hu)
      have f0 : wr.cell? ⟨g, j * 13, none⟩ = some (.int .i64 (c1.d.kd : Int)) := hcj 0 _ rfl
      have f1 : wr.cell? ⟨g, j * 13 + 1, none⟩ = some (.int .i64 (c1.d.at_ : Int)) := hcj 1 _ rfl
      have f2 : wr.cell? ⟨g, j * 13 + 2, none⟩ = some (.string (tx c1.d.nm)) := hcj 2 _ rfl
      have f3 : wr.cell? ⟨g, j * 13 + 3, none⟩ = some (.string (tx c1.d.ty)) := hcj 3 _ rfl
      have f4 : wr.cell? ⟨g, j * 13 + 4, none⟩ = some (.int .i64 (c1.d.wd : Int)) := hcj 4 _ rfl
      have f5 : wr.cell? ⟨g, j * 13 + 5, none⟩ = some (.int .i64 (c1.d.od : Int)) := hcj 5 _ rfl
      have f6 : wr.cell? ⟨g, j * 13 + 6, none⟩ = some (.bool c1.d.sg) := hcj 6 _ rfl
      have f7 : wr.cell? ⟨g, j * 13 + 7, none⟩ = some (.bool c1.d.mn) := hcj 7 _ rfl
      have f8 : wr.cell? ⟨g, j * 13 + 8, none⟩ = some (.pointer c1.pc) := hcj 8 _ rfl
      have f9 : wr.cell? ⟨g, j * 13 + 9, none⟩ = some (.int .i64 (c1.d.ru : Int)) := hcj 9 _ rfl
      have f10 : wr.cell? ⟨g, j * 13 + 10, none⟩ = some (.string (tx c1.d.f1)) := hcj 10 _ rfl
      have f11 : wr.cell? ⟨g, j * 13 + 11, none⟩ = some (.string (tx c1.d.l1)) := hcj 11 _ rfl
      have f12 : wr.cell? ⟨g, j * 13 + 12, none⟩ = some (.slice c1.p c1.n c1.c) := hcj 12 _ rfl
      obtain ⟨w3, hw3⟩ : ∃ w3, w3 = wr.alloc (.cells #[.int .i64 (c1.d.kd : Int), .int .i64 (c1.d.at_ : Int), .string (tx c1.d.nm), .string (tx c1.d.ty), .int .i64 (c1.d.wd : Int), .int .i64 (c1.d.od : Int), .bool c1.d.sg, .bool c1.d.mn, .pointer c1.pc, .int .i64 (c1.d.ru : Int), .string (tx c1.d.f1), .string (tx c1.d.l1), .slice c1.p c1.n c1.c] 60) := ⟨_, rfl⟩
      obtain ⟨Xb, hXb⟩ : ∃ Xb, Xb = wr.heap.size := ⟨_, rfl⟩
      have hb3 : Bl wr w3 := by rw [hw3]; exact (Bl.refl _).alloc _
      have hI3 : Iv w3 Xb c1 := by rw [hw3, hXb]; exact Iv.new wr c1
      have H3 : Hid (Bkv w w3 P m2 M s l st.1 st' b (some ⟨g, 0, none⟩) n c csI j p' m lc cs ks ∧ Iv w3 Xb c1 ∧ Bl wr w3 ∧ Xb = wr.heap.size ∧ csI[j]? = some c1 ∧ j < 16) := ⟨HM.out.1.bl hb3, hI3, hb3, hXb, hc1, by omega⟩
      obtain ⟨d1, d2, d3, d4, d5, dz⟩ := H3.out.1.vw.cells
      have hP3 := H3.out.1.vw.lt'
      have cI := Is_at b.1 b.2
      have hj1 : (0 : Int) ≤ (j : Int) := by omega
      have hj2 : (j : Int) < (n : Int) := by omega
      have hju : decide ((j : Int) < (n : Int)) = true := decide_eq_true hj2
      clear hnn hc1 hnc hlc hcell hcj hgm hb3 hI3 d1 d2 d3 dz
      go_upto_region 5 with fail
      rw [← hw3, ← hXb]
      clear hw3 hXb f0 f1 f2 f3 f4 f5 f6 f7 f8 f9 f10 f11 f12
      go_wp2_with fail
      refine (cI _).mono ?_
      rintro e w4 ⟨rfl, hb4⟩
      have H4 : Hid (Bkv w w4 P m2 M s l st.1 st' b (some ⟨g, 0, none⟩) n c csI j p' m lc cs ks ∧ Iv w4 Xb c1 ∧ Bl wr w4) := ⟨H3.out.1.bl hb4, H3.out.2.1.bl hb4, H3.out.2.2.1.trans hb4⟩
      clear hb4 cI d4 d5
      rcases HM.out.2 with ⟨rfl, hks, hk400, rest, en1, en2, k1, names1, seen1, hre1, hoki1, hom1, hk1, hpre, hag1, hsn1, hnm0, ⟨n3, hch1⟩, hr1⟩ | ⟨hbn, hqb⟩
      rotate_left
      · have hb0 : (b.1 == 0) = false := by rw [beq_eq_false_iff_ne]; exact hbn
        have HQ : Hid (b.1 ≠ 0 ∧ q = .error b) := ⟨hbn, hqb⟩
        clear hbn hqb
        go_wp2
        go_ret
        have hK := H4.out.1
        exact ⟨hK.gq, none, 0, .nil, st', b, rfl, IsNs.none _ _, hK.vw, hK.a, by rw [HQ.out.2]; exact ⟨rfl, HQ.out.1⟩, fun h => absurd h HQ.out.1⟩
      · have hdr : csI.drop j = c1 :: csI.drop (j + 1) := by
          obtain ⟨hjl, e⟩ := List.getElem?_eq_some_iff.1 H3.out.2.2.2.2.1
          rw [List.drop_eq_getElem_cons hjl, e]
        rw [hdr] at hre1
        cases rest with
        | nil => cases hre1
        | cons d sub t =>
          obtain ⟨c1', r, e, hcd, hio, hsub, hrr⟩ := hre1
          injection e with e1 e2
          subst e1 e2
          subst hcd
          obtain ⟨hwd, hokt, hoks⟩ := hoki1.hd
          have hcons := chkI_cons hch1
          have hmis : misO seen1 c1.d.ct = none := hcons.elim (fun h => h.2.1) (fun h => h.2.2.2.1)
          have h3k : c1.d.kd = 3 → fnd l c1.d.ty ≠ none := fun e => by
            rcases hcons with g | g
            · omega
            · exact HB.out.2.2.2.2 _ (g.2.2.1 e)
          have h4k : c1.d.kd = 4 → ∃ n1, chkI earl sub names1 seen1 = .ok n1 := fun e => by
            rcases hcons with g | g
            · obtain ⟨_, _, n1, g1, _⟩ := g; exact ⟨n1, g1⟩
            · exact absurd e g.1
          have HI : Hid (WD c1.d ∧ OKI t ∧ (c1.d.kd = 4 → OKI sub) ∧ Om wr m2 en2 k1 ∧ k1 ≤ st'.2 ∧ st.2 ≤ st'.2 ∧ st'.2 ≤ 400 ∧ preN ks (blk (L s) l (rdB (L s) l f) (.cons c1.d sub t) en1 st') = q ∧ Rep wr (fun g => g < P) t (csI.drop (j + 1)) ∧ ItL w4 (fun g => g < P) c1 sub) :=
            ⟨hwd, hokt, hoks, hom1, hk1, hks, hk400, hpre, hrr, ItL.bl ⟨hio, hsub⟩ H4.out.2.2⟩
          have HE : Hid ((∀ y ∈ seen1, en2 y = en1 y) ∧ (∀ y ∈ seen1, y ∈ names1) ∧ (∀ y ∈ names, y ∈ names1 ∧ en2 y = en' y) ∧ chkI earl (.cons c1.d sub t) names1 seen1 = .ok n3 ∧ misO seen1 c1.d.ct = none ∧ (c1.d.kd = 3 → fnd l c1.d.ty ≠ none) ∧ (c1.d.kd = 4 → ∃ n1, chkI earl sub names1 seen1 = .ok n1)) := ⟨hag1, hsn1, hnm0, hch1, hmis, h3k, h4k⟩
          have HRR : Hid (∀ t n, en1 t = some n → R64 n) := hr1
          clear hr1 hdr hio hsub hrr hwd hokt hoks hom1 hk1 hks hk400 hpre hag1 hsn1 hnm0 hch1 hmis h3k h4k hcons hoki1
          obtain ⟨x0, x1, x2, x3, x4, x5, x6, x7, x8, x9, x10, x11, x12⟩ := H4.out.2.1.facts
          have hX4 := H4.out.2.1.lt
          cases hmn : c1.d.mn with
          | false =>
            have hpo : part (L s) l (rdB (L s) l f) c1.d sub en1 st' = one (L s) l (rdB (L s) l f) c1.d sub en1 st' := by unfold part; rw [if_neg (by rw [hmn]; decide)]
            have cO := vone_any f w4 P s l st' c1 sub m2 k1 en1 en2 earl names1 seen1 H4.out.1.vw HI.out.2.2.2.2.2.2.2.2.2 HI.out.1 HI.out.2.2.1 HI.out.2.2.2.2.2.2.1 HB.out.2.1 (HI.out.2.2.2.1.below H4.out.2.2) HI.out.2.2.2.2.1 H4.out.1.lt.1 HE.out.1 HE.out.2.1 HE.out.2.2.2.2.1 HE.out.2.2.2.2.2.1 HE.out.2.2.2.2.2.2 HB.out.2.2.2.2 HB.out.1 (by have := HB.out.2.2.1; have := HI.out.2.2.2.2.2.1; omega) HRR.out
            rw [itV_eq] at cO
            rw [hmn] at x7 cO
            have HMN : Hid (c1.d.mn = false ∧ part (L s) l (rdB (L s) l f) c1.d sub en1 st' = one (L s) l (rdB (L s) l f) c1.d sub en1 st') := ⟨hmn, hpo⟩
            clear hmn hpo
            go_wp2_with fail
            refine cO.mono ?_
            rintro e w5 ⟨hg5, nd, kp, kc, k', st2, b2, rfl, hks5, hv5, hr64, hle, hres, hom5⟩
            clear cO x0 x1 x2 x3 x4 x5 x6 x7 x8 x9 x10 x11 x12 hX4
            rw [← HMN.out.2] at hres
            obtain ⟨w6, hw6⟩ : ∃ w6, w6 = w5.alloc (.cells #[.string (tx nd.nm), .int .i64 (nd.kd : Int), .int .i64 (nd.at_ : Int), .int .i64 (nd.sz : Int), .int .i64 nd.n, .string (tx nd.tx), .slice kp k'.len kc] 27) := ⟨_, rfl⟩
            obtain ⟨Nb, hNb⟩ : ∃ Nb, Nb = w5.heap.size := ⟨_, rfl⟩
            have hb6 : Bl w5 w6 := by rw [hw6]; exact (Bl.refl _).alloc _
            have hn6 : Nv w6 Nb nd kp k'.len kc := by rw [hw6, hNb]; exact new_at _ _
            have hm2lt : m2 < wr.heap.size := Om.blt HI.out.2.2.2.1
            have hsz4 := H4.out.2.2.size
            have hsz3 := H3.out.2.2.2.1
            have hI4 := H4.out.2.1.lt
            have hlt4 := H4.out.1.lt
            have hI6 : Iv w6 Xb c1 := (show Iv w5 Xb c1 from ⟨(hg5.block Xb H4.out.2.1.lt (by omega) (by omega)).trans H4.out.2.1.h⟩).bl hb6
            have hg46 : Gq P m2 wr w6 := ((Gq.gp (Gp.bl H4.out.2.2)).trans hg5).trans (Gq.gp (Gp.bl hb6))
            have hx46 : Kx wr w6 := ((Kx.bl H4.out.2.2).trans (vw_kx2 H4.out.1.vw (HI.out.2.2.2.1.below H4.out.2.2) hg5)).trans (Kx.bl hb6)
            have H6 : Hid (Iv w6 Xb c1 ∧ Nv w6 Nb nd kp k'.len kc ∧ Vw w6 P s l st2 b2 ∧ Gq P m2 wr w6 ∧ Kx wr w6 ∧ IsNs w6 (fun g => w4.heap.size ≤ g) kp k'.len kc k' ∧ Xb ≠ m2 ∧ Nb ≠ m2 ∧ wr.heap.size ≤ w4.heap.size ∧ m2 < w4.heap.size) :=
              ⟨hI6, hn6, hv5.bl hb6, hg46, hx46, hks5.bl hb6, by omega, by have := hg5.size; omega, hsz4, by omega⟩
            have HR : Hid (R64 nd.n ∧ st'.1 ≤ st2.1 ∧ ResN (part (L s) l (rdB (L s) l f) c1.d sub en1 st') nd k' st2 b2 ∧ ((c1.d.kd = 1 ∨ b2.1 = 0) → ∃ en3 k3, Om w6 m2 en3 k3 ∧ (c1.d.kd = 1 → k3 ≤ st'.2) ∧ (b2.1 = 0 → k3 ≤ st2.2) ∧ ∀ y ∈ names1, en3 y = en2 y)) :=
              ⟨hr64, hle, hres, fun h => by obtain ⟨e3, k3, o1, o2, o3, o4⟩ := hom5 h; exact ⟨e3, k3, o1.below hb6, o2, o3, o4⟩⟩
            have i0 : w6.cell? ⟨Xb, 0, none⟩ = some (.int .i64 (c1.d.kd : Int)) := hI6.cell 0
            have i2 : w6.cell? ⟨Xb, 2, none⟩ = some (.string (tx c1.d.nm)) := hI6.cell 2
            obtain ⟨n0, n1, n2, n3', n4, n5, n6⟩ := hn6.cells
            have hXs := hI6.lt
            have hNs := hn6.lt
            unfold ndV
            clear hg5 hks5 hv5 hr64 hle hres hom5 hb6 hn6 hI6 hm2lt hsz4 hsz3 hI4 hlt4 hg46 hx46
            by_cases hu1 : c1.d.kd = 1
            · have hnm5 : (tx c1.d.nm).size ≤ 5000 := by
                rw [tx_size]
                rcases HI.out.1 with g | g | g | g
                · omega
                · omega
                · omega
                · have := g.2.2.2.1.2.2.1; omega
              obtain ⟨en3, k3, o1, o2, o3, o4⟩ := HR.out.2.2.2 (Or.inl hu1)
              have hk3 := o2 hu1
              obtain ⟨w7, hrun, hom7, hg7⟩ := o1.put (tx c1.d.nm) nd.n hnm5 HR.out.1 (by have h2 := HI.out.2.2.2.2.2.2.1; omega)
              obtain ⟨hv7, hx7, hq7⟩ := H6.out.2.2.1.om o1 hg7 H4.out.1.lt.1
              have hom7 : Om w7 m2 (upd en3 c1.d.nm nd.n) (k3 + 1) := by
                have e : (tx c1.d.nm).data.toList = c1.d.nm := L_tx c1.d.nm
                rw [e] at hom7
                exact hom7
              have hks7 : IsNs w7 (fun g => w4.heap.size ≤ g) kp k'.len kc k' := H6.out.2.2.2.2.2.1.keep (fun g h1 h2 => hg7.block g h2 (fun e => by injection e with e; have := H6.out.2.2.2.2.2.2.2.2.2; omega)) hg7.size
              obtain ⟨p2, c2, w8, hap, hBk, hot, hrt⟩ := HM.out.1.push (nd := nd) (H6.out.2.2.2.1.trans hq7) (H6.out.2.2.2.2.1.trans hx7) hv7 HR.out.2.1 hks7 H6.out.2.2.2.2.2.2.2.2.1 (by have := H3.out.2.2.2.2.2; omega)
              have hnx : nxt c1.d en1 nd = upd en1 c1.d.nm nd.n := by unfold nxt; rw [if_pos ⟨hu1, HMN.out.1⟩]
              have hcons := chkI_cons HE.out.2.2.2.1
              have hBg := bg_next (j := j) (csI := csI) (w8 := w8) (m2 := m2) (earl := earl) (names0 := names) (en0 := en') (k0 := st.2) (t := t) HB.out.2.1.ok HI.out.1 HI.out.2.2.1 (by rw [L_len]; exact H4.out.1.vw.a) HI.out.2.2.2.2.2.2.1 HI.out.2.2.2.2.2.1 HR.out.2.2.1 HI.out.2.2.2.2.2.2.2.1 (hrt _ _ HI.out.2.2.2.2.2.2.2.2.1) HI.out.2.1 (nxt_r HRR.out HR.out.1) (fun hb => by
                rcases hcons with g | g
                · omega
                · refine ⟨upd en3 c1.d.nm nd.n, k3 + 1, c1.d.nm :: names1, c1.d.nm :: seen1, hot _ _ hom7, ?_, fun y hy => ?_, fun y hy => ?_, fun y hy => ?_, n3, ?_⟩
                  · have := resn_le HB.out.2.1.ok (Or.inl HI.out.1) HI.out.2.2.1 (by rw [L_len]; exact H4.out.1.vw.a) HI.out.2.2.2.2.2.2.1 (by rw [← HMN.out.2]; exact HR.out.2.2.1) hb
                    omega
                  · rw [hnx]
                    unfold upd
                    by_cases he : y = c1.d.nm
                    · rw [if_pos he, if_pos he]
                    · rw [if_neg he, if_neg he]
                      have hy' : y ∈ seen1 := (List.mem_cons.1 hy).resolve_left he
                      rw [o4 y (HE.out.2.1 y hy'), HE.out.1 y hy']
                  · rcases List.mem_cons.1 hy with h | h
                    · rw [h]; exact List.mem_cons_self ..
                    · exact List.mem_cons_of_mem _ (HE.out.2.1 y h)
                  · have h1 := HE.out.2.2.1 y hy
                    refine ⟨List.mem_cons_of_mem _ h1.1, ?_⟩
                    unfold upd
                    rw [if_neg (fun he => g.2.1 (by rw [← he]; exact h1.1)), o4 y h1.1, h1.2]
                  · have := g.2.2.2.2
                    rw [if_pos ⟨hu1, HMN.out.1⟩] at this
                    exact this)
              have HA : Hid _ := hap
              have H8 : Hid (Bkv w w8 P m2 M s l st.1 st2 b2 (some ⟨g, 0, none⟩) n c csI (j + 1) p2 (m + 1) c2 (cs ++ [⟨nd, kp, k'.len, kc⟩]) (ks.app nd k') ∧ Bg w8 P m2 s l f earl names en' st.2 q (ks.app nd k') csI (j + 1) st2 b2) := ⟨hBk, hBg⟩
              have hn7 : Nv w7 Nb nd kp k'.len kc := (hg7.block Nb H6.out.2.1.lt (fun e => by injection e with e; exact H6.out.2.2.2.2.2.2.2.1 e)).trans H6.out.2.1
              obtain ⟨e0, e1, e2, e3, e4, e5, e6⟩ := hn7.cells
              have hkk : ((c1.d.kd : Int) == 1) = true := by rw [hu1]; rfl
              clear hom7 hg7 hv7 hx7 hq7 hks7 hap hBk hBg hn7 hu1 hnm5 hot hrt hnx hcons o1 o2 o3 o4 hk3
              go_upto_region 19 with fail
              rw [← hw6, ← hNb]
              clear hw6 hNb
              go_wp2_with (at_builtin; refine Lib.wpList_append_run _ rfl (.tmp 89) (.tmp 91) _ _ rfl _ _ rfl rfl _ _ HA.out ?_)
              go_roundw
              case rel => exact ⟨j + 1, m + 1, p2, c2, cs ++ [⟨nd, kp, k'.len, kc⟩], ks.app nd k', st2, b2, rfl, by go_num, by omega, H8⟩
              case measure => simp [intOf]; omega
            · obtain ⟨p2, c2, w8, hap, hBk, hot, hrt⟩ := HM.out.1.push (nd := nd) H6.out.2.2.2.1 H6.out.2.2.2.2.1 H6.out.2.2.1 HR.out.2.1 H6.out.2.2.2.2.2.1 H6.out.2.2.2.2.2.2.2.2.1 (by have := H3.out.2.2.2.2.2; omega)
              have hnx : nxt c1.d en1 nd = en1 := by unfold nxt; rw [if_neg (fun h => hu1 h.1)]
              have hcons := chkI_cons HE.out.2.2.2.1
              have hBg := bg_next (j := j) (csI := csI) (w8 := w8) (m2 := m2) (earl := earl) (names0 := names) (en0 := en') (k0 := st.2) (t := t) HB.out.2.1.ok HI.out.1 HI.out.2.2.1 (by rw [L_len]; exact H4.out.1.vw.a) HI.out.2.2.2.2.2.2.1 HI.out.2.2.2.2.2.1 HR.out.2.2.1 HI.out.2.2.2.2.2.2.2.1 (hrt _ _ HI.out.2.2.2.2.2.2.2.2.1) HI.out.2.1 (nxt_r HRR.out HR.out.1) (fun hb => by
                obtain ⟨en3, k3, o1, o2, o3, o4⟩ := HR.out.2.2.2 (Or.inr hb)
                rw [hnx]
                have key : ∀ names3 : List (List UInt8), (∀ y ∈ names1, y ∈ names3) → (∃ n2, chkI earl t names3 seen1 = .ok n2) → ∃ (en3 : Env) (k3 : Nat) (names3 seen3 : List (List UInt8)), Om w8 m2 en3 k3 ∧ k3 ≤ st2.2 ∧ (∀ y ∈ seen3, en3 y = en1 y) ∧ (∀ y ∈ seen3, y ∈ names3) ∧ (∀ y ∈ names, y ∈ names3 ∧ en3 y = en' y) ∧ ∃ n2, chkI earl t names3 seen3 = .ok n2 := fun names3 hs3 hc3 =>
                  ⟨en3, k3, names3, seen1, hot _ _ o1, o3 hb, fun y hy => by rw [o4 y (HE.out.2.1 y hy), HE.out.1 y hy], fun y hy => hs3 y (HE.out.2.1 y hy), fun y hy => ⟨hs3 y (HE.out.2.2.1 y hy).1, by rw [o4 y (HE.out.2.2.1 y hy).1, (HE.out.2.2.1 y hy).2]⟩, hc3⟩
                rcases hcons with ⟨_, _, n1, g1, g2⟩ | g
                · exact key n1 (chkI_sub sub g1) ⟨n3, g2⟩
                · have g5 := g.2.2.2.2
                  rw [if_neg (fun h => hu1 h.1)] at g5
                  exact key (c1.d.nm :: names1) (fun y hy => List.mem_cons_of_mem _ hy) ⟨n3, g5⟩)
              have HA : Hid _ := hap
              have H8 : Hid (Bkv w w8 P m2 M s l st.1 st2 b2 (some ⟨g, 0, none⟩) n c csI (j + 1) p2 (m + 1) c2 (cs ++ [⟨nd, kp, k'.len, kc⟩]) (ks.app nd k') ∧ Bg w8 P m2 s l f earl names en' st.2 q (ks.app nd k') csI (j + 1) st2 b2) := ⟨hBk, hBg⟩
              have hkk : ((c1.d.kd : Int) == 1) = false := by rw [beq_eq_false_iff_ne]; omega
              clear hap hBk hBg hu1 hot hrt hnx hcons i2
              go_upto_region 19 with fail
              rw [← hw6, ← hNb]
              clear hw6 hNb
              go_wp2_with (at_builtin; refine Lib.wpList_append_run _ rfl (.tmp 89) (.tmp 91) _ _ rfl _ _ rfl rfl _ _ HA.out ?_)
              go_roundw
              case rel => exact ⟨j + 1, m + 1, p2, c2, cs ++ [⟨nd, kp, k'.len, kc⟩], ks.app nd k', st2, b2, rfl, by go_num, by omega, H8⟩
              case measure => simp [intOf]; omega
          | true =>
            obtain ⟨wo, hwo⟩ : ∃ wo, wo = wr := ⟨_, rfl⟩
            subst hwo
            have hkd : c1.d.kd ≠ 4 := by
              rcases HI.out.1 with g | g | g | g
              · exact absurd (g.2.2.2.1.symm.trans hmn) (by decide)
              · omega
              · omega
              · omega
            obtain ⟨x, hct, hwx⟩ := wx_of HI.out.1 (Or.inr (Or.inr hmn))
            obtain ⟨a, k⟩ := st'
            have HMN : Hid (c1.d.mn = true ∧ c1.d.kd ≠ 4 ∧ c1.d.ct = some x ∧ WX x) := ⟨hmn, hkd, hct, hwx⟩
            rw [hmn] at x7
            obtain ⟨d1, d2, d3, d4, d5, dz⟩ := H4.out.1.vw.cells
            have hP4 := H4.out.1.vw.lt'
            try dsimp only at d2
            have x2a : w4.cell? ⟨Xb, 2, none⟩ = some (.string (tx c1.d.nm)) := x2
            have x2d : w4.drew.cell? ⟨Xb, 2, none⟩ = some (.string (tx c1.d.nm)) := x2
            have x2b : (w4.alloc (.cells #[.string ⟨#[]⟩, .int .i64 0, .int .i64 0, .int .i64 0, .int .i64 0, .string ⟨#[]⟩, .slice none 0 0] 27)).cell? ⟨Xb, 2, none⟩ = some (.string (tx c1.d.nm)) := at_bl ((Bl.refl _).alloc _) x2a
            have x2c : (w4.alloc (.cells #[.string ⟨#[]⟩, .int .i64 0, .int .i64 0, .int .i64 0, .int .i64 0, .string ⟨#[]⟩, .slice none 0 0] 27)).drew.cell? ⟨Xb, 2, none⟩ = some (.string (tx c1.d.nm)) := x2b
            have v2d : w4.drew.cell? ⟨P, 2, none⟩ = some (.int .i64 (a : Int)) := d2
            have v2b : (w4.alloc (.cells #[.string ⟨#[]⟩, .int .i64 0, .int .i64 0, .int .i64 0, .int .i64 0, .string ⟨#[]⟩, .slice none 0 0] 27)).cell? ⟨P, 2, none⟩ = some (.int .i64 (a : Int)) := at_bl ((Bl.refl _).alloc _) d2
            have v2c : (w4.alloc (.cells #[.string ⟨#[]⟩, .int .i64 0, .int .i64 0, .int .i64 0, .int .i64 0, .string ⟨#[]⟩, .slice none 0 0] 27)).drew.cell? ⟨P, 2, none⟩ = some (.int .i64 (a : Int)) := v2b
            have mixed : Tryz.prog.follows Departure.mixedOrders = true := by kernel_rfl
            clear x0 x1 x3 x4 x5 x6 x8 x9 x10 x11 x12 d1 d3 d4 d5 dz hmn hkd hct hwx
            go_upto_region 8 with fail
            go_region_o
            have hbl : Bl w4 ((w4.alloc (.cells #[.string (tx c1.d.nm), .int .i64 9, .int .i64 (a : Int), .int .i64 0, .int .i64 0, .string ⟨#[]⟩, .slice none 0 0] 27)).drew) := ((Bl.refl _).alloc _).drew
            have HN : Hid (Bkv w ((w4.alloc (.cells #[.string (tx c1.d.nm), .int .i64 9, .int .i64 (a : Int), .int .i64 0, .int .i64 0, .string ⟨#[]⟩, .slice none 0 0] 27)).drew) P m2 M s l st.1 (a, k) (0, -1) (some ⟨g, 0, none⟩) n c csI j p' m lc cs ks ∧ Iv ((w4.alloc (.cells #[.string (tx c1.d.nm), .int .i64 9, .int .i64 (a : Int), .int .i64 0, .int .i64 0, .string ⟨#[]⟩, .slice none 0 0] 27)).drew) Xb c1 ∧ Nv ((w4.alloc (.cells #[.string (tx c1.d.nm), .int .i64 9, .int .i64 (a : Int), .int .i64 0, .int .i64 0, .string ⟨#[]⟩, .slice none 0 0] 27)).drew) w4.heap.size ⟨c1.d.nm, 9, a, 0, 0, []⟩ none 0 0 ∧ Xb < w4.heap.size ∧ Bl wo ((w4.alloc (.cells #[.string (tx c1.d.nm), .int .i64 9, .int .i64 (a : Int), .int .i64 0, .int .i64 0, .string ⟨#[]⟩, .slice none 0 0] 27)).drew) ∧ ItL ((w4.alloc (.cells #[.string (tx c1.d.nm), .int .i64 9, .int .i64 (a : Int), .int .i64 0, .int .i64 0, .string ⟨#[]⟩, .slice none 0 0] 27)).drew) (fun g => g < P) c1 sub) := ⟨H4.out.1.bl hbl, H4.out.2.1.bl hbl, new_at _ _, H4.out.2.1.lt, H4.out.2.2.trans hbl, HI.out.2.2.2.2.2.2.2.2.2.bl hbl⟩
            clear hbl
            generalize ((w4.alloc (.cells #[.string (tx c1.d.nm), .int .i64 9, .int .i64 (a : Int), .int .i64 0, .int .i64 0, .string ⟨#[]⟩, .slice none 0 0] 27)).drew) = w5 at HN ⊢
            generalize w4.heap.size = N at HN ⊢
            clear x2 d2 hP4 hX4 x2a x2b x2c x2d v2b v2c v2d x7
            have cB := begin_at w5 P s l a k (0, -1) HN.out.1.vw (by have := HI.out.2.2.2.2.2.2.1; (try dsimp only at this); omega)
            go_wp2_with fail
            refine cB.mono ?_
            rintro e w6 ⟨rfl, hv6, hg6⟩
            clear cB
            obtain ⟨b6, hb6⟩ : ∃ b6, b6 = (if 400 < k + 1 then wrg (0, -1) 4 a else ((0, -1) : Er)) := ⟨_, rfl⟩
            rw [← hb6] at hv6
            have HL : Hid (P < Xb ∧ Xb < N ∧ wo.heap.size = Xb ∧ m2 < Xb ∧ P < m2) := ⟨by rw [H3.out.2.2.2.1]; exact HM.out.1.vw.lt', HN.out.2.2.2.1, H3.out.2.2.2.1.symm, by rw [H3.out.2.2.2.1]; exact Om.blt HI.out.2.2.2.1, HM.out.1.lt.1⟩
            have hlt := HL.out
            have hI6 := HN.out.2.1.gp hg6 (by omega)
            have hN6 := HN.out.2.2.1.gp hg6 (by omega)
            have hom6 : Om w6 m2 en2 k1 := (HI.out.2.2.2.1.below HN.out.2.2.2.2.1).step (gp_grown hg6) (fun e => by injection e with e; omega)
            have hit6 : ItL w6 (fun g => g < P) c1 sub := HN.out.2.2.2.2.2.keep (fun g h1 h2 => hg6.block g h2 (by omega)) hg6.size (HN.out.1.vw.kx hg6)
            have hX0 : IsX w6 (.pointer c1.pc) x := by have := hit6.1; rw [HMN.out.2.2.1] at this; exact this
            have cC := vcount_at w6 P s l (a, k + 1) b6 c1.pc (.map (some m2)) en2 x hv6 hX0 (wx_okb HMN.out.2.2.2) hom6.isM
            obtain ⟨qe, hqe0⟩ : ∃ qe, qe = ev en2 x := ⟨_, rfl⟩
            have hev1 : evO en1 c1.d.ct = qe := by rw [hqe0, ← evO_agree HE.out.1 HE.out.2.2.2.2.1, HMN.out.2.2.1]; rfl
            have hr64 : ∀ n', qe = .ok n' → R64 n' := fun n' h => by
              have h2 : evO en1 c1.d.ct = ev en1 x := by rw [HMN.out.2.2.1]; rfl
              exact ev_r HRR.out HMN.out.2.2.2.2.1 (by rw [← h2, hev1, h])
            rw [← hqe0] at cC
            have x8' : w6.cell? ⟨Xb, 8, none⟩ = some (.pointer c1.pc) := hI6.facts.2.2.2.2.2.2.2.2.1
            have hX6s := hI6.lt
            have H6 : Hid (Iv w6 Xb c1 ∧ Nv w6 N ⟨c1.d.nm, 9, a, 0, 0, []⟩ none 0 0 ∧ Gp P wo w6 ∧ Om w6 m2 en2 k1 ∧ ItL w6 (fun g => g < P) c1 sub ∧ Vw w6 P s l (a, k + 1) b6) := ⟨hI6, hN6, (Gp.bl HN.out.2.2.2.2.1).trans hg6, hom6, hit6, hv6⟩
            have HV : Hid (evO en1 c1.d.ct = qe ∧ (∀ n', qe = .ok n' → R64 n') ∧ b6 = (if 400 < k + 1 then wrg (0, -1) 4 a else ((0, -1) : Er))) := ⟨hev1, hr64, hb6⟩
            clear hqe0 hev1 hr64 hX0 hI6 hN6 hom6 hit6 hv6 hg6 hb6 hlt
            go_wp2_with fail
            refine cC.mono ?_
            rintro e w7 ⟨hg7, hans⟩
            obtain ⟨n', b7, rfl, hv7, hnb⟩ : ∃ n' b7, e = .returned (.int .i64 n') ∧ Vw w7 P s l (a, k + 1) b7 ∧ ((qe = .ok n' ∧ b7 = b6) ∨ ∃ p : Nat, qe = .error p ∧ b7 = wrg b6 5 p ∧ n' = 0) := by
              cases qe with
              | ok n => exact ⟨n, _, hans.1, hans.2, Or.inl ⟨rfl, rfl⟩⟩
              | error p => exact ⟨0, _, hans.1, hans.2, Or.inr ⟨p, rfl, rfl, rfl⟩⟩
            have hnr : R64 n' := by
              rcases hnb with ⟨e, _⟩ | ⟨p, _, _, e⟩
              · exact HV.out.2.1 n' e
              · rw [e]; exact r64_0
            have hmq := many_q (s := L s) (l := l) (rec := rdB (L s) l f) (sub := sub) (by have := HI.out.2.2.2.2.2.2.1; exact this) HMN.out.1 HV.out.1 HV.out.2.2 hnb
            have hlt := HL.out
            have H7 : Hid (Iv w7 Xb c1 ∧ Nv w7 N ⟨c1.d.nm, 9, a, 0, 0, []⟩ none 0 0 ∧ Gp P wo w7 ∧ Om w7 m2 en2 k1 ∧ ItL w7 (fun g => g < P) c1 sub ∧ Vw w7 P s l (a, k + 1) b7) := ⟨H6.out.1.gp hg7 (by omega), H6.out.2.1.gp hg7 (by omega), H6.out.2.2.1.trans hg7, H6.out.2.2.2.1.step (gp_grown hg7) (fun e => by injection e with e; omega), H6.out.2.2.2.2.1.keep (fun g h1 h2 => hg7.block g h2 (by omega)) hg7.size (H6.out.2.2.2.2.2.kx hg7), hv7⟩
            clear hans hnb hv7 hg7 cC x8' hX6s hlt
            by_cases hn0 : n' < 0
            · rw [if_pos hn0] at hmq
              have hres : b7 = b7 ∧ (wrg b7 3 a).1 ≠ 0 ∧ part (L s) l (rdB (L s) l f) c1.d sub en1 (a, k) = .error (wrg b7 3 a) := by
                rcases hmq with ⟨_, h, _⟩ | ⟨h1, h2⟩
                · omega
                · exact ⟨rfl, h1, h2⟩
              have HRS : Hid _ := hres
              have hd0 : decide (n' < 0) = true := decide_eq_true hn0
              have cW := wrong_at w7 P s l (a, k + 1) b7 3 H7.out.2.2.2.2.2
              have hgt : decide ((0 : Int) < n') = false := decide_eq_false (by omega)
              have hgt' : ¬ (0 : Int) < n' := by omega
              clear hmq hres hnr
              go_wp2_with fail
              refine cW.mono ?_
              rintro e w8 ⟨rfl, hv8, hg8⟩
              obtain ⟨pp, lc2, k2s, hpp, hlc2, hk2⟩ : ∃ (pp : Option Addr) (lc2 : Nat) (k2s : Nds), pp = none ∧ lc2 = 0 ∧ k2s = .nil := ⟨_, _, _, rfl, rfl, rfl⟩
              obtain ⟨sq, hsq⟩ : ∃ sq : St, sq = (a, k + 1) := ⟨_, rfl⟩
              obtain ⟨bq, hbq⟩ : ∃ bq, bq = wrg b7 3 a := ⟨_, rfl⟩
              have hlt := HL.out
              have HT0 : Hid (Te wo w8 N P m2 s l sq bq c1.d.nm a k pp lc2 k2s en2 k1 (part (L s) l (rdB (L s) l f) c1.d sub en1 (a, k))) := by
                rw [hpp, hlc2, hk2, hsq, hbq]
                refine ⟨H7.out.2.2.1.trans hg8, hv8, H7.out.2.1.gp hg8 (by omega), IsNs.none _ _, H7.out.2.2.2.1.step (gp_grown hg8) (fun e => by injection e with e; omega), Nat.le_refl _, fun _ => Nat.le_succ k, ?_, by omega, by omega, by omega⟩
                rw [HRS.out.2.2]; exact ⟨rfl, HRS.out.2.1⟩
              clear hv8 hg8 hlt cW hpp hlc2 hk2 hsq hbq
              go_wp2_with fail
              go_loopw [11] (fun v11 wr => v11 = .int .i64 n' ∧ Hid (Te wo wr N P m2 s l sq bq c1.d.nm a k pp lc2 k2s en2 k1 (part (L s) l (rdB (L s) l f) c1.d sub en1 (a, k)))) (fun _ _ => 0)
              case atStart => exact ⟨rfl, HT0⟩
              case round =>
                obtain ⟨rfl, HT⟩ := hrel
                have hwr : IntKind.i64.wrap (((sq.1 : Nat) : Int) - (a : Int)) = ((sq.1 - a : Nat) : Int) := by rw [IntKind.wrap_i64]; have := HT.out.vw.a; have := HT.out.vw.sz; have := HT.out.le; omega
                obtain ⟨Z, hZ⟩ : ∃ Z, Z = sq.1 - a := ⟨_, rfl⟩
                rw [← hZ] at hwr
                have HZ : Hid (Z = sq.1 - a) := hZ
                obtain ⟨B, hB⟩ : ∃ B, B = sq.1 := ⟨_, rfl⟩
                rw [← hB] at hwr
                clear hZ
                have H9d : Hid (Vw wr.drew P s l sq bq ∧ Nv wr.drew N ⟨c1.d.nm, 9, a, 0, 0, []⟩ pp k2s.len lc2) := ⟨HT.out.vw.bl (Bl.refl _).drew, HT.out.nv.bl (Bl.refl _).drew⟩
                obtain ⟨d1, d2, d3, d4, d5, dz⟩ := H9d.out.1.cells
                obtain ⟨n0, n1, n2, n3', n4, n5, n6⟩ := H9d.out.2.cells
                obtain ⟨y0, y1, y2, y3, y4, y5, y6⟩ := H9d.out.2.fz
                try dsimp only at d2 n2 n3'
                rw [← hB] at d2
                have d2' : wr.cell? ⟨P, 2, none⟩ = some (.int .i64 (B : Int)) := d2
                have n2' : wr.cell? ⟨N, 2, none⟩ = some (.int .i64 (a : Int)) := n2
                have n3'' : wr.cell? ⟨N, 3, none⟩ = some (.int .i64 ((0 : Nat) : Int)) := n3'
                have hN9s := HT.out.nv.lt
                have hP9s := HT.out.vw.lt'
                clear d1 d3 d4 d5 dz n0 n1 n4 n5 n6 y0 y1 y2 y4 y5 y6 hB
                go_upto_region 16 with fail
                go_region_o
                clear d2 n2 n3' y3 d2' n2' n3'' hN9s hP9s hwr
                obtain ⟨p2, c2, w8, hap, hBk, hBg, hn10⟩ := many_end HM.out.1 HT.out HB.out.2.1.ok HI.out.1 HMN.out.1 HMN.out.2.1 (by have := HI.out.2.2.2.2.2.2.1; exact this) HI.out.2.2.2.2.2.1 HI.out.2.2.2.2.2.2.2.1 HI.out.2.2.2.2.2.2.2.2.1 HI.out.2.1 HRR.out HE.out.1 HE.out.2.1 HE.out.2.2.1 HE.out.2.2.2.1 HI.out.2.2.2.2.1 (by have := H3.out.2.2.2.2.2; omega) Z HZ.out
                have HA : Hid _ := hap
                have H8 : Hid (Bkv w w8 P m2 M s l st.1 sq bq (some ⟨g, 0, none⟩) n c csI (j + 1) p2 (m + 1) c2 (cs ++ [⟨⟨c1.d.nm, 9, a, Z, 0, []⟩, pp, k2s.len, lc2⟩]) (ks.app ⟨c1.d.nm, 9, a, Z, 0, []⟩ k2s) ∧ Bg w8 P m2 s l f earl names en' st.2 q (ks.app ⟨c1.d.nm, 9, a, Z, 0, []⟩ k2s) csI (j + 1) sq bq) := ⟨hBk, hBg⟩
                generalize (wr.setCell ⟨N, 3, none⟩ (.int .i64 (Z : Int))).drew = w10 at HA hn10 ⊢
                obtain ⟨n0, n1, n2, n3', n4, n5, n6⟩ := hn10.cells
                try dsimp only at n0 n1 n2 n3' n4 n5 n6
                have hN10 := hn10.lt
                clear hap hBk hBg hn10
                go_wp2_with (at_builtin; refine Lib.wpList_append_run _ rfl (.tmp 73) (.tmp 75) _ _ rfl _ _ rfl rfl _ _ HA.out ?_)
                go_roundw
                case rel => exact ⟨j + 1, m + 1, p2, c2, cs ++ [⟨⟨c1.d.nm, 9, a, Z, 0, []⟩, pp, k2s.len, lc2⟩], ks.app ⟨c1.d.nm, 9, a, Z, 0, []⟩ k2s, sq, bq, rfl, by go_num, by omega, H8⟩
                case measure => simp [intOf]; omega
            · obtain ⟨K, rfl⟩ : ∃ K : Nat, n' = (K : Int) := ⟨n'.toNat, by omega⟩
              rw [if_neg hn0, Int.toNat_natCast] at hmq
              have hd0 : decide ((K : Int) < 0) = false := decide_eq_false hn0
              obtain ⟨Q, hQ⟩ : ∃ Q, Q = reps (L s) l (rdB (L s) l f) c1.d sub en1 K (a, k + 1) := ⟨_, rfl⟩
              rw [← hQ] at hmq
              obtain ⟨q1, hq1⟩ : ∃ q1, q1 = part (L s) l (rdB (L s) l f) c1.d sub en1 (a, k) := ⟨_, rfl⟩
              rw [← hq1] at hmq
              have HQ1 : Hid (q1 = part (L s) l (rdB (L s) l f) c1.d sub en1 (a, k)) := hq1
              obtain ⟨M7, hM7⟩ : ∃ M7, M7 = w7.heap.size := ⟨_, rfl⟩
              have hlt := HL.out
              have HS : Hid (Mw w7 w7 Xb N P M7 s l (a, k + 1) b7 c1 sub ⟨c1.d.nm, 9, a, 0, 0, []⟩ none (Nds.len .nil) 0 [] .nil ∧ ((b7 = (0, -1) ∧ q1 = repQ Q c1.d a ∧ preN .nil (reps (L s) l (rdB (L s) l f) c1.d sub en1 K (a, k + 1)) = Q ∧ k + 1 ≤ 400) ∨ (b7.1 ≠ 0 ∧ q1 = .error b7)) ∧ R64 (K : Int)) := by
                refine ⟨⟨Gq.refl _ _ _, H7.out.1, H7.out.2.1, H7.out.2.2.2.2.2, H7.out.2.2.2.2.1, Gn.nil _ _ _, by omega, by omega, by rw [hM7]; exact H7.out.2.1.lt, by rw [hM7]; exact Nat.le_refl _, by rw [hM7]; exact Nat.le_refl _⟩, ?_, hnr⟩
                rcases hmq with ⟨h1, _, h2, h3⟩ | h
                · exact Or.inl ⟨h1, h3, by rw [preN_nil, hQ], h2⟩
                · exact Or.inr h
              clear hmq hQ hq1 hM7 hn0 hnr hlt
              go_wp2_with fail
              go_loopw [11] (fun v11 wr => ∃ (r : Nat) (pp : Option Addr) (lc2 : Nat) (cs2 : List CN) (k2s : Nds) (sq : St) (bq : Er), v11 = .int .i64 (r : Int) ∧ r + k2s.len = K ∧ Hid (Mw w7 wr Xb N P M7 s l sq bq c1 sub ⟨c1.d.nm, 9, a, 0, 0, []⟩ pp k2s.len lc2 cs2 k2s ∧ a ≤ sq.1 ∧ ((bq = (0, -1) ∧ q1 = repQ Q c1.d a ∧ preN k2s (reps (L s) l (rdB (L s) l f) c1.d sub en1 r sq) = Q ∧ k + 1 + k2s.len ≤ sq.2 ∧ sq.2 ≤ 400) ∨ (bq.1 ≠ 0 ∧ q1 = .error bq)))) (fun v11 _ => (intOf v11).toNat)
              case atStart =>
                refine ⟨K, none, 0, [], .nil, (a, k + 1), b7, rfl, rfl, HS.out.1, Nat.le_refl _, ?_⟩
                rcases HS.out.2.1 with ⟨h1, h2, h3, h4⟩ | h
                · exact Or.inl ⟨h1, h2, h3, Nat.le_refl _, h4⟩
                · exact Or.inr h
              case round =>
                obtain ⟨r, pp, lc2, cs2, k2s, sq, bq, rfl, hrK, HW⟩ := hrel
                have hlt := HL.out
                have fin : ∀ wz, Bl wr wz → ResN q1 ⟨c1.d.nm, 9, a, sq.1 - a, 0, []⟩ k2s sq bq → Te wo wz N P m2 s l sq bq c1.d.nm a k pp lc2 k2s en2 k1 (part (L s) l (rdB (L s) l f) c1.d sub en1 (a, k)) := fun wz hb hr => by
                  have hW := HW.out.1.bl hb
                  have hltW := hW.lt
                  obtain ⟨p'', c'', e1, e2, e3⟩ := hW.gn.is (Nat.le_refl _)
                  simp only [Value.slice.injEq] at e1
                  obtain ⟨rfl, e4, rfl⟩ := e1
                  refine ⟨hW.gq.fresh H7.out.2.2.1 (by omega), hW.vw, hW.nv, e2.mono (fun g h1 _ => by omega), Om.gq H7.out.2.2.2.1 hW.gq (by omega) (by omega), HW.out.2.1, fun h => ?_, by rw [← HQ1.out]; exact hr, by omega, by omega, by omega⟩
                  rcases HW.out.2.2 with ⟨_, _, _, h4, _⟩ | ⟨h1, _⟩
                  · omega
                  · exact absurd h h1
                by_cases hr0 : r = 0
                · have hres : ResN q1 ⟨c1.d.nm, 9, a, sq.1 - a, 0, []⟩ k2s sq bq := by
                    rcases HW.out.2.2 with ⟨h1, h2, h3, _⟩ | ⟨h1, h2⟩
                    · rw [hr0, reps_end] at h3
                      rw [h2, ← h3]
                      exact ⟨rfl, rfl, rfl, h1⟩
                    · rw [h2]; exact ⟨rfl, h1⟩
                  have HT : Hid _ := fin wr (Bl.refl _) hres
                  have hgt : decide ((0 : Int) < (r : Int)) = false := decide_eq_false (by omega)
                  have hgt' : ¬ (0 : Int) < (r : Int) := by omega
                  clear fin hres hlt hr0
                  have hwr : IntKind.i64.wrap (((sq.1 : Nat) : Int) - (a : Int)) = ((sq.1 - a : Nat) : Int) := by rw [IntKind.wrap_i64]; have := HT.out.vw.a; have := HT.out.vw.sz; have := HT.out.le; omega
                  obtain ⟨Z, hZ⟩ : ∃ Z, Z = sq.1 - a := ⟨_, rfl⟩
                  rw [← hZ] at hwr
                  have HZ : Hid (Z = sq.1 - a) := hZ
                  obtain ⟨B, hB⟩ : ∃ B, B = sq.1 := ⟨_, rfl⟩
                  rw [← hB] at hwr
                  clear hZ
                  have H9d : Hid (Vw wr.drew P s l sq bq ∧ Nv wr.drew N ⟨c1.d.nm, 9, a, 0, 0, []⟩ pp k2s.len lc2) := ⟨HT.out.vw.bl (Bl.refl _).drew, HT.out.nv.bl (Bl.refl _).drew⟩
                  obtain ⟨d1, d2, d3, d4, d5, dz⟩ := H9d.out.1.cells
                  obtain ⟨n0, n1, n2, n3', n4, n5, n6⟩ := H9d.out.2.cells
                  obtain ⟨y0, y1, y2, y3, y4, y5, y6⟩ := H9d.out.2.fz
                  try dsimp only at d2 n2 n3'
                  rw [← hB] at d2
                  have d2' : wr.cell? ⟨P, 2, none⟩ = some (.int .i64 (B : Int)) := d2
                  have n2' : wr.cell? ⟨N, 2, none⟩ = some (.int .i64 (a : Int)) := n2
                  have n3'' : wr.cell? ⟨N, 3, none⟩ = some (.int .i64 ((0 : Nat) : Int)) := n3'
                  have hN9s := HT.out.nv.lt
                  have hP9s := HT.out.vw.lt'
                  clear d1 d3 d4 d5 dz n0 n1 n4 n5 n6 y0 y1 y2 y4 y5 y6 hB
                  go_upto_region 16 with fail
                  go_region_o
                  clear d2 n2 n3' y3 d2' n2' n3'' hN9s hP9s hwr
                  obtain ⟨p2, c2, w8, hap, hBk, hBg, hn10⟩ := many_end HM.out.1 HT.out HB.out.2.1.ok HI.out.1 HMN.out.1 HMN.out.2.1 (by have := HI.out.2.2.2.2.2.2.1; exact this) HI.out.2.2.2.2.2.1 HI.out.2.2.2.2.2.2.2.1 HI.out.2.2.2.2.2.2.2.2.1 HI.out.2.1 HRR.out HE.out.1 HE.out.2.1 HE.out.2.2.1 HE.out.2.2.2.1 HI.out.2.2.2.2.1 (by have := H3.out.2.2.2.2.2; omega) Z HZ.out
                  have HA : Hid _ := hap
                  have H8 : Hid (Bkv w w8 P m2 M s l st.1 sq bq (some ⟨g, 0, none⟩) n c csI (j + 1) p2 (m + 1) c2 (cs ++ [⟨⟨c1.d.nm, 9, a, Z, 0, []⟩, pp, k2s.len, lc2⟩]) (ks.app ⟨c1.d.nm, 9, a, Z, 0, []⟩ k2s) ∧ Bg w8 P m2 s l f earl names en' st.2 q (ks.app ⟨c1.d.nm, 9, a, Z, 0, []⟩ k2s) csI (j + 1) sq bq) := ⟨hBk, hBg⟩
                  generalize (wr.setCell ⟨N, 3, none⟩ (.int .i64 (Z : Int))).drew = w10 at HA hn10 ⊢
                  obtain ⟨n0, n1, n2, n3', n4, n5, n6⟩ := hn10.cells
                  try dsimp only at n0 n1 n2 n3' n4 n5 n6
                  have hN10 := hn10.lt
                  clear hap hBk hBg hn10
                  go_wp2_with (at_builtin; refine Lib.wpList_append_run _ rfl (.tmp 73) (.tmp 75) _ _ rfl _ _ rfl rfl _ _ HA.out ?_)
                  go_roundw
                  case rel => exact ⟨j + 1, m + 1, p2, c2, cs ++ [⟨⟨c1.d.nm, 9, a, Z, 0, []⟩, pp, k2s.len, lc2⟩], ks.app ⟨c1.d.nm, 9, a, Z, 0, []⟩ k2s, sq, bq, rfl, by go_num, by omega, H8⟩
                  case measure => simp [intOf]; omega
                · have hgt : decide ((0 : Int) < (r : Int)) = true := decide_eq_true (by omega)
                  have hgt' : (0 : Int) < (r : Int) := by omega
                  have hltW := HW.out.1.lt
                  obtain ⟨d1, d2, d3, d4, d5, dz⟩ := HW.out.1.vw.cells
                  have hPq := HW.out.1.vw.lt'
                  have cI := Is_at bq.1 bq.2
                  clear d1 d2 d3 dz
                  rcases HW.out.2.2 with ⟨rfl, hq1r, hpre, hk4, hs4⟩ | ⟨hbn, hqb⟩
                  rotate_left
                  · have hb0 : (bq.1 == 0) = false := by rw [beq_eq_false_iff_ne]; exact hbn
                    rw [hb0] at cI
                    have HQB : Hid (bq.1 ≠ 0 ∧ q1 = .error bq) := ⟨hbn, hqb⟩
                    clear hbn hqb hr0 hltW
                    go_wp2_with fail
                    refine (cI _).mono ?_
                    rintro e wz ⟨rfl, hbz⟩
                    have HT0 : Hid _ := fin wz hbz (by rw [HQB.out.2]; exact ⟨rfl, HQB.out.1⟩)
                    clear fin hbz cI d4 d5 hPq hb0
                    generalize wz = wr at HT0 ⊢
                    have HT := HT0
                    have hwr : IntKind.i64.wrap (((sq.1 : Nat) : Int) - (a : Int)) = ((sq.1 - a : Nat) : Int) := by rw [IntKind.wrap_i64]; have := HT.out.vw.a; have := HT.out.vw.sz; have := HT.out.le; omega
                    obtain ⟨Z, hZ⟩ : ∃ Z, Z = sq.1 - a := ⟨_, rfl⟩
                    rw [← hZ] at hwr
                    have HZ : Hid (Z = sq.1 - a) := hZ
                    obtain ⟨B, hB⟩ : ∃ B, B = sq.1 := ⟨_, rfl⟩
                    rw [← hB] at hwr
                    clear hZ
                    have H9d : Hid (Vw wr.drew P s l sq bq ∧ Nv wr.drew N ⟨c1.d.nm, 9, a, 0, 0, []⟩ pp k2s.len lc2) := ⟨HT.out.vw.bl (Bl.refl _).drew, HT.out.nv.bl (Bl.refl _).drew⟩
                    obtain ⟨d1, d2, d3, d4, d5, dz⟩ := H9d.out.1.cells
                    obtain ⟨n0, n1, n2, n3', n4, n5, n6⟩ := H9d.out.2.cells
                    obtain ⟨y0, y1, y2, y3, y4, y5, y6⟩ := H9d.out.2.fz
                    try dsimp only at d2 n2 n3'
                    rw [← hB] at d2
                    have d2' : wr.cell? ⟨P, 2, none⟩ = some (.int .i64 (B : Int)) := d2
                    have n2' : wr.cell? ⟨N, 2, none⟩ = some (.int .i64 (a : Int)) := n2
                    have n3'' : wr.cell? ⟨N, 3, none⟩ = some (.int .i64 ((0 : Nat) : Int)) := n3'
                    have hN9s := HT.out.nv.lt
                    have hP9s := HT.out.vw.lt'
                    clear d1 d3 d4 d5 dz n0 n1 n4 n5 n6 y0 y1 y2 y4 y5 y6 hB
                    go_upto_region 16 with fail
                    go_region_o
                    clear d2 n2 n3' y3 d2' n2' n3'' hN9s hP9s hwr
                    obtain ⟨p2, c2, w8, hap, hBk, hBg, hn10⟩ := many_end HM.out.1 HT.out HB.out.2.1.ok HI.out.1 HMN.out.1 HMN.out.2.1 (by have := HI.out.2.2.2.2.2.2.1; exact this) HI.out.2.2.2.2.2.1 HI.out.2.2.2.2.2.2.2.1 HI.out.2.2.2.2.2.2.2.2.1 HI.out.2.1 HRR.out HE.out.1 HE.out.2.1 HE.out.2.2.1 HE.out.2.2.2.1 HI.out.2.2.2.2.1 (by have := H3.out.2.2.2.2.2; omega) Z HZ.out
                    have HA : Hid _ := hap
                    have H8 : Hid (Bkv w w8 P m2 M s l st.1 sq bq (some ⟨g, 0, none⟩) n c csI (j + 1) p2 (m + 1) c2 (cs ++ [⟨⟨c1.d.nm, 9, a, Z, 0, []⟩, pp, k2s.len, lc2⟩]) (ks.app ⟨c1.d.nm, 9, a, Z, 0, []⟩ k2s) ∧ Bg w8 P m2 s l f earl names en' st.2 q (ks.app ⟨c1.d.nm, 9, a, Z, 0, []⟩ k2s) csI (j + 1) sq bq) := ⟨hBk, hBg⟩
                    generalize (wr.setCell ⟨N, 3, none⟩ (.int .i64 (Z : Int))).drew = w10 at HA hn10 ⊢
                    obtain ⟨n0, n1, n2, n3', n4, n5, n6⟩ := hn10.cells
                    try dsimp only at n0 n1 n2 n3' n4 n5 n6
                    have hN10 := hn10.lt
                    clear hap hBk hBg hn10
                    go_wp2_with (at_builtin; refine Lib.wpList_append_run _ rfl (.tmp 73) (.tmp 75) _ _ rfl _ _ rfl rfl _ _ HA.out ?_)
                    go_roundw
                    case rel => exact ⟨j + 1, m + 1, p2, c2, cs ++ [⟨⟨c1.d.nm, 9, a, Z, 0, []⟩, pp, k2s.len, lc2⟩], ks.app ⟨c1.d.nm, 9, a, Z, 0, []⟩ k2s, sq, bq, rfl, by go_num, by omega, H8⟩
                    case measure => simp [intOf]; omega
                  · obtain ⟨t', ht'⟩ : ∃ t', r = t' + 1 := ⟨r - 1, by omega⟩
                    have HP : Hid (q1 = repQ Q c1.d a ∧ preN k2s (reps (L s) l (rdB (L s) l f) c1.d sub en1 (t' + 1) sq) = Q ∧ k + 1 + k2s.len ≤ sq.2 ∧ sq.2 ≤ 400) := ⟨hq1r, by rw [← ht']; exact hpre, hk4, hs4⟩
                    have hwr1 : IntKind.i64.wrap ((r : Int) - 1) = (t' : Int) := by rw [IntKind.wrap_i64]; have := HS.out.2.2; unfold R64 at this; omega
                    have HTT : Hid (r = t' + 1) := ht'
                    try dsimp only at d4 d5
                    clear hq1r hpre hk4 hs4 fin hr0 ht'
                    go_wp2_with fail
                    refine (cI _).mono ?_
                    rintro e wz ⟨rfl, hbz⟩
                    have HZ : Hid (Mw w7 wz Xb N P M7 s l sq (0, -1) c1 sub ⟨c1.d.nm, 9, a, 0, 0, []⟩ pp k2s.len lc2 cs2 k2s ∧ CvW wz.drew Xb N pp k2s.len lc2 c1 ∧ Bl wz wz.drew ∧ Om wz.drew m2 en2 k1) := by
                      have hW := HW.out.1.bl hbz
                      exact ⟨hW, (CvW.of hW.iv hW.nv).bl (Bl.refl _).drew, (Bl.refl _).drew, (Om.gq H7.out.2.2.2.1 hW.gq (by omega) (by omega)).below (Bl.refl _).drew⟩
                    have cO := vone_low f wz.drew P s l sq c1 sub m2 k1 en1 en2 (HZ.out.1.vw.bl HZ.out.2.2.1) (HZ.out.1.it.bl HZ.out.2.2.1) HI.out.1 HMN.out.2.1 HP.out.2.2.2 HB.out.2.1 HZ.out.2.2.2 HL.out.2.2.2.2 (evO_agree HE.out.1 HE.out.2.2.2.2.1) HE.out.2.2.2.2.2.1 HB.out.1 (by have h1 := HP.out.2.2.1; have h2 := HB.out.2.2.1; have h3 := HI.out.2.2.2.2.2.1; (try dsimp only at h3); omega)
                    rw [itV_eq] at cO
                    clear hbz cI d4 d5 hPq hlt hltW
                    go_upto_region 15 with fail
                    refine wp_region_Y 9 (fun wS => wS.cell? ⟨Xb, 0, none⟩ = some (.int .i64 (c1.d.kd : Int)) ∧ wS.cell? ⟨Xb, 1, none⟩ = some (.int .i64 (c1.d.at_ : Int)) ∧ wS.cell? ⟨Xb, 2, none⟩ = some (.string (tx c1.d.nm)) ∧ wS.cell? ⟨Xb, 3, none⟩ = some (.string (tx c1.d.ty)) ∧ wS.cell? ⟨Xb, 4, none⟩ = some (.int .i64 (c1.d.wd : Int)) ∧ wS.cell? ⟨Xb, 5, none⟩ = some (.int .i64 (c1.d.od : Int)) ∧ wS.cell? ⟨Xb, 6, none⟩ = some (.bool c1.d.sg) ∧ wS.cell? ⟨Xb, 7, none⟩ = some (.bool c1.d.mn) ∧ wS.cell? ⟨Xb, 8, none⟩ = some (.pointer c1.pc) ∧ wS.cell? ⟨Xb, 9, none⟩ = some (.int .i64 (c1.d.ru : Int)) ∧ wS.cell? ⟨Xb, 10, none⟩ = some (.string (tx c1.d.f1)) ∧ wS.cell? ⟨Xb, 11, none⟩ = some (.string (tx c1.d.l1)) ∧ wS.cell? ⟨Xb, 12, none⟩ = some (.slice c1.p c1.n c1.c) ∧ wS.cell? ⟨N, 6, none⟩ = some (.slice pp k2s.len lc2)) (by kernel_rfl) ?_
                    refine wpY_take (i := 0) (oi := _) (v := (.pointer (some ⟨N, 6, none⟩))) rfl (by kernel_rfl) (by kernel_rfl) (by kernel_rfl) (by kernel_rfl) (by kernel_rfl) (fun _ _ _ h => h) (HZ.out.2.1) (Or.inl ⟨by rfl, fun wS hW => ?_⟩) ?_
                    · dsimp only at hW
                      obtain ⟨hW0, hW1, hW2, hW3, hW4, hW5, hW6, hW7, hW8, hW9, hW10, hW11, hW12, hW13⟩ := hW
                      go_simp
                    try simp only [Act.put, List.setIfInBounds_toArray, List.set_cons_zero, List.set_cons_succ]
                    refine wpY_take (i := 1) (oi := _) (v := (.slice pp k2s.len lc2)) rfl (by kernel_rfl) (by kernel_rfl) (by kernel_rfl) (by kernel_rfl) (by kernel_rfl) (fun _ _ _ h => h) (HZ.out.2.1) (Or.inl ⟨by rfl, fun wS hW => ?_⟩) ?_
                    · dsimp only at hW
                      obtain ⟨hW0, hW1, hW2, hW3, hW4, hW5, hW6, hW7, hW8, hW9, hW10, hW11, hW12, hW13⟩ := hW
                      go_simp
                    try simp only [Act.put, List.setIfInBounds_toArray, List.set_cons_zero, List.set_cons_succ]
                    refine wpY_take (i := 2) (oi := _) (v := (.pointer (some ⟨P, 0, none⟩))) rfl (by kernel_rfl) (by kernel_rfl) (by kernel_rfl) (by kernel_rfl) (by kernel_rfl) (fun _ _ _ h => h) (HZ.out.2.1) (Or.inl ⟨by rfl, fun wS hW => ?_⟩) ?_
                    · dsimp only at hW
                      obtain ⟨hW0, hW1, hW2, hW3, hW4, hW5, hW6, hW7, hW8, hW9, hW10, hW11, hW12, hW13⟩ := hW
                      go_simp
                    try simp only [Act.put, List.setIfInBounds_toArray, List.set_cons_zero, List.set_cons_succ]
                    refine wpY_take (i := 3) (oi := _) (v := (.agg #[.int .i64 (c1.d.kd : Int), .int .i64 (c1.d.at_ : Int), .string (tx c1.d.nm), .string (tx c1.d.ty), .int .i64 (c1.d.wd : Int), .int .i64 (c1.d.od : Int), .bool c1.d.sg, .bool c1.d.mn, .pointer c1.pc, .int .i64 (c1.d.ru : Int), .string (tx c1.d.f1), .string (tx c1.d.l1), .slice c1.p c1.n c1.c])) rfl (by kernel_rfl) (by kernel_rfl) (by kernel_rfl) (by kernel_rfl) (by kernel_rfl) (fun _ _ _ h => h) (HZ.out.2.1) (Or.inl ⟨by rfl, fun wS hW => ?_⟩) ?_
                    · dsimp only at hW
                      obtain ⟨hW0, hW1, hW2, hW3, hW4, hW5, hW6, hW7, hW8, hW9, hW10, hW11, hW12, hW13⟩ := hW
                      go_simp
                    try simp only [Act.put, List.setIfInBounds_toArray, List.set_cons_zero, List.set_cons_succ]
                    refine wpY_take (i := 4) (oi := _) (v := (.map (some m2))) rfl (by kernel_rfl) (by kernel_rfl) (by kernel_rfl) (by kernel_rfl) (by kernel_rfl) (fun _ _ _ h => h) (HZ.out.2.1) (Or.inl ⟨by rfl, fun wS hW => ?_⟩) ?_
                    · dsimp only at hW
                      obtain ⟨hW0, hW1, hW2, hW3, hW4, hW5, hW6, hW7, hW8, hW9, hW10, hW11, hW12, hW13⟩ := hW
                      go_simp
                    try simp only [Act.put, List.setIfInBounds_toArray, List.set_cons_zero, List.set_cons_succ]
                    refine wpY_one (i := 5) (o := _) (by kernel_rfl) rfl (fun K hK => ?_)
                    go_simp
                    refine cO.mono ?_
                    rintro e w3' ⟨hg3, nd1, kp, kc, k1s, sq2, b2, rfl, hks3, hv3, hr3, hle3, hres3⟩
                    have hgz : Gp P wz w3' := (Gp.bl HZ.out.2.2.1).trans hg3
                    have hS3 : CvW w3' Xb N pp k2s.len lc2 c1 := CvW.of (HZ.out.1.iv.gp hgz (by have := HZ.out.1.lt; omega)) (HZ.out.1.nv.gp hgz (by have := HZ.out.1.lt; omega))
                    obtain ⟨p2, c2, w5', t1, t2, t3, t4, t5, t6⟩ := HZ.out.1.push (nd1 := nd1) hgz hv3 hks3 HZ.out.2.2.1.size (by have h1 := HP.out.2.2.1; have h2 := HP.out.2.2.2; omega)
                    have HA : Hid _ := t1
                    have HF : Hid (Mw w7 (w5'.setCell ⟨N, 6, none⟩ (.slice p2 (k2s.len + 1) c2)) Xb N P M7 s l sq2 b2 c1 sub ⟨c1.d.nm, 9, a, 0, 0, []⟩ p2 (k2s.app nd1 k1s).len c2 (cs2 ++ [⟨nd1, kp, k1s.len, kc⟩]) (k2s.app nd1 k1s) ∧ a ≤ sq2.1 ∧ ((b2 = (0, -1) ∧ q1 = repQ Q c1.d a ∧ preN (k2s.app nd1 k1s) (reps (L s) l (rdB (L s) l f) c1.d sub en1 t' sq2) = Q ∧ k + 1 + (k2s.app nd1 k1s).len ≤ sq2.2 ∧ sq2.2 ≤ 400) ∨ (b2.1 ≠ 0 ∧ q1 = .error b2))) := by
                      rw [Nds.app_len]
                      refine ⟨t5, Nat.le_trans HW.out.2.1 hle3, ?_⟩
                      rcases reps_next HB.out.2.1.ok (Or.inl HI.out.1) HI.out.2.2.1 (by rw [L_len]; exact HZ.out.1.vw.a) HP.out.2.2.2 hres3 HP.out.2.1 with ⟨h1, h2, h3, h4⟩ | ⟨h1, h2⟩
                      · exact Or.inl ⟨h1, HP.out.1, h2, by have := HP.out.2.2.1; omega, h4⟩
                      · exact Or.inr ⟨h1, by rw [HP.out.1, h2]; rfl⟩
                    unfold ndV
                    dsimp only
                    refine hK.out _ _ (fun _ => hS3) ?_
                    clear hK K
                    try simp only [Act.put, List.setIfInBounds_toArray, List.set_cons_zero, List.set_cons_succ]
                    refine wpY_one (i := 6) (o := _) (by kernel_rfl) rfl (fun K hK => ?_)
                    go_simp
                    refine hK.out _ _ (fun _ => hS3.bl ((Bl.refl _).alloc _)) ?_
                    clear hK K
                    try simp only [Act.put, List.setIfInBounds_toArray, List.set_cons_zero, List.set_cons_succ]
                    refine wpY_one (i := 7) (o := _) (by kernel_rfl) rfl (fun K hK => ?_)
                    refine step_append_run rfl (.tmp 57) (.tmp 62) 25 25 rfl (.slice pp k2s.len lc2) (.slice (some ⟨w3'.heap.size, 0, none⟩) 1 1) rfl rfl (.slice p2 (k2s.len + 1) c2) w5' ?hr ?_
                    case hr => first | with_reducible exact HA.out | exact HA.out
                    refine hK.out _ _ (fun _ => t6) ?_
                    clear hK K
                    try simp only [Act.put, List.setIfInBounds_toArray, List.set_cons_zero, List.set_cons_succ]
                    refine wpY_one (i := 8) (o := _) (by kernel_rfl) rfl (fun K hK => ?_)
                    go_simp
                    refine hK.out _ _ (fun _ => t6) ?_
                    clear hK K
                    try simp only [Act.put, List.setIfInBounds_toArray, List.set_cons_zero, List.set_cons_succ]
                    refine wpY_one (i := 9) (o := _) (by kernel_rfl) rfl (fun K hK => ?_)
                    go_simp
                    refine hK.out _ _ (fun h => absurd h (by decide)) ?_
                    clear hK K
                    try simp only [Act.put, List.setIfInBounds_toArray, List.set_cons_zero, List.set_cons_succ]
                    refine wpY_done (by kernel_rfl) ?_ _
                    generalize w5'.setCell ⟨N, 6, none⟩ (.slice p2 (k2s.len + 1) c2) = W at HF ⊢
                    clear cO hg3 hks3 hv3 hr3 hle3 hres3 hgz hS3 t1 t2 t3 t4 t5 t6 HA
                    go_wp2
                    go_roundw
                    case rel => exact ⟨t', p2, c2, cs2 ++ [⟨nd1, kp, k1s.len, kc⟩], k2s.app nd1 k1s, sq2, b2, rfl, by rw [Nds.app_len]; have := HTT.out; omega, HF⟩
                    case measure => have := HTT.out; simp [intOf]; omega
    · obtain rfl : j = n := by omega
      have hju : decide ((j : Int) < (j : Int)) = false := decide_eq_false (by omega)
      go_wp2
      go_ret
      have hK := HM.out.1
      obtain ⟨p'', c'', e1, e2, e3⟩ := hK.gn.is (Nat.le_refl _)
      simp only [Value.slice.injEq] at e1
      obtain ⟨rfl, e4, rfl⟩ := e1
      refine ⟨hK.gq, _, _, ks, st', b, by rw [hK.ln]; rfl, ?_, hK.vw, hK.a, ?_, ?_⟩
      · exact e2.mono (fun g h1 _ => by have := hK.lt; omega)
      · rcases HM.out.2 with ⟨rfl, _, _, rest, en1, en2, k1, names1, seen1, hre1, _, _, _, hpre, _⟩ | ⟨hbn, hqb⟩
        · rw [List.drop_eq_nil_of_le (by have := HB.out.2.2.2.1; omega)] at hre1
          cases rest with
          | nil => rw [blk_end] at hpre; rw [← hpre]; exact ⟨rfl, rfl, rfl⟩
          | cons d sub t => obtain ⟨c', r, e, _⟩ := hre1; cases e
        · rw [hqb]; exact ⟨rfl, hbn⟩
      · intro hb
        rcases HM.out.2 with ⟨rfl, _, _, rest, en1, en2, k1, names1, seen1, _, _, hom1, hk1, _, _, _, hnm0, _⟩ | ⟨hbn, _⟩
        · exact ⟨en2, k1, hom1, hk1, fun y hy => (hnm0 y hy).2⟩
        · exact absurd hb hbn
theorem vblk (s : ByteArray) (l : List Ty) (hl : LK l) (f : Nat) : VBlk s l f := by
  induction f with
  | zero => exact vblk_zero s l
  | succ f ih => exact vblk_succ s l hl f ih
end Go.Proofs.YtococaecjecjgaaGreatDoor.ly
namespace Go.Proofs.YtococaecjecjgaaGreatDoor.ly
set_option linter.unusedVariables false
open Go.ChangeShapes Go.WideShapes Go.ChangeAt Go.RowKit
open mem lx ex tm num

theorem results_cell_cell {fn : Func} {p u : Tmp} {ty ty' : TypeId} (h : fn.results = #[.cell p ty, .cell u ty']) (tmps : Array Value) (P : Program) (w : World) (A B : Nat) (x y : Value) (hp : tmps.getD p undef = .pointer (some ⟨A, 0, none⟩)) (hu : tmps.getD u undef = .pointer (some ⟨B, 0, none⟩)) (hl : (loadVar ty ⟨A, 0, none⟩).run P w = .ok x w) (hm : (loadVar ty' ⟨B, 0, none⟩).run P w = .ok y w) :
    (results fn tmps).run P w = .ok (.tuple #[x, y]) w := by
  have hp' : tmps[p]?.getD undef = .pointer (some ⟨A, 0, none⟩) := by simpa using hp
  have hu' : tmps[u]?.getD undef = .pointer (some ⟨B, 0, none⟩) := by simpa using hu
  simp only [results, h]
  simp [Result.andThen, hp', hu', asAddr, hl, hm]
theorem ldN {w : World} {N : Nat} {d : ND} {p : Option Addr} {n c : Nat} (h : Nv w N d p n c) : (loadVar 27 ⟨N, 0, none⟩).run Tryz.prog w = .ok (ndV d p n c) w :=
  run_loadVar_row w N 27 27 _ (0, 0) _ h Tryz.underlying27 rfl infoN
theorem ists_mono {w : World} {ok ok' : Nat → Prop} {v : Value} {l : List Ty} (h : IsTs w ok v l) (ho : ∀ g, ok g → g < w.heap.size → ok' g) : IsTs w ok' v l := by
  obtain ⟨p, c, cs, h1, h2, h3⟩ := h
  exact ⟨p, c, cs, h1, h2.mono ho, h3.mono ho⟩
structure Rf (w W : World) (R F : Nat) : Prop where
  nv : Nv W R ⟨[], 0, 0, 0, 0, []⟩ none 0 0
  fv : W.heap[F]? = some (.cells #[.int .i64 0, .int .i64 0] 30 (0, 0))
  bl : Bl w W
  r : R = w.heap.size
  f : F = R + 1
theorem Rf.new (w : World) : Rf w ((w.alloc (.cells #[.string ⟨#[]⟩, .int .i64 0, .int .i64 0, .int .i64 0, .int .i64 0, .string ⟨#[]⟩, .slice none 0 0] 27)).alloc (.cells #[.int .i64 0, .int .i64 0] 30)) w.heap.size (w.heap.size + 1) := by
  generalize hw1 : w.alloc (.cells #[.string ⟨#[]⟩, .int .i64 0, .int .i64 0, .int .i64 0, .int .i64 0, .string ⟨#[]⟩, .slice none 0 0] 27) = w1
  have e1 : w1.heap.size = w.heap.size + 1 := by rw [← hw1]; simp
  have n1 : Nv w1 w.heap.size ⟨[], 0, 0, 0, 0, []⟩ none 0 0 := by rw [← hw1]; exact new_at _ _
  have b1 : Bl w w1 := by rw [← hw1]; exact (Bl.refl _).alloc _
  refine ⟨n1.bl ((Bl.refl _).alloc _), ?_, b1.trans ((Bl.refl _).alloc _), rfl, rfl⟩
  rw [← e1]
  exact new_at _ _
theorem Rf.step {w W W' : World} {R F : Nat} (h : Rf w W R F) (hb : Bl W W') : Rf w W' R F :=
  ⟨h.nv.bl hb, (Below.block hb F (lt_of_heap h.fv)).trans h.fv, h.bl.trans hb, h.r, h.f⟩
theorem Rf.gp {w W W' : World} {R F P : Nat} (h : Rf w W R F) (hg : Gp P W W') (hP : F < P) : Rf w W' R F := by
  have := h.f
  have := h.r
  exact ⟨h.nv.gp hg (by omega), (hg.block F (lt_of_heap h.fv) (by omega)).trans h.fv, Gp.below h.bl hg (by omega), h.r, h.f⟩
theorem Rf.cells {w W : World} {R F : Nat} (h : Rf w W R F) : W.cell? ⟨F, 0, none⟩ = some (.int .i64 0) ∧ W.cell? ⟨F, 1, none⟩ = some (.int .i64 0) ∧ W.frozen? ⟨F, 0, none⟩ = false ∧ W.frozen? ⟨F, 1, none⟩ = false ∧ F < W.heap.size :=
  ⟨by rw [cell_of h.fv]; rfl, by rw [cell_of h.fv]; rfl, by simp [World.frozen?, h.fv], by simp [World.frozen?, h.fv], lt_of_heap h.fv⟩
theorem Rf.told {w W : World} {R F : Nat} (h : Rf w W R F) (nd : ND) (p : Option Addr) (n c : Nat) (x y : Int) :
    Nv (((st7 W R nd p n c).setCell ⟨F, 0, none⟩ (.int .i64 x)).setCell ⟨F, 1, none⟩ (.int .i64 y)) R nd p n c ∧ (((st7 W R nd p n c).setCell ⟨F, 0, none⟩ (.int .i64 x)).setCell ⟨F, 1, none⟩ (.int .i64 y)).heap[F]? = some (.cells #[.int .i64 x, .int .i64 y] 30 (0, 0)) ∧ Bl w (((st7 W R nd p n c).setCell ⟨F, 0, none⟩ (.int .i64 x)).setCell ⟨F, 1, none⟩ (.int .i64 y)) ∧ W.heap.size ≤ (((st7 W R nd p n c).setCell ⟨F, 0, none⟩ (.int .i64 x)).setCell ⟨F, 1, none⟩ (.int .i64 y)).heap.size ∧ ∀ g, g < W.heap.size → F < g → (((st7 W R nd p n c).setCell ⟨F, 0, none⟩ (.int .i64 x)).setCell ⟨F, 1, none⟩ (.int .i64 y)).heap[g]? = W.heap[g]? := by
  have hr := h.r
  have hf := h.f
  have h7 := st7_gp W R nd p n c
  have hn := h.nv.store nd p n c
  have hF7 : (st7 W R nd p n c).heap[F]? = some (.cells #[.int .i64 0, .int .i64 0] 30 (0, 0)) := (h7.block F (lt_of_heap h.fv) (by omega)).trans h.fv
  have hg : Gp F (st7 W R nd p n c) (((st7 W R nd p n c).setCell ⟨F, 0, none⟩ (.int .i64 x)).setCell ⟨F, 1, none⟩ (.int .i64 y)) := (Gp.set _).trans (Gp.set _)
  refine ⟨hn.gp hg (by omega), upd2 _ F _ _ _ _ _ hF7, Gp.below (Gp.below h.bl h7 (by omega)) hg (by omega), Nat.le_trans h7.size hg.size, fun g h1 h2 => (hg.block g (Nat.lt_of_lt_of_le h1 h7.size) (by omega)).trans (h7.block g h1 (by omega))⟩
def LrAns (w : World) (q : Except Er (ND × Nds)) (e : Ending) (w' : World) : Prop :=
  Bl w w' ∧ match q with
  | .ok (nd, ks) => ∃ p c, e = .returned (.tuple #[ndV nd p ks.len c, flt 0 (-1)]) ∧ IsNs w' (fun g => w.heap.size ≤ g) p ks.len c ks
  | .error er => e = .returned (.tuple #[ndV ⟨[], 0, 0, 0, 0, []⟩ none 0 0, flt er.1 er.2]) ∧ er.1 ≠ 0
def endB (s : ByteArray) (st : St) (b : Er) : Er := if st.1 < s.size then wrg b 3 st.1 else b
theorem rd_res {s : ByteArray} {l : List Ty} {x : List UInt8} {nd : ND} {ks : Nds} {st : St} {b : Er} (h : ResN (one (L s) l (rdB (L s) l 400) (topD x) .nil noE (0, 0)) nd ks st b) :
    ((endB s st b).1 = 0 ∧ endB s st b = (0, -1) ∧ rd (L s) l x = .ok (nd, ks)) ∨ ((endB s st b).1 ≠ 0 ∧ rd (L s) l x = .error (endB s st b)) := by
  unfold rd endB wrg
  generalize hq : one (L s) l (rdB (L s) l 400) (topD x) .nil noE (0, 0) = q at h ⊢
  cases q with
  | error er =>
    obtain ⟨rfl, hne⟩ := h
    right
    dsimp only
    rw [if_neg hne]
    have : (if st.1 < s.size then b else b) = b := by split <;> rfl
    rw [this]
    exact ⟨hne, rfl⟩
  | ok r =>
    obtain ⟨nd', ks', st'⟩ := r
    obtain ⟨rfl, rfl, rfl, rfl⟩ := h
    dsimp only
    rw [L_len]
    by_cases hlt : st.1 < s.size
    · right
      rw [if_pos hlt, if_pos hlt, if_pos rfl]
      exact ⟨show (3 : Int) ≠ 0 by decide, rfl⟩
    · left
      rw [if_neg hlt, if_neg hlt]
      exact ⟨rfl, rfl, rfl⟩
theorem rd_none {s : ByteArray} {l : List Ty} {x : List UInt8} (h : fnd l x = none) : rd (L s) l x = .error (7, -1) := by
  unfold rd one body
  rw [if_neg (show ¬ (0 : Nat) = 400 by decide), if_neg (show ¬ (topD x).kd = 1 from (by decide : ¬ (3 : Nat) = 1)), if_neg (show ¬ (topD x).kd = 2 from (by decide : ¬ (3 : Nat) = 2)), if_pos (show (topD x).kd = 3 from rfl)]
  rw [show (topD x).ty = x from rfl, h]
set_option maxRecDepth 10000 in
set_option maxHeartbeats 8000000 in
theorem LRead_at (w : World) (ok : Nat → Prop) (vp : Option Addr) (vn vc : Nat) (l : List Ty) (x : List UInt8) (s : ByteArray) (h : IsTs w ok (.slice vp vn vc) l) (hl : LK l) (hx : x.length ≤ maxLen) (hs : s.size ≤ 5000) :
    Calls Tryz.prog 7 #[.slice vp vn vc, .string (tx x), .string s] w fun e w' => LrAns w (rd (L s) l x) e w' := by
  have hF := Rf.new w
  obtain ⟨w1, hw1⟩ : ∃ w1, w1 = (w.alloc (.cells #[.string ⟨#[]⟩, .int .i64 0, .int .i64 0, .int .i64 0, .int .i64 0, .string ⟨#[]⟩, .slice none 0 0] 27)).alloc (.cells #[.int .i64 0, .int .i64 0] 30) := ⟨_, rfl⟩
  obtain ⟨R, hR⟩ : ∃ R, R = w.heap.size := ⟨_, rfl⟩
  obtain ⟨F, hFF⟩ : ∃ F, F = R + 1 := ⟨_, rfl⟩
  rw [← hw1, ← hR, ← hFF] at hF
  have HF1 : Hid (Rf w w1 R F) := hF
  have h1 := h.bl hF.bl
  have HT : Hid (IsTs w1 ok (.slice vp vn vc) l ∧ LK l ∧ x.length ≤ maxLen ∧ s.size ≤ 5000) := ⟨h1, hl, hx, hs⟩
  have cIt := itemsOf_at w1 ok _ l x h1 hl.n8
  rw [hl.fndF] at cIt
  obtain ⟨TX, hTX⟩ : ∃ TX, TX = tx x := ⟨_, rfl⟩
  obtain ⟨Q, hQ⟩ : ∃ Q, Q = rd (L s) l x := ⟨_, rfl⟩
  rw [← hTX] at cIt ⊢
  rw [← hQ]
  have HX : Hid (TX = tx x ∧ Q = rd (L s) l x) := ⟨hTX, hQ⟩
  clear hTX hQ h h1 hl hx hs hF
  go_enter Tryz.func7, Tryz.ntmps7
  go_upto_region 1 with fail
  rw [← hw1, ← hR]
  try rw [← hFF]
  clear hw1 hR hFF
  go_wp2_with fail
  refine cIt.mono ?_
  rintro e w2 ⟨hb2, hans⟩
  cases hfn : fnd l x with
  | none =>
    rw [hfn] at hans
    dsimp only at hans
    subst hans
    have hF2 := HF1.out.step hb2
    have hq : Q = .error (7, -1) := by rw [HX.out.2, rd_none hfn]
    subst hq
    have HE := hF2.told ⟨[], 0, 0, 0, 0, []⟩ none 0 0 7 (-1)
    have HEE : Hid _ := HE
    obtain ⟨m0, m1, m2, m3, m4, m5, m6⟩ := hF2.nv.cells
    obtain ⟨y0, y1, y2, y3, y4, y5, y6⟩ := hF2.nv.fz
    obtain ⟨u0, u1, z0, z1, hFs⟩ := hF2.cells
    have hRs := hF2.nv.lt
    have hRF : F ≠ R := by have := hF2.f; omega
    clear HE hF2 hb2 cIt hfn
    go_wp2
    exact bodyPost_ret (v := .tuple #[ndV ⟨[], 0, 0, 0, 0, []⟩ none 0 0, flt 7 (-1)]) (results_cell_cell (p := 6) (u := 7) (ty := 27) (ty' := 30) rfl _ _ _ R F _ _ rfl rfl (ldN HEE.out.1) (ldF _ _ _ _ HEE.out.2.1)) rfl ⟨HEE.out.2.2.1, rfl, show (7 : Int) ≠ 0 by decide⟩
  | some i =>
    rw [hfn] at hans
    obtain ⟨ip, inn, ic, ics, rfl, _, _⟩ := hans
    have HW2 : Hid (Rf w w2 R F ∧ IsTs w2 ok (.slice vp vn vc) l ∧ fnd l x = some i) := ⟨HF1.out.step hb2, HT.out.1.bl hb2, hfn⟩
    clear hb2 cIt hfn
    go_wp2_with fail
    refine (GoodX _).mono ?_
    rintro e w4 ⟨rfl, hb4⟩
    obtain ⟨P, hP⟩ : ∃ P, P = w4.heap.size := ⟨_, rfl⟩
    obtain ⟨w5, hw5⟩ : ∃ w5, w5 = w4.alloc (.cells #[.slice vp vn vc, .string s, .int .i64 0, .int .i64 0, .int .i64 0, .int .i64 (-1)] 56) := ⟨_, rfl⟩
    have hb5 : Bl w4 w5 := by rw [hw5]; exact (Bl.refl _).alloc _
    have hF4 := HW2.out.1.step hb4
    have hFP : F < P := by rw [hP]; exact hF4.cells.2.2.2.2
    have hF5 := hF4.step hb5
    have hV5 : Vw w5 P s l (0, 0) (0, -1) := ⟨⟨vp, vn, vc, by rw [hw5, hP]; exact new_at _ _, (ists_mono (HW2.out.2.1.bl hb4) (fun g _ hg => by omega)).bl hb5⟩, Nat.zero_le _, Nat.zero_le _, HT.out.2.2.2⟩
    have cO := vone_struct 400 w5 P s l 0 0 (cT x) .nil (.map none) hV5 ⟨rfl, [], ⟨rfl, Nat.le_refl _, Or.inl rfl⟩, rfl⟩ (topD_wk HT.out.2.2.1) rfl (Nat.zero_le _) HT.out.2.1 i HW2.out.2.2 (vblk s l HT.out.2.1 400) (Nat.le_refl _) noE
    rw [show (cT x).d = topD x from rfl] at cO
    have hIV : itV (cT x) = .agg #[.int .i64 3, .int .i64 0, .string TX, .string TX, .int .i64 0, .int .i64 0, .bool false, .bool false, .pointer none, .int .i64 0, .string ⟨#[]⟩, .string ⟨#[]⟩, .slice none 0 0] := by rw [HX.out.1]; rfl
    rw [hIV] at cO
    have H5 : Hid (Rf w w5 R F ∧ F < P ∧ P < w5.heap.size) := ⟨hF5, hFP, hV5.lt'⟩
    clear hIV hb4 hb5 hF4 hF5 hFP hV5
    go_upto_region 5 with fail
    rw [← hw5, ← hP]
    clear hw5 hP
    go_wp2_with fail
    refine cO.mono ?_
    rintro e w6 ⟨hg6, nd, p, pc, ks, st', b, rfl, hns, hv6, hr64, _, hres⟩
    have hrd := rd_res hres
    rw [← HX.out.2] at hrd
    obtain ⟨N, hN⟩ : ∃ N, N = w6.heap.size := ⟨_, rfl⟩
    obtain ⟨w7, hw7⟩ : ∃ w7, w7 = w6.alloc (.cells #[.string (tx nd.nm), .int .i64 (nd.kd : Int), .int .i64 (nd.at_ : Int), .int .i64 (nd.sz : Int), .int .i64 nd.n, .string (tx nd.tx), .slice p ks.len pc] 27) := ⟨_, rfl⟩
    have hb7 : Bl w6 w7 := by rw [hw7]; exact (Bl.refl _).alloc _
    have hN7 : Nv w7 N nd p ks.len pc := by rw [hw7, hN]; exact new_at _ _
    have hPN : P < N := by rw [hN]; exact hv6.lt'
    have H7 : Hid (Rf w w7 R F ∧ Vw w7 P s l st' b ∧ Nv w7 N nd p ks.len pc ∧ IsNs w7 (fun g => w5.heap.size ≤ g) p ks.len pc ks ∧ P < N ∧ F < w5.heap.size ∧ w.heap.size ≤ w5.heap.size) := ⟨(H5.out.1.gp hg6 H5.out.2.1).step hb7, hv6.bl hb7, hN7, hns.bl hb7, hPN, H5.out.1.cells.2.2.2.2, H5.out.1.bl.size⟩
    obtain ⟨eb, heb⟩ : ∃ eb, eb = endB s st' b := ⟨_, rfl⟩
    rw [← heb] at hrd
    have HR : Hid ((eb.1 = 0 ∧ eb = (0, -1) ∧ Q = .ok (nd, ks)) ∨ (eb.1 ≠ 0 ∧ Q = .error eb)) := hrd
    have HB : Hid (eb = endB s st' b) := heb
    clear hg6 hns hv6 hr64 hres hrd heb hb7 hN7 hPN cO
    unfold ndV
    go_upto_region 6 with fail
    rw [← hw7, ← hN]
    clear hw7 hN
    obtain ⟨d1, d2, d3, d4, d5, dz⟩ := H7.out.2.1.cells
    have hP7 := H7.out.2.1.lt'
    obtain ⟨A, hA⟩ : ∃ A, A = st'.1 := ⟨_, rfl⟩
    rw [← hA] at d2
    clear d1 d3 dz
    by_cases hlt : A < s.size
    · have hd : decide (A < s.size) = true := decide_eq_true hlt
      have cW := wrong_at w7 P s l st' b 3 H7.out.2.1
      rw [show wrg b 3 st'.1 = eb by rw [HB.out]; unfold endB; rw [if_pos (by rw [← hA]; exact hlt)]] at cW
      clear d4 d5 hlt hA
      go_wp2_with fail
      refine cW.mono ?_
      rintro e w8 ⟨rfl, hv8, hg8⟩
      have H8 : Hid (Rf w w8 R F ∧ Vw w8 P s l st' eb ∧ Nv w8 N nd p ks.len pc ∧ IsNs w8 (fun g => w5.heap.size ≤ g) p ks.len pc ks ∧ P < N ∧ F < w5.heap.size ∧ w.heap.size ≤ w5.heap.size) := ⟨H7.out.1.gp hg8 H5.out.2.1, hv8, H7.out.2.2.1.gp hg8 (by have := H7.out.2.2.2.2.1; omega), H7.out.2.2.2.1.keep (fun g h1 h2 => hg8.block g h2 (by have := H5.out.2.2; omega)) hg8.size, H7.out.2.2.2.2⟩
      clear hv8 hg8 cW d2 hP7 hd
      have HFP : Hid (F < P) := H5.out.2.1
      clear HB H7 HW2 H5
      obtain ⟨ec, ep⟩ := eb
      obtain ⟨d1, d2, d3, d4, d5, dz⟩ := H8.out.2.1.cells
      have hP8 := H8.out.2.1.lt'
      dsimp only at d4 d5
      clear d1 d2 d3 dz
      have cI := Is_at ec ep
      rcases HR.out with ⟨_, he, hq⟩ | ⟨hne, hq⟩
      · simp only [Prod.mk.injEq] at he
        obtain ⟨rfl, rfl⟩ := he
        subst hq
        go_wp2_with fail
        refine (cI _).mono ?_
        rintro e w9 ⟨rfl, hb9⟩
        have H9 : Hid (Rf w w9 R F ∧ Nv w9 N nd p ks.len pc ∧ IsNs w9 (fun g => w5.heap.size ≤ g) p ks.len pc ks ∧ F < w5.heap.size ∧ w.heap.size ≤ w5.heap.size) := ⟨H8.out.1.step hb9, H8.out.2.2.1.bl hb9, H8.out.2.2.2.1.bl hb9, H8.out.2.2.2.2.2⟩
        clear hb9 cI d4 d5 hP8 H8 HR
        have hbd : Bl w9 w9.drew := (Bl.refl _).drew
        obtain ⟨n0, n1, n2, n3, n4, n5, n6⟩ := (H9.out.2.1.bl hbd).cells
        have hN9 := (H9.out.2.1.bl hbd).lt
        have hRF : F ≠ R := by have := H9.out.1.f; omega
        clear hbd
        go_upto_region 10 with fail
        go_region_with (go_at_call 21; refine (GoodX _).mono ?_; rintro e w10 ⟨rfl, hb10⟩; have HB10 : Hid (Bl w9 w10) := ((Bl.refl w9).drew).trans hb10; obtain ⟨k0, k1, k2, k3, k4, k5, k6⟩ := (H9.out.2.1.bl HB10.out).cells; obtain ⟨m0, m1, m2, m3, m4, m5, m6⟩ := (H9.out.1.step HB10.out).nv.cells; obtain ⟨y0, y1, y2, y3, y4, y5, y6⟩ := (H9.out.1.step HB10.out).nv.fz; obtain ⟨u0, u1, z0, z1, hFs⟩ := (H9.out.1.step HB10.out).cells; have hRs := (H9.out.1.step HB10.out).nv.lt; have hN10 := (H9.out.2.1.bl HB10.out).lt; clear hb10)
        all_goals
          go_wp2
          have HE := (H9.out.1.step HB10.out).told nd p ks.len pc 0 (-1)
          have hns := H9.out.2.2.1.bl HB10.out
          exact bodyPost_ret (v := .tuple #[ndV nd p ks.len pc, flt 0 (-1)]) (results_cell_cell (p := 6) (u := 7) (ty := 27) (ty' := 30) rfl _ _ _ R F _ _ rfl rfl (ldN HE.1) (ldF _ _ _ _ HE.2.1)) rfl ⟨HE.2.2.1, p, pc, rfl, (hns.keep (fun g h1 h2 => HE.2.2.2.2 g h2 (by have := H9.out.2.2.2; omega)) HE.2.2.2.1).mono (fun g h1 _ => by have := H9.out.2.2.2; omega)⟩
      · have hI : (ec == 0) = false := by rw [beq_eq_false_iff_ne]; exact hne
        have HNE : Hid (ec ≠ 0) := hne
        subst hq
        clear hne
        go_wp2_with fail
        refine (cI _).mono ?_
        rintro e w9 ⟨rfl, hb9⟩
        have H9 : Hid (Rf w w9 R F) := H8.out.1.step hb9
        have q4' := at_bl hb9 d4
        have q5' := at_bl hb9 d5
        have hbd : Bl w9 w9.drew := (Bl.refl _).drew
        have q4 := at_bl hbd q4'
        have q5 := at_bl hbd q5'
        clear hb9 cI d4 d5 hP8 H8 HR
        obtain ⟨m0, m1, m2, m3, m4, m5, m6⟩ := (H9.out.step hbd).nv.cells
        obtain ⟨y0, y1, y2, y3, y4, y5, y6⟩ := (H9.out.step hbd).nv.fz
        obtain ⟨u0, u1, z0, z1, hFs⟩ := (H9.out.step hbd).cells
        obtain ⟨m0', m1', m2', m3', m4', m5', m6'⟩ := H9.out.nv.cells
        obtain ⟨y0', y1', y2', y3', y4', y5', y6'⟩ := H9.out.nv.fz
        obtain ⟨u0', u1', z0', z1', hFs'⟩ := H9.out.cells
        have hRs' := H9.out.nv.lt
        have hRs := (H9.out.step hbd).nv.lt
        have hRF : F ≠ R := by have := H9.out.f; omega
        have hPR : P ≠ R := by have := H9.out.f; have := HFP.out; omega
        have hPF : P ≠ F := by have := HFP.out; omega
        clear hbd
        go_upto_region 9 with fail
        go_region
        all_goals
          go_wp2
          have HE := H9.out.told ⟨[], 0, 0, 0, 0, []⟩ none 0 0 ec ep
          have hd : Bl (((st7 w9 R ⟨[], 0, 0, 0, 0, []⟩ none 0 0).setCell ⟨F, 0, none⟩ (.int .i64 ec)).setCell ⟨F, 1, none⟩ (.int .i64 ep)) (((st7 w9 R ⟨[], 0, 0, 0, 0, []⟩ none 0 0).setCell ⟨F, 0, none⟩ (.int .i64 ec)).setCell ⟨F, 1, none⟩ (.int .i64 ep)).drew := (Bl.refl _).drew
          exact bodyPost_ret (v := .tuple #[ndV ⟨[], 0, 0, 0, 0, []⟩ none 0 0, flt ec ep]) (results_cell_cell (p := 6) (u := 7) (ty := 27) (ty' := 30) rfl _ _ _ R F _ _ rfl rfl (ldN (HE.1.bl hd)) (ldF _ _ _ _ ((Below.block hd F (lt_of_heap HE.2.1)).trans HE.2.1))) rfl ⟨HE.2.2.1.trans hd, rfl, HNE.out⟩
    · have hd : decide (A < s.size) = false := decide_eq_false hlt
      have H8 : Hid (Rf w w7 R F ∧ Vw w7 P s l st' eb ∧ Nv w7 N nd p ks.len pc ∧ IsNs w7 (fun g => w5.heap.size ≤ g) p ks.len pc ks ∧ P < N ∧ F < w5.heap.size ∧ w.heap.size ≤ w5.heap.size) := by
        rw [show eb = b by rw [HB.out]; unfold endB; rw [if_neg (by rw [← hA]; exact hlt)]]
        exact H7.out
      clear d4 d5 hlt hA
      go_upto_region 8 with fail
      generalize w7 = w8 at H8 ⊢
      clear d2 hP7 hd
      have HFP : Hid (F < P) := H5.out.2.1
      clear HB H7 HW2 H5
      obtain ⟨ec, ep⟩ := eb
      obtain ⟨d1, d2, d3, d4, d5, dz⟩ := H8.out.2.1.cells
      have hP8 := H8.out.2.1.lt'
      dsimp only at d4 d5
      clear d1 d2 d3 dz
      have cI := Is_at ec ep
      rcases HR.out with ⟨_, he, hq⟩ | ⟨hne, hq⟩
      · simp only [Prod.mk.injEq] at he
        obtain ⟨rfl, rfl⟩ := he
        subst hq
        go_wp2_with fail
        refine (cI _).mono ?_
        rintro e w9 ⟨rfl, hb9⟩
        have H9 : Hid (Rf w w9 R F ∧ Nv w9 N nd p ks.len pc ∧ IsNs w9 (fun g => w5.heap.size ≤ g) p ks.len pc ks ∧ F < w5.heap.size ∧ w.heap.size ≤ w5.heap.size) := ⟨H8.out.1.step hb9, H8.out.2.2.1.bl hb9, H8.out.2.2.2.1.bl hb9, H8.out.2.2.2.2.2⟩
        clear hb9 cI d4 d5 hP8 H8 HR
        have hbd : Bl w9 w9.drew := (Bl.refl _).drew
        obtain ⟨n0, n1, n2, n3, n4, n5, n6⟩ := (H9.out.2.1.bl hbd).cells
        have hN9 := (H9.out.2.1.bl hbd).lt
        have hRF : F ≠ R := by have := H9.out.1.f; omega
        clear hbd
        go_upto_region 10 with fail
        go_region_with (go_at_call 21; refine (GoodX _).mono ?_; rintro e w10 ⟨rfl, hb10⟩; have HB10 : Hid (Bl w9 w10) := ((Bl.refl w9).drew).trans hb10; obtain ⟨k0, k1, k2, k3, k4, k5, k6⟩ := (H9.out.2.1.bl HB10.out).cells; obtain ⟨m0, m1, m2, m3, m4, m5, m6⟩ := (H9.out.1.step HB10.out).nv.cells; obtain ⟨y0, y1, y2, y3, y4, y5, y6⟩ := (H9.out.1.step HB10.out).nv.fz; obtain ⟨u0, u1, z0, z1, hFs⟩ := (H9.out.1.step HB10.out).cells; have hRs := (H9.out.1.step HB10.out).nv.lt; have hN10 := (H9.out.2.1.bl HB10.out).lt; clear hb10)
        all_goals
          go_wp2
          have HE := (H9.out.1.step HB10.out).told nd p ks.len pc 0 (-1)
          have hns := H9.out.2.2.1.bl HB10.out
          exact bodyPost_ret (v := .tuple #[ndV nd p ks.len pc, flt 0 (-1)]) (results_cell_cell (p := 6) (u := 7) (ty := 27) (ty' := 30) rfl _ _ _ R F _ _ rfl rfl (ldN HE.1) (ldF _ _ _ _ HE.2.1)) rfl ⟨HE.2.2.1, p, pc, rfl, (hns.keep (fun g h1 h2 => HE.2.2.2.2 g h2 (by have := H9.out.2.2.2; omega)) HE.2.2.2.1).mono (fun g h1 _ => by have := H9.out.2.2.2; omega)⟩
      · have hI : (ec == 0) = false := by rw [beq_eq_false_iff_ne]; exact hne
        have HNE : Hid (ec ≠ 0) := hne
        subst hq
        clear hne
        go_wp2_with fail
        refine (cI _).mono ?_
        rintro e w9 ⟨rfl, hb9⟩
        have H9 : Hid (Rf w w9 R F) := H8.out.1.step hb9
        have q4' := at_bl hb9 d4
        have q5' := at_bl hb9 d5
        have hbd : Bl w9 w9.drew := (Bl.refl _).drew
        have q4 := at_bl hbd q4'
        have q5 := at_bl hbd q5'
        clear hb9 cI d4 d5 hP8 H8 HR
        obtain ⟨m0, m1, m2, m3, m4, m5, m6⟩ := (H9.out.step hbd).nv.cells
        obtain ⟨y0, y1, y2, y3, y4, y5, y6⟩ := (H9.out.step hbd).nv.fz
        obtain ⟨u0, u1, z0, z1, hFs⟩ := (H9.out.step hbd).cells
        obtain ⟨m0', m1', m2', m3', m4', m5', m6'⟩ := H9.out.nv.cells
        obtain ⟨y0', y1', y2', y3', y4', y5', y6'⟩ := H9.out.nv.fz
        obtain ⟨u0', u1', z0', z1', hFs'⟩ := H9.out.cells
        have hRs' := H9.out.nv.lt
        have hRs := (H9.out.step hbd).nv.lt
        have hRF : F ≠ R := by have := H9.out.f; omega
        have hPR : P ≠ R := by have := H9.out.f; have := HFP.out; omega
        have hPF : P ≠ F := by have := HFP.out; omega
        clear hbd
        go_upto_region 9 with fail
        go_region
        all_goals
          go_wp2
          have HE := H9.out.told ⟨[], 0, 0, 0, 0, []⟩ none 0 0 ec ep
          have hd : Bl (((st7 w9 R ⟨[], 0, 0, 0, 0, []⟩ none 0 0).setCell ⟨F, 0, none⟩ (.int .i64 ec)).setCell ⟨F, 1, none⟩ (.int .i64 ep)) (((st7 w9 R ⟨[], 0, 0, 0, 0, []⟩ none 0 0).setCell ⟨F, 0, none⟩ (.int .i64 ec)).setCell ⟨F, 1, none⟩ (.int .i64 ep)).drew := (Bl.refl _).drew
          exact bodyPost_ret (v := .tuple #[ndV ⟨[], 0, 0, 0, 0, []⟩ none 0 0, flt ec ep]) (results_cell_cell (p := 6) (u := 7) (ty := 27) (ty' := 30) rfl _ _ _ R F _ _ rfl rfl (ldN (HE.1.bl hd)) (ldF _ _ _ _ ((Below.block hd F (lt_of_heap HE.2.1)).trans HE.2.1))) rfl ⟨HE.2.2.1.trans hd, rfl, HNE.out⟩
end Go.Proofs.YtococaecjecjgaaGreatDoor.ly
namespace Go.Proofs.YtococaecjecjgaaGreatDoor.ly
set_option linter.unusedVariables false
open Go.ChangeShapes Go.WideShapes Go.ChangeAt Go.RowKit
open mem lx ex tm num

theorem at_of {ks : Nds} : ∀ {j : Nat}, j < ks.len → ∃ d s, ks.at j = some (d, s) ∧ s.sz < ks.sz := by
  induction ks with
  | nil => intro j h; exact absurd h (Nat.not_lt_zero _)
  | cons d s t _ it =>
    intro j h
    cases j with
    | zero => exact ⟨d, s, rfl, by simp only [Nds.sz]; omega⟩
    | succ j =>
      obtain ⟨d', s', h1, h2⟩ := it (j := j) (by unfold Nds.len at h; omega)
      exact ⟨d', s', h1, by simp only [Nds.sz]; omega⟩
theorem kid_at {w : World} {ok : Nat → Prop} {p : Option Addr} {n c : Nat} {ks : Nds} (h : IsNs w ok p n c ks) {k : Nat} {d : ND} {s : Nds} (hk : ks.at k = some (d, s)) :
    ∃ (g : Nat) (q : Option Addr) (m e : Nat), p = some ⟨g, 0, none⟩ ∧ g < w.heap.size ∧ w.cell? ⟨g, k * 7, none⟩ = some (.string (tx d.nm)) ∧ w.cell? ⟨g, k * 7 + 1, none⟩ = some (.int .i64 (d.kd : Int)) ∧ w.cell? ⟨g, k * 7 + 2, none⟩ = some (.int .i64 (d.at_ : Int)) ∧ w.cell? ⟨g, k * 7 + 3, none⟩ = some (.int .i64 (d.sz : Int)) ∧ w.cell? ⟨g, k * 7 + 4, none⟩ = some (.int .i64 d.n) ∧ w.cell? ⟨g, k * 7 + 5, none⟩ = some (.string (tx d.tx)) ∧ w.cell? ⟨g, k * 7 + 6, none⟩ = some (.slice q m e) ∧ IsNs w ok q m e s := by
  obtain ⟨g, x, rfl, rfl, h1, h2⟩ := is_kid h k hk
  have h0 := h1 0 _ rfl
  have hg : g < w.heap.size := by
    refine Decidable.byContradiction fun hn => ?_
    unfold World.cell? at h0
    rw [Array.getElem?_eq_none (by dsimp only; omega)] at h0
    simp at h0
  exact ⟨g, x.p, x.n, x.c, rfl, hg, h0, h1 1 _ rfl, h1 2 _ rfl, h1 3 _ rfl, h1 4 _ rfl, h1 5 _ rfl, h1 6 _ rfl, h2⟩
set_option maxRecDepth 10000 in
set_option maxHeartbeats 4000000 in
theorem same_nstep (w : World) (ok ok' : Nat → Prop) (d : ND) (ks : Nds) (p p' : Option Addr) (n c c' : Nat) (h : IsNs w ok p n c ks) (h' : IsNs w ok' p' n c' ks) (hz : ks.sz ≤ 400)
    (cS : ∀ (d' : ND) (s : Nds) (q q' : Option Addr) (m e m' e' : Nat) (wx : World), s.sz < ks.sz → IsNs wx ok q m e s → IsNs wx ok' q' m' e' s → Calls Tryz.prog 10 #[ndV d' q m e, ndV d' q' m' e'] wx fun e w' => e = .returned (.bool true) ∧ Bl wx w') :
    Calls Tryz.prog 10 #[ndV d p n c, ndV d p' n c'] w fun e w' => e = .returned (.bool true) ∧ Bl w w' := by
  have hn4 : n ≤ 400 := by have := h.len.1; have := Nds.len_sz ks; omega
  have HS : Hid (∀ (d' : ND) (s : Nds) (q q' : Option Addr) (m e m' e' : Nat) (wx : World), s.sz < ks.sz → IsNs wx ok q m e s → IsNs wx ok' q' m' e' s → Calls Tryz.prog 10 #[ndV d' q m e, ndV d' q' m' e'] wx fun e w' => e = .returned (.bool true) ∧ Bl wx w') := cS
  obtain ⟨X, hX⟩ : ∃ X, X = w.heap.size := ⟨_, rfl⟩
  obtain ⟨w1, hw1⟩ : ∃ w1, w1 = w.alloc (.cells #[.string (tx d.nm), .int .i64 (d.kd : Int), .int .i64 (d.at_ : Int), .int .i64 (d.sz : Int), .int .i64 d.n, .string (tx d.tx), .slice p n c] 27) := ⟨_, rfl⟩
  have e1 : w1.heap.size = X + 1 := by rw [hw1, hX]; simp
  have n1 : Nv w1 X d p n c := by rw [hw1, hX]; exact new_at _ _
  have b1 : Bl w w1 := by rw [hw1]; exact (Bl.refl _).alloc _
  obtain ⟨w2, hw2⟩ : ∃ w2, w2 = w1.alloc (.cells #[.string (tx d.nm), .int .i64 (d.kd : Int), .int .i64 (d.at_ : Int), .int .i64 (d.sz : Int), .int .i64 d.n, .string (tx d.tx), .slice p' n c'] 27) := ⟨_, rfl⟩
  have n2 : Nv w2 (X + 1) d p' n c' := by rw [hw2, ← e1]; exact new_at _ _
  have b2 : Bl w1 w2 := by rw [hw2]; exact (Bl.refl _).alloc _
  have H2 : Hid (Nv w2 X d p n c ∧ Nv w2 (X + 1) d p' n c' ∧ Bl w w2 ∧ IsNs w2 ok p n c ks ∧ IsNs w2 ok' p' n c' ks ∧ n = ks.len) := ⟨n1.bl b2, n2, b1.trans b2, h.bl (b1.trans b2), h'.bl (b1.trans b2), h.len.1⟩
  obtain ⟨x0, x1, x2, x3, x4, x5, x6⟩ := H2.out.1.cells
  obtain ⟨y0, y1, y2, y3, y4, y5, y6⟩ := H2.out.2.1.cells
  obtain ⟨NM, hNM⟩ : ∃ NM, NM = tx d.nm := ⟨_, rfl⟩
  obtain ⟨TT, hTT⟩ : ∃ TT, TT = tx d.tx := ⟨_, rfl⟩
  rw [← hNM] at x0 y0
  rw [← hTT] at x5 y5
  unfold ndV
  clear h h' n1 n2 b1 b2 cS hz
  go_enter Tryz.func10, Tryz.ntmps10
  go_upto_region 1 with fail
  rw [← hX, ← hw1]
  try rw [← hw2]
  try rw [e1]
  clear hw1 hX hw2 e1 hNM hTT
  go_wp2_with fail
  clear x0 x1 x2 x3 x4 x5 y0 y1 y2 y3 y4 y5
  go_loopw [5] (fun i wr => ∃ j : Nat, j ≤ n ∧ i = .int .i64 (j : Int) ∧ Hid (Bl w2 wr)) (fun i _ => n - (intOf i).toNat)
  case atStart => exact ⟨0, Nat.zero_le _, rfl, Bl.refl _⟩
  case round =>
    obtain ⟨j, hj, rfl, HB⟩ := hrel
    have z6 := at_bl HB.out x6
    have v6 := at_bl HB.out y6
    clear x6 y6
    by_cases hjn : j < n
    · have d1 : decide ((j : Int) < (n : Int)) = true := decide_eq_true (by omega)
      have i0 : (0 : Int) ≤ (j : Int) := by omega
      have i1 : (j : Int) < (n : Int) := by omega
      obtain ⟨d', s, a1, a2⟩ := at_of (ks := ks) (j := j) (by have := H2.out.2.2.2.2.2; omega)
      obtain ⟨g, q, m, e, rfl, hgs, g0, g1, g2, g3, g4, g5, g6, gk⟩ := kid_at (H2.out.2.2.2.1.bl HB.out) a1
      obtain ⟨g', q', m', e', rfl, hgs', k0, k1, k2, k3, k4, k5, k6, kk⟩ := kid_at (H2.out.2.2.2.2.1.bl HB.out) a1
      have cS : Hid (∀ wx, Bl wr wx → Calls Tryz.prog 10 #[ndV d' q m e, ndV d' q' m' e'] wx fun e w' => e = .returned (.bool true) ∧ Bl wx w') := fun wx hb => HS.out d' s q q' m e m' e' wx a2 (gk.bl hb) (kk.bl hb)
      unfold ndV at cS
      obtain ⟨NM', hNM'⟩ : ∃ NM, NM = tx d'.nm := ⟨_, rfl⟩
      obtain ⟨TT', hTT'⟩ : ∃ TT, TT = tx d'.tx := ⟨_, rfl⟩
      rw [← hNM'] at g0 k0 cS
      rw [← hTT'] at g5 k5 cS
      have hbd : Bl wr wr.drew := (Bl.refl _).drew
      have f6 := at_bl hbd z6
      have f6' := at_bl hbd v6
      have q0 := at_bl hbd g0
      have q1 := at_bl hbd g1
      have q2 := at_bl hbd g2
      have q3 := at_bl hbd g3
      have q4 := at_bl hbd g4
      have q5 := at_bl hbd g5
      have q6 := at_bl hbd g6
      have l0 := at_bl hbd k0
      have l1 := at_bl hbd k1
      have l2 := at_bl hbd k2
      have l3 := at_bl hbd k3
      have l4 := at_bl hbd k4
      have l5 := at_bl hbd k5
      have l6 := at_bl hbd k6
      have HBd : Hid (Bl w2 wr.drew ∧ Bl wr wr.drew) := ⟨HB.out.trans hbd, hbd⟩
      clear hNM' hTT' a1 a2 gk kk hbd g0 g1 g2 g3 g4 g5 g6 k0 k1 k2 k3 k4 k5 k6
      go_upto_region 6 with fail
      clear z6 v6
      go_region_held3 (fun wS => wS.cell? ⟨X, 6, none⟩ = some (.slice (some ⟨g, 0, none⟩) n c) ∧ wS.cell? ⟨X + 1, 6, none⟩ = some (.slice (some ⟨g', 0, none⟩) n c') ∧ wS.cell? ⟨g, j * 7, none⟩ = some (.string NM') ∧ wS.cell? ⟨g, j * 7 + 1, none⟩ = some (.int .i64 (d'.kd : Int)) ∧ wS.cell? ⟨g, j * 7 + 2, none⟩ = some (.int .i64 (d'.at_ : Int)) ∧ wS.cell? ⟨g, j * 7 + 3, none⟩ = some (.int .i64 (d'.sz : Int)) ∧ wS.cell? ⟨g, j * 7 + 4, none⟩ = some (.int .i64 d'.n) ∧ wS.cell? ⟨g, j * 7 + 5, none⟩ = some (.string TT') ∧ wS.cell? ⟨g, j * 7 + 6, none⟩ = some (.slice q m e) ∧ wS.cell? ⟨g', j * 7, none⟩ = some (.string NM') ∧ wS.cell? ⟨g', j * 7 + 1, none⟩ = some (.int .i64 (d'.kd : Int)) ∧ wS.cell? ⟨g', j * 7 + 2, none⟩ = some (.int .i64 (d'.at_ : Int)) ∧ wS.cell? ⟨g', j * 7 + 3, none⟩ = some (.int .i64 (d'.sz : Int)) ∧ wS.cell? ⟨g', j * 7 + 4, none⟩ = some (.int .i64 d'.n) ∧ wS.cell? ⟨g', j * 7 + 5, none⟩ = some (.string TT') ∧ wS.cell? ⟨g', j * 7 + 6, none⟩ = some (.slice q' m' e')) (refine ⟨?_, ?_, ?_, ?_, ?_, ?_, ?_, ?_, ?_, ?_, ?_, ?_, ?_, ?_, ?_, ?_⟩ <;> first | assumption | exact at_bl ((Bl.refl _).drew) (by assumption))
        (first
          | (go_at_call 10; (refine (cS.out _ HBd.out.2).mono ?_); rintro e w6 ⟨rfl, hb6⟩
             have HB6 : Hid (Bl w2 w6) := HBd.out.1.trans hb6
             have s0 := at_bl hb6 f6
             have s1 := at_bl hb6 f6'
             have s2 := at_bl hb6 q0
             have s3 := at_bl hb6 q1
             have s4 := at_bl hb6 q2
             have s5 := at_bl hb6 q3
             have s6 := at_bl hb6 q4
             have s7 := at_bl hb6 q5
             have s8 := at_bl hb6 q6
             have t2 := at_bl hb6 l0
             have t3 := at_bl hb6 l1
             have t4 := at_bl hb6 l2
             have t5 := at_bl hb6 l3
             have t6 := at_bl hb6 l4
             have t7 := at_bl hb6 l5
             have t8 := at_bl hb6 l6
             clear hb6))
      clear q0 q1 q2 q3 q4 q5 q6 l0 l1 l2 l3 l4 l5 l6 f6 f6' s2 s3 s4 s5 s6 s7 s8 t2 t3 t4 t5 t6 t7 t8 cS
      go_wp2
      go_roundw
      case rel => exact ⟨j + 1, by omega, by go_num, HB6⟩
      case measure => simp [intOf]; omega
    · have d1 : decide ((j : Int) < (n : Int)) = false := decide_eq_false (by omega)
      go_wp2
      go_ret
      exact ⟨rfl, H2.out.2.2.1.trans HB.out⟩
theorem same_node (k : Nat) : ∀ (w : World) (ok ok' : Nat → Prop) (d : ND) (ks : Nds) (p : Option Addr) (n c : Nat) (p' : Option Addr) (n' c' : Nat), ks.sz < k → ks.sz ≤ 400 → IsNs w ok p n c ks → IsNs w ok' p' n' c' ks → Calls Tryz.prog 10 #[ndV d p n c, ndV d p' n' c'] w fun e w' => e = .returned (.bool true) ∧ Bl w w' := by
  induction k with
  | zero => intro w ok ok' d ks p n c p' n' c' h; omega
  | succ k ih =>
    intro w ok ok' d ks p n c p' n' c' hk hz h h'
    obtain rfl : n = n' := by rw [h.len.1, h'.len.1]
    exact same_nstep w ok ok' d ks p p' n c c' h h' hz (fun d' s q q' m e m' e' wx hs a b => ih wx ok ok' d' s q m e q' m' e' (by omega) (by omega) a b)
end Go.Proofs.YtococaecjecjgaaGreatDoor.ly
namespace Go.Proofs.YtococaecjecjgaaGreatDoor.tc
set_option linter.unusedVariables false
open Go.ChangeShapes Go.WideShapes Go.ChangeAt Go.RowKit Go.Shelf
open mem lx ex tm

theorem nmd_no {ds : List D} {t : List UInt8} (h : ∀ d ∈ ds, d.nm ≠ t) : nmd ds t = none := by
  unfold nmd
  rw [List.findIdx?_eq_none_iff]
  intro d hd
  rw [beq_eq_false_iff_ne]
  exact h d hd
theorem nmd_yes {ds : List D} {t : List UInt8} {j : Nat} {d : D} (h : ds[j]? = some d) (hd : d.nm = t) (hn : ∀ k e, k < j → ds[k]? = some e → e.nm ≠ t) : nmd ds t = some j := by
  unfold nmd
  obtain ⟨hj, he⟩ := List.getElem?_eq_some_iff.1 h
  rw [List.findIdx?_eq_some_iff_getElem]
  refine ⟨hj, by rw [he, beq_iff_eq]; exact hd, fun k hk => ?_⟩
  have := hn k (ds[k]'(by omega)) hk (List.getElem?_eq_getElem _)
  simpa using this
set_option maxRecDepth 10000 in
set_option maxHeartbeats 2000000 in
theorem which_at (t : List UInt8) (cs : List C) (ok : Nat → Prop) (p : Option Addr) (n c : Nat) (w : World) (hin : ir.Lie w ok p n c cs) (hn : n ≤ 3000) (ht : t ≠ []) (hw : ∀ x ∈ cs, x.d.kd = 4 → x.d.nm = []) :
    Calls Tryz.prog 76 #[.slice p n c, .string (tx t)] w fun e w' => e = .returned (.int .i64 (idx (nmd (cs.map C.d) t))) ∧ Bl w w' := by
  have hnl : n = cs.length := hin.1
  have H0 : Hid (ir.Lie w ok p n c cs ∧ n = cs.length ∧ ∀ x ∈ cs, x.d.kd = 4 → x.d.nm = []) := ⟨hin, hnl, hw⟩
  have htl := tl_tx t
  obtain ⟨S, hS⟩ : ∃ S, S = tx t := ⟨_, rfl⟩
  rw [← hS] at htl ⊢
  clear hin hnl hw hS
  go_enter Tryz.func76, Tryz.ntmps76
  go_wp2
  go_loopw [9] (fun i wr => ∃ j : Nat, j ≤ n ∧ i = .int .i64 (j : Int) ∧ Hid (Bl w wr ∧ ∀ k e, k < j → (cs.map C.d)[k]? = some e → e.nm ≠ t)) (fun i _ => n - (intOf i).toNat)
  case atStart => exact ⟨0, by omega, rfl, Bl.refl _, fun k e hk => by omega⟩
  case round =>
    obtain ⟨j, hj, rfl, HB⟩ := hrel
    by_cases hjn : j < n
    · have d1 : decide ((j : Int) < (n : Int)) = true := decide_eq_true (by omega)
      have i0 : (0 : Int) ≤ (j : Int) := by omega
      have i1 : (j : Int) < (n : Int) := by omega
      obtain ⟨x, e1⟩ : ∃ x, cs[j]? = some x := ⟨_, List.getElem?_eq_getElem (by have := H0.out.2.1; omega)⟩
      obtain ⟨X, rfl, _, g0', g⟩ := lie_at (lie_bl H0.out.1 HB.out.1) j x e1
      have g0 : wr.cell? (X.add (j * 13)) = some (.int .i64 (x.d.kd : Int)) := g0'
      clear g0'
      have g1 := g 1 _ rfl
      have g2 := g 2 _ rfl
      have g3 := g 3 _ rfl
      have g4 := g 4 _ rfl
      have g5 := g 5 _ rfl
      have g6 := g 6 _ rfl
      have g7 := g 7 _ rfl
      have g8 := g 8 _ rfl
      have g9 := g 9 _ rfl
      have g10 := g 10 _ rfl
      have g11 := g 11 _ rfl
      have g12 := g 12 _ rfl
      have HX : Hid ((cs.map C.d)[j]? = some x.d ∧ (x.d.kd = 4 → x.d.nm = [])) := ⟨by rw [List.getElem?_map, e1]; rfl, H0.out.2.2 x (List.mem_of_getElem? e1)⟩
      obtain ⟨w3, hw3⟩ : ∃ w3, w3 = wr.alloc (.cells (cl x).toArray 60) := ⟨_, rfl⟩
      obtain ⟨M, hM⟩ : ∃ M, M = wr.heap.size := ⟨_, rfl⟩
      have hv3 : Iv w3 M x := ⟨by rw [hw3, hM]; exact new_at _ _⟩
      have HB3 : Hid (Bl w w3) := HB.out.1.trans (by rw [hw3]; exact (Bl.refl _).alloc _)
      clear g e1
      go_upto_region 4 with fail
      change Code.wp _ _ _ _ (wr.alloc (.cells (cl x).toArray 60))
      rw [← hw3, ← hM]
      clear hw3 hM g0 g1 g2 g3 g4 g5 g6 g7 g8 g9 g10 g11 g12
      have x0 : w3.cell? ⟨M, 0, none⟩ = some (.int .i64 (x.d.kd : Int)) := hv3.cell 0
      have x2 : w3.cell? ⟨M, 2, none⟩ = some (.string (tx x.d.nm)) := hv3.cell 2
      have htl2 := tl_tx x.d.nm
      obtain ⟨S2, hS2⟩ : ∃ S2, S2 = tx x.d.nm := ⟨_, rfl⟩
      rw [← hS2] at x2 htl2
      clear hv3 hS2
      by_cases h4 : x.d.kd = 4
      · have k4 : ((x.d.kd : Int) != 4) = false := by rw [bne_eq_false_iff_eq]; omega
        have HN : Hid (x.d.nm ≠ t) := by show x.d.nm ≠ t; rw [HX.out.2 h4]; exact fun e => ht e.symm
        clear htl htl2 h4
        go_wp2
        go_roundw
        case rel =>
          refine ⟨j + 1, by omega, by go_num, HB3.out, fun k e hk he => ?_⟩
          rcases Nat.lt_or_ge k j with h | h
          · exact HB.out.2 k e h he
          · obtain rfl : k = j := by omega
            rw [HX.out.1] at he
            injection he with he
            rw [← he]; exact HN.out
        case measure => simp [intOf]; omega
      · have k4 : ((x.d.kd : Int) != 4) = true := by rw [bne_iff_ne]; omega
        by_cases hnm : x.d.nm = t
        · have hq : (S2.toList == S.toList) = true := by rw [htl2, htl, hnm, beq_self_eq_true]
          have HN : Hid (nmd (cs.map C.d) t = some j) := nmd_yes HX.out.1 hnm HB.out.2
          clear htl htl2 h4 hnm
          go_wp2
          go_ret
          rw [HN.out]
          exact ⟨rfl, HB3.out⟩
        · have hq : (S2.toList == S.toList) = false := by rw [htl2, htl, beq_eq_false_iff_ne]; exact hnm
          have HN : Hid (x.d.nm ≠ t) := hnm
          clear htl htl2 h4 hnm
          go_wp2
          go_roundw
          case rel =>
            refine ⟨j + 1, by omega, by go_num, HB3.out, fun k e hk he => ?_⟩
            rcases Nat.lt_or_ge k j with h | h
            · exact HB.out.2 k e h he
            · obtain rfl : k = j := by omega
              rw [HX.out.1] at he
              injection he with he
              rw [← he]; exact HN.out
          case measure => simp [intOf]; omega
    · have d1 : decide ((j : Int) < (n : Int)) = false := decide_eq_false (by omega)
      have HN : Hid (nmd (cs.map C.d) t = none) := by
        refine nmd_no (fun d hd => ?_)
        obtain ⟨k, hk⟩ := List.mem_iff_getElem?.1 hd
        have h1 := (List.getElem?_eq_some_iff.1 hk).1
        rw [List.length_map] at h1
        exact HB.out.2 k d (by have := H0.out.2.1; omega) hk
      go_wp2
      go_ret
      rw [HN.out]
      exact ⟨rfl, HB.out.1⟩
end Go.Proofs.YtococaecjecjgaaGreatDoor.tc
namespace Go.Proofs.YtococaecjecjgaaGreatDoor.tc
set_option linter.unusedVariables false
open Go.ChangeShapes Go.WideShapes Go.ChangeAt Go.RowKit Go.Shelf
open mem lx ex tm

structure Okr (cs : List C) : Prop where
  nm : ∀ x ∈ cs, x.d.kd = 4 → x.d.nm = []
  ru : ∀ x ∈ cs, x.d.ru = 3 → x.d.f1 ≠ [] ∧ x.d.l1 ≠ []
set_option maxRecDepth 10000 in
set_option maxHeartbeats 4000000 in
theorem covers_at (x : C) (i : Nat) (cs : List C) (ok : Nat → Prop) (p : Option Addr) (n c : Nat) (w : World) (hin : ir.Lie w ok p n c cs) (hn : n ≤ 3000) (hx : cs[i]? = some x) (hO : Okr cs) (hr3 : x.d.ru = 3) :
    Calls Tryz.prog 115 #[.slice p n c, .int .i64 (i : Int)] w fun e w' => ∃ v, e = .returned v ∧ Bl w w' ∧ ri.Own w' w.heap.size v (ints (under (cs.map C.d) i)) := by
  have hil := (List.getElem?_eq_some_iff.1 hx).1
  have hnc := hin.1
  have hncap := hin.2.1
  obtain ⟨X, rfl, _, g0', g⟩ := lie_at hin i x hx
  have g10 := g 10 _ rfl
  have g11' : ∀ wx, Bl w wx → wx.cell? ⟨(X.add (i * 13)).block, (X.add (i * 13)).off + 11, none⟩ = some (.string (tx x.d.l1)) := fun wx hb => at_bl hb (g 11 _ rfl)
  clear g g0'
  have i0 : (0 : Int) ≤ (i : Int) := by omega
  have i1 : (i : Int) < (n : Int) := by omega
  obtain ⟨f1n, l1n⟩ := hO.ru x (List.mem_of_getElem? hx) hr3
  have cE := fun wx (hb : Bl w wx) => which_at x.d.f1 cs ok (some X) n c wx (lie_bl hin hb) hn f1n hO.nm
  have cL := fun wx (hb : Bl w wx) => which_at x.d.l1 cs ok (some X) n c wx (lie_bl hin hb) hn l1n hO.nm
  obtain ⟨o1, o2, o3⟩ := under_is (cs.map C.d) i x.d (by rw [List.getElem?_map, hx]; rfl)
  have hends : ends (cs.map C.d) x.d = (nmd (cs.map C.d) x.d.f1, nmd (cs.map C.d) x.d.l1) := by unfold ends; rw [if_pos hr3]
  rw [hends] at o1 o2 o3
  obtain ⟨U, hU⟩ : ∃ U, U = under (cs.map C.d) i := ⟨_, rfl⟩
  rw [← hU] at o1 o2 o3 ⊢
  obtain ⟨ea, hea⟩ : ∃ ea, ea = nmd (cs.map C.d) x.d.f1 := ⟨_, rfl⟩
  obtain ⟨eb, heb⟩ : ∃ eb, eb = nmd (cs.map C.d) x.d.l1 := ⟨_, rfl⟩
  rw [← hea] at cE o1 o2 o3
  rw [← heb] at cL o1 o2 o3
  have HI : Hid (ir.Lie w ok (some X) n c cs ∧ n = cs.length ∧ (ea, eb) = ends (cs.map C.d) x.d) := ⟨hin, hnc, by rw [hends, hea, heb]⟩
  obtain ⟨F1, hF1⟩ : ∃ F1, F1 = tx x.d.f1 := ⟨_, rfl⟩
  obtain ⟨L1, hL1⟩ : ∃ L1, L1 = tx x.d.l1 := ⟨_, rfl⟩
  rw [← hF1] at g10 cE
  rw [← hL1] at g11' cL
  have HG : Hid (∀ wx, Bl w wx → wx.cell? ⟨(X.add (i * 13)).block, (X.add (i * 13)).off + 11, none⟩ = some (.string L1)) := g11'
  clear hin hnc hx hea heb hU hends hO hr3 f1n l1n hF1 hL1 g11'
  go_enter Tryz.func115, Tryz.ntmps115
  go_wp2_with fail
  refine (cE _ (Bl.refl _)).mono ?_
  rintro e w2 ⟨rfl, hb2⟩
  have H2 : Hid (Bl w w2) := hb2
  clear cE hb2 g10
  cases ea with
  | none =>
    have hi : idx (none : Option Nat) = -1 := rfl
    have HU : Hid (U = []) := o2 _ rfl
    rw [hi]
    clear o1 o2 o3 hi cL
    go_wp2
    go_loopw [5, 6] (fun v kv wr => v = .slice none 0 0 ∧ kv = .int .i64 (-1) ∧ Hid (Bl w wr)) (fun _ _ _ => 0)
    case atStart => exact ⟨rfl, rfl, H2.out⟩
    case round =>
      obtain ⟨rfl, rfl, HB⟩ := hrel
      go_wp2
      go_ret
      exact ⟨.slice none 0 0, rfl, HB.out, by rw [HU.out]; exact ri.Own.nil _ _⟩
  | some a =>
    have hi2 : idx (some a) = (a : Int) := rfl
    rw [hi2]
    obtain ⟨b1, hb1, hUb, hbn⟩ : ∃ b1 : Nat, idx eb = (b1 : Int) - 1 ∧ U = pf (cs.map C.d) a b1 ∧ b1 ≤ n := by
      cases eb with
      | none => exact ⟨0, rfl, by rw [o3 _ rfl, pf_start _ _ _ (Nat.zero_le _)], Nat.zero_le _⟩
      | some b =>
        refine ⟨b + 1, ?_, o1 a b rfl, ?_⟩
        · show ((b : Nat) : Int) = _
          omega
        · have := (ends_lt HI.out.2.2.symm).2
          rw [List.length_map, ← HI.out.2.1] at this
          omega
    have HU : Hid (U = pf (cs.map C.d) a b1) := hUb
    rw [hb1] at cL
    clear o1 o2 o3 hUb hi2 hb1
    go_wp2
    go_loopw [5, 6] (fun v s8 wr => ∃ j : Nat, a ≤ j ∧ (j ≤ b1 ∨ j = a) ∧ s8 = .int .i64 (j : Int) ∧ Hid (Bl w wr ∧ ri.Own wr w.heap.size v (ints (pf (cs.map C.d) a j)))) (fun _ s8 _ => b1 - (intOf s8).toNat)
    case atStart => exact ⟨a, Nat.le_refl _, Or.inr rfl, rfl, H2.out, by rw [pf_start _ _ _ (Nat.le_refl _)]; exact ri.Own.nil _ _⟩
    case round =>
      obtain ⟨j, hj1, hj2, rfl, HB⟩ := hrel
      have hb64 : (b1 : Int) - 1 < 9223372036854775808 := by omega
      have j0 : (0 : Int) ≤ (j : Int) := by omega
      have x11 := HG.out wr HB.out.1
      go_wp2_with fail
      refine (cL _ HB.out.1).mono ?_
      rintro e w4 ⟨rfl, hb4⟩
      have H4 : Hid (Bl w w4 ∧ ri.Own w4 w.heap.size u5 (ints (pf (cs.map C.d) a j))) := ⟨HB.out.1.trans hb4, HB.out.2.step hb4⟩
      clear hb4 x11
      by_cases hjb : j < b1
      · have d1 : decide ((j : Int) ≤ (b1 : Int) - 1) = true := decide_eq_true (by omega)
        have d1' : (j : Int) ≤ (b1 : Int) - 1 := by omega
        have j1 : (j : Int) < (n : Int) := by omega
        obtain ⟨y, hy⟩ : ∃ y, cs[j]? = some y := ⟨_, List.getElem?_eq_getElem (by have := HI.out.2.1; omega)⟩
        obtain ⟨Y, hY, _, _, gy⟩ := lie_at (lie_bl HI.out.1 H4.out.1) j y hy
        injection hY with hY
        subst hY
        have y9 := gy 9 _ rfl
        have hisC : isC (cs.map C.d) j = (y.d.ru == 3) := by
          unfold isC
          rw [List.getElem?_map, hy]
          rfl
        clear gy
        by_cases r3 : y.d.ru = 3
        · rw [r3] at y9
          obtain ⟨M, hM⟩ : ∃ M, M = w4.heap.size := ⟨_, rfl⟩
          obtain ⟨w7, hw7⟩ : ∃ w7, w7 = w4.alloc (.cells #[.int .i64 (j : Int)] 3) := ⟨_, rfl⟩
          have hb7 : Bl w4 w7 := by rw [hw7]; exact (Bl.refl _).alloc _
          have c7 : w7.cell? ⟨M, 0, none⟩ = some (.int .i64 (j : Int)) := by rw [hw7, hM, cell_of (new_at _ _)]; rfl
          obtain ⟨v', w8, hr8, ho8, hg8, _⟩ := ri.app_one w7 w.heap.size u5 _ (j : Int) M (H4.out.2.step hb7) c7 (by rw [ints_len]; have := pf_len (cs.map C.d) a j; omega) (Nat.le_trans H4.out.1.size hb7.size)
          have hb8 : Bl w w8 := bl_grown (H4.out.1.trans hb7) hg8 (fun k hk => (H4.out.2.block k hk).1)
          have HR : Hid _ := hr8
          have H8 : Hid (Bl w w8 ∧ ri.Own w8 w.heap.size v' (ints (pf (cs.map C.d) a (j + 1)))) := by
            refine ⟨hb8, ?_⟩
            rw [pf_step _ _ _ hj1, hisC, r3]
            rw [show (if ((3 : Nat) == 3) = true then [j] else []) = [j] from rfl, ints_app]
            exact ho8
          clear c7 hr8 ho8 hg8 hb8 hb7 hy hisC
          go_upto_region 6 with fail
          go_wp2_with (at_builtin; rw [← hw7, ← hM]; refine Lib.wpList_append_run _ rfl (.tmp 35) (.tmp 37) _ _ rfl _ _ rfl rfl _ _ HR.out ?_)
          go_roundw
          case rel => exact ⟨j + 1, by omega, Or.inl (by omega), by go_num, H8.out⟩
          case measure => simp [intOf]; omega
        · have r3' : ¬ ((y.d.ru : Int) = 3) := by omega
          have H8 : Hid (Bl w w4 ∧ ri.Own w4 w.heap.size u5 (ints (pf (cs.map C.d) a (j + 1)))) := by
            refine ⟨H4.out.1, ?_⟩
            rw [pf_step _ _ _ hj1, hisC]
            rw [show (y.d.ru == 3) = false by simpa using r3]
            rw [show (if false = true then [j] else []) = ([] : List Nat) from rfl, List.append_nil]
            exact H4.out.2
          clear hy hisC
          go_wp2
          go_roundw
          case rel => exact ⟨j + 1, by omega, Or.inl (by omega), by go_num, H8.out⟩
          case measure => simp [intOf]; omega
      · have d1 : decide ((j : Int) ≤ (b1 : Int) - 1) = false := decide_eq_false (by omega)
        have d1' : ¬ ((j : Int) ≤ (b1 : Int) - 1) := by omega
        have H9 : Hid (Bl w w4 ∧ ri.Own w4 w.heap.size u5 (ints U)) := by
          refine ⟨H4.out.1, ?_⟩
          have h := H4.out.2
          rw [HU.out]
          rcases hj2 with h2 | h2
          · obtain rfl : j = b1 := by omega
            exact h
          · subst h2
            rw [pf_start _ _ _ (Nat.le_refl _)] at h
            rw [pf_start _ _ _ (by omega)]
            exact h
        go_wp2
        go_ret
        exact ⟨_, rfl, H9.out⟩
end Go.Proofs.YtococaecjecjgaaGreatDoor.tc
