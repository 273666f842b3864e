/- Texts laid together: Wy5, Wy6, Wy7, Ly15, Ly16. -/
import Derived.Test.YtococaecjecjgaaGreatDoorXLayoutBack25
import Derived.Test.YtococaecjecjgaaGreatDoorXLayoutBack24
import Derived.Shelf.Strings.BuilderK
/- A writer: a block. -/
namespace Go.Proofs.YtococaecjecjgaaGreatDoor.ly
set_option linter.unusedVariables false
open Go.ChangeShapes Go.WideShapes Go.ChangeAt Go.RowKit
open mem lx ex tm num bld

/-- A block's writing, under way. -/
structure Ru (w wr : World) (P mb : Nat) (l : List Ty) (acc out : List UInt8) (f : Nat) (pI : Option Addr) (nI cI : Nat) (csI : List C) (p : Option Addr) (n cc : Nat) (cs : List CN) (j : Nat) (ri : Its) (rest : Nds) (rem : List UInt8) : Prop where
  ws : Wr wr P mb l (acc ++ out)
  fr : Fr P w wr
  ii : ir.Lie wr (fun g => g < mb) pI nI cI csI
  ir : Rep wr (fun g => g < mb) ri (csI.drop j)
  oi : OKI ri
  li : nr.Lie wr (fun g => g < P) p n cc cs
  re : RepN wr (fun g => g < P) rest (cs.drop j)
  ok : wAll l (wrB l f) ri rest = .ok rem
  sz : rest.sz ≤ 400
  ln : acc.length + out.length + rem.length ≤ 30000
  lt : P < w.heap.size
theorem Ru.go {w wr w' : World} {P mb : Nat} {l : List Ty} {acc out out' : List UInt8} {f : Nat} {pI : Option Addr} {nI cI : Nat} {csI : List C} {p : Option Addr} {n cc : Nat} {cs : List CN} {j j' : Nat} {ri ri' : Its} {rest rest' : Nds} {rem rem' : List UInt8} (h : Ru w wr P mb l acc out f pI nI cI csI p n cc cs j ri rest rem)
    (hf : Fr P wr w') (hw : Wr w' P mb l (acc ++ out')) (hi : Rep wr (fun g => g < mb) ri' (csI.drop j')) (hk : OKI ri') (hr : RepN wr (fun g => g < P) rest' (cs.drop j')) (ho : wAll l (wrB l f) ri' rest' = .ok rem') (hz : rest'.sz ≤ 400) (hl : acc.length + out'.length + rem'.length ≤ 30000) : Ru w w' P mb l acc out' f pI nI cI csI p n cc cs j' ri' rest' rem' :=
  ⟨hw, h.fr.trans hf, h.ii.keep (fun g hg _ => hf.b.block g (by have := h.ws.lt; omega)) hf.b.size, hi.keep (fun g hg _ => hf.b.block g (by have := h.ws.lt; omega)) hf.b.size (h.ws.kx hf), hk, h.li.keep (fun g hg _ => hf.b.block g hg) hf.b.size, hr.keep (fun g hg _ => hf.b.block g hg) hf.b.size, ho, hz, hl, h.lt⟩
theorem wAll_cons {l : List Ty} {rec : Its → Nds → Except Int (List UInt8)} {d : D} {sub ti : Its} {nd : ND} {k t : Nds} {out : List UInt8} (h : wAll l rec (.cons d sub ti) (.cons nd k t) = .ok out) : ∃ a b, wPart l rec d sub nd k = .ok a ∧ wAll l rec ti t = .ok b ∧ out = a ++ b := by
  rw [wAll] at h
  split at h
  · cases h
  · rename_i a ha
    split at h
    · cases h
    · rename_i b hb
      injection h with h
      exact ⟨a, b, ha, hb, h.symm⟩
theorem wblk_zero (l : List Ty) : WBlk l 0 := by
  intro w P mb acc i pI nI cI csI ks p n c out _ _ _ _ _ ho
  cases ho
set_option maxRecDepth 10000 in
set_option maxHeartbeats 4000000 in
theorem wblk_succ (l : List Ty) (hl : OKT l) (f : Nat) (hB : WBlk l f) : WBlk l (f + 1) := by
  intro w P mb acc i pI nI cI csI ks p n c out h hoki hli hre hns ho hlen hz
  rw [wrB] at ho
  unfold wBlk at ho
  by_cases hlk : ks.len = i.len
  rotate_left
  · rw [if_neg hlk] at ho; cases ho
  rw [if_pos hlk] at ho
  have hnI : nI = csI.length := hli.1
  have hnI2 : csI.length = i.len := (hre.len).1
  have hnk : n = ks.len := (IsNs.len hns).1
  obtain rfl : n = nI := by omega
  have hn16 : n ≤ 16 := by have := hoki.len; omega
  obtain ⟨cs, hns1, hns2⟩ := hns
  have hncs : n = cs.length := hns1.1
  have H0 : Hid (Ru w w P mb l acc [] f pI n cI csI p n c cs 0 i ks out) := ⟨by rw [List.append_nil]; exact h, Fr.refl _ _, hli, by rw [List.drop_zero]; exact hre, hoki, hns1, by rw [List.drop_zero]; exact hns2, ho, hz, by simpa using hlen, h.lt'⟩
  have HB : Hid (WBlk l f ∧ OKT l ∧ n = csI.length ∧ n = cs.length) := ⟨hB, hl, hnI, hncs⟩
  clear h hoki hli hre hns1 hns2 ho hlen hz hlk hnI hnI2 hnk hncs hB hl
  go_enter Tryz.func106, Tryz.ntmps106
  go_wp2_with (first | (go_at_call 104; refine (must_at _).mono ?_; rintro e w3 ⟨rfl, h3⟩; have h4 := h3.symm; subst h4; clear h3))
  go_loopw [16] (fun v16 wr => ∃ (j : Nat) (ri : Its) (rest : Nds) (o1 rem : List UInt8), v16 = .int .i64 (j : Int) ∧ j ≤ n ∧ Hid (Ru w wr P mb l acc o1 f pI n cI csI p n c cs j ri rest rem ∧ o1 ++ rem = out)) (fun v16 _ => n - (intOf v16).toNat)
  case atStart => exact ⟨0, i, ks, [], out, rfl, Nat.zero_le _, H0.out, rfl⟩
  case round =>
    obtain ⟨j, ri, rest, o1, rem, rfl, hj, HR⟩ := hrel
    by_cases hlt : j < n
    · have h1 := HR.out.1.re
      have h2 := HR.out.1.ir
      obtain ⟨c1, hc1⟩ : ∃ c1, cs[j]? = some c1 := by
        have : j < cs.length := by have := HB.out.2.2.2; omega
        exact ⟨_, List.getElem?_eq_getElem this⟩
      obtain ⟨i1, hi1⟩ : ∃ i1, csI[j]? = some i1 := by
        have : j < csI.length := by have := HB.out.2.2.1; omega
        exact ⟨_, List.getElem?_eq_getElem this⟩
      have hdr : cs.drop j = c1 :: cs.drop (j + 1) := by
        obtain ⟨hjl, e⟩ := List.getElem?_eq_some_iff.1 hc1
        rw [List.drop_eq_getElem_cons hjl, e]
      have hdi : csI.drop j = i1 :: csI.drop (j + 1) := by
        obtain ⟨hjl, e⟩ := List.getElem?_eq_some_iff.1 hi1
        rw [List.drop_eq_getElem_cons hjl, e]
      rw [hdr] at h1
      rw [hdi] at h2
      cases rest with
      | nil => cases h1
      | cons nd k t =>
      cases ri with
      | nil => cases h2
      | cons d sub ti =>
        obtain ⟨c1', r, e, hcd, hks, hrr⟩ := h1
        injection e with e1 e2
        subst e1 e2
        subst hcd
        obtain ⟨i1', r, e, hcd, hio, hsub, hri⟩ := h2
        injection e with e1 e2
        subst e1 e2
        subst hcd
        obtain ⟨hwd, hokt, hoks⟩ := HR.out.1.oi.hd
        obtain ⟨a, b, ha, hb, hab⟩ := wAll_cons HR.out.1.ok
        obtain ⟨hq1, hq2, hlc⟩ := HR.out.1.li
        obtain ⟨g, rfl, hgm, hgs, hcell⟩ : ∃ g, p = some ⟨g, 0, none⟩ ∧ g < P ∧ g < wr.heap.size ∧ ∀ j u, (nr.rowE cs)[j]? = some u → wr.cell? ⟨g, j, none⟩ = some u := by
          rcases hlc with hlc | hlc
          · rw [hlc] at hc1; cases hc1
          · exact hlc
        obtain ⟨hq3, hq4, hld⟩ := HR.out.1.ii
        obtain ⟨g2, rfl, hgm2, hgs2, hcell2⟩ : ∃ g2, pI = some ⟨g2, 0, none⟩ ∧ g2 < mb ∧ g2 < wr.heap.size ∧ ∀ j u, (tm.ir.rowE csI)[j]? = some u → wr.cell? ⟨g2, j, none⟩ = some u := by
          rcases hld with hld | hld
          · rw [hld] at hi1; cases hi1
          · exact hld
        have hci : ∀ i u, (tm.cl i1)[i]? = some u → wr.cell? ⟨g2, j * 13 + i, none⟩ = some u := fun i u hu => by
          have hi : i < 13 := by
            have := (List.getElem?_eq_some_iff.1 hu).1
            rw [tm.ir.cl_len] at this
            exact this
          obtain ⟨hjl, e⟩ := List.getElem?_eq_some_iff.1 hi1
          exact hcell2 _ _ (by rw [tm.ir.rowE_get csI j hjl i hi, e]; exact hu)
        have f0 : wr.cell? ⟨g2, j * 13, none⟩ = some (.int .i64 (i1.d.kd : Int)) := hci 0 _ rfl
        have f1 : wr.cell? ⟨g2, j * 13 + 1, none⟩ = some (.int .i64 (i1.d.at_ : Int)) := hci 1 _ rfl
        have f2 : wr.cell? ⟨g2, j * 13 + 2, none⟩ = some (.string (tx i1.d.nm)) := hci 2 _ rfl
        have f3 : wr.cell? ⟨g2, j * 13 + 3, none⟩ = some (.string (tx i1.d.ty)) := hci 3 _ rfl
        have f4 : wr.cell? ⟨g2, j * 13 + 4, none⟩ = some (.int .i64 (i1.d.wd : Int)) := hci 4 _ rfl
        have f5 : wr.cell? ⟨g2, j * 13 + 5, none⟩ = some (.int .i64 (i1.d.od : Int)) := hci 5 _ rfl
        have f6 : wr.cell? ⟨g2, j * 13 + 6, none⟩ = some (.bool i1.d.sg) := hci 6 _ rfl
        have f7 : wr.cell? ⟨g2, j * 13 + 7, none⟩ = some (.bool i1.d.mn) := hci 7 _ rfl
        have f8 : wr.cell? ⟨g2, j * 13 + 8, none⟩ = some (.pointer i1.pc) := hci 8 _ rfl
        have f9 : wr.cell? ⟨g2, j * 13 + 9, none⟩ = some (.int .i64 (i1.d.ru : Int)) := hci 9 _ rfl
        have f10 : wr.cell? ⟨g2, j * 13 + 10, none⟩ = some (.string (tx i1.d.f1)) := hci 10 _ rfl
        have f11 : wr.cell? ⟨g2, j * 13 + 11, none⟩ = some (.string (tx i1.d.l1)) := hci 11 _ rfl
        have f12 : wr.cell? ⟨g2, j * 13 + 12, none⟩ = some (.slice i1.p i1.n i1.c) := hci 12 _ rfl
        obtain ⟨w5, hw5⟩ : ∃ w5, w5 = wr.alloc (.cells #[.int .i64 (i1.d.kd : Int), .int .i64 (i1.d.at_ : Int), .string (tx i1.d.nm), .string (tx i1.d.ty), .int .i64 (i1.d.wd : Int), .int .i64 (i1.d.od : Int), .bool i1.d.sg, .bool i1.d.mn, .pointer i1.pc, .int .i64 (i1.d.ru : Int), .string (tx i1.d.f1), .string (tx i1.d.l1), .slice i1.p i1.n i1.c] 60) := ⟨_, rfl⟩
        obtain ⟨Xb, hXb⟩ : ∃ Xb, Xb = wr.heap.size := ⟨_, rfl⟩
        have hb5 : Bl wr w5 := by rw [hw5]; exact (Bl.refl _).alloc _
        have hI5 : Iv w5 Xb i1 := by rw [hw5, hXb]; exact Iv.new wr i1
        have hPr := HR.out.1.ws.lt'
        have hcell5 : ∀ i u, (cl c1)[i]? = some u → w5.cell? ⟨g, j * 7 + i, none⟩ = some u := fun i u hu => by
          have hi : i < 7 := by
            have := (List.getElem?_eq_some_iff.1 hu).1
            rw [nr.cl_len] at this
            exact this
          obtain ⟨hjl, e⟩ := List.getElem?_eq_some_iff.1 hc1
          exact at_bl hb5 (hcell _ _ (by rw [nr.rowE_get cs j hjl i hi, e]; exact hu))
        have hfd : Fr P wr w5.drew := Fr.bl (hb5.trans (Bl.refl _).drew) (Nat.le_of_lt hPr)
        have hzz : k.sz ≤ 400 ∧ t.sz ≤ 400 := by have := HR.out.1.sz; unfold Nds.sz at this; omega
        have hll : acc.length + o1.length + (a.length + b.length) ≤ 30000 := by have := HR.out.1.ln; rw [hab, List.length_append] at this; exact this
        have cP := wpart_at l f HB.out.1 HB.out.2.1 w5.drew P mb (acc ++ o1) i1 sub c1.d c1.p c1.n c1.c k a (HR.out.1.ws.bl (hb5.trans (Bl.refl _).drew)) hwd hoks (SubL.fr hsub HR.out.1.ws hfd) (IsNs.fr hks hfd) ha (by rw [List.length_append]; omega) hzz.1
        rw [itV_eq] at cP
        unfold ndV at cP
        have H5 : Hid (Fr P wr w5.drew ∧ RepN wr (fun g => g < P) t (cs.drop (j + 1)) ∧ wAll l (wrB l f) ti t = .ok b ∧ t.sz ≤ 400 ∧ acc.length + o1.length + (a.length + b.length) ≤ 30000 ∧ rem = a ++ b ∧ Rep wr (fun g => g < mb) ti (csI.drop (j + 1)) ∧ OKI ti ∧ Iv w5.drew Xb i1 ∧ Xb ≠ P ∧ g < P ∧ (∀ i u, (cl c1)[i]? = some u → w5.drew.cell? ⟨g, j * 7 + i, none⟩ = some u)) := ⟨hfd, hrr, hb, hzz.2, hll, hab, hri, hokt, hI5.bl (Bl.refl _).drew, by omega, hgm, fun i u hu => at_bl (Bl.refl _).drew (hcell5 i u hu)⟩
        have n0 : w5.cell? ⟨g, j * 7, none⟩ = some (.string (tx c1.d.nm)) := hcell5 0 _ rfl
        have n1 : w5.cell? ⟨g, j * 7 + 1, none⟩ = some (.int .i64 (c1.d.kd : Int)) := hcell5 1 _ rfl
        have n2 : w5.cell? ⟨g, j * 7 + 2, none⟩ = some (.int .i64 (c1.d.at_ : Int)) := hcell5 2 _ rfl
        have n3 : w5.cell? ⟨g, j * 7 + 3, none⟩ = some (.int .i64 (c1.d.sz : Int)) := hcell5 3 _ rfl
        have n4 : w5.cell? ⟨g, j * 7 + 4, none⟩ = some (.int .i64 c1.d.n) := hcell5 4 _ rfl
        have n5 : w5.cell? ⟨g, j * 7 + 5, none⟩ = some (.string (tx c1.d.tx)) := hcell5 5 _ rfl
        have n6 : w5.cell? ⟨g, j * 7 + 6, none⟩ = some (.slice c1.p c1.n c1.c) := hcell5 6 _ rfl
        obtain ⟨x0, x1, x2, x3, x4, x5, x6, x7, x8, x9, x10, x11, x12⟩ := hI5.facts
        have hXs := hI5.lt
        have hj1 : (0 : Int) ≤ (j : Int) := by omega
        have hj2 : (j : Int) < (n : Int) := by omega
        have hju : decide ((j : Int) < (n : Int)) = true := decide_eq_true hj2
        clear hq1 hq2 hq3 hq4 hc1 hi1 hdr hdi hks hrr hio hsub hri hwd hokt hoks ha hb hab hlc hld hcell hcell2 hci hcell5 hgm hgm2 hb5 hI5 hfd hzz hll
        go_upto_region 4 with fail
        rw [← hw5, ← hXb]
        clear hw5 hXb f0 f1 f2 f3 f4 f5 f6 f7 f8 f9 f10 f11 f12
        go_region_held3 (fun wS => wS.cell? ⟨Xb, 0, none⟩ = some (.int .i64 (i1.d.kd : Int)) ∧ wS.cell? ⟨Xb, 1, none⟩ = some (.int .i64 (i1.d.at_ : Int)) ∧ wS.cell? ⟨Xb, 2, none⟩ = some (.string (tx i1.d.nm)) ∧ wS.cell? ⟨Xb, 3, none⟩ = some (.string (tx i1.d.ty)) ∧ wS.cell? ⟨Xb, 4, none⟩ = some (.int .i64 (i1.d.wd : Int)) ∧ wS.cell? ⟨Xb, 5, none⟩ = some (.int .i64 (i1.d.od : Int)) ∧ wS.cell? ⟨Xb, 6, none⟩ = some (.bool i1.d.sg) ∧ wS.cell? ⟨Xb, 7, none⟩ = some (.bool i1.d.mn) ∧ wS.cell? ⟨Xb, 8, none⟩ = some (.pointer i1.pc) ∧ wS.cell? ⟨Xb, 9, none⟩ = some (.int .i64 (i1.d.ru : Int)) ∧ wS.cell? ⟨Xb, 10, none⟩ = some (.string (tx i1.d.f1)) ∧ wS.cell? ⟨Xb, 11, none⟩ = some (.string (tx i1.d.l1)) ∧ wS.cell? ⟨Xb, 12, none⟩ = some (.slice i1.p i1.n i1.c)
            ∧ wS.cell? ⟨g, j * 7, none⟩ = some (.string (tx c1.d.nm)) ∧ wS.cell? ⟨g, j * 7 + 1, none⟩ = some (.int .i64 (c1.d.kd : Int)) ∧ wS.cell? ⟨g, j * 7 + 2, none⟩ = some (.int .i64 (c1.d.at_ : Int)) ∧ wS.cell? ⟨g, j * 7 + 3, none⟩ = some (.int .i64 (c1.d.sz : Int)) ∧ wS.cell? ⟨g, j * 7 + 4, none⟩ = some (.int .i64 c1.d.n) ∧ wS.cell? ⟨g, j * 7 + 5, none⟩ = some (.string (tx c1.d.tx)) ∧ wS.cell? ⟨g, j * 7 + 6, none⟩ = some (.slice c1.p c1.n c1.c))
          (refine ⟨?_, ?_, ?_, ?_, ?_, ?_, ?_, ?_, ?_, ?_, ?_, ?_, ?_, ?_, ?_, ?_, ?_, ?_, ?_, ?_⟩ <;> first | assumption | exact at_bl ((Bl.refl _).drew) (by assumption))
          (first
            | (go_at_call 139; refine cP.mono ?_; rintro e w6 ⟨rfl, hr6, hf6⟩
               have H6 : Hid (Ru w w6 P mb l acc (o1 ++ a) f (some ⟨g2, 0, none⟩) n cI csI (some ⟨g, 0, none⟩) n c cs (j + 1) ti t b ∧ (o1 ++ a) ++ b = out) := ⟨HR.out.1.go (H5.out.1.trans hf6) (by rw [← List.append_assoc]; exact hr6) H5.out.2.2.2.2.2.2.1 H5.out.2.2.2.2.2.2.2.1 H5.out.2.1 H5.out.2.2.1 H5.out.2.2.2.1 (by rw [List.length_append]; have := H5.out.2.2.2.2.1; omega), by rw [List.append_assoc, ← H5.out.2.2.2.2.2.1]; exact HR.out.2⟩
               have hI6 := hf6.iv H5.out.2.2.2.2.2.2.2.2.1 H5.out.2.2.2.2.2.2.2.2.2.1
               obtain ⟨z0, z1, z2, z3, z4, z5, z6, z7, z8, z9, z10, z11, z12⟩ := hI6.facts
               have hc6 : ∀ i u, (cl c1)[i]? = some u → w6.cell? ⟨g, j * 7 + i, none⟩ = some u := fun i u hu => by
                 have := H5.out.2.2.2.2.2.2.2.2.2.2.2 i u hu
                 unfold World.cell? at this ⊢
                 rw [hf6.b.block g H5.out.2.2.2.2.2.2.2.2.2.2.1]
                 exact this
               have m0 : w6.cell? ⟨g, j * 7, none⟩ = some (.string (tx c1.d.nm)) := hc6 0 _ rfl
               have m1 : w6.cell? ⟨g, j * 7 + 1, none⟩ = some (.int .i64 (c1.d.kd : Int)) := hc6 1 _ rfl
               have m2 : w6.cell? ⟨g, j * 7 + 2, none⟩ = some (.int .i64 (c1.d.at_ : Int)) := hc6 2 _ rfl
               have m3 : w6.cell? ⟨g, j * 7 + 3, none⟩ = some (.int .i64 (c1.d.sz : Int)) := hc6 3 _ rfl
               have m4 : w6.cell? ⟨g, j * 7 + 4, none⟩ = some (.int .i64 c1.d.n) := hc6 4 _ rfl
               have m5 : w6.cell? ⟨g, j * 7 + 5, none⟩ = some (.string (tx c1.d.tx)) := hc6 5 _ rfl
               have m6 : w6.cell? ⟨g, j * 7 + 6, none⟩ = some (.slice c1.p c1.n c1.c) := hc6 6 _ rfl
               clear hI6 hc6 hr6 hf6))
        clear cP
        go_wp2
        go_roundw
        case rel => exact ⟨j + 1, ti, t, o1 ++ a, b, by go_num, by omega, H6.out⟩
        case measure => simp [intOf]; omega
    · obtain rfl : j = n := by omega
      have hend : rem = [] := by
        have h1 := HR.out.1.re
        have h2 := HR.out.1.ir
        have h3 := HR.out.1.ok
        rw [List.drop_eq_nil_of_le (by have := HB.out.2.2.2; omega)] at h1
        rw [List.drop_eq_nil_of_le (by have := HB.out.2.2.1; omega)] at h2
        cases rest with
        | cons nd k t => obtain ⟨_, _, e, _⟩ := h1; cases e
        | nil =>
          cases ri with
          | cons d s t => obtain ⟨_, _, e, _⟩ := h2; cases e
          | nil => rw [wAll] at h3; injection h3 with h3; exact h3.symm
      have HF : Hid (Wr wr P mb l (acc ++ out) ∧ Fr P w wr) := ⟨by have e := HR.out.2; rw [hend, List.append_nil] at e; rw [← e]; exact HR.out.1.ws, HR.out.1.fr⟩
      clear hend
      go_wp2
      exact bodyPost_end (results_none rfl _ _ _) rfl ⟨rfl, HF.out⟩
theorem wblk (l : List Ty) (hl : OKT l) : ∀ f, WBlk l f
  | 0 => wblk_zero l
  | f + 1 => wblk_succ l hl f (wblk l hl f)
end Go.Proofs.YtococaecjecjgaaGreatDoor.ly
/- A writer: what it has written; all of a tree. -/
namespace Go.Proofs.YtococaecjecjgaaGreatDoor.ly
set_option linter.unusedVariables false
open Go.ChangeShapes Go.WideShapes Go.ChangeAt Go.RowKit
open mem lx ex tm num bld

theorem Fr.frozen {P g : Nat} {w w' : World} (h : Fr P w w') (hg : P ≤ g) (n : Nat) (hp : ∃ c fz, w'.heap[g]? = some (.cells c 5 fz)) : Fr P w (w'.freeze ⟨g, 0, none⟩ n) := by
  have h1 := Lib.below_freeze h.b (p := ⟨g, 0, none⟩) hg n
  have h2 := (Lib.OthersKept.refl 5 (some P) w').freeze ⟨g, 0, none⟩ n hp
  exact ⟨h1, ⟨h1.size, fun k o hk hne ho => h2 k o (h.k.same k o hk hne ho) (fun e => hne (by injection e)) ho⟩⟩
set_option maxRecDepth 10000 in
set_option maxHeartbeats 2000000 in
theorem wstring_at (w : World) (P mb : Nat) (l : List Ty) (acc : List UInt8) (h : Wr w P mb l acc) :
    Calls Tryz.prog 66 #[.pointer (some ⟨P, 1, none⟩)] w fun e w' => e = .returned (.string (tx acc)) ∧ Fr P w w' := by
  have mixed : Tryz.prog.follows Departure.mixedOrders = true := by kernel_rfl
  have hPs := h.lt'
  obtain ⟨p, v, h1, _, h3, _⟩ := h.at_
  have hdr : w.drew.heap[P]? = some (.cells #[.map (some mb), .pointer p, v] 83 (0, 0)) := h1
  have c1 : w.drew.cell? ⟨P, 2, none⟩ = some v := by rw [cell_of hdr]; rfl
  have hd := Fr.bl (Bl.refl w).drew (Nat.le_of_lt hPs)
  rcases h3.2 with ⟨rfl, h0⟩ | ⟨g, cap, cur, rfl, hPg, hg, hnc, hcm, hcs, htake⟩
  · have e : acc = [] := List.eq_nil_of_length_eq_zero (by simpa using h0)
    subst e
    have hSD : (Builtin.unsafeSliceData_ #[79] 190 #[.slice none 0 0]).run Tryz.prog w.drew = .ok (.pointer none) w.drew := rfl
    have hUS : (Builtin.unsafeString_ #[190, 3] 9 #[.pointer none, .int .i64 0]).run Tryz.prog w.drew = .ok (.string .empty) w.drew := Lib.run_unsafeString_none _ _ _ _ none
    have HF : Hid (Fr P w w.drew) := hd
    clear h h1 h3 hdr hd h0
    go_enter Tryz.func66, Tryz.ntmps66
    go_wp2
    go_region_o
    all_goals (go_wp2; go_ret; exact ⟨rfl, HF.out⟩)
  · have e0 : (acc.map fun b => (b.toNat : Int)).length = acc.length := List.length_map ..
    rw [e0] at c1 hnc htake
    have hg' : w.drew.heap[g]? = some (.cells cur 5 (0, 0)) := hg
    have hp190 : Tryz.prog.underlying 190 = some (.pointer 5) := Tryz.underlying190
    have hb1 : Tryz.prog.cellsOf 5 = 1 := by kernel_rfl
    have hfz : Fr P w (w.drew.freeze ⟨g, 0, none⟩ acc.length) := hd.frozen hPg _ ⟨cur, (0, 0), hg'⟩
    have hcell : ∀ j x, acc[j]? = some x → w.drew.cell? ((⟨g, 0, none⟩ : Addr).add j) = some (.int .u8 x.toNat) := fun j x hx => by
      have hj : j < acc.length := (List.getElem?_eq_some_iff.1 hx).1
      have : ((acc.map fun b => (b.toNat : Int)).map (Value.int .u8))[j]? = some (.int .u8 x.toNat) := by simp [hx]
      rw [← htake, Nat.mul_one, List.getElem?_take, if_pos hj] at this
      rw [Addr.add_lit, Nat.zero_add]
      simp only [World.cell?, hg']
      simpa using this
    by_cases hn : acc = []
    · subst hn
      by_cases hc : cap = 0
      · subst hc
        have hSD : (Builtin.unsafeSliceData_ #[79] 190 #[.slice (some ⟨g, 0, none⟩) 0 0]).run Tryz.prog w.drew = .ok (.pointer (some ⟨w.drew.heap.size, 0, none⟩)) (w.drew.alloc (.view ⟨g, 0, none⟩ 5)) :=
          Lib.run_unsafeSliceData_zero w.drew _ _ 5 hp190 ⟨g, 0, none⟩ 0 (5, cur.size) (by simp [World.shape?, hg'])
        have hUS := fun (W : World) (q : Option Addr) => Lib.run_unsafeString_none (P := Tryz.prog) W 190 3 9 q
        have c2 : (w.drew.alloc (.view ⟨g, 0, none⟩ 5)).cell? ⟨P, 2, none⟩ = some (.slice (some ⟨g, 0, none⟩) 0 0) := at_bl ((Bl.refl _).alloc _) c1
        have c3 : (w.alloc (.view ⟨g, 0, none⟩ 5)).drew.cell? ⟨P, 2, none⟩ = some (.slice (some ⟨g, 0, none⟩) 0 0) := c2
        have c0 : w.cell? ⟨P, 2, none⟩ = some (.slice (some ⟨g, 0, none⟩) 0 0) := c1
        have HF : Hid (Fr P w (w.drew.alloc (.view ⟨g, 0, none⟩ 5))) := Fr.bl ((Bl.refl _).drew.alloc _) (Nat.le_of_lt hPs)
        clear h h1 h3 hdr hd hg hcs htake hcell hfz hp190 hb1 hg' e0
        go_enter Tryz.func66, Tryz.ntmps66
        go_wp2
        go_region_o
        all_goals (go_wp2; go_ret; exact ⟨rfl, HF.out⟩)
      · have hSD : (Builtin.unsafeSliceData_ #[79] 190 #[.slice (some ⟨g, 0, none⟩) 0 cap]).run Tryz.prog w.drew = .ok (.pointer (some ⟨g, 0, none⟩)) w.drew := Lib.run_unsafeSliceData_row _ _ _ _ _ _ hc
        have hUS := fun (W : World) (q : Option Addr) => Lib.run_unsafeString_none (P := Tryz.prog) W 190 3 9 q
        have HF : Hid (Fr P w w.drew) := hd
        clear h h1 h3 hdr hd hg hcs htake hcell hfz hp190 hb1 hg' hc e0
        go_enter Tryz.func66, Tryz.ntmps66
        go_wp2
        go_region_o
        all_goals (go_wp2; go_ret; exact ⟨rfl, HF.out⟩)
    · have hn0 : acc.length ≠ 0 := by simpa using hn
      have hc0 : cap ≠ 0 := by omega
      have hSD : (Builtin.unsafeSliceData_ #[79] 190 #[.slice (some ⟨g, 0, none⟩) acc.length cap]).run Tryz.prog w.drew = .ok (.pointer (some ⟨g, 0, none⟩)) w.drew := Lib.run_unsafeSliceData_row _ _ _ _ _ _ hc0
      have hUS : (Builtin.unsafeString_ #[190, 3] 9 #[.pointer (some ⟨g, 0, none⟩), .int .i64 acc.length]).run Tryz.prog w.drew = .ok (.string ⟨acc.toArray⟩) (w.drew.freeze ⟨g, 0, none⟩ acc.length) :=
        Lib.run_unsafeString_row w.drew 190 3 9 5 hp190 hb1 g cur.size (by simp [World.shape?, hg']) acc hn (by omega) (by unfold maxLen at hcm; omega) hcell
      have HF : Hid (Fr P w (w.drew.freeze ⟨g, 0, none⟩ acc.length)) := hfz
      clear h h1 h3 hdr hd hg hcs htake hcell hfz hp190 hb1 hg' hn e0 hn0 hc0
      go_enter Tryz.func66, Tryz.ntmps66
      go_wp2
      go_region_o
      all_goals (go_wp2; go_ret; exact ⟨rfl, HF.out⟩)
end Go.Proofs.YtococaecjecjgaaGreatDoor.ly
/- A writer: all of a tree. -/
namespace Go.Proofs.YtococaecjecjgaaGreatDoor.ly
set_option linter.unusedVariables false
open Go.ChangeShapes Go.WideShapes Go.ChangeAt Go.RowKit
open mem lx ex tm num bld

set_option maxRecDepth 10000 in
set_option maxHeartbeats 2000000 in
theorem wwhole_at (w : World) (P mb : Nat) (l : List Ty) (x : List UInt8) (d : ND) (p : Option Addr) (n cc : Nat) (ks : Nds) (out : List UInt8) (h : Wr w P mb l []) (hx : x.length ≤ maxLen) (hl : OKT l) (hn : IsNs w (fun g => g < P) p n cc ks) (ho : wr l x d ks 401 = .ok out) (hlen : out.length ≤ 30000) (hz : ks.sz ≤ 400) :
    Calls Tryz.prog 35 #[.pointer (some ⟨P, 0, none⟩), .string (tx x), ndV d p n cc] w fun e w' => e = .returned (.string (tx out)) ∧ Fr P w w' := by
  obtain ⟨i0, hf0⟩ : ∃ i, fnd l x = some i := by
    cases hf : fnd l x with
    | none => unfold wr at ho; rw [hf] at ho; cases ho
    | some i => exact ⟨i, rfl⟩
  have ho' : wOne l (wrB l 401) (cT x).d .nil d ks = .ok out := by unfold wr at ho; rw [hf0] at ho; exact ho
  unfold ndV
  obtain ⟨w1, hw1⟩ : ∃ w1, w1 = w.alloc (.cells #[.string (tx d.nm), .int .i64 (d.kd : Int), .int .i64 (d.at_ : Int), .int .i64 (d.sz : Int), .int .i64 d.n, .string (tx d.tx), .slice p n cc] 27) := ⟨_, rfl⟩
  obtain ⟨Q, hQ⟩ : ∃ Q, Q = w.heap.size := ⟨_, rfl⟩
  have hb1 : Bl w w1 := by rw [hw1]; exact (Bl.refl _).alloc _
  have hN : Nv w1 Q d p n cc := by rw [hw1, hQ]; exact new_at _ _
  have hP := h.lt'
  have cI := items_at w1 mb l x (h.bl hb1).mp hx
  rw [hf0] at cI
  have p0 := (h.bl hb1).cells.1
  have hPs : P < w1.heap.size := (h.bl hb1).lt'
  have hQs := hN.lt
  have HB : Hid (Nv w1 Q d p n cc ∧ Wr w1 P mb l [] ∧ Bl w w1 ∧ P < Q ∧ P < w.heap.size ∧ IsNs w1 (fun g => g < P) p n cc ks) := ⟨hN, h.bl hb1, hb1, by omega, hP, hn.fr (Fr.bl hb1 (Nat.le_of_lt hP))⟩
  have hcO := fun (w3 : World) (hb3 : Bl w1 w3) => wone_at l 401 (wblk l hl 401) hl w3 P mb [] (cT x) .nil d p n cc ks out (HB.out.2.1.bl hb3) (topD_wk hx) (fun e => absurd (show (3 : Nat) = 4 from e) (by decide)) ⟨[], ⟨rfl, Nat.le_refl _, Or.inl rfl⟩, rfl⟩ (HB.out.2.2.2.2.2.fr (Fr.bl hb3 (Nat.le_of_lt HB.out.2.1.lt'))) ho' (by simpa using hlen) hz
  have cT1 := fun wx => top_at x wx
  obtain ⟨IV, hIV⟩ : ∃ IV, IV = itV (cT x) := ⟨_, rfl⟩
  rw [← hIV] at hcO cT1
  unfold ndV at hcO
  clear h hx hl hn ho hlen hz ho' hf0 hb1 hN hP hIV
  go_enter Tryz.func35, Tryz.ntmps35
  go_upto_region 1 with fail
  rw [← hw1, ← hQ]
  clear hw1 hQ
  go_wp2_with fail
  refine cI.mono ?_
  rintro e w2 ⟨hb2, pI, nI, cI', csI, rfl, hli, hre⟩
  have hb2d : Bl w1 w2.drew := hb2.trans (Bl.refl _).drew
  have HC : Hid (Bl w1 w2 ∧ Bl w1 w2.drew ∧ Nv w2.drew Q d p n cc) := ⟨hb2, hb2d, HB.out.1.bl hb2d⟩
  have hN2 := HB.out.1.bl hb2
  obtain ⟨y0, y1, y2, y3, y4, y5, y6⟩ := hN2.cells
  have hQ2 := hN2.lt
  have hP2 : P < w2.heap.size := by have := hb2.size; omega
  clear cI hb2 hb2d hli hre hN2 p0 hPs hQs
  go_upto_region 2 with fail
  go_region_held3 (fun wS => wS.cell? ⟨Q, 0, none⟩ = some (.string (tx d.nm)) ∧ wS.cell? ⟨Q, 1, none⟩ = some (.int .i64 (d.kd : Int)) ∧ wS.cell? ⟨Q, 2, none⟩ = some (.int .i64 (d.at_ : Int)) ∧ wS.cell? ⟨Q, 3, none⟩ = some (.int .i64 (d.sz : Int)) ∧ wS.cell? ⟨Q, 4, none⟩ = some (.int .i64 d.n) ∧ wS.cell? ⟨Q, 5, none⟩ = some (.string (tx d.tx)) ∧ wS.cell? ⟨Q, 6, none⟩ = some (.slice p n cc))
    (refine ⟨?_, ?_, ?_, ?_, ?_, ?_, ?_⟩ <;> first | assumption | exact at_bl ((Bl.refl _).drew) (by assumption))
    (first
      | (go_at_call 53; refine (cT1 _).mono ?_; rintro e w4 ⟨rfl, hb4⟩
         have H4 : Hid (Bl w1 w4 ∧ Nv w4 Q d p n cc) := ⟨HC.out.2.1.trans hb4, HC.out.2.2.bl hb4⟩
         obtain ⟨z0, z1, z2, z3, z4, z5, z6⟩ := H4.out.2.cells
         clear hb4)
      | (go_at_call 65; refine (hcO _ H4.out.1).mono ?_; rintro e w5 ⟨rfl, hr5, hf5⟩
         have H5 : Hid (Wr w5 P mb l out ∧ Fr P w w5) := ⟨hr5, (Fr.bl (HB.out.2.2.1.trans H4.out.1) (Nat.le_of_lt HB.out.2.2.2.2.1)).trans hf5⟩
         obtain ⟨x0, x1, x2, x3, x4, x5, x6⟩ := (hf5.nv H4.out.2 (by have := HB.out.2.2.2.1; omega)).cells
         clear hr5 hf5))
  have cS := wstring_at w5 P mb l out H5.out.1
  have hP5 := H5.out.1.lt'
  clear x0 x1 x2 x3 x4 x5 x6 hcO cT1
  go_wp2_with fail
  refine cS.mono ?_
  rintro e w6 ⟨rfl, hf6⟩
  have HF : Hid (Fr P w w6) := H5.out.2.trans hf6
  clear cS hf6
  go_wp2
  go_ret
  exact ⟨rfl, HF.out⟩
end Go.Proofs.YtococaecjecjgaaGreatDoor.ly
/- What is thrown is caught. -/
namespace Go.Proofs.YtococaecjecjgaaGreatDoor.ly
set_option linter.unusedVariables false
open Go.ChangeShapes Go.WideShapes Go.ChangeAt Go.RowKit
open mem lx ex tm num

theorem lcatch_idle (p : Addr) (w : World) :
    CallsD Tryz.prog 51 #[.pointer (some p)] .returning w fun e u' w' => e = .returned (.tuple #[]) ∧ u' = .returning ∧ Bl w w' := by
  have hta : ∀ w : World, (Instr.typeAssert Value.nilIface 20 109 true).run Tryz.prog w = .ok (.tuple #[.agg #[.nilIface], .bool false]) w := fun _ => by kernel_rfl
  refine callsD_of_wpS Tryz.func51 rfl fun c₀ cs hu => ?_
  apply wpS_seq
  apply wpS_region
  simp [wpOpsS, go_sem, recoverD, hu, Tryz.ntmps51, Exit.thenS, hta]
  apply wpS_seq
  apply wpS_region
  simp [wpOpsS, go_sem, Exit.thenS]
  refine wpS_cond (t := false) (by simp [Act.eval, Array.replicate]) ?_
  simp only [Bool.false_eq_true, if_false]
  refine wpS_of_wp (wp_skip ?_)
  cases c₀
  simp_all [bodyPostS, results, Tryz.results51]
  exact (Bl.refl _).alloc _
theorem lcatch_thrown (N : Nat) (w : World) (e0 : Value) (ty : TypeId) (u : Value) (h : Vr w N e0 34) :
    CallsD Tryz.prog 51 #[.pointer (some ⟨N, 0, none⟩)] (.panicking [{ v := .iface 109 (.agg #[.iface ty u]), recovered := false }]) w fun e u' w' =>
      e = .returned (.tuple #[]) ∧ u' = .panicking [{ v := .iface 109 (.agg #[.iface ty u]), recovered := true }] ∧ Gp N w w' ∧ Vr w' N (.iface ty u) 34 := by
  have hta : ∀ w : World, (Instr.typeAssert (.iface 109 (.agg #[.iface ty u])) 20 109 true).run Tryz.prog w = .ok (.tuple #[.agg #[.iface ty u], .bool true]) w := fun _ => by kernel_rfl
  refine callsD_of_wpS Tryz.func51 rfl fun c₀ cs hu => ?_
  apply wpS_seq
  apply wpS_region
  simp [wpOpsS, go_sem, recoverD, hu, Tryz.ntmps51, Exit.thenS, hta]
  apply wpS_seq
  apply wpS_region
  simp [wpOpsS, go_sem, Exit.thenS]
  refine wpS_cond (t := true) (by simp [Act.eval, Array.replicate]) ?_
  simp only [if_true]
  have hM := h.lt
  obtain ⟨M, hMe⟩ : ∃ M, M = w.heap.size := ⟨_, rfl⟩
  rw [← hMe] at hM ⊢
  obtain ⟨w1, hw1⟩ : ∃ w1, w1 = w.alloc (.cells #[.iface ty u] 109) := ⟨_, rfl⟩
  have hb1 : Bl w w1 := by rw [hw1]; exact (Bl.refl _).alloc _
  have hcM : w1.cell? ⟨M, 0, none⟩ = some (.iface ty u) := by
    have := new_at w (.cells #[.iface ty u] 109)
    rw [hMe, hw1, cell_of this]; rfl
  have H1 : Hid (Vr w1 N e0 34 ∧ Bl w w1) := ⟨h.step hb1, hb1⟩
  rw [← hw1]
  clear hw1 hb1 h hMe
  have c1 := H1.out.1.cell
  have f1 := H1.out.1.frozen
  have hMN : ¬ M = N := by omega
  apply wpS_region
  simp [wpOpsS, go_sem, hcM, c1, f1, bodyPostS, results, Tryz.results51, Array.replicate]
  exact ⟨(Gp.bl H1.out.2).trans (Gp.set _), H1.out.1.set _⟩
set_option maxRecDepth 10000 in
set_option maxHeartbeats 1000000 in
theorem caught_at (F : FuncId) (q1 q2 q3 : Value) (w : World) (A : World → Prop) (B : Value → World → Prop) (hF : ∀ args w, (callFunc F args).run Tryz.prog w = .ok (.enter F args) w)
    (hcall : ∀ w1, Bl w w1 → Vr w1 w.heap.size .nilIface 34 → Calls Tryz.prog F #[q1, q2, q3] w1 fun e w' => (e = .returned (.tuple #[]) ∧ A w') ∨ ∃ ty u, e = thrL (.iface ty u) ∧ B (.iface ty u) w')
    (hN : ∀ w', (A w' ∨ ∃ v, B v w') → Vr w' w.heap.size .nilIface 34) :
    Calls Tryz.prog 25 #[.func (.func F) #[] #[q1, q2, q3]] w fun e w'' => (e = .returned .nilIface ∧ ∃ w', A w' ∧ Gp w.heap.size w' w'') ∨ ∃ v, e = .returned v ∧ ∃ w', B v w' ∧ Gp w.heap.size w' w'' := by
  have hmf : ∀ (fn : Fn) (first cap : Array Value) (w : World), (Instr.makeFunc fn first cap).run Tryz.prog w = .ok (.func fn first cap) w := fun _ _ _ _ => rfl
  have hv0 := Vr.new w .nilIface 34
  have hb1 : Bl w (w.alloc (.cells #[.nilIface] 34)) := (Bl.refl _).alloc _
  obtain ⟨N, hNe⟩ : ∃ N, N = w.heap.size := ⟨_, rfl⟩
  have cC := hcall _ hb1 hv0
  rw [← hNe] at hv0 hN ⊢
  have HNH : Hid (∀ w', (A w' ∨ ∃ v, B v w') → Vr w' N .nilIface 34) := hN
  obtain ⟨w1, hw1⟩ : ∃ w1, w1 = w.alloc (.cells #[.nilIface] 34) := ⟨_, rfl⟩
  rw [← hw1] at cC
  clear hv0 hb1 hN hcall
  go_enter_defers Tryz.func25, Tryz.ntmps25
  go_wp2_with fail
  rw [← hw1, ← hNe]
  clear hw1 hNe
  refine cC.mono ?_
  rintro e w2 (⟨rfl, hA⟩ | ⟨ty, u, rfl, hB⟩)
  · have H2 : Hid (Vr w2 N .nilIface 34 ∧ A w2) := ⟨HNH.out w2 (Or.inl hA), hA⟩
    have d1 := H2.out.1.cell
    have e1 := H2.out.1.frozen
    have hN2 := H2.out.1.lt
    clear cC hA
    go_wp2
    have H3 : Hid (Vr (w2.setCell ⟨N, 0, none⟩ .nilIface) N .nilIface 34 ∧ Gp N w2 (w2.setCell ⟨N, 0, none⟩ .nilIface)) := ⟨H2.out.1.set _, Gp.set _⟩
    generalize w2.setCell ⟨N, 0, none⟩ .nilIface = w3 at H3 ⊢
    refine leaves_cons (f := 51) (args := #[.pointer (some ⟨N, 0, none⟩)]) (by simp) (by simp [go_sem]) ?_
    refine (lcatch_idle _ _).mono ?_
    rintro e u' w4 ⟨rfl, rfl, hb4⟩
    have c4 := (H3.out.1.step hb4).cell
    have hfin : Gp N w2 w4 := H3.out.2.trans (Gp.bl hb4)
    simp [Leaves, settle, results, Tryz.results25, go_sem, c4]
    exact Or.inl ⟨w2, H2.out.2, hfin⟩
  · have H2 : Hid (Vr w2 N .nilIface 34 ∧ B (.iface ty u) w2) := ⟨HNH.out w2 (Or.inr ⟨_, hB⟩), hB⟩
    clear cC hB
    unfold thrL
    go_wp2
    refine leaves_cons (f := 51) (args := #[.pointer (some ⟨N, 0, none⟩)]) (by simp) (by simp [go_sem]) ?_
    refine (lcatch_thrown N w2 .nilIface ty u H2.out.1).mono ?_
    rintro e u' w4 ⟨rfl, rfl, hg4, hv4⟩
    have c4 := hv4.cell
    simp [Leaves, settle, results, Tryz.results25, go_sem, c4]
    exact ⟨w2, H2.out.2, hg4⟩
end Go.Proofs.YtococaecjecjgaaGreatDoor.ly
/- Read of package layout. -/
namespace Go.Proofs.YtococaecjecjgaaGreatDoor.ly
set_option linter.unusedVariables false
open Go.ChangeShapes Go.WideShapes Go.ChangeAt Go.RowKit
open mem lx ex tm num

theorem ErV.gp {w0 w w' : World} {er : Er} {v : Value} {N : Nat} (h : ErV w0 w er v) (hg : Gp N w w') (hN : N < w0.heap.size) : ErV w0 w' er v := by
  rcases h with h | ⟨B, h1, h2, h3⟩
  · exact Or.inl h
  · exact Or.inr ⟨B, h1, h2, by unfold AtX at h3 ⊢; rw [hg.block B (lt_of_heap h3) (by omega)]; exact h3⟩
theorem ErV.iface {w0 w : World} {er : Er} {v : Value} (h : ErV w0 w er v) : ∃ ty u, v = .iface ty u := by
  rcases h with ⟨_, rfl⟩ | ⟨B, rfl, _⟩ <;> exact ⟨_, _, rfl⟩
/-- What Read has before it reads. -/
structure Rv (w W : World) (T Q mb P V : Nat) (s x : List UInt8) (l : List Ty) : Prop where
  rt : Vr W T (.string (tx x)) 9
  qv : Nv W Q ⟨[], 0, 0, 0, 0, []⟩ none 0 0
  vv : Vr W V (.pointer (some ⟨P, 0, none⟩)) 62
  rd : RdL W P mb (tx s) l (0, 0)
  bl : Bl w W
  lt : w.heap.size ≤ T ∧ T < Q ∧ Q < P ∧ P < V ∧ V < W.heap.size
/-- .. when it has read. -/
def RvA (W : World) (P Q : Nat) (q : Except Er (ND × Nds × St)) (w' : World) : Prop :=
  ∃ (nd : ND) (ks : Nds) (st : St) (p : Option Addr) (c : Nat) (w1 : World), q = .ok (nd, ks, st) ∧ Nv w' Q nd p ks.len c ∧ W.heap.size < w1.heap.size ∧ IsNs w' (fun g => w1.heap.size ≤ g) p ks.len c ks ∧ Gq P Q W w' ∧ Vr w' W.heap.size .nilIface 34
/-- .. when it could not. -/
def RvB (W : World) (P Q : Nat) (q : Except Er (ND × Nds × St)) (v : Value) (w' : World) : Prop :=
  ∃ (er : Er) (w1 : World), q = .error er ∧ Nv w' Q ⟨[], 0, 0, 0, 0, []⟩ none 0 0 ∧ W.heap.size < w1.heap.size ∧ ErV w1 w' er v ∧ Gq P Q W w' ∧ Vr w' W.heap.size .nilIface 34
set_option maxRecDepth 10000 in
set_option maxHeartbeats 1000000 in
theorem do_at (w W : World) (T Q mb P V : Nat) (s x : List UInt8) (l : List Ty) (h : Rv w W T Q mb P V s x l) (hx : x.length ≤ maxLen) (hl : OKT l) (w1 : World) (hb : Bl W w1) (hv : Vr w1 W.heap.size .nilIface 34) :
    Calls Tryz.prog 26 #[.pointer (some ⟨V, 0, none⟩), .pointer (some ⟨T, 0, none⟩), .pointer (some ⟨Q, 0, none⟩)] w1 fun e w' => (e = .returned (.tuple #[]) ∧ RvA W P Q (wholeQ s (one s l (rdB s l 400) (topD x) .nil noE (0, 0))) w') ∨ ∃ ty u, e = thrL (.iface ty u) ∧ RvB W P Q (wholeQ s (one s l (rdB s l 400) (topD x) .nil noE (0, 0))) (.iface ty u) w' := by
  have cW := whole_at w1 P mb (tx s) l x (h.rd.bl hb) hx hl
  rw [L_tx] at cW
  obtain ⟨q, hq⟩ : ∃ q, q = wholeQ s (one s l (rdB s l 400) (topD x) .nil noE (0, 0)) := ⟨_, rfl⟩
  rw [← hq] at cW ⊢
  have H1 : Hid (Rv w W T Q mb P V s x l ∧ Bl W w1 ∧ Vr w1 W.heap.size .nilIface 34 ∧ Nv w1 Q ⟨[], 0, 0, 0, 0, []⟩ none 0 0) := ⟨h, hb, hv, h.qv.bl hb⟩
  have c1 := (h.vv.step hb).cell
  have c2 := (h.rt.step hb).cell
  have hs1 := (h.vv.step hb).lt
  have hs2 := (h.rt.step hb).lt
  clear hq h hb hv
  go_enter Tryz.func26, Tryz.ntmps26
  go_wp2_with fail
  refine cW.mono ?_
  rintro e w2 ⟨hg2, hans⟩
  have hlt := H1.out.1.lt
  have hQ2 : Nv w2 Q ⟨[], 0, 0, 0, 0, []⟩ none 0 0 := H1.out.2.2.2.gp hg2 (by omega)
  have hE2 : Vr w2 W.heap.size .nilIface 34 := ex.Vr.gp H1.out.2.2.1 hg2 (by omega)
  have hgq : Gq P Q W w2 := (Gq.gp (Gp.bl H1.out.2.1)).trans (Gq.gp hg2)
  have hw1 : W.heap.size < w1.heap.size := H1.out.2.2.1.lt
  cases q with
  | error er =>
    obtain ⟨v, rfl, hv⟩ := hans
    obtain ⟨ty, u, rfl⟩ := hv.iface
    have HF : Hid (RvB W P Q (.error er) (.iface ty u) w2) := ⟨er, w1, rfl, hQ2, hw1, hv, hgq, hE2⟩
    unfold thrL
    clear cW hQ2 hE2 hgq hv hg2
    go_wp2
    exact ⟨rfl, Or.inr ⟨ty, u, rfl, HF.out⟩⟩
  | ok r =>
    obtain ⟨nd, ks, st⟩ := r
    obtain ⟨p, pc, rfl, hks, hr2⟩ := hans
    have hst := hQ2.store nd p ks.len pc
    have hgs : Gq P Q w2 (st7 w2 Q nd p ks.len pc) := st7_gq P Q nd p ks.len pc
    have hgp : Gp Q w2 (st7 w2 Q nd p ks.len pc) := ⟨hgs.os, hgs.tape, hgs.output, hgs.size, fun j h1 h2 => (st7_gq (w := w2) Q Q nd p ks.len pc).block j h1 h2 h2⟩
    have HF : Hid (RvA W P Q (.ok (nd, ks, st)) (st7 w2 Q nd p ks.len pc)) := ⟨nd, ks, st, p, pc, w1, rfl, hst, hw1, hks.keep (fun g h1 h2 => hgp.block g h2 (by omega)) hgp.size, hgq.trans hgs, ex.Vr.gp hE2 hgp (by omega)⟩
    obtain ⟨m0, m1, m2, m3, m4, m5, m6⟩ := hQ2.cells
    obtain ⟨y0, y1, y2, y3, y4, y5, y6⟩ := hQ2.fz
    have hQs := hQ2.lt
    unfold ndV
    clear cW hQ2 hE2 hgq hks hr2 hst hgs hgp c1 c2 hs1 hs2 hg2
    go_wp2
    exact bodyPost_end (results_none rfl _ _ _) rfl (Or.inl ⟨rfl, HF.out⟩)
/-- What Read answers. -/
def RdA (w : World) (q : Except Er (ND × Nds)) (e : Ending) (w' : World) : Prop :=
  Bl w w' ∧ match q with
  | .ok (nd, ks) => ∃ p c, e = .returned (.tuple #[ndV nd p ks.len c, .nilIface]) ∧ IsNs w' (fun g => w.heap.size ≤ g) p ks.len c ks
  | .error er => ∃ v, e = .returned (.tuple #[ndV ⟨[], 0, 0, 0, 0, []⟩ none 0 0, v]) ∧ ErV w w' er v
theorem rd_whole (s : List UInt8) (l : List Ty) (x : List UInt8) : rd s l x = match wholeQ s (one s l (rdB s l 400) (topD x) .nil noE (0, 0)) with | .error er => .error er | .ok (nd, ks, st) => .ok (nd, ks) := by
  unfold rd wholeQ
  cases one s l (rdB s l 400) (topD x) .nil noE (0, 0) with
  | error er => rfl
  | ok r =>
    obtain ⟨nd, ks, st⟩ := r
    dsimp only
    by_cases h : st.1 < s.length
    · rw [if_pos h, if_pos h]
    · rw [if_neg h, if_neg h]
set_option maxRecDepth 10000 in
set_option maxHeartbeats 4000000 in
theorem Read_at (w : World) (ok : Nat → Prop) (v : Value) (l : List Ty) (x s : List UInt8) (h : IsTs w ok v l) (hl8 : l.length ≤ 8) (hnm : ∀ t ∈ l, t.nm.length ≤ maxLen) (hl : OKT l) (hx : x.length ≤ maxLen) (hs : s.length ≤ 5000) :
    Calls Tryz.prog 8 #[v, .string (tx x), .string (tx s)] w fun e w' => RdA w (rd s l x) e w' := by
  have hF : ∀ args w, (callFunc 26 args).run Tryz.prog w = .ok (.enter 26 args) w := fun _ _ => by kernel_rfl
  obtain ⟨q, hq⟩ : ∃ q, q = wholeQ s (one s l (rdB s l 400) (topD x) .nil noE (0, 0)) := ⟨_, rfl⟩
  have hdo := fun w0 W T Q mb P V h => do_at w0 W T Q mb P V s x l h hx hl
  obtain ⟨q2, hq2⟩ : ∃ q2, q2 = rd s l x := ⟨_, rfl⟩
  have hqa : ∀ nd ks st, q = .ok (nd, ks, st) → q2 = .ok (nd, ks) := fun nd ks st e => by rw [hq2, rd_whole, ← hq, e]
  have hqb : ∀ er, q = .error er → q2 = .error er := fun er e => by rw [hq2, rd_whole, ← hq, e]
  have HQ : Hid ((∀ nd ks st, q = .ok (nd, ks, st) → q2 = .ok (nd, ks)) ∧ ∀ er, q = .error er → q2 = .error er) := ⟨hqa, hqb⟩
  rw [← hq] at hdo
  rw [← hq2]
  clear hq2 hqa hqb
  -- the boxes
  have v1 := Vr.new w (.string (tx x)) 9
  obtain ⟨T, hT⟩ : ∃ T, T = w.heap.size := ⟨_, rfl⟩
  obtain ⟨w1, hw1⟩ : ∃ w1, w1 = w.alloc (.cells #[.string (tx x)] 9) := ⟨_, rfl⟩
  rw [← hw1, ← hT] at v1
  have e1 : w1.heap.size = T + 1 := by rw [hw1, hT]; simp
  have b1 : Bl w w1 := by rw [hw1]; exact (Bl.refl _).alloc _
  obtain ⟨w2, hw2⟩ : ∃ w2, w2 = w1.alloc (.cells #[.string ⟨#[]⟩, .int .i64 0, .int .i64 0, .int .i64 0, .int .i64 0, .string ⟨#[]⟩, .slice none 0 0] 27) := ⟨_, rfl⟩
  have v2 : Nv w2 (T + 1) ⟨[], 0, 0, 0, 0, []⟩ none 0 0 := by rw [hw2, ← e1]; exact new_at _ _
  have b2 : Bl w1 w2 := by rw [hw2]; exact (Bl.refl _).alloc _
  have cN := named_at w2 ok v l (h.bl (b1.trans b2)) hl8 hnm
  obtain ⟨vp, vn, vc, rfl⟩ : ∃ p n c, v = .slice p n c := by obtain ⟨p, c, cs, h1, _⟩ := h; exact ⟨_, _, _, h1⟩
  have H2 : Hid (Vr w2 T (.string (tx x)) 9 ∧ Nv w2 (T + 1) ⟨[], 0, 0, 0, 0, []⟩ none 0 0 ∧ Bl w w2 ∧ T = w.heap.size) := ⟨v1.step b2, v2, b1.trans b2, hT⟩
  have hss : (tx s).size ≤ 5000 := by rw [tx_size]; exact hs
  clear h v1 v2 b1 b2 hq hl hl8 hnm hx
  go_enter Tryz.func8, Tryz.ntmps8
  go_upto_region 1 with fail
  rw [← hw1, ← hT, ← hw2]
  clear hw1 hw2 hT
  go_wp2_with fail
  refine cN.mono ?_
  rintro e w3 ⟨rfl, hb3, hM3, hms⟩
  obtain ⟨mb, hmb⟩ : ∃ mb, mb = w2.heap.size := ⟨_, rfl⟩
  rw [← hmb] at hM3 hms ⊢
  obtain ⟨w4, hw4⟩ : ∃ w4, w4 = w3.alloc (.cells #[.map (some mb), .string (tx s), .int .i64 0, .int .i64 0] 67) := ⟨_, rfl⟩
  obtain ⟨P, hP⟩ : ∃ P, P = w3.heap.size := ⟨_, rfl⟩
  have b4 : Bl w3 w4 := by rw [hw4]; exact (Bl.refl _).alloc _
  have e4 : w4.heap.size = P + 1 := by rw [hw4, hP]; simp
  have r4 : RdL w4 P mb (tx s) l (0, 0) := ⟨by rw [hw4, hP]; exact new_at _ _, hM3.keep (fun g hg => Below.block b4 g (by omega)) b4.size (Kx.bl b4), by omega, Nat.zero_le _, Nat.zero_le _, hss⟩
  obtain ⟨W, hW⟩ : ∃ W, W = w4.alloc (.cells #[.pointer (some ⟨P, 0, none⟩)] 62) := ⟨_, rfl⟩
  have bW : Bl w4 W := by rw [hW]; exact (Bl.refl _).alloc _
  have vW : Vr W (P + 1) (.pointer (some ⟨P, 0, none⟩)) 62 := by rw [hW, ← e4]; exact Vr.new _ _ _
  have b24 : Bl w2 W := (hb3.trans b4).trans bW
  have HR : Rv w W T (T + 1) mb P (P + 1) s x l := ⟨H2.out.1.step b24, H2.out.2.1.bl b24, vW, r4.bl bW, H2.out.2.2.1.trans b24, by have := H2.out.2.2.2; omega, by omega, by have := H2.out.2.1.lt; omega, by omega, vW.lt⟩
  have HRH : Hid (Rv w W T (T + 1) mb P (P + 1) s x l) := HR
  have cC := caught_at 26 (.pointer (some ⟨P + 1, 0, none⟩)) (.pointer (some ⟨T, 0, none⟩)) (.pointer (some ⟨T + 1, 0, none⟩)) W (RvA W P (T + 1) q) (RvB W P (T + 1) q) hF (hdo w W T (T + 1) mb P (P + 1) HR) (fun w' h => by
    rcases h with ⟨_, _, _, _, _, _, _, _, _, _, _, h⟩ | ⟨_, _, _, _, _, _, _, _, h⟩
    · exact h
    · exact h)
  clear hmb hM3 hms b4 r4 bW vW b24 HR hdo cN hb3 hs
  dsimp only
  go_upto_region 2 with fail
  rw [← hP, ← hw4]
  try rw [← hW]
  clear hW hw4 hP e4 e1
  have hltQ : T + 1 < W.heap.size := by have := HRH.out.lt; omega
  go_wp2_with fail
  refine cC.mono ?_
  rintro e w5 (⟨rfl, w', ⟨nd, ks, st, p, c, wn, hq, hn, hwn, hks, hgq, _⟩, hg5⟩ | ⟨v, rfl, w', ⟨er, wn, hq, hn, hwn, hv, hgq, _⟩, hg5⟩)
  · have hn5 : Nv w5 (T + 1) nd p ks.len c := hn.gp hg5 (by omega)
    have hst := hn5.store nd p ks.len c
    have hgs : Gq P (T + 1) w5 (st7 w5 (T + 1) nd p ks.len c) := st7_gq P (T + 1) nd p ks.len c
    have hgp : Gp (T + 1) w5 (st7 w5 (T + 1) nd p ks.len c) := ⟨hgs.os, hgs.tape, hgs.output, hgs.size, fun j h1 h2 => (st7_gq (w := w5) (T + 1) (T + 1) nd p ks.len c).block j h1 h2 h2⟩
    have hsz : W.heap.size ≤ w'.heap.size := hgq.size
    have hbl : Bl w (st7 w5 (T + 1) nd p ks.len c) := by
      have hlt := HRH.out.lt
      have hbW := HRH.out.bl
      have hsW := hbW.size
      refine ⟨hgs.os.trans (hg5.os.trans (hgq.os.trans hbW.os)), hgs.tape.trans (hg5.tape.trans (hgq.tape.trans hbW.tape)), hgs.output.trans (hg5.output.trans (hgq.output.trans hbW.output)), ?_, fun k hk => ?_⟩
      · exact Nat.le_trans hsW (Nat.le_trans hsz (Nat.le_trans hg5.size hgs.size))
      · rw [hgp.block k (by have := hg5.size; omega) (by omega), hg5.block k (by omega) (by omega), hgq.block k (by omega) (by omega) (by omega), Below.block hbW k hk]
    have hIs : IsNs (st7 w5 (T + 1) nd p ks.len c) (fun g => w.heap.size ≤ g) p ks.len c ks :=
      ((hks.keep (fun g h1 h2 => hg5.block g h2 (by omega)) hg5.size).keep (fun g h1 h2 => hgp.block g h2 (by omega)) hgp.size).mono (fun g h1 _ => by have := HRH.out.bl.size; omega)
    have HF : Hid (Nv (st7 w5 (T + 1) nd p ks.len c) (T + 1) nd p ks.len c ∧ Bl w (st7 w5 (T + 1) nd p ks.len c) ∧ IsNs (st7 w5 (T + 1) nd p ks.len c) (fun g => w.heap.size ≤ g) p ks.len c ks ∧ q2 = .ok (nd, ks)) := ⟨hst, hbl, hIs, HQ.out.1 _ _ _ hq⟩
    obtain ⟨m0, m1, m2, m3, m4, m5, m6⟩ := hn5.cells
    obtain ⟨y0, y1, y2, y3, y4, y5, y6⟩ := hn5.fz
    have hQ5 := hn5.lt
    clear cC hq hn hwn hks hgq hg5 hn5 hst hgs hgp hsz hbl hIs
    go_wp2
    have r0 := (Nv.cells HF.out.1)
    unfold st7 at r0
    obtain ⟨r0, r1, r2, r3, r4, r5, r6⟩ := r0
    refine bodyPost_ret (v := .tuple #[ndV nd p ks.len c, .nilIface]) (by simp [results, Tryz.f8, go_sem, r0, r1, r2, r3, r4, r5, r6, ndV]) rfl ⟨HF.out.2.1, ?_⟩
    rw [HF.out.2.2.2]
    exact ⟨p, c, rfl, HF.out.2.2.1⟩
  · obtain ⟨z, hz⟩ : ∃ z : ND, z = ⟨[], 0, 0, 0, 0, []⟩ := ⟨_, rfl⟩
    rw [← hz] at hn
    have hn5 : Nv w5 (T + 1) z none 0 0 := hn.gp hg5 (by omega)
    have hst := hn5.store z none 0 0
    have hgs : Gq P (T + 1) w5 (st7 w5 (T + 1) z none 0 0) := st7_gq P (T + 1) _ _ _ _
    have hgp : Gp (T + 1) w5 (st7 w5 (T + 1) z none 0 0) := ⟨hgs.os, hgs.tape, hgs.output, hgs.size, fun j h1 h2 => (st7_gq (w := w5) (T + 1) (T + 1) _ _ _ _).block j h1 h2 h2⟩
    have hsz : W.heap.size ≤ w'.heap.size := hgq.size
    have hbl : Bl w (st7 w5 (T + 1) z none 0 0) := by
      have hlt := HRH.out.lt
      have hbW := HRH.out.bl
      have hsW := hbW.size
      refine ⟨hgs.os.trans (hg5.os.trans (hgq.os.trans hbW.os)), hgs.tape.trans (hg5.tape.trans (hgq.tape.trans hbW.tape)), hgs.output.trans (hg5.output.trans (hgq.output.trans hbW.output)), ?_, fun k hk => ?_⟩
      · exact Nat.le_trans hsW (Nat.le_trans hsz (Nat.le_trans hg5.size hgs.size))
      · rw [hgp.block k (by have := hg5.size; omega) (by omega), hg5.block k (by omega) (by omega), hgq.block k (by omega) (by omega) (by omega), Below.block hbW k hk]
    have hEr : ErV w (st7 w5 (T + 1) z none 0 0) er v := ((hv.gp hg5 hwn).gp hgp (by omega)).from (by have := HRH.out.bl.size; omega)
    have HF : Hid (Nv (st7 w5 (T + 1) z none 0 0) (T + 1) z none 0 0 ∧ Bl w (st7 w5 (T + 1) z none 0 0) ∧ ErV w (st7 w5 (T + 1) z none 0 0) er v ∧ q2 = .error er) := ⟨hst, hbl, hEr, HQ.out.2 _ hq⟩
    obtain ⟨m0, m1, m2, m3, m4, m5, m6⟩ := hn5.cells
    obtain ⟨y0, y1, y2, y3, y4, y5, y6⟩ := hn5.fz
    have hQ5 := hn5.lt
    have HZ : Hid (z = ⟨[], 0, 0, 0, 0, []⟩) := hz
    clear hz cC hq hn hwn hv hgq hg5 hn5 hst hgs hgp hsz hbl hEr
    go_wp2
    have r0 := (Nv.cells HF.out.1)
    unfold st7 at r0
    obtain ⟨r0, r1, r2, r3, r4, r5, r6⟩ := r0
    refine bodyPost_ret (v := .tuple #[ndV z none 0 0, v]) (by simp [results, Tryz.f8, go_sem, r0, r1, r2, r3, r4, r5, r6, ndV]) rfl ⟨HF.out.2.1, ?_⟩
    rw [HF.out.2.2.2]
    rw [← HZ.out]
    exact ⟨v, rfl, HF.out.2.2.1⟩
end Go.Proofs.YtococaecjecjgaaGreatDoor.ly
