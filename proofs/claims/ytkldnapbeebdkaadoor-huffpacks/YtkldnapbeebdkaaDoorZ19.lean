/- Texts laid together: HhQ, Hf6. -/
import Derived.Test.YtkldnapbeebdkaaDoorZ6
import Derived.Test.YtkldnapbeebdkaaDoorZ15
import Derived.Test.YtkldnapbeebdkaaDoorZ17
import Derived.Test.YtkldnapbeebdkaaDoorZ18
import Derived.Test.YtkldnapbeebdkaaDoorZ14
import Derived.Deep.RegionLaw
/- Of a text of no more than 4000 bytes: its bytes have signs, which have so many bits in all. -/
namespace Go.Proofs.YtkldnapbeebdkaaDoor.hh
set_option linter.unusedVariables false
open mem rows bit hf hg hfp
/-- The sum of the first k. -/
def su (l : List Int) : Nat → Int
  | 0 => 0
  | k + 1 => su l k + l.getD k 0
theorem sm_su {l : List Int} : ∀ k, (∀ i, i < k → 0 ≤ l.getD i 0) → sm (grp l k) = su l k
  | 0, _ => by simp [grp, hfp.sm, su]
  | k + 1, h => by
    have ih := sm_su k (fun i hi => h i (by omega))
    have hk := h k (by omega)
    rw [grp_succ, su, ← ih]
    unfold hfp.sm
    rw [List.map_append, List.sum_append]
    by_cases hp : 0 < l.getD k 0
    · rw [if_pos hp]; simp
    · rw [if_neg hp, show l.getD k 0 = 0 by omega]; simp
theorem su_cnt (s : ByteArray) (n k : Nat) : ∀ m, m ≤ n → su (cntN s n (k + 1)) m = su (cntN s n k) m + (if sb s k < (m : Int) then 1 else 0)
  | 0, _ => by have := (sb_bd s k).1; rw [su, su, if_neg (by omega)]; omega
  | m + 1, h => by
    have hb := sb_bd s k
    rw [su, su, su_cnt s n k m (by omega), cntN_get s n (k + 1) m (by omega), cntN_get s n k m (by omega), ct]
    by_cases h1 : sb s k = (m : Int)
    · rw [if_pos h1, if_neg (show ¬ sb s k < (m : Int) by omega), if_pos (show sb s k < ((m + 1 : Nat) : Int) by omega)]; omega
    · rw [if_neg h1]
      by_cases h2 : sb s k < (m : Int)
      · rw [if_pos h2, if_pos (show sb s k < ((m + 1 : Nat) : Int) by omega)]; omega
      · rw [if_neg h2, if_neg (show ¬ sb s k < ((m + 1 : Nat) : Int) by omega)]; omega
theorem su_all (s : ByteArray) : ∀ k, su (cntL s k) 256 = (k : Int)
  | 0 => by
    have : ∀ n m, su (List.replicate n (0 : Int)) m = 0 := fun n m => by
      induction m with
      | zero => rfl
      | succ m ih =>
        rw [su, ih, List.getD_eq_getElem?_getD, List.getElem?_replicate]
        split <;> rfl
    show su (cntN s 256 0) 256 = 0
    rw [cntN_zero, this]
  | k + 1 => by
    have hb := sb_bd s k
    have := su_all s k
    show su (cntN s 256 (k + 1)) 256 = _
    rw [su_cnt s 256 k 256 (Nat.le_refl _), if_pos (by omega)]
    have e : su (cntN s 256 k) 256 = (k : Int) := this
    omega
theorem cnt_ok {s : ByteArray} {k : Nat} (hk : k ≤ 4000) : okL (cntL s k) 256 := fun i hi => by
  have := ct_le s (i : Int) k
  have e : (cntL s k).getD i 0 = (ct s (i : Int) k : Int) := cntN_get s 256 k i hi
  omega
theorem cnt_sm {s : ByteArray} {k : Nat} (hk : k ≤ 4000) : sm (grp (cntL s k) 256) ≤ 4000 := by
  rw [sm_su 256 (fun i hi => (cnt_ok hk i hi).1), su_all]
  omega
/-- The lengths of a text's bytes' signs, and these. -/
def lensT (s : ByteArray) : List Int := lensOf (cntL s s.size)
def signsT (s : ByteArray) : List Int := signsOf (lensT s)
theorem lensT_len {s : ByteArray} (hs : s.size ≤ 4000) : (lensT s).length = 256 := by
  have h := lens_facts (l := cntL s s.size) (by rw [cntL_len]; exact cnt_ok hs) (by rw [cntL_len]; omega)
  rw [cntL_len] at h
  exact h.1
theorem lensT_facts {s : ByteArray} (hs : s.size ≤ 4000) : (∀ i, i < 256 → 0 ≤ (lensT s).getD i 0 ∧ (lensT s).getD i 0 ≤ 17 ∧ (0 < (lensT s).getD i 0 ↔ 0 < (cntL s s.size).getD i 0)) ∧ (2 ≤ cp (cntL s s.size) 256 → ksum 255 (lensT s) 256 = 2 ^ 255) := by
  have hl := cntL_len s s.size
  have h := lens_facts (l := cntL s s.size) (by rw [hl]; exact cnt_ok hs) (by rw [hl]; omega)
  have h2 := lens_short (l := cntL s s.size) (by rw [hl]; exact cnt_ok hs) (by rw [hl]; omega) (by rw [hl]; exact cnt_sm hs)
  rw [hl] at h h2
  exact ⟨fun i hi => ⟨(h.2.1 i hi).1, h2 i hi, (h.2.1 i hi).2.2⟩, h.2.2⟩
theorem tk_ksum (L : List Int) : ∀ k, tk L k = (ksum 24 L k : Int)
  | 0 => rfl
  | k + 1 => by
    rw [tk, ksum, tk_ksum L k, Int.natCast_add]
    congr 1
    split
    · unfold rm; simp
    · rfl
theorem ksum_cp {L : List Int} : ∀ k, ksum 24 L k ≤ cp L k * 8388608
  | 0 => by simp [ksum, cp]
  | k + 1 => by
    have ih := ksum_cp (L := L) k
    rw [ksum, cp, Nat.add_mul]
    by_cases h : 0 < L.getD k 0
    · rw [if_pos h, if_pos h]
      have h2 : (2 : Nat) ^ (24 - (L.getD k 0).toNat) ≤ 2 ^ 23 := Nat.pow_le_pow_right (by decide) (by omega)
      have h3 : (2 : Nat) ^ 23 = 8388608 := by decide
      omega
    · rw [if_neg h, if_neg h, Nat.zero_mul, Nat.add_zero, Nat.add_zero]; exact ih
theorem lensT_signs {s : ByteArray} (hs : s.size ≤ 4000) : okS (lensT s) 256 ∧ tk (lensT s) 256 ≤ 16777216 := by
  obtain ⟨h1, h2⟩ := lensT_facts hs
  refine ⟨fun i hi => by have := h1 i hi; omega, ?_⟩
  rw [tk_ksum]
  by_cases hc : 2 ≤ cp (cntL s s.size) 256
  · have h3 := h2 hc
    have h4 := ksum_scale (L := lensT s) (M := 24) (d := 231) 256 (fun i hi => by have := h1 i hi; omega)
    rw [show 24 + 231 = 255 by omega, h3] at h4
    have h5 : ksum 24 (lensT s) 256 * 2 ^ 231 = 2 ^ 24 * 2 ^ 231 := by rw [← h4, ← Nat.pow_add]
    have h6 := Nat.eq_of_mul_eq_mul_right (Nat.pow_pos (by decide)) h5
    rw [h6]
    omega
  · have h3 := ksum_cp (L := lensT s) 256
    rw [cp_same 256 (fun i hi => (h1 i hi).2.2)] at h3
    omega
/-- As many bits as the numbers tell. -/
theorem csum_cnt (s : ByteArray) (D : List Int) (n k : Nat) : ∀ m, m ≤ n → csum (cntN s n (k + 1)) D m = csum (cntN s n k) D m + (if sb s k < (m : Int) then D.getD (sb s k).toNat 0 else 0)
  | 0, _ => by have := (sb_bd s k).1; rw [csum, csum, if_neg (by omega)]; omega
  | m + 1, h => by
    have hb := sb_bd s k
    rw [csum, csum, csum_cnt s D n k m (by omega), cntN_get s n (k + 1) m (by omega), cntN_get s n k m (by omega), ct]
    by_cases h1 : sb s k = (m : Int)
    · rw [if_pos h1, if_neg (show ¬ sb s k < (m : Int) by omega), if_pos (show sb s k < ((m + 1 : Nat) : Int) by omega), show (sb s k).toNat = m by omega]
      rw [Int.natCast_add, Int.add_mul]
      simp
      omega
    · rw [if_neg h1]
      by_cases h2 : sb s k < (m : Int)
      · rw [if_pos h2, if_pos (show sb s k < ((m + 1 : Nat) : Int) by omega)]; simp; omega
      · rw [if_neg h2, if_neg (show ¬ sb s k < ((m + 1 : Nat) : Int) by omega)]; simp
theorem bits_all {s : ByteArray} {D S : List Int} (hD : ∀ c, c < 256 → 0 ≤ D.getD c 0) : ∀ k, csum (cntL s k) D 256 = ((bk D S s k).length : Int)
  | 0 => by
    show csum (cntN s 256 0) D 256 = 0
    rw [cntN_zero]
    have : ∀ m, csum (List.replicate 256 0) D m = 0 := fun m => by
      induction m with
      | zero => rfl
      | succ m ih =>
        have hz : (List.replicate 256 (0 : Int)).getD m 0 = 0 := by
          rw [List.getD_eq_getElem?_getD, List.getElem?_replicate]
          split <;> rfl
        rw [csum, ih, hz]
        simp
    exact this 256
  | k + 1 => by
    have hb := sb_bd s k
    have ih := bits_all (s := s) (S := S) hD k
    have hd := hD (sb s k).toNat (by omega)
    show csum (cntN s 256 (k + 1)) D 256 = _
    rw [csum_cnt s D 256 k 256 (Nat.le_refl _), if_pos (by omega), bk_succ, List.length_append, sgb_len]
    have e : csum (cntN s 256 k) D 256 = ((bk D S s k).length : Int) := ih
    rw [e]
    unfold Lc
    omega
theorem bits_bd {s : ByteArray} {D S : List Int} {M : Nat} (hD : ∀ c, c < 256 → (D.getD c 0).toNat ≤ M) : ∀ k, (bk D S s k).length ≤ M * k
  | 0 => Nat.zero_le _
  | k + 1 => by
    have hb := sb_bd s k
    have ih := bits_bd (s := s) (S := S) hD k
    have hd := hD (sb s k).toNat (by omega)
    rw [bk_succ, List.length_append, sgb_len, Nat.mul_add]
    unfold Lc
    omega
end Go.Proofs.YtkldnapbeebdkaaDoor.hh
/- What Lens answers: the walk. -/
namespace Go.Proofs.YtkldnapbeebdkaaDoor.hf
set_option linter.unusedVariables false
set_option linter.unusedSimpArgs false
open Go.ChangeShapes Go.WideShapes Go.ChangeAt Go.RowKit
open mem rows hfp
set_option maxHeartbeats 8000000 in
set_option maxRecDepth 10000 in
theorem Lens_at (p : Option Addr) (n c : Nat) (l : List Int) (w : World) (hin : In w p l) (hn : n = l.length) (hn63 : n ≤ 9223372036854775807) :
    Calls Tryd.prog 6 #[.slice p n c] w fun e w' => LensP l w e w' := by
  have cA := alone_at p n c l w hin hn hn63
  have HN : Hid (n = l.length) := hn
  clear hin hn
  go_enter Tryd.func6, Tryd.ntmps6
  go_wp2_with fail
  refine Calls.mono cA ?_
  rintro e w1 ⟨hb1, h | h | h⟩
  · obtain ⟨h1, rfl⟩ := h
    clear cA
    go_wp2
    go_ret2
    exact ⟨hb1, Or.inl ⟨by rw [← HN.out]; exact h1, rfl⟩⟩
  · obtain ⟨h1, h2, rfl⟩ := h
    clear cA
    go_wp2
    go_ret2
    exact ⟨hb1, Or.inr (Or.inl ⟨by rw [← HN.out]; exact h1, by rw [← HN.out]; exact h2, rfl⟩)⟩
  · obtain ⟨h1, hok, v, L, rfl, hgr, hth, hnum⟩ := h
    clear cA
    have hLlen : L.length = (grp l n).length := by rw [← hnum]; simp [numbers]
    have hbkB : ∀ b, bk v = some b → w.heap.size ≤ b ∧ b < w1.heap.size := fun b hb => by
      rcases hgr with ⟨h, _⟩ | ⟨g, off, cap, cur, h1, h2, h3, _⟩
      · rw [h] at hb; cases hb
      · rw [h1] at hb
        simp only [bk, Option.some.injEq] at hb
        subst hb
        exact ⟨h2, lt_of_heap h3⟩
    obtain ⟨w2, hw2⟩ : ∃ w2, w2 = w1.alloc (.cells (madeCells #[.int .i64 0] n) 3) := ⟨_, rfl⟩
    have hb2 : Bl w1 w2 := by rw [hw2]; exact (Bl.refl w1).alloc _
    have hrow : RowI w2 w1.heap.size (List.replicate n 0) := by rw [hw2]; exact RowI.made w1 n
    have hgr2 := hgr.step hb2
    have hth2 : Ths w2 (fun b => bk v = some b ∨ b = w1.heap.size) L := hth.step (fun b h1 _ => Below.block hb2 b h1) hb2.size (fun b h1 h2 => h2.elim id (fun h => by omega))
    have hpw : Pw n (numbers L) (List.replicate n 0) := by rw [hnum]; exact pw_grp hok h1
    obtain ⟨vp, vc, hv⟩ : ∃ vp vc, v = .slice vp L.length vc := by
      rcases hgr with ⟨h, h0⟩ | ⟨g, off, cap, cur, h1, _⟩
      · have : L = [] := by simpa [bare] using h0
        rw [this]; exact ⟨none, 0, h⟩
      · exact ⟨some ⟨g, off, none⟩, cap, by rw [h1]; simp only [bare, List.length_map]⟩
    have HOK : Hid (okL l n) := hok
    by_cases h1L : L.length = 1
    · obtain ⟨x, rfl⟩ : ∃ x, L = [x] := List.length_eq_one_iff.1 h1L
      obtain ⟨b, cap, hx1, hx2, hx3, hx4, hx5⟩ := hth2 x (by simp)
      obtain ⟨g, off, cap2, e1, hg1, hg2, hg3, hcells⟩ := hgr2.shape (by simp [bare])
      have d1 := (hcells 0 (by simp [bare])).2
      simp only [bare, List.map_cons, List.map_nil, List.getElem_cons_zero, Nat.zero_mul, Nat.add_zero] at d1
      rw [hx1] at d1
      simp only at d1
      have hxm : (x.1.1, x.2) ∈ grp l n := by rw [← hnum]; simp [numbers]
      obtain ⟨i, hi1, hi2, hi3⟩ := grp_mem hxm
      simp only [Prod.mk.injEq] at hi3
      obtain ⟨hi3, hi4⟩ := hi3
      have d2 : w2.cell? ⟨b, 0, none⟩ = some (.int .i64 (i : Int)) := by have := hx5 0 hx4; rw [hi4] at this; exact this
      have d3 := hrow.cell (j := i) (by simpa using hi1)
      have f3 := hrow.frozen i
      have hlens : lensOf l = (List.replicate n 0).set i 1 := by
        have hg : grp l l.length = [(x.1.1, x.2)] := by rw [← HN.out, ← hnum]; rfl
        rw [lensOf_one hg, ← HN.out, hi4]
        simp
      have hmk := fun w => run_make_row' (P := Tryd.prog) 22 3 (.int .i64 0) 8 Tryd.underlying22 infoI rfl .i64 .i64 n (by omega) (by omega) w
      have hiz : (i : Int) < n := by omega
      have hx4' : 0 < x.2.length := hx4
      have hx40 : ¬ x.2 = [] := fun h => by rw [h] at hx4; exact Nat.lt_irrefl _ hx4
      have e2 : vc = cap2 ∧ vp = some ⟨g, off, none⟩ := by
        rw [hv] at e1
        simp only [Value.slice.injEq] at e1
        exact ⟨e1.2.2, e1.1⟩
      obtain ⟨rfl, rfl⟩ := e2
      have hrow' := hrow.set i 1
      rw [← hlens] at hrow'
      have HFIN : Hid (RowI (w2.setCell ⟨w1.heap.size, i, none⟩ (.int .i64 1)) w1.heap.size (lensOf l) ∧ Bl w (w2.setCell ⟨w1.heap.size, i, none⟩ (.int .i64 1))) := ⟨hrow', (hb1.trans hb2).setCell hb1.size _⟩
      have HBS : Hid (w.heap.size ≤ w1.heap.size) := hb1.size
      subst hv
      subst hw2
      have e9 : ((w1.alloc (.cells (madeCells #[.int .i64 0] n) 3)).setCell ⟨w1.heap.size, i, none⟩ (.int .i64 1)) = w1.alloc (.cells ((madeCells #[.int .i64 0] n).setIfInBounds i (.int .i64 1)) 3) := by go_simp
      rw [e9] at HFIN
      clear e9 hok hgr hth hnum hLlen hbkB hb2 hrow hgr2 hth2 hpw hx1 hx2 hx3 hx5 hcells hxm hlens hrow' e1 hb1 hi3 hi4
      go_wp2
      refine wp_loop_rounds 1 ?_
      rw [rounds_succ]
      go_wp2
      go_ret2
      exact ⟨HFIN.out.2, Or.inr (Or.inr ⟨by rw [← HN.out]; exact h1, by rw [← HN.out]; exact HOK.out, w1.heap.size, by rw [← HN.out]; rfl, HBS.out, HFIN.out.1⟩)⟩
    · have HLN : Hid (Ln w n w.heap.size w1.heap.size (lensOf l) w2 v L (List.replicate n 0)) := by
        refine ⟨hgr2, hth2, hrow, fun e => by have := hbkB _ e; omega, hb1.size, hb1.trans hb2, hpw, ?_⟩
        rw [lensOf_more (by rw [← HN.out, ← hLlen]; exact h1L), ← HN.out, ← hLlen, hnum]
      have h1z : ((L.length : Int) == 1) = false := by rw [beq_eq_false_iff_ne]; omega
      subst hv
      have hmk := fun w => run_make_row' (P := Tryd.prog) 22 3 (.int .i64 0) 8 Tryd.underlying22 infoI rfl .i64 .i64 n (by omega) (by omega) w
      clear hok hgr hth hnum hLlen hbkB hb2 hrow hgr2 hth2 hpw
      obtain ⟨B, hB⟩ : ∃ B, B = w1.heap.size := ⟨_, rfl⟩
      have HBw : Hid (w.heap.size ≤ B) := by rw [hB]; exact hb1.size
      go_wp2
      rw [← hw2, ← hB]
      rw [← hB] at HLN
      obtain ⟨base, hbase⟩ : ∃ b, b = w.heap.size := ⟨_, rfl⟩
      rw [← hbase] at HLN
      have HBASE : Hid (base = w.heap.size) := hbase
      clear hw2 hB hmk h1z h1L hbase hb1
      go_loopw [4] (fun v wr => ∃ (L : List (Gv × List Int)) (ls : List Int) (vp : Option Addr) (vc : Nat), v = .slice vp L.length vc ∧ Hid (Ln w n base B (lensOf l) wr v L ls)) (fun v _ => lenOfV v)
      case atStart => exact ⟨L, _, vp, vc, rfl, HLN⟩
      case round =>
        clear HLN
        generalize L.length = n0
        clear L
        obtain ⟨L, ls, vq, vd, rfl, HL⟩ := hrel
        by_cases hgt : 1 < L.length
        · have hgz : (1 : Int) < (L.length : Int) := by omega
          have hq := HL.out
          obtain ⟨g, off, cap, e1, hg1, hg2, hg3, hcells⟩ := hq.gr.shape (by simp only [bare, List.length_map]; omega)
          simp only [Value.slice.injEq] at e1
          obtain ⟨rfl, e2, rfl⟩ := e1
          have cS := sort_at _ (bare L) wr base hq.gr (by simp only [bare, List.length_map]; omega) (by have := hq.pw.cnt; simp only [numbers, bare, List.length_map] at this ⊢; omega)
          rw [sort_bare] at cS
          obtain ⟨L', hL'⟩ : ∃ L', L' = L.mergeSort leL := ⟨_, rfl⟩
          rw [← hL'] at cS
          have hlen' : L'.length = L.length := by rw [hL', List.length_mergeSort]
          obtain ⟨xa, xb, R, rfl⟩ : ∃ xa xb R, L' = xa :: xb :: R := by
            match L', hlen' with
            | [], h => simp at h; omega
            | [a], h => simp at h; omega
            | a :: b :: r, _ => exact ⟨a, b, r, rfl⟩
          have HWG : Hid (w.heap.size ≤ g) := by rw [← HBASE.out]; exact hg1
          clear e2 hq hcells
          go_wp2_with fail
          refine Calls.mono cS ?_
          rintro _ w3 ⟨rfl, hgr3, hgb3⟩
          have MD : Hid (Md w n base B (lensOf l) w3 g off L.length vd xa xb R ls) := md_of HL.out hL' hgr3 hgb3 HWG.out
          clear HL cS hL' hgr3 hgb3 hg3
          obtain ⟨_, _, _, e1, _, hg3', _, hcells⟩ := MD.out.gr.shape (by simp [bare])
          simp only [Value.slice.injEq, Option.some.injEq, Addr.mk.injEq] at e1
          obtain ⟨⟨rfl, rfl, _⟩, _, rfl⟩ := e1
          have d0 := (hcells 0 (by simp [bare])).1
          have d1 := (hcells 0 (by simp [bare])).2
          have d2 := (hcells 1 (by simp [bare])).1
          have d3 := (hcells 1 (by simp [bare])).2
          simp only [bare, List.map_cons, List.getElem_cons_zero, List.getElem_cons_succ, Nat.zero_mul, Nat.add_zero, Nat.one_mul] at d0 d1 d2 d3
          have cJ : ∀ W, Bl w3 W → Calls Tryd.prog 23 #[.agg #[.int .i64 xa.1.1, .slice xa.1.2.1 xa.1.2.2.1 xa.1.2.2.2], .agg #[.int .i64 xb.1.1, .slice xb.1.2.1 xb.1.2.2.1 xb.1.2.2.2]] W fun e w' => ∃ g cap, e = .returned (.agg #[.int .i64 (xa.1.1 + xb.1.1), .slice (some ⟨g, 0, none⟩) (xa.2 ++ xb.2).length cap]) ∧ Nw W w' g (xa.2 ++ xb.2) ∧ Bl W w' := fun W hW => by
            have ha := MD.out.th.vw (x := xa) (by simp)
            have hb := MD.out.th.vw (x := xb) (by simp)
            have hbig := MD.out.big
            have hfew := MD.out.few
            exact joined_at xa.1 xb.1 xa.2 xb.2 W (ha.1.step hW) (hb.1.step hW) (by rw [ha.1.1, hb.1.1]; omega) ha.2 (by rw [IntKind.wrap_i64]; omega)
          clear hcells hlen'
          have HGP : Hid (g ≠ w3.heap.size) := by have := hg3'; show g ≠ _; omega
          have HGQ : Hid (∀ w4, Bl w3 w4 → g ≠ w4.heap.size) := fun w4 h => by have := hg3'; have := h.size; omega
          obtain ⟨a0, ha0⟩ : ∃ a, a = xa.1.1 := ⟨_, rfl⟩
          obtain ⟨b0, hb0⟩ : ∃ b, b = xb.1.1 := ⟨_, rfl⟩
          rw [← ha0] at d0 cJ
          rw [← hb0] at d2 cJ
          have HA0 : Hid (a0 + b0 = xa.1.1 + xb.1.1) := by show a0 + b0 = _; rw [ha0, hb0]
          have HGL : Hid (g < w3.heap.size) := hg3'
          clear ha0 hb0
          generalize xa.1.2.1 = a1 at d1 cJ
          generalize xa.1.2.2.1 = a2 at d1 cJ
          generalize xa.1.2.2.2 = a3 at d1 cJ
          generalize xb.1.2.1 = b1 at d3 cJ
          generalize xb.1.2.2.1 = b2 at d3 cJ
          generalize xb.1.2.2.2 = b3 at d3 cJ
          go_wp2_with fail
          have hi0 : (0 : Int) < (R.length : Int) + 1 + 1 := by omega
          have hi1 : (1 : Int) < (R.length : Int) + 1 + 1 := by omega
          go_region_held3 (fun w' => w'.cell? ⟨g, off, none⟩ = some (.int .i64 a0) ∧ w'.cell? ⟨g, off + 1, none⟩ = some (.slice a1 a2 a3) ∧ w'.cell? ⟨g, off + 2, none⟩ = some (.int .i64 b0) ∧ w'.cell? ⟨g, off + 2 + 1, none⟩ = some (.slice b1 b2 b3)) (refine ⟨?_, ?_, ?_, ?_⟩ <;> first | with_reducible assumption | with_reducible exact at_bl (Bl.drew (Bl.refl _)) (by assumption) | with_reducible exact at_bl ((Bl.refl _).alloc _) (by assumption) | with_reducible exact at_bl (Bl.drew ((Bl.refl _).alloc _)) (by assumption) | with_reducible exact at_bl ((Bl.drew (Bl.refl _)).alloc _) (by assumption) | with_reducible exact (set2_far HGP.out).trans (by assumption) | with_reducible exact (set2_far_d HGP.out).trans (by assumption) | with_reducible exact (set2_far (HGQ.out _ (by assumption))).trans (at_bl ((Bl.refl _).alloc _) (by assumption)) | with_reducible exact (set2_far_d (HGQ.out _ (by assumption))).trans (at_bl ((Bl.refl _).alloc _) (by assumption))) (first
            | (go_at_call 23; with_reducible refine (cJ w3.drew (Bl.refl _).drew).mono ?_; rintro e w4 ⟨g4, cap4, rfl, ho, hb⟩; have hbw : Bl w3 w4 := Bl.trans (Bl.refl _).drew hb; have d0' := at_bl hbw d0; have d1' := at_bl hbw d1; have d2' := at_bl hbw d2; have d3' := at_bl hbw d3)
            | (go_at_call 23; with_reducible refine (cJ (w3.alloc (.cells #[.int .i64 0, .slice none 0 0] 49)).drew ((Bl.refl _).alloc _).drew).mono ?_; rintro e w4 ⟨g4, cap4, rfl, ho, hb⟩; have hbw : Bl w3 w4 := Bl.trans ((Bl.refl _).alloc _).drew hb; have d0' := at_bl hbw d0; have d1' := at_bl hbw d1; have d2' := at_bl hbw d2; have d3' := at_bl hbw d3; have z0 := (box_facts hb).1; have z1 := (box_facts hb).2.1; have z2 := (box_facts hb).2.2.1; have z3 := (box_facts hb).2.2.2))
          all_goals first
            | (have BX : Hid (Bx w3 _ w4.heap.size g4 (xa.2.length + xb.2.length) cap4 (a0 + b0) (xa.2 ++ xb.2)) := bx1 hb ho
               generalize w4.alloc _ = w5 at BX ⊢
               generalize w4.heap.size = P at BX ⊢)
            | (have BX : Hid (Bx w3 _ w3.heap.size g4 (xa.2.length + xb.2.length) cap4 (a0 + b0) (xa.2 ++ xb.2)) := bx2 hb ho
               generalize (w4.setCell _ _).setCell _ _ = w5 at BX ⊢
               generalize w3.heap.size = P at BX ⊢)
          all_goals clear d0 d1 d2 d3 d0' d1' d2' d3' hb ho hbw cJ
          all_goals
            have c0 := BX.out.c0
            have c1 := BX.out.c1
            obtain ⟨tt, htt⟩ : ∃ tt, tt = xa.2 ++ xb.2 := ⟨_, rfl⟩
            obtain ⟨N, hNN⟩ : ∃ N, N = xa.2.length + xb.2.length := ⟨_, rfl⟩
            have HTN : Hid (N = tt.length) := by rw [htt, List.length_append]; exact hNN
            rw [← hNN, ← htt] at BX
            rw [← hNN] at c1 ⊢
            have HTT : Hid (tt = xa.2 ++ xb.2) := htt
            clear htt hNN
            go_wp2_with fail
            go_loopw [9, 47] (fun _ i wx => ∃ (j : Nat), j ≤ N ∧ i = .int .i64 (j : Int) ∧ Hid (RowI wx B (bump ls (tt.take j)) ∧ w5.grownBy wx (some B))) (fun _ i _ => N - (intOf i).toNat)
            case atStart => exact ⟨0, Nat.zero_le _, rfl, ⟨by rw [List.take_zero]; exact MD.out.row.step BX.out.bl, ⟨rfl, rfl, rfl, Nat.le_refl _, fun _ _ _ => rfl⟩⟩⟩
            case round =>
              obtain ⟨j, hj, rfl, H⟩ := hrel
              by_cases hjl : j < N
              · have hjz : (j : Int) < N := by omega
                have hjt : j < tt.length := by rw [← HTN.out]; exact hjl
                have hBl : B < w3.heap.size := MD.out.row.lt
                obtain ⟨q, hq⟩ : ∃ q, q = tt.getD j 0 := ⟨_, rfl⟩
                have hq1 := MD.out.rng q (by rw [hq, ← HTT.out, List.getD_eq_getElem?_getD, List.getElem?_eq_getElem hjt]; simp)
                have ct : wr.cell? ⟨g4, j, none⟩ = some (.int .i64 q) := by
                  rw [World.cell?_of_block (H.out.2.block g4 BX.out.gl (fun e => by injection e with e; have := BX.out.g; omega)), hq]
                  exact BX.out.tc j hjt
                have cl := H.out.1.cell (j := q.toNat) (by rw [bump_len, MD.out.len]; exact hq1.2)
                have fl := H.out.1.frozen q.toNat
                have hbd := bump_bd (tt.take j) ls 65536 MD.out.low q.toNat
                obtain ⟨u, hu⟩ : ∃ u, u = (bump ls (tt.take j)).getD q.toNat 0 := ⟨_, rfl⟩
                rw [← hu] at cl hbd
                have hN256 : N ≤ 256 := by have := MD.out.few; rw [HTN.out, HTT.out, List.length_append]; exact this
                have hwr : IntKind.i64.wrap (u + 1) = u + 1 := by rw [IntKind.wrap_i64]; have := List.length_take_le j tt; omega
                have hqn : q < (n : Int) := by omega
                have hq0 : 0 ≤ q := hq1.1
                have HU : Hid (u = (bump ls (tt.take j)).getD q.toNat 0) := hu
                have HQ : Hid (q = tt.getD j 0) := hq
                have HJT : Hid (j < tt.length) := hjt
                clear hu hq hq1 hjt hBl hbd
                have HR1 : Hid (RowI (wr.setCell ⟨B, q.toNat, none⟩ (.int .i64 (u + 1))) B (bump ls (tt.take (j + 1))) ∧ w5.grownBy (wr.setCell ⟨B, q.toNat, none⟩ (.int .i64 (u + 1))) (some B)) := by
                  refine ⟨?_, grown_setB H.out.2 _ _⟩
                  rw [bump_snoc ls tt j HJT.out, ← HQ.out, ← HU.out]
                  exact H.out.1.set _ _
                go_wp2
                go_roundw
                case rel => exact ⟨j + 1, hjl, num_ok j, HR1⟩
                case measure => exact meas_ok N j hjl
              · have hjz : ¬ (j : Int) < N := by omega
                have HF : Hid (RowI wr B (bump ls tt) ∧ w5.grownBy wr (some B)) := by
                  have := H.out
                  rw [List.take_of_length_le (by rw [← HTN.out]; omega)] at this
                  exact this
                clear H
                have hBw3 : B < w3.heap.size := MD.out.row.lt
                have c0' : wr.cell? ⟨P, 0, none⟩ = some (.int .i64 (a0 + b0)) := by
                  rw [World.cell?_of_block (HF.out.2.block P BX.out.pl (fun e => by injection e with e; have := BX.out.p; omega))]
                  exact c0
                have c1' : wr.cell? ⟨P, 1, none⟩ = some (.slice (some ⟨g4, 0, none⟩) N cap4) := by
                  rw [World.cell?_of_block (HF.out.2.block P BX.out.pl (fun e => by injection e with e; have := BX.out.p; omega))]
                  exact c1
                have hvd : R.length + 2 ≤ vd := by
                  rcases MD.out.gr with ⟨h, _⟩ | ⟨_, _, _, _, h, _, _, h5, _⟩
                  · cases h
                  · simp only [Value.slice.injEq] at h
                    rw [h.2.2]
                    simpa [bare] using h5
                clear c0 c1 hBw3
                have h2l : (2 : Int) ≤ (R.length : Int) + 1 + 1 := by omega
                by_cases hv2 : vd = 2
                · subst hv2
                  have hR0 : R.length = 0 := by omega
                  go_wp2_with fail
                  obtain ⟨W6, hW6⟩ : ∃ W, W = (wr.alloc (.cells #[.int .i64 (a0 + b0), .slice (some ⟨g4, 0, none⟩) N cap4] 49)).drew := ⟨_, rfl⟩
                  have hgr6 : Gr W6 base (.slice (some ⟨g, off, none⟩) (bare R).length 0) (bare R) := by
                    have h := MD.out.gr
                    rw [MD.out.num] at h
                    have e : (bare R).length = R.length := by simp [bare]
                    have h2 : Gr w3 base (.slice (some ⟨g, off, none⟩) (bare R).length 0) (bare R) := by rw [← e] at h; exact drop2z h
                    have h3 := (h2.step BX.out.bl).kept HF.out.2 (fun k hk e => MD.out.ne (by simp only [bk, Option.some.injEq] at hk; injection e with e; omega))
                    rw [hW6]
                    exact (h3.step ((Bl.refl wr).alloc _)).step (Bl.refl _).drew
                  obtain ⟨v', w', hr, ho', hg', hbk⟩ := app_gr W6 base (.slice (some ⟨g, off, none⟩) (bare R).length 0) (bare R) (a0 + b0, some ⟨g4, 0, none⟩, N, cap4) wr.heap.size hgr6 (by rw [hW6]; go_simp) (by rw [hW6]; go_simp) (by have := MD.out.pw.cnt; simp only [bare, numbers, List.length_map, List.length_append, List.length_singleton] at this ⊢; omega) (by rw [HBASE.out, hW6]; exact Nat.le_trans MD.out.bl.size (Nat.le_trans BX.out.bl.size (Nat.le_trans HF.out.2.size (by simp))))
                  have HN6 : Hid (W6.heap.size = wr.heap.size + 1 ∧ Bl wr W6) := ⟨by rw [hW6]; simp, by rw [hW6]; exact ((Bl.refl wr).alloc _).drew⟩
                  have HLN : Hid (Ln w n base B (lensOf l) w' v' (R ++ [((a0 + b0, some ⟨g4, 0, none⟩, N, cap4), tt)]) (bump ls tt)) := ln_next MD.out BX.out HF.out.1 HF.out.2 HN6.out.2 HN6.out.1 HTN.out HTT.out HA0.out ho' hg' hbk HBASE.out rfl
                  obtain ⟨vq, vd', hv'⟩ : ∃ vq vd', v' = .slice vq (R.length + 1) vd' := gr_slice ho' (by simp [bare])
                  have HPW : Hid (w'.cell? ⟨P, 0, none⟩ = some (.int .i64 (a0 + b0)) ∧ w'.cell? ⟨P, 1, none⟩ = some (.slice (some ⟨g4, 0, none⟩) N cap4)) := by
                    have hPg : P ≠ g := by have := BX.out.p; have := HGL.out; omega
                    have hPl : P < W6.heap.size := by have := BX.out.pl; have := HF.out.2.size; rw [HN6.out.1]; omega
                    exact ⟨by rw [World.cell?_of_block (hg'.block P hPl (fun e => hPg (by simp only [bk, Option.some.injEq] at e; exact e)))]; exact at_bl HN6.out.2 c0', by rw [World.cell?_of_block (hg'.block P hPl (fun e => hPg (by simp only [bk, Option.some.injEq] at e; exact e)))]; exact at_bl HN6.out.2 c1'⟩
                  rw [show (bare R).length = R.length by simp [bare]] at hr
                  rw [hR0] at hr
                  have HR : Hid _ := hr
                  rw [hW6] at HR
                  subst hv'
                  clear hr ho' hg' hbk hgr6 hW6 HN6
                  go_region_law (refine step_append_run rfl (.tmp 59) (.tmp 61) 45 45 rfl _ _ rfl rfl _ _ HR.out ?_)
                  go_simp
                  go_wp2
                  go_roundw
                  case rel => exact ⟨R ++ [((a0 + b0, some ⟨g4, 0, none⟩, N, cap4), tt)], bump ls tt, vq, vd', by rw [List.length_append, hR0]; rfl, by rw [hR0] at HLN; exact HLN⟩
                  case measure => first | (simp only [lenOfV]; omega) | (simp only [lenOfV]; have hmn := MD.out.num; omega)
                · skip
                  go_wp2_with fail
                  obtain ⟨W6, hW6⟩ : ∃ W, W = (wr.alloc (.cells #[.int .i64 (a0 + b0), .slice (some ⟨g4, 0, none⟩) N cap4] 49)).drew := ⟨_, rfl⟩
                  have hgr6 : Gr W6 base (.slice (some ⟨g, off + 4, none⟩) (bare R).length (vd - 2)) (bare R) := by
                    have h := MD.out.gr
                    rw [MD.out.num] at h
                    have e : (bare R).length = R.length := by simp [bare]
                    have h2 : Gr w3 base (.slice (some ⟨g, off + 4, none⟩) (bare R).length (vd - 2)) (bare R) := by rw [← e] at h; exact Gr.drop2 h
                    have h3 := (h2.step BX.out.bl).kept HF.out.2 (fun k hk e => MD.out.ne (by simp only [bk, Option.some.injEq] at hk; injection e with e; omega))
                    rw [hW6]
                    exact (h3.step ((Bl.refl wr).alloc _)).step (Bl.refl _).drew
                  obtain ⟨v', w', hr, ho', hg', hbk⟩ := app_gr W6 base (.slice (some ⟨g, off + 4, none⟩) (bare R).length (vd - 2)) (bare R) (a0 + b0, some ⟨g4, 0, none⟩, N, cap4) wr.heap.size hgr6 (by rw [hW6]; go_simp) (by rw [hW6]; go_simp) (by have := MD.out.pw.cnt; simp only [bare, numbers, List.length_map, List.length_append, List.length_singleton] at this ⊢; omega) (by rw [HBASE.out, hW6]; exact Nat.le_trans MD.out.bl.size (Nat.le_trans BX.out.bl.size (Nat.le_trans HF.out.2.size (by simp))))
                  have HN6 : Hid (W6.heap.size = wr.heap.size + 1 ∧ Bl wr W6) := ⟨by rw [hW6]; simp, by rw [hW6]; exact ((Bl.refl wr).alloc _).drew⟩
                  have HLN : Hid (Ln w n base B (lensOf l) w' v' (R ++ [((a0 + b0, some ⟨g4, 0, none⟩, N, cap4), tt)]) (bump ls tt)) := ln_next MD.out BX.out HF.out.1 HF.out.2 HN6.out.2 HN6.out.1 HTN.out HTT.out HA0.out ho' hg' hbk HBASE.out rfl
                  obtain ⟨vq, vd', hv'⟩ : ∃ vq vd', v' = .slice vq (R.length + 1) vd' := gr_slice ho' (by simp [bare])
                  have HPW : Hid (w'.cell? ⟨P, 0, none⟩ = some (.int .i64 (a0 + b0)) ∧ w'.cell? ⟨P, 1, none⟩ = some (.slice (some ⟨g4, 0, none⟩) N cap4)) := by
                    have hPg : P ≠ g := by have := BX.out.p; have := HGL.out; omega
                    have hPl : P < W6.heap.size := by have := BX.out.pl; have := HF.out.2.size; rw [HN6.out.1]; omega
                    exact ⟨by rw [World.cell?_of_block (hg'.block P hPl (fun e => hPg (by simp only [bk, Option.some.injEq] at e; exact e)))]; exact at_bl HN6.out.2 c0', by rw [World.cell?_of_block (hg'.block P hPl (fun e => hPg (by simp only [bk, Option.some.injEq] at e; exact e)))]; exact at_bl HN6.out.2 c1'⟩
                  rw [show (bare R).length = R.length by simp [bare]] at hr
                  have HR : Hid _ := hr
                  rw [hW6] at HR
                  subst hv'
                  clear hr ho' hg' hbk hgr6 hW6 HN6
                  go_region_law (refine step_append_run rfl (.tmp 59) (.tmp 61) 45 45 rfl _ _ rfl rfl _ _ HR.out ?_)
                  go_simp
                  go_wp2
                  go_roundw
                  case rel => exact ⟨_, _, vq, vd', by simp only [List.length_append, List.length_singleton], HLN⟩
                  case measure => first | (simp only [lenOfV]; omega) | (simp only [lenOfV]; have hmn := MD.out.num; omega)
        · have hgz : ¬ (1 : Int) < (L.length : Int) := by omega
          have HFIN : Hid (Bl w wr ∧ w.heap.size ≤ B ∧ RowI wr B (lensOf l) ∧ okL l n) := by
            have h := HL.out
            have ht := h.tgt
            rw [hloop_end (by simp only [numbers, List.length_map]; omega)] at ht
            exact ⟨h.bl, h.wb, by rw [← ht]; exact h.row, HOK.out⟩
          clear HL
          go_wp2
          go_ret2
          exact ⟨HFIN.out.1, Or.inr (Or.inr ⟨by rw [← HN.out]; exact h1, by rw [← HN.out]; exact HFIN.out.2.2.2, B, by rw [← HN.out]; rfl, HFIN.out.2.1, HFIN.out.2.2.1⟩)⟩
end Go.Proofs.YtkldnapbeebdkaaDoor.hf
