/- Texts laid together: Hp2, Hq1. -/
import Derived.Test.YtkldnapbeebdkaaDoorZ23
import Derived.Test.YtkldnapbeebdkaaDoorZ24
import Derived.Test.YtkldnapbeebdkaaDoorZ32
import Derived.Deep.LoopGhost
/- What the document's own HuffPack answers. -/
namespace Go.Proofs.YtkldnapbeebdkaaDoor.hp
set_option linter.unusedVariables false
open Go.ChangeShapes Go.WideShapes Go.ChangeAt Go.RowKit
open mem rows bit hh bitw hg
theorem refPack_big (s : ByteArray) (w : World) (h : 4000 < s.size) (h63 : s.size ≤ 9223372036854775807) : Calls Tryd.prog 12 #[.string s] w fun e w' => e = .returned (.tuple #[.string ⟨#[]⟩, .int .i64 4]) ∧ w' = w := by
  have hz : (4000 : Int) < s.size := by omega
  go_enter Tryd.func12, Tryd.ntmps12
  go_wp2
  go_ret2
  exact ⟨rfl, rfl⟩
set_option maxHeartbeats 8000000 in
set_option maxRecDepth 100000 in
theorem refPack_at (s : ByteArray) (w : World) (hs : s.size ≤ 4000) : Calls Tryd.prog 12 #[.string s] w fun e w' => e = .returned (.tuple #[.string (packT s), .int .i64 0]) ∧ Bl w w' := by
  have hz : ¬ (4000 : Int) < s.size := by omega
  have hmk : ∀ w, (Instr.makeSlice 22 (.int .i64 256) (.int .i64 256)).run Tryd.prog w = _ := fun w => run_make_row' (P := Tryd.prog) 22 3 (.int .i64 0) 8 Tryd.underlying22 infoI rfl .i64 .i64 256 (by omega) (by omega) w
  obtain ⟨w2, hw2⟩ : ∃ w2, w2 = w.alloc (.cells (madeCells #[.int .i64 0] 256) 3) := ⟨_, rfl⟩
  have HB2 : Hid (Bl w w2) := by rw [hw2]; exact (Bl.refl w).alloc _
  have HR0 : Hid (RowI w2 w.heap.size (cntL s 0)) := by unfold cntL; rw [cntN_zero, hw2]; exact RowI.made w 256
  go_enter Tryd.func12, Tryd.ntmps12
  go_wp2
  rw [← hw2]
  obtain ⟨B, hB⟩ : ∃ B, B = w.heap.size := ⟨_, rfl⟩
  rw [← hB] at HR0 ⊢
  have HB : Hid (B = w.heap.size) := hB
  clear hw2 hmk hB
  go_loopw [5, 30] (fun _ i wr => ∃ k : Nat, k ≤ s.size ∧ i = .int .i64 (k : Int) ∧ Hid (RowI wr B (cntL s k) ∧ Bl w wr)) (fun _ i _ => s.size - (intOf i).toNat)
  case atStart => exact ⟨0, Nat.zero_le _, rfl, ⟨HR0.out, HB2.out⟩⟩
  case round =>
    clear HR0 HB2
    obtain ⟨k, hk, rfl, H⟩ := hrel
    by_cases hlt : k < s.size
    · have hltz : (k : Int) < s.size := by omega
      have hbd := sb_bd s k
      have hc := H.out.1.cell (j := (sb s k).toNat) (by rw [cntL_len]; omega)
      have hf := H.out.1.frozen (sb s k).toNat
      have hct : (cntL s k).getD (sb s k).toNat 0 = (ct s (((sb s k).toNat : Nat) : Int) k : Int) := cntN_get s 256 k _ (by omega)
      have hcl := ct_le s (((sb s k).toNat : Nat) : Int) k
      have HS : Hid (RowI (wr.setCell ⟨B, (sb s k).toNat, none⟩ (.int .i64 ((cntL s k).getD (sb s k).toNat 0 + 1))) B (cntL s (k + 1)) ∧ Bl w (wr.setCell ⟨B, (sb s k).toNat, none⟩ (.int .i64 ((cntL s k).getD (sb s k).toNat 0 + 1)))) := by
        refine ⟨?_, H.out.2.setCell (by rw [HB.out]; exact Nat.le_refl _) _⟩
        have := H.out.1.set (sb s k).toNat ((cntL s k).getD (sb s k).toNat 0 + 1)
        rw [show (cntL s k).set (sb s k).toNat ((cntL s k).getD (sb s k).toNat 0 + 1) = cntL s (k + 1) from cntN_step s 256 k (by omega)] at this
        exact this
      obtain ⟨v, hv⟩ : ∃ v, v = (cntL s k).getD (sb s k).toNat 0 := ⟨_, rfl⟩
      rw [← hv] at hc hct HS
      have hv1 : 0 ≤ v ∧ v ≤ 1000000 := by omega
      have hw1 : wrap64 (v + 1) = v + 1 := by unfold wrap64; omega
      have hgb : (sb s k).toNat = (s[k]'hlt).toNat := by rw [sb_get s k hlt]; simp
      have hcb : ((s[k]'hlt).toNat : Int) < 256 := by have := (s[k]'hlt).toNat_lt; omega
      rw [hgb] at hc hf HS
      clear hv hct hcl H hgb hbd
      go_wp2
      go_roundw
      case rel => exact ⟨k + 1, hlt, by go_num, HS⟩
      case measure => simp [intOf]; omega
    · have hltz : ¬ (k : Int) < s.size := by omega
      obtain rfl : k = s.size := by omega
      have in1 : In wr (some ⟨B, 0, none⟩) (cntL s s.size) := Or.inr ⟨_, rfl, fun k hk => by rw [Addr.add_lit, Nat.zero_add]; exact H.out.1.cell hk⟩
      have HBl : Hid (Bl w wr) := H.out.2
      clear H
      go_wp2_with fail
      refine (hr.refLens_at (some ⟨B, 0, none⟩) 256 256 (cntL s s.size) wr in1 (by rw [cntL_len]) (by omega)).mono ?_
      rintro e w3 ⟨hb3, h | h | h⟩
      · exact absurd h.1 (by rw [cntL_len]; omega)
      · exact absurd (by rw [cntL_len]; exact cnt_ok hs) h.2.1
      obtain ⟨_, _, B3, rfl, hB3, hr3⟩ := h
      rw [cntL_len]
      have hr3' : RowI w3 B3 (lensT s) := hr3
      have hll := lensT_len hs
      have in3 : In w3 (some ⟨B3, 0, none⟩) (lensT s) := Or.inr ⟨_, rfl, fun k hk => by rw [Addr.add_lit, Nat.zero_add]; exact hr3'.cell hk⟩
      have HR3 : Hid (RowI w3 B3 (lensT s) ∧ Bl w w3) := ⟨hr3', HBl.out.trans hb3⟩
      clear hr3 hr3' hb3 hB3 in1 HBl
      go_wp2_with fail
      refine (su.refSigns_at (some ⟨B3, 0, none⟩) 256 256 (lensT s) w3 in3 hll.symm (by omega)).mono ?_
      have hsg := lensT_signs hs
      rintro e w4 ⟨hb4, h | h | h | h⟩
      · exact absurd h.1 (by rw [hll]; omega)
      · exact absurd (by rw [hll]; exact hsg.1) h.2.1
      · have := h.2.2.1; rw [hll] at this; have := hsg.2; omega
      obtain ⟨_, _, _, B4, rfl, hB4, hr4⟩ := h
      rw [hll]
      have HR : Hid (RowI w4 B3 (lensT s) ∧ RowI w4 B4 (signsT s) ∧ Bl w w4) := ⟨HR3.out.1.step hb4, hr4, HR3.out.2.trans hb4⟩
      clear HR3 hr4 hB4 hb4 in3 hsg
      go_wp2
      have HLF : Hid (∀ i, i < 256 → 0 ≤ (lensT s).getD i 0 ∧ (lensT s).getD i 0 ≤ 17) := fun i hi => ⟨((lensT_facts hs).1 i hi).1, ((lensT_facts hs).1 i hi).2.1⟩
      go_loopw [10, 12, 57] (fun o _ i wx => ∃ (k : Nat) (x : ByteArray), k ≤ 256 ∧ i = .int .i64 (k : Int) ∧ o = .string x ∧ x.size = k ∧ Hid (x = strOfNums ((lensT s).take k) ∧ Bl w4 wx)) (fun _ _ i _ => 256 - (intOf i).toNat)
      case atStart => exact ⟨0, ⟨#[]⟩, by omega, rfl, rfl, rfl, ⟨rfl, Bl.refl _⟩⟩
      case round =>
        obtain ⟨k, x, hk, rfl, rfl, hxs, H⟩ := hrel
        by_cases hlt : k < 256
        · have hltz : (k : Int) < 256 := by omega
          obtain ⟨b, hb⟩ : ∃ b : Nat, (lensT s).getD k 0 = (b : Int) := ⟨((lensT s).getD k 0).toNat, by have := HLF.out k hlt; omega⟩
          have hb17 : b ≤ 17 := by have := HLF.out k hlt; omega
          have hc := (HR.out.1.step H.out.2).cell (j := k) (by rw [hll]; exact hlt)
          rw [hb] at hc
          have cc := fun w => char_any b w (by omega)
          have h1 : (strOfNums [(b : Int)]).size = 1 := rfl
          have HX : Hid (x ++ strOfNums [(b : Int)] = strOfNums ((lensT s).take (k + 1))) := by rw [H.out.1, ← hb]; exact take_up _ _ (by rw [hll]; exact hlt)
          have HB4 : Hid (Bl w4 wr) := H.out.2
          clear H hb
          generalize strOfNums [(b : Int)] = y at *
          have hys : (x ++ y).size = k + 1 := by rw [ByteArray.size_append]; omega
          go_wp2_with fail
          refine (cc _).mono ?_
          rintro e w5 ⟨rfl, g5⟩
          clear cc
          go_wp2
          go_roundw
          case rel => exact ⟨k + 1, x ++ y, hlt, by go_num, rfl, hys, ⟨HX.out, HB4.out.trans g5.bl⟩⟩
          case measure => simp [intOf]; omega
        · have hltz : ¬ (k : Int) < 256 := by omega
          obtain rfl : k = 256 := by omega
          have cp := fun w => refPut4_at (s.size : Int) w (by omega) (by omega)
          have hlow : (low (s.size : Int) 4).reverse = [(s.size : Int) / 16777216 % 256, (s.size : Int) / 65536 % 256, (s.size : Int) / 256 % 256, (s.size : Int) % 256] := by
            simp [low, List.range_succ]
          have h3 := low_three _ _ _ _ _ hlow (by omega)
          obtain ⟨t4, ht4⟩ : ∃ t, t = strOfNums (low (s.size : Int) 4).reverse := ⟨_, rfl⟩
          have ht4s : t4.size = 4 := by rw [ht4, hlow, strOfNums_size]; rfl
          rw [← ht4] at cp h3
          rw [ht4s] at h3
          have HX : Hid (x ++ t4.extract 1 4 = strOfNums (lensT s ++ [((s.size / 65536 % 256 : Nat) : Int), ((s.size / 256 % 256 : Nat) : Int), ((s.size % 256 : Nat) : Int)]) ∧ Bl w4 wr) := by
            refine ⟨?_, H.out.2⟩
            rw [h3, H.out.1, List.take_of_length_le (by omega), nums_app]
            rfl
          have he3 : (t4.extract 1 4).size = 3 := by rw [ByteArray.size_extract]; omega
          clear H h3 hlow ht4
          go_wp2_with fail
          refine (cp _).mono ?_
          rintro e w5 ⟨rfl, g5⟩
          clear cp
          have HB5 : Hid (Bl w4 w5) := HX.out.2.trans g5.bl
          obtain ⟨H0, hH0⟩ : ∃ h, h = x ++ t4.extract 1 4 := ⟨_, rfl⟩
          have hH0s : H0.size = 259 := by rw [hH0, ByteArray.size_append]; omega
          have HH0 : Hid (H0 = strOfNums (lensT s ++ [((s.size / 65536 % 256 : Nat) : Int), ((s.size / 256 % 256 : Nat) : Int), ((s.size % 256 : Nat) : Int)])) := by rw [hH0]; exact HX.out.1
          clear HX g5
          go_wp2
          rw [← hH0]
          clear hH0
          have HBK : Hid (∀ i, i ≤ s.size → (bk (lensT s) (signsT s) s i).length ≤ 17 * i) := fun i _ => bits_bd (fun c hc => by have := HLF.out c hc; omega) i
          have HSG : Hid (∀ c, c < 256 → 0 ≤ (signsT s).getD c 0 ∧ (signsT s).getD c 0 < 16777216) := fun c hc => by
            have hsg := lensT_signs hs
            have e : (signsT s).getD c 0 = sgn (lensT s) 256 c := by
              unfold signsT signsOf
              rw [List.getD_eq_getElem?_getD, List.getElem?_map, List.getElem?_range (by rw [hll]; exact hc), hll]
              rfl
            rw [e]
            exact sgn_bd hsg.1 hsg.2 hc
          have hsl : (signsT s).length = 256 := by unfold signsT signsOf; rw [List.length_map, List.length_range, hll]
          go_loopw [15, 16, 17, 18, 19, 20, 80] (fun o _ _ _ _ _ i wx => ∃ (k : Nat) (x : ByteArray), k ≤ s.size ∧ i = .int .i64 (k : Int) ∧ o = .string x ∧ x.size ≤ 17 * k ∧ Hid (x = bs (bk (lensT s) (signsT s) s k) ∧ Bl w4 wx)) (fun _ _ _ _ _ _ i _ => s.size - (intOf i).toNat)
          case atStart => exact ⟨0, ⟨#[]⟩, by omega, rfl, rfl, Nat.le_refl 0, ⟨rfl, HB5.out⟩⟩
          case round =>
            clear HB5
            obtain ⟨k, x, hk, rfl, rfl, hxs, H⟩ := hrel
            by_cases hlt : k < s.size
            · have hltz : (k : Int) < s.size := by omega
              have hsb := sb_bd s k
              obtain ⟨c, hcc⟩ : ∃ c, c = (sb s k).toNat := ⟨_, rfl⟩
              have hc256 : c < 256 := by omega
              have hgc : (((s[k]'hlt).toNat : Nat) : Int) = (c : Int) := by rw [← sb_get s k hlt]; omega
              obtain ⟨n, hn⟩ : ∃ n : Nat, (lensT s).getD c 0 = (n : Int) := ⟨((lensT s).getD c 0).toNat, by have := HLF.out c hc256; omega⟩
              obtain ⟨v, hv⟩ : ∃ v : Nat, (signsT s).getD c 0 = (v : Int) := ⟨((signsT s).getD c 0).toNat, by have := HSG.out c hc256; omega⟩
              have hn17 : n ≤ 17 := by have := HLF.out c hc256; omega
              have hvb : v < 16777216 := by have := HSG.out c hc256; omega
              have hl := (HR.out.1.step H.out.2).cell (j := c) (by rw [hll]; exact hc256)
              have hsgc := (HR.out.2.1.step H.out.2).cell (j := c) (by rw [hsl]; exact hc256)
              rw [hn] at hl
              rw [hv] at hsgc
              have HNX : Hid (bs (bk (lensT s) (signsT s) s k) ++ bs (sgb n v) = bs (bk (lensT s) (signsT s) s (k + 1))) := by
                rw [bs_app, bk_succ, ← hcc]
                unfold Lc
                rw [hn, hv]
                rfl
              have hcz : (c : Int) < 256 := by omega
              have HB4 : Hid (x = bs (bk (lensT s) (signsT s) s k) ∧ Bl w4 wr) := H.out
              clear H hcc hsb hn hv
              go_wp2
              go_quiet (fail)
              have hl' : (wr.drewN nq).cell? ⟨B3, c, none⟩ = some (.int .i64 (n : Int)) := hl
              have HB4' : Hid (x = bs (bk (lensT s) (signsT s) s k) ∧ Bl w4 (wr.drewN nq)) := ⟨HB4.out.1, HB4.out.2.drewN nq⟩
              clear hl hsgc HB4
              generalize wr.drewN nq = wq at *
              go_wp2
              go_loopw [18, 19, 20] (fun g i m wy => ∃ (j : Nat) (y : ByteArray) (m' : Nat), j ≤ n ∧ i = .int .i64 (j : Int) ∧ g = .string y ∧ m = .int .i64 (m' : Int) ∧ y.size = j ∧ m' < 16777216 ∧ wy = wq ∧ Hid (y = bs (sgb j v) ∧ m' = v / 2 ^ j)) (fun _ i _ _ => n - (intOf i).toNat)
              case atStart => exact ⟨0, ⟨#[]⟩, v, by omega, rfl, rfl, rfl, rfl, hvb, rfl, ⟨rfl, by simp⟩⟩
              case round =>
                obtain ⟨j, y, m', hj, rfl, rfl, rfl, hys, hmb, hwy, H⟩ := hrel
                have hwy := hwy.symm
                subst hwy
                by_cases hltj : j < n
                · have hltjz : (j : Int) < n := by omega
                  obtain ⟨h, hh2⟩ : ∃ h, h = m' / 2 := ⟨_, rfl⟩
                  have t2 : Int.tdiv (m' : Int) 2 = (h : Int) := by rw [Int.tdiv_eq_ediv_of_nonneg (by omega)]; omega
                  have hm2 : h = v / 2 ^ (j + 1) := by rw [hh2, H.out.2, Nat.div_div_eq_div_mul, ← Nat.pow_succ]
                  have HM2 : Hid (h = v / 2 ^ (j + 1)) := hm2
                  clear hm2
                  have hhb : h < 16777216 := by omega
                  have htb : v.testBit j = decide (m' % 2 = 1) := by
                    rw [H.out.2, Nat.testBit_eq_decide_div_mod_eq]
                  by_cases hbit : m' % 2 = 1
                  · have t1 : Int.tmod (m' : Int) 2 = 1 := by rw [Int.tmod_eq_emod_of_nonneg (by omega)]; omega
                    have t3 : (m' : Int) % 2 = 1 := by omega
                    have HY : Hid (⟨#[49]⟩ ++ y = bs (sgb (j + 1) v)) := by
                      rw [sgb_up, htb, decide_eq_true hbit, H.out.1, show true :: sgb j v = [true] ++ sgb j v from rfl, ← bs_app]
                      rfl
                    have hys2 : (ByteArray.size (⟨#[49]⟩ ++ y)) = j + 1 := by rw [ByteArray.size_append, hys]; show 1 + j = _; omega
                    clear H htb hbit hh2
                    have e49 : Utf8.encode ((((⟨#[48, 49]⟩ : ByteArray)[1]'(by decide)).toNat : Nat) : Int) = ⟨#[49]⟩ := by kernel_rfl
                    have e1s : ByteArray.size ⟨#[49]⟩ = 1 := rfl
                    have hno : ¬ 9223372036854775807 < 1 + j := by omega
                    go_wp2
                    go_roundw
                    case rel => exact ⟨j + 1, ⟨#[49]⟩ ++ y, h, by omega, by go_num, rfl, rfl, hys2, hhb, by trivial, ⟨HY.out, HM2.out⟩⟩
                    case measure => simp [intOf]; omega
                  · have t1 : Int.tmod (m' : Int) 2 = 0 := by rw [Int.tmod_eq_emod_of_nonneg (by omega)]; omega
                    have t3 : (m' : Int) % 2 = 0 := by omega
                    have HY : Hid (⟨#[48]⟩ ++ y = bs (sgb (j + 1) v)) := by
                      rw [sgb_up, htb, decide_eq_false hbit, H.out.1, show false :: sgb j v = [false] ++ sgb j v from rfl, ← bs_app]
                      rfl
                    have hys2 : (ByteArray.size (⟨#[48]⟩ ++ y)) = j + 1 := by rw [ByteArray.size_append, hys]; show 1 + j = _; omega
                    clear H htb hbit hh2
                    have e48 : Utf8.encode ((((⟨#[48, 49]⟩ : ByteArray)[0]'(by decide)).toNat : Nat) : Int) = ⟨#[48]⟩ := by kernel_rfl
                    have e1s : ByteArray.size ⟨#[48]⟩ = 1 := rfl
                    have hno : ¬ 9223372036854775807 < 1 + j := by omega
                    go_wp2
                    go_roundw
                    case rel => exact ⟨j + 1, ⟨#[48]⟩ ++ y, h, by omega, by go_num, rfl, rfl, hys2, hhb, by trivial, ⟨HY.out, HM2.out⟩⟩
                    case measure => simp [intOf]; omega
                · have hltjz : ¬ (j : Int) < n := by omega
                  obtain rfl : j = n := by omega
                  have HX2 : Hid (x ++ y = bs (bk (lensT s) (signsT s) s (k + 1)) ∧ Bl w4 wq) := by
                    refine ⟨?_, HB4'.out.2⟩
                    rw [HB4'.out.1, H.out.1]
                    exact HNX.out
                  have hxy : (x ++ y).size ≤ 17 * (k + 1) := by rw [ByteArray.size_append]; omega
                  have hno : ¬ 9223372036854775807 < x.size + j := by omega
                  clear H
                  go_wp2
                  go_roundw
                  case rel => exact ⟨k + 1, x ++ y, hlt, by go_num, rfl, hxy, HX2⟩
                  case measure => simp [intOf]; omega
            · have hltz : ¬ (k : Int) < s.size := by omega
              obtain rfl : k = s.size := by omega
              obtain ⟨bl, hbl⟩ : ∃ bl, bl = bk (lensT s) (signsT s) s s.size := ⟨_, rfl⟩
              rw [← hbl] at H
              have HBL : Hid (bl = bk (lensT s) (signsT s) s s.size) := hbl
              have hbln : bl.length ≤ 68000 := by rw [hbl]; have := HBK.out s.size (Nat.le_refl _); omega
              have HW : Hid (Bl w4 wr) := H.out.2
              have HX0 : Hid (x = bs bl) := H.out.1
              clear hbl H hxs
              go_wp2
              go_loopg [15] 8 (fun kx o wy => ∃ (r : Nat) (y : ByteArray), bl.length + r ≤ 8 * ((bl.length + 7) / 8) ∧ 8 - r ≤ kx ∧ o = .string y ∧ wy = wr ∧ y.size = bl.length + r ∧ Hid (y = bs (bl ++ List.replicate r false)))
              case atStart => exact ⟨0, x, by omega, by omega, rfl, rfl, by rw [HX0.out, bs_size]; rfl, by show _ = bs (bl ++ []); rw [HX0.out, List.append_nil]⟩
              case round =>
                clear HX0
                obtain ⟨r, y, hr, hkx, rfl, hwy, hys, H⟩ := hrel
                have hwy := hwy.symm
                subst hwy
                have t0 : Int.tmod (y.size : Int) 8 = ((y.size % 8 : Nat) : Int) := by rw [Int.tmod_eq_emod_of_nonneg (by omega)]; omega
                by_cases hp : 0 < y.size % 8
                · have t1 : (0 : Int) < ((y.size % 8 : Nat) : Int) := by omega
                  have t2 : (0 : Int) < Int.tmod (y.size : Int) 8 := by rw [t0]; exact t1
                  have t3 : (0 : Int) < (y.size : Int) % 8 := by omega
                  have HY : Hid (y ++ ⟨#[48]⟩ = bs (bl ++ List.replicate (r + 1) false)) := by
                    rw [← pad_up, ← bs_app, ← H.out]
                    rfl
                  have hys2 : (y ++ (⟨#[48]⟩ : ByteArray)).size = bl.length + (r + 1) := by rw [ByteArray.size_append, hys]; rfl
                  have hno : ¬ 9223372036854775807 < y.size + 1 := by omega
                  have hr2 : bl.length + (r + 1) ≤ 8 * ((bl.length + 7) / 8) := by omega
                  have hr7 : r ≤ 7 := by omega
                  clear H t0 t1 hp hr
                  go_wp2
                  go_roundg (8 - (r + 1))
                  case measure => omega
                  case rel => exact ⟨r + 1, y ++ ⟨#[48]⟩, hr2, Nat.le_refl _, rfl, by trivial, hys2, HY⟩
                · have t2 : ¬ (0 : Int) < Int.tmod (y.size : Int) 8 := by rw [t0]; omega
                  have t3 : ¬ (0 : Int) < (y.size : Int) % 8 := by omega
                  obtain ⟨m, hm⟩ : ∃ m, m = (bl.length + 7) / 8 := ⟨_, rfl⟩
                  have hym : y.size = 8 * m := by omega
                  have hmb : m ≤ 8501 := by omega
                  have HM : Hid (m = (bl.length + 7) / 8) := hm
                  have HYB : Hid (∀ i, i < 8 * m → sb y i = 48 + ((gb bl i).toNat : Int)) := fun i hi => by
                    rw [H.out, bs_get _ _ (by rw [← bs_size, ← H.out, hym]; exact hi), gb_pad]
                  clear H t0 hp hr hm hys hkx
                  go_wp2
                  go_loopw [10, 21, 22, 23] (fun o i _ _ wz => ∃ (j I : Nat) (x : ByteArray), j ≤ m ∧ i = .int .i64 (I : Int) ∧ o = .string x ∧ x.size = 259 + j ∧ Hid (I = 8 * j ∧ x = H0 ++ strOfNums (bytesOf (gb bl) true j) ∧ Bl w4 wz)) (fun _ i _ _ _ => 8 * m - (intOf i).toNat)
                  case atStart => exact ⟨0, 0, H0, Nat.zero_le _, rfl, rfl, hH0s, ⟨rfl, (ByteArray.append_empty).symm, HW.out⟩⟩
                  case round =>
                    obtain ⟨j, I, x, hj, rfl, rfl, hxs, H⟩ := hrel
                    have hI := H.out.1
                    by_cases hltj : j < m
                    · have hltjz : (I : Int) < (y.size : Int) := by omega
                      have hI8 : I + 8 ≤ y.size := by omega
                      have hI8z : (I : Int) + 8 ≤ (y.size : Int) := by omega
                      have hex : (y.extract I (I + 8)).size = 8 := by rw [ByteArray.size_extract]; omega
                      have cP := fun w => parse2_at (y.extract I (I + 8)) (fun q => gb bl (8 * j + q)) w (by omega) (by omega) (fun q hq => by
                        rw [hex] at hq
                        rw [sb_ext y I (I + 8) q hI8 (by omega), HYB.out (I + q) (by omega), hI])
                      rw [hex] at cP
                      have hvl := hb_lt (fun q => gb bl (8 * j + q)) 8
                      have HUP : Hid (x ++ strOfNums [((hb (fun q => gb bl (8 * j + q)) 8 : Nat) : Int)] = H0 ++ strOfNums (bytesOf (gb bl) true (j + 1))) := by
                        show _ = _
                        rw [H.out.2.1, ByteArray.append_assoc, bytes_up]
                      generalize hb (fun q => gb bl (8 * j + q)) 8 = v at cP hvl HUP
                      have cc := fun w => char_any v w (by omega)
                      have h1 : (strOfNums [(v : Int)]).size = 1 := rfl
                      have HBW : Hid (Bl w4 wr ∧ I + 8 = 8 * (j + 1)) := ⟨H.out.2.2, by omega⟩
                      have hv256 : v < 256 := by omega
                      have hex2 : y.extract I (I + 8) = y.extract I (I + 8) := rfl
                      obtain ⟨J, hJ⟩ : ∃ J, J = I + 8 := ⟨_, rfl⟩
                      have hJz : (I : Int) + 8 = (J : Int) := by omega
                      rw [← hJ] at cP HBW hI8
                      have hJy : (J : Int) ≤ (y.size : Int) := by omega
                      have hIJ : (I : Int) ≤ (J : Int) := by omega
                      have hj1 : j + 1 ≤ m := hltj
                      clear H hI hex hex2 hI8z hJ hltj hvl HYB t2 t3
                      generalize strOfNums [(v : Int)] = q1 at *
                      have hys : (x ++ q1).size = 259 + (j + 1) := by rw [ByteArray.size_append]; omega
                      have hno : ¬ 9223372036854775807 < x.size + 1 := by omega
                      go_wp2_with fail
                      refine (cP _).mono ?_
                      rintro e w6 ⟨rfl, g6⟩
                      clear cP
                      go_wp2_with fail
                      refine (cc _).mono ?_
                      rintro e w7 ⟨rfl, g7⟩
                      clear cc
                      go_wp2
                      go_roundw
                      case rel => exact ⟨j + 1, J, x ++ q1, hj1, by first | rfl | go_num, rfl, hys, ⟨HBW.out.2, HUP.out, (HBW.out.1.trans g6.bl).trans g7.bl⟩⟩
                      case measure => simp [intOf]; omega
                    · have hltjz : ¬ (I : Int) < (y.size : Int) := by omega
                      obtain rfl : j = m := by omega
                      have HF : Hid (x = packT s ∧ Bl w wr) := by
                        refine ⟨?_, HR.out.2.2.trans H.out.2.2⟩
                        rw [H.out.2.1, HH0.out, nums_app, HM.out, HBL.out]
                        rfl
                      clear H hI
                      go_wp2
                      go_ret2
                      exact ⟨by rw [← HF.out.1]; rfl, HF.out.2⟩
end Go.Proofs.YtkldnapbeebdkaaDoor.hp
/- What the document's own HuffUnpack answers. -/
namespace Go.Proofs.YtkldnapbeebdkaaDoor.hp
set_option linter.unusedVariables false
open Go.ChangeShapes Go.WideShapes Go.ChangeAt Go.RowKit
open mem rows bit hh bitw hg hi
/-- Which of the first k bytes' signs stands at bit A: the last one. -/
def Lh (D : List Int) (q : ByteArray) (A k : Nat) (c : Int) : Prop := (c = -1 ∧ ∀ i, i < k → ¬ Hit D (signsOf D) q A i) ∨ ∃ i : Nat, c = (i : Int) ∧ i < k ∧ Hit D (signsOf D) q A i
set_option maxHeartbeats 8000000 in
set_option maxRecDepth 100000 in
theorem refUnpack_at (p : ByteArray) (w : World) (hp : p.size ≤ 100000) : Calls Tryd.prog 14 #[.string p] w fun e w' => Bl w w' ∧
    ((∃ t, t.size ≤ 4000 ∧ packT t = p ∧ e = .returned (.tuple #[.string t, .int .i64 0])) ∨
     (Why p ∧ e = .returned (.tuple #[.string ⟨#[]⟩, .int .i64 3]))) := by
  by_cases h259 : p.size < 259
  · have hz : (p.size : Int) < 259 := by omega
    go_enter Tryd.func14, Tryd.ntmps14
    go_wp2
    go_ret2
    exact ⟨Bl.refl _, Or.inr ⟨Or.inl h259, rfl⟩⟩
  have hz : ¬ (p.size : Int) < 259 := by omega
  have hmk : ∀ w, (Instr.makeSlice 22 (.int .i64 256) (.int .i64 256)).run Tryd.prog w = _ := fun w => run_make_row' (P := Tryd.prog) 22 3 (.int .i64 0) 8 Tryd.underlying22 infoI rfl .i64 .i64 256 (by omega) (by omega) w
  obtain ⟨w2, hw2⟩ : ∃ w2, w2 = w.alloc (.cells (madeCells #[.int .i64 0] 256) 3) := ⟨_, rfl⟩
  have HB2 : Hid (Bl w w2) := by rw [hw2]; exact (Bl.refl w).alloc _
  have HR0 : Hid (RowI w2 w.heap.size (bl (p.extract 0 256) 256 0)) := by rw [bl_zero, hw2]; exact RowI.made w 256
  have HBy : Hid (∀ k, k < 256 → sb (p.extract 0 256) k = sb p k) := fun k hk => by
    have := hi.sb_extract p 0 256 k (by omega) (by omega)
    rwa [Nat.zero_add] at this
  go_enter Tryd.func14, Tryd.ntmps14
  go_wp2
  rw [← hw2]
  obtain ⟨B, hB⟩ : ∃ B, B = w.heap.size := ⟨_, rfl⟩
  rw [← hB] at HR0 ⊢
  have HB : Hid (B = w.heap.size) := hB
  clear hw2 hmk hB
  go_loopw [5, 23] (fun _ i wr => ∃ k : Nat, k ≤ 256 ∧ i = .int .i64 (k : Int) ∧ Hid (RowI wr B (bl (p.extract 0 256) 256 k) ∧ Bl w wr)) (fun _ i _ => 256 - (intOf i).toNat)
  case atStart => exact ⟨0, Nat.zero_le _, rfl, ⟨HR0.out, HB2.out⟩⟩
  case round =>
    clear HR0 HB2
    obtain ⟨k, hk, rfl, H⟩ := hrel
    by_cases hlt : k < 256
    · have hltz : (k : Int) < 256 := by omega
      have hkp : k < p.size := by omega
      have hkpz : (k : Int) < p.size := by omega
      have hc := H.out.1.cell (j := k) (by rw [bl_len]; exact hlt)
      have hf := H.out.1.frozen k
      have HS : Hid (RowI (wr.setCell ⟨B, k, none⟩ (.int .i64 ((p[k]'hkp).toNat : Int))) B (bl (p.extract 0 256) 256 (k + 1)) ∧ Bl w (wr.setCell ⟨B, k, none⟩ (.int .i64 ((p[k]'hkp).toNat : Int)))) := by
        refine ⟨?_, H.out.2.setCell (by rw [HB.out]; exact Nat.le_refl _) _⟩
        have := H.out.1.set k (sb (p.extract 0 256) k)
        rw [bl_step _ 256 k hlt, HBy.out k hlt, sb_get p k hkp] at this
        exact this
      generalize (bl (p.extract 0 256) 256 k).getD k 0 = old at hc
      have hcb : ((p[k]'hkp).toNat : Int) < 256 := by have := (p[k]'hkp).toNat_lt; omega
      clear H
      go_wp2
      go_roundw
      case rel => exact ⟨k + 1, hlt, by go_num, HS⟩
      case measure => simp [intOf]; omega
    · have hltz : ¬ (k : Int) < 256 := by omega
      obtain rfl : k = 256 := by omega
      obtain ⟨D, hD⟩ : ∃ D, D = bl (p.extract 0 256) 256 256 := ⟨_, rfl⟩
      have hdl : D.length = 256 := by rw [hD, bl_len]
      have hr : RowI wr B D := by rw [hD]; exact H.out.1
      have in1 : In wr (some ⟨B, 0, none⟩) D := Or.inr ⟨_, rfl, fun k hk => by rw [Addr.add_lit, Nat.zero_add]; exact hr.cell hk⟩
      have HBl : Hid (Bl w wr ∧ RowI wr B D) := ⟨H.out.2, hr⟩
      have HD : Hid (D = bl (p.extract 0 256) 256 256) := hD
      clear H hr hD
      have h6 : (256 : Int) < p.size := by omega
      have h7 : (257 : Int) < p.size := by omega
      have h8 : (258 : Int) < p.size := by omega
      have n6 : 256 < p.size := by omega
      have n7 : 257 < p.size := by omega
      have n8 : 258 < p.size := by omega
      have hb6 := (p[256]'n6).toNat_lt
      have hb7 := (p[257]'n7).toNat_lt
      have hb8 := (p[258]'n8).toNat_lt
      obtain ⟨n, hn⟩ : ∃ n : Nat, ((p[256]'n6).toNat : Int) * (65536 : Int) + ((p[257]'n7).toNat : Int) * (256 : Int) + ((p[258]'n8).toNat : Int) = (n : Int) := ⟨(p[256]'n6).toNat * 65536 + (p[257]'n7).toNat * 256 + (p[258]'n8).toNat, by omega⟩
      have HNS : Hid ((n : Int) = sb p 256 * 65536 + sb p 257 * 256 + sb p 258) := by rw [sb_get p 256 n6, sb_get p 257 n7, sb_get p 258 n8]; exact hn.symm
      have hnb : n ≤ 16777215 := by omega
      go_wp2_with fail
      refine (su.refSigns_at (some ⟨B, 0, none⟩) 256 256 D wr in1 hdl.symm (by omega)).mono ?_
      rintro e w4 ⟨hb4, h | h | h | h⟩
      · exact absurd h.1 (by rw [hdl]; omega)
      · obtain ⟨_, h2, rfl⟩ := h
        have HF : Hid (Bl w w4 ∧ Why p) := by
          refine ⟨HBl.out.1.trans hb4, Or.inr (Or.inl fun hh => h2 ?_)⟩
          rw [hdl, HD.out]
          exact hh.1
        clear h2 hb4 in1
        go_wp2
        go_quiet (fail)
        go_wp2
        go_ret2
        exact ⟨HF.out.1.drewN nq, Or.inr ⟨HF.out.2, rfl⟩⟩
      · obtain ⟨_, h2, h3, rfl⟩ := h
        have HF : Hid (Bl w w4 ∧ Why p) := by
          refine ⟨HBl.out.1.trans hb4, Or.inr (Or.inl fun hh => ?_)⟩
          have h4 := hh.2
          rw [hdl, HD.out] at h3
          omega
        clear h2 h3 hb4 in1
        go_wp2
        go_quiet (fail)
        go_wp2
        go_ret2
        exact ⟨HF.out.1.drewN nq, Or.inr ⟨HF.out.2, rfl⟩⟩
      · obtain ⟨_, h2, h3, B4, rfl, hB4, hr4⟩ := h
        rw [hdl] at h2 h3 ⊢
        have HOK : Hid (okS D 256 ∧ tk D 256 ≤ 16777216) := ⟨h2, h3⟩
        have HR4 : Hid (RowI w4 B D ∧ RowI w4 B4 (signsOf D) ∧ Bl w w4) := ⟨HBl.out.2.step hb4, hr4, HBl.out.1.trans hb4⟩
        clear h2 h3 hr4 hb4 in1 HBl hB4
        obtain ⟨q, hq⟩ : ∃ q, q = p.extract 259 p.size := ⟨_, rfl⟩
        obtain ⟨f, hf⟩ : ∃ f, f = mf D (signsOf D) 256 := ⟨_, rfl⟩
        have HQ : Hid (q = p.extract 259 p.size ∧ f = mf D (signsOf D) 256) := ⟨hq, hf⟩
        have hqs : q.size = p.size - 259 := by rw [hq, ByteArray.size_extract]; omega
        have HWH : Hid (∀ (P : Prop), (P → (4000 < n ∨ (∃ k zs A, k < n ∧ hi.Way f q k zs A ∧ NoS f q A 24) ∨ (∃ zs A, hi.Way f q n zs A ∧ packT (strOfNums zs) ≠ p))) → P → Why p) := fun P h1 h2 => by
          refine Or.inr (Or.inr ⟨n, HNS.out, ?_⟩)
          have h3 := h1 h2
          rw [hq, hf, HD.out] at h3
          exact h3
        clear hq hf
        go_wp2
        go_quiet (fail)
        have HR5 : Hid (RowI (w4.drewN nq) B D ∧ RowI (w4.drewN nq) B4 (signsOf D) ∧ Bl w (w4.drewN nq)) := ⟨HR4.out.1, HR4.out.2.1, HR4.out.2.2.drewN nq⟩
        clear HR4
        generalize w4.drewN nq = w5 at *
        by_cases hbig : 4000 < n
        · have hbz : (4000 : Int) < n := by omega
          have hbd : decide ((4000 : Int) < n) = true := decide_eq_true hbz
          have HF : Hid (Bl w w5 ∧ Why p) := ⟨HR5.out.2.2, HWH.out True (fun _ => Or.inl hbig) trivial⟩
          clear hn hb6 hb7 hb8
          go_wp2
          go_ret2
          exact ⟨HF.out.1, Or.inr ⟨HF.out.2, rfl⟩⟩
        have hbz : ¬ (4000 : Int) < n := by omega
        have hbd : decide ((4000 : Int) < n) = false := decide_eq_false hbz
        have hsl : (signsOf D).length = 256 := by unfold signsOf; rw [List.length_map, List.length_range, hdl]
        go_wp2
        clear hn hb6 hb7 hb8
        go_loopw [9, 10, 11, 12, 13, 14] (fun a o _ _ _ _ wx => ∃ (k A : Nat) (x : ByteArray), k ≤ n ∧ A ≤ 24 * k ∧ a = .int .i64 (2072 + (A : Int)) ∧ o = .string x ∧ x.size = k ∧ Hid (∃ zs, hi.Way f q k zs A ∧ x = strOfNums zs ∧ Bl w5 wx)) (fun _ o _ _ _ _ _ => n - (match o with | .string y => y.size | _ => 0))
        case atStart => exact ⟨0, 0, ⟨#[]⟩, Nat.zero_le _, Nat.zero_le _, rfl, rfl, rfl, ⟨[], ⟨rfl, rfl⟩, rfl, Bl.refl _⟩⟩
        case round =>
          obtain ⟨k, A, x, hk, hA, rfl, rfl, hxs, H⟩ := hrel
          by_cases hlt : k < n
          · have hltz : (k : Int) < n := by omega
            have hxz : (x.size : Int) < n := by omega
            have HRw : Hid (RowI wr B D ∧ RowI wr B4 (signsOf D)) := by
              obtain ⟨_, _, _, hb⟩ := H.out
              exact ⟨HR5.out.1.step hb, HR5.out.2.1.step hb⟩
            go_wp2
            go_loopw [11, 12, 13, 14, 64] (fun c _ _ _ i wy => ∃ (j : Nat) (z : Int), j ≤ 256 ∧ i = .int .i64 (j : Int) ∧ c = .int .i64 z ∧ wy = wr ∧ -1 ≤ z ∧ z < 256 ∧ Hid (Lh D q A j z)) (fun _ _ _ _ i _ => 256 - (intOf i).toNat)
            case atStart => exact ⟨0, -1, by omega, rfl, rfl, rfl, by omega, by omega, Or.inl ⟨rfl, fun i hi => by omega⟩⟩
            case round =>
              obtain ⟨j, z, hj, rfl, rfl, hwy, hz1, hz2, HL⟩ := hrel
              have hwy := hwy.symm
              subst hwy
              by_cases hltj : j < 256
              · have hltjz : (j : Int) < 256 := by omega
                obtain ⟨d, hd⟩ : ∃ d : Nat, D.getD j 0 = (d : Int) := ⟨(D.getD j 0).toNat, by have := HOK.out.1 j hltj; omega⟩
                have hd24 : d ≤ 24 := by have := HOK.out.1 j hltj; omega
                have hc1 := HRw.out.1.cell (j := j) (by rw [hdl]; exact hltj)
                have hc2 := HRw.out.2.cell (j := j) (by rw [hsl]; exact hltj)
                rw [hd] at hc1
                have HH : Hid (Hit D (signsOf D) q A j ↔ (0 < d ∧ A + d ≤ 8 * q.size ∧ nm q A d = (signsOf D).getD j 0)) := by
                  show _ ↔ _
                  unfold Hit
                  rw [hd, Int.toNat_natCast]
                  constructor
                  · rintro ⟨h1, h2, h3⟩; exact ⟨by omega, by omega, h3⟩
                  · rintro ⟨h1, h2, h3⟩; exact ⟨by omega, by omega, h3⟩
                have HNo : Hid (¬ Hit D (signsOf D) q A j → Lh D q A (j + 1) z) := fun hno => by
                  rcases HL.out with ⟨h1, h2⟩ | ⟨i, h1, h2, h3⟩
                  · refine Or.inl ⟨h1, fun i hi => ?_⟩
                    by_cases e : i = j
                    · rw [e]; exact hno
                    · exact h2 i (by omega)
                  · exact Or.inr ⟨i, h1, by omega, h3⟩
                clear HL hd
                by_cases hd0 : 0 < d
                · have hd0z : (0 : Int) < (d : Int) := by omega
                  have hd0d : decide ((0 : Int) < (d : Int)) = true := decide_eq_true hd0z
                  by_cases hin : A + d ≤ 8 * q.size
                  · have hinz : 2072 + (A : Int) + (d : Int) ≤ 8 * (p.size : Int) := by omega
                    have hind : decide (2072 + (A : Int) + (d : Int) ≤ 8 * (p.size : Int)) = true := decide_eq_true hinz
                    have cG := fun w => refGet_any p (2072 + A) d true 1 w rfl (by omega) (by omega) (by omega)
                    have hnm : nm q A d = ((gN (fun i => tbit p true (2072 + A + i)) d true : Nat) : Int) := by rw [HQ.out.1]; exact nm_behind p A d (by omega) (by rw [← hqs]; exact hin)
                    have hnb2 := nm_bd q A d hd24
                    rw [hnm] at hnb2
                    have HNM : Hid (nm q A d = ((gN (fun i => tbit p true (2072 + A + i)) d true : Nat) : Int)) := hnm
                    clear hnm
                    generalize gN (fun i => tbit p true (2072 + A + i)) d true = v at *
                    rw [show ((2072 + A : Nat) : Int) = 2072 + (A : Int) by omega] at cG
                    by_cases heq : (v : Int) = (signsOf D).getD j 0
                    · rw [← heq] at hc2
                      have HNew : Hid (Lh D q A (j + 1) (j : Int)) := Or.inr ⟨j, rfl, by omega, HH.out.2 ⟨hd0, hin, by rw [HNM.out, heq]⟩⟩
                      clear HNo heq HH HNM
                      go_wp2_with fail
                      refine (cG _).mono ?_
                      rintro e w6 ⟨rfl, rfl⟩
                      clear cG
                      go_wp2
                      go_roundw
                      case rel => exact ⟨j + 1, j, hltj, by go_num, rfl, by trivial, by omega, by omega, HNew⟩
                      case measure => simp [intOf]; omega
                    · have hne : ((v : Int) == (signsOf D).getD j 0) = false := by rw [beq_eq_false_iff_ne]; exact heq
                      have HNew : Hid (Lh D q A (j + 1) z) := HNo.out (fun h => heq (by rw [← HNM.out]; exact (HH.out.1 h).2.2))
                      generalize (signsOf D).getD j 0 = sg at *
                      clear HNo heq HH HNM
                      go_wp2_with fail
                      refine (cG _).mono ?_
                      rintro e w6 ⟨rfl, rfl⟩
                      clear cG
                      go_wp2
                      go_roundw
                      case rel => exact ⟨j + 1, z, hltj, by go_num, rfl, by trivial, hz1, hz2, HNew⟩
                      case measure => simp [intOf]; omega
                  · have hinz : ¬ 2072 + (A : Int) + (d : Int) ≤ 8 * (p.size : Int) := by omega
                    have hind : decide (2072 + (A : Int) + (d : Int) ≤ 8 * (p.size : Int)) = false := decide_eq_false hinz
                    have HNew : Hid (Lh D q A (j + 1) z) := HNo.out (fun h => hin (HH.out.1 h).2.1)
                    clear HNo HH
                    go_wp2
                    go_roundw
                    case rel => exact ⟨j + 1, z, hltj, by go_num, rfl, by trivial, hz1, hz2, HNew⟩
                    case measure => simp [intOf]; omega
                · have hd0z : ¬ (0 : Int) < (d : Int) := by omega
                  have hd0d : decide ((0 : Int) < (d : Int)) = false := decide_eq_false hd0z
                  have HNew : Hid (Lh D q A (j + 1) z) := HNo.out (fun h => hd0 (HH.out.1 h).1)
                  clear HNo HH
                  go_wp2
                  go_roundw
                  case rel => exact ⟨j + 1, z, hltj, by go_num, rfl, by trivial, hz1, hz2, HNew⟩
                  case measure => simp [intOf]; omega
              · have hltjz : ¬ (j : Int) < 256 := by omega
                obtain rfl : j = 256 := by omega
                obtain ⟨zs, hway, hxz2, hbw⟩ := H.out
                rcases HL.out with ⟨rfl, hno⟩ | ⟨i, rfl, hi256, hhit⟩
                · have HF : Hid (Bl w wr ∧ Why p) := by
                    refine ⟨HR5.out.2.2.trans hbw, HWH.out True (fun _ => Or.inr (Or.inl ⟨k, zs, A, hlt, hway, ?_⟩)) trivial⟩
                    rw [HQ.out.2]
                    exact no_hit hno
                  clear HL H hway hxz2 hbw hno
                  go_wp2
                  go_ret2
                  exact ⟨HF.out.1, Or.inr ⟨HF.out.2, rfl⟩⟩
                · have hfs := hit_fs HOK.out.1 HOK.out.2 hdl hi256 hhit
                  obtain ⟨d, hd⟩ : ∃ d : Nat, D.getD i 0 = (d : Int) := ⟨(D.getD i 0).toNat, by have := HOK.out.1 i hi256; omega⟩
                  have hd24 : d ≤ 24 := by have := HOK.out.1 i hi256; omega
                  rw [hd, Int.toNat_natCast, ← HQ.out.2] at hfs
                  have hc1 := HRw.out.1.cell (j := i) (by rw [hdl]; exact hi256)
                  rw [hd] at hc1
                  have cc := fun w => char_any i w hi256
                  have h1 : (strOfNums [(i : Int)]).size = 1 := rfl
                  have HN : Hid ((∃ zs, hi.Way f q (k + 1) zs (A + d) ∧ x ++ strOfNums [(i : Int)] = strOfNums zs) ∧ Bl w5 wr) := ⟨⟨zs ++ [(i : Int)], ⟨zs, A, d, (i : Int), hway, hfs, rfl, rfl⟩, by rw [hxz2, nums_app]⟩, hbw⟩
                  have hin : ¬ (i : Int) < 0 := by omega
                  have hi256z : (i : Int) < 256 := by omega
                  clear HL H hway hxz2 hbw hhit hfs hd
                  generalize strOfNums [(i : Int)] = y1 at *
                  have hxy : (x ++ y1).size = k + 1 := by rw [ByteArray.size_append]; omega
                  have hno2 : ¬ 9223372036854775807 < x.size + 1 := by omega
                  have hAd : A + d ≤ 24 * (k + 1) := by omega
                  go_wp2_with fail
                  refine (cc _).mono ?_
                  rintro e w6 ⟨rfl, g6⟩
                  have hc6 := at_bl g6.bl hc1
                  have HN6 : Hid (∃ zs, hi.Way f q (k + 1) zs (A + d) ∧ x ++ y1 = strOfNums zs ∧ Bl w5 w6) := by
                    obtain ⟨zs, a1, a2⟩ := HN.out.1
                    exact ⟨zs, a1, a2, HN.out.2.trans g6.bl⟩
                  clear cc g6 hc1 HN HRw
                  go_wp2
                  go_roundw
                  case rel => exact ⟨k + 1, A + d, x ++ y1, hlt, hAd, by congr 1; omega, rfl, hxy, HN6⟩
                  case measure => show n - (x ++ y1).size < n - x.size; omega
          · have hltz : ¬ (k : Int) < n := by omega
            have hxz : ¬ (x.size : Int) < n := by omega
            obtain rfl : k = n := by omega
            obtain ⟨zs, hway, hxz2, hbw⟩ := H.out
            have cP := refPack_at x wr (by omega)
            have HF : Hid (Bl w wr ∧ (packT x ≠ p → Why p)) := ⟨HR5.out.2.2.trans hbw, fun hne => HWH.out True (fun _ => Or.inr (Or.inr ⟨zs, A, hway, by rw [← hxz2]; exact hne⟩)) trivial⟩
            clear H hway hxz2 hbw
            go_wp2_with fail
            refine cP.mono ?_
            rintro e w6 ⟨rfl, hb6⟩
            clear cP
            have HB6 : Hid (Bl w w6) := HF.out.1.trans hb6
            by_cases heq : packT x = p
            · rw [heq]
              clear HF hb6
              go_wp2
              go_ret2
              exact ⟨HB6.out, Or.inl ⟨x, by omega, heq, rfl⟩⟩
            · have HY : Hid (Why p) := HF.out.2 heq
              have hbq : ((packT x).toList == p.toList) = false := by rw [hi.toList_beq, decide_eq_false heq]
              clear HF hb6
              go_wp2
              go_ret2
              exact ⟨HB6.out, Or.inr ⟨HY.out, rfl⟩⟩
end Go.Proofs.YtkldnapbeebdkaaDoor.hp
