/- Both of package diff. -/
import Derived.Test.YtoiiphkcpdphbaaDoorDfB
import Derived.Test.YtoiiphkcpdphbaaDoorDf6
import Derived.Test.YtoiiphkcpdphbaaDoorDf7
import Derived.Test.YtoiiphkcpdphbaaDoorDf8
import Derived.Test.YtoiiphkcpdphbaaDoorBldS
namespace Go.Proofs.YtoiiphkcpdphbaaDoor.df
set_option linter.unusedVariables false
open Go.ChangeShapes Go.WideShapes Go.ChangeAt Go.RowKit
open mem bld
theorem edits_small (a b : ByteArray) (h : a.size + b.size ≤ 4000) : Small (edits (L a) (L b)) := by
  refine ⟨Nat.le_trans (edits_len _ _) (by rw [L_len, L_len]; omega), fun e he => ?_⟩
  have := rn_bd _ _ _ (rn_edits (L a) (L b)) e he
  rw [L_len, L_len] at this
  omega
theorem ext_to (s : ByteArray) (i j : Nat) : s.extract i j = tx (((L s).take j).drop i) := by rw [← L_ext, tx_L]
theorem Kb.cell {b : Nat} {w w' : World} {P : Nat} {c : Array Value} (h : Kb b w w') (hp : w.heap[P]? = some (.cells c 82 (0, 0))) (hne : P ≠ b) : w'.heap[P]? = some (.cells c 82 (0, 0)) :=
  h.same P _ hp hne (fun c fz e => by injection e with _ e2; exact absurd e2 (by decide))
set_option maxHeartbeats 2000000 in
set_option maxRecDepth 10000 in
theorem Both_at (old a b : ByteArray) (w : World) (ha : old.size + a.size ≤ 4000) (hb : old.size + b.size ≤ 4000) :
    Calls Tryd.prog 17 #[.string old, .string a, .string b] w fun e w' => e = .returned (.tuple #[.string (tx (both (L old) (L a) (L b)).1), .bool (both (L old) (L a) (L b)).2, .nilIface]) ∧ Bl w w' := by
  obtain ⟨R, hR⟩ : ∃ R, both (L old) (L a) (L b) = R := ⟨_, rfl⟩
  rw [hR]
  have HR : Hid (both (L old) (L a) (L b) = R) := hR
  clear hR
  have sA := edits_small old a ha
  have sB := edits_small old b hb
  go_enter Tryd.func17, Tryd.ntmps17
  go_wp2_with fail
  refine (Edits_at old a w ha).mono ?_
  rintro e w1 ⟨v1, rfl, ho1, hb1⟩
  go_wp2_with fail
  refine (Edits_at old b w1 hb).mono ?_
  rintro e w2 ⟨v2, rfl, ho2, hb2⟩
  go_wp2_with fail
  refine (changes_at _ v1 w2 (ho1.step hb2).view sA).mono ?_
  rintro e w3 ⟨v3, rfl, ho3, hb3⟩
  go_wp2_with fail
  refine (changes_at _ v2 w3 (ho2.step hb3).view sB).mono ?_
  rintro e w4 ⟨v4, rfl, ho4, hb4⟩
  go_wp2_with fail
  refine (joined_at _ _ v3 v4 w4 (ho3.step hb4).view ho4.view (Nat.le_trans (chg_len _) sA.1) (Nat.le_trans (chg_len _) sB.1)).mono ?_
  rintro e w5 ⟨r, ok, rfl, hb5, hj⟩
  have hbw : Bl w w5 := (((hb1.trans hb2).trans hb3).trans hb4).trans hb5
  have HB : Hid (Bl w w5) := hbw
  rcases hj with ⟨hj, rfl⟩ | ⟨l, hj, rfl, ho5⟩
  · have hR : R = (L a, false) := by rw [← HR.out]; unfold both; rw [hj]
    subst hR
    go_wp2
    go_ret3
    exact ⟨by rw [tx_L]; rfl, HB.out⟩
  · have hR : R = (pat (L old) 0 l, true) := by rw [← HR.out]; unfold both; rw [hj]
    subst hR
    obtain ⟨hsep, hl1, hl2⟩ := jn_ok _ _ _ _ hj
    rw [L_len, L_len, L_len] at hl1
    have hll : l.length ≤ 9000 := by omega
    obtain ⟨pp, cp, rfl, hcp, hin⟩ := ho5.view
    have hT : (pat (L old) 0 l).length ≤ 1000000000 := by
      rw [L_len, L_len, L_len] at hl2
      have : old.size * (old.size + a.size + old.size + b.size + 1) ≤ 4000 * 8001 := Nat.mul_le_mul (by omega) (by omega)
      omega
    obtain ⟨T, hTT⟩ : ∃ T, pat (L old) 0 l = T := ⟨_, rfl⟩
    have HT : Hid (pat (L old) 0 l = T ∧ T.length ≤ 1000000000) := ⟨hTT, by rw [← hTT]; exact hT⟩
    obtain ⟨M, hM⟩ : ∃ M, M = w5.heap.size := ⟨_, rfl⟩
    obtain ⟨w6, hw6⟩ : ∃ w6, w6 = w5.alloc (.cells #[.pointer none, .slice none 0 0] 68) := ⟨_, rfl⟩
    have H6 : Hid (Bd M M [] w6 ∧ Below M w5 w6 ∧ cn.In w5 pp l ∧ M = w5.heap.size) := ⟨by rw [hw6, hM]; exact Bd.new w5, by rw [hw6, hM]; exact (Bl.refl _).alloc _, hin, hM⟩
    have HP0 : Hid (Ps (L old) l 0 0 []) := Ps.zero hsep
    clear hT hTT hl2 hl1 hsep hj HR hin ho5 hbw hb5 ho4 ho3 ho2 ho1 hb1 hb2 hb3 hb4 sA sB
    go_wp2
    rw [← hM, ← hw6]
    clear hM hw6
    go_loopw [15, 17, 49] (fun av _ iv wr => ∃ (k at' : Nat) (d : List UInt8), k ≤ l.length ∧ at' ≤ old.size ∧ iv = .int .i64 (k : Int) ∧ av = .int .i64 (at' : Int) ∧ Hid (Ps (L old) l k at' d ∧ Bd M M d wr ∧ Below M w5 wr)) (fun _ _ iv _ => l.length - (intOf iv).toNat)
    case atStart => exact ⟨0, 0, [], Nat.zero_le _, Nat.zero_le _, rfl, rfl, HP0.out, H6.out.1, H6.out.2.1⟩
    case round =>
      clear HP0
      obtain ⟨k, at', d, hk, hat, rfl, rfl, H⟩ := hrel
      by_cases hlt : k < l.length
      · have hlz : (k : Int) < (l.length : Int) := by omega
        have hbl : Bl w5 wr := by have := H.out.2.2; rw [H6.out.2.2.2] at this; exact this
        obtain ⟨x, rfl, c0, c1, c2⟩ := (H6.out.2.2.1.step hbl).at' k hlt
        obtain ⟨s1, s2, s3, s4⟩ := H.out.1.step hlt
        rw [L_len] at s3
        obtain ⟨E, hE⟩ : ∃ E, E = l[k] := ⟨_, rfl⟩
        rw [← hE] at c0 c1 c2 s1 s2 s3 s4
        obtain ⟨fr, hfr⟩ : ∃ fr : Nat, E.w = (fr : Int) := ⟨E.w.toNat, by omega⟩
        obtain ⟨to, hto⟩ : ∃ to : Nat, E.n = (to : Int) := ⟨E.n.toNat, by omega⟩
        rw [hfr] at c0 s1 s2 s4
        rw [hto] at c1 s2 s3 s4
        rw [Int.toNat_natCast, Int.toNat_natCast] at s4
        have h1 : at' ≤ fr := by omega
        have h2 : fr ≤ old.size := by omega
        have h3 : to ≤ old.size := by omega
        have ext := ext_to old at' fr
        obtain ⟨t1, ht1⟩ : ∃ t1, t1 = ((L old).take fr).drop at' := ⟨_, rfl⟩
        rw [← ht1] at ext s4
        have hd : d.length + t1.length + E.t.length ≤ 1000000000 := by
          have h4 := s4.1
          rw [HT.out.1] at h4
          have h5 := HT.out.2
          rw [← h4] at h5
          simp only [List.length_append] at h5
          omega
        have HS : Hid (Ps (L old) l (k + 1) to (d ++ t1 ++ E.t)) := s4
        obtain ⟨P, hP⟩ : ∃ P, P = wr.heap.size := ⟨_, rfl⟩
        obtain ⟨w7, hw7⟩ : ∃ w7, w7 = wr.alloc (.cells #[.int .i64 (fr : Int), .int .i64 (to : Int), .string (tx E.t)] 82) := ⟨_, rfl⟩
        have hb7 : Bl wr w7 := by rw [hw7]; exact (Bl.refl _).alloc _
        have hp7 : w7.heap[P]? = some (.cells #[.int .i64 (fr : Int), .int .i64 (to : Int), .string (tx E.t)] 82 (0, 0)) := by rw [hw7, hP]; exact heap_alloc_new wr _
        have hPM : P ≠ M := by have := H.out.2.1.lt; omega
        have eP : wr.heap.size = P := hP.symm
        have ew7 : wr.alloc (.cells #[.int .i64 (fr : Int), .int .i64 (to : Int), .string (tx E.t)] 82) = w7 := hw7.symm
        have hBM : M ≤ wr.heap.size := H.out.2.1.le
        have HW7 : Hid (Bd M M d w7 ∧ Below M w5 w7) := ⟨H.out.2.1.bl hb7, H.out.2.2.trans (hb7.mono hBM)⟩
        have p0 : w7.cell? ⟨P, 0, none⟩ = some (.int .i64 (fr : Int)) := by rw [cell_of hp7]; rfl
        clear hw7 hP hE s4 ht1
        go_wp2_with fail
        refine (write_at M M d (tx t1) w7 HW7.out.1 (by rw [tx_size]; omega)).mono ?_
        rintro e w8 ⟨rfl, hB8, hl8, hk8⟩
        have hp8 := Kb.cell hk8 hp7 hPM
        have p2 : w8.cell? ⟨P, 2, none⟩ = some (.string (tx E.t)) := by rw [cell_of hp8]; rfl
        rw [show (tx t1).data.toList = t1 from L_tx t1] at hB8
        have HW8 : Hid (Bd M M (d ++ t1) w8 ∧ Below M w5 w8) := ⟨hB8, HW7.out.2.trans hl8⟩
        clear hB8 hl8 hk8
        go_wp2_with fail
        refine (write_at M M (d ++ t1) (tx E.t) w8 HW8.out.1 (by rw [tx_size, List.length_append]; omega)).mono ?_
        rintro e w9 ⟨rfl, hB9, hl9, hk9⟩
        have hp9 := Kb.cell hk9 hp8 hPM
        have p1 : w9.cell? ⟨P, 1, none⟩ = some (.int .i64 (to : Int)) := by rw [cell_of hp9]; rfl
        rw [show (tx E.t).data.toList = E.t from L_tx E.t] at hB9
        have HW9 : Hid (Bd M M (d ++ t1 ++ E.t) w9 ∧ Below M w5 w9) := ⟨hB9, HW8.out.2.trans hl9⟩
        clear hB9 hl9 hk9
        go_wp2
        go_roundw
        case rel => exact ⟨k + 1, to, _, hlt, h3, by go_num, rfl, HS.out, HW9.out⟩
        case measure => simp [intOf]; omega
      · obtain rfl : k = l.length := by omega
        have hend := H.out.1.end
        rw [HT.out.1] at hend
        have ext : old.extract at' old.size = tx ((L old).drop at') := by
          rw [ext_to, List.take_of_length_le (by rw [L_len]; exact Nat.le_refl _)]
        have HE : Hid (d ++ (L old).drop at' = T) := hend
        have hdl : d.length + old.size ≤ 2000000000 := by
          have h5 := HT.out.2
          rw [← hend, List.length_append] at h5
          omega
        clear hend
        go_wp2_with fail
        refine (write_at M M d (tx ((L old).drop at')) wr H.out.2.1 (by rw [tx_size, List.length_drop, L_len]; omega)).mono ?_
        rintro e w8 ⟨rfl, hB8, hl8, hk8⟩
        rw [show (tx ((L old).drop at')).data.toList = (L old).drop at' from L_tx _, HE.out] at hB8
        go_wp2_with fail
        refine (string_at M M T w8 hB8).mono ?_
        rintro e w9 ⟨rfl, hl9, hk9⟩
        have hfin : Bl w5 w9 := by
          have := (H.out.2.2.trans hl8).trans hl9
          rw [H6.out.2.2.2] at this
          exact this
        clear hB8 hl8 hl9 hk8 hk9
        go_wp2
        go_ret3
        exact ⟨by rw [HT.out.1]; rfl, HB.out.trans hfin⟩
end Go.Proofs.YtoiiphkcpdphbaaDoor.df
