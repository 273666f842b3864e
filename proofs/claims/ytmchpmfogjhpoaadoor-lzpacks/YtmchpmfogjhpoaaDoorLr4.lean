/- What the document's own LzUnpack answers: the same. -/
import Derived.Test.YtmchpmfogjhpoaaDoorLr2
import Derived.Test.YtmchpmfogjhpoaaDoorLz8
namespace Go.Proofs.YtmchpmfogjhpoaaDoor.lzr
set_option linter.unusedVariables false
open Go.ChangeShapes Go.WideShapes Go.ChangeAt Go.RowKit
open mem rows lz
theorem within_at (x lo hi : Int) (w : World) : Calls Tryd.prog 24 #[.int .i64 x, .int .i64 lo, .int .i64 hi] w fun e w' => e = .returned (.bool (decide (lo ≤ x ∧ x ≤ hi))) ∧ w' = w := by
  by_cases h1 : lo ≤ x
  · by_cases h2 : x ≤ hi
    · rw [decide_eq_true ⟨h1, h2⟩]
      go_enter Tryd.func24, Tryd.ntmps24
      go_wp2
      go_ret
      exact ⟨rfl, rfl⟩
    · rw [decide_eq_false (fun h => h2 h.2)]
      go_enter Tryd.func24, Tryd.ntmps24
      go_wp2
      go_ret
      exact ⟨rfl, rfl⟩
  · rw [decide_eq_false (fun h => h1 h.1)]
    go_enter Tryd.func24, Tryd.ntmps24
    go_wp2
    go_ret
    exact ⟨rfl, rfl⟩
theorem wr_small (z : Int) (h0 : 0 ≤ z) (h1 : z ≤ 1000000) : wrap64 z = z ∧ IntKind.i64.wrap z = z := by
  rw [IntKind.wrap_i64]
  unfold wrap64
  omega
theorem str_cut (l : List Int) (a b : Nat) : (strOfNums l).extract a b = strOfNums ((l.drop a).take (b - a)) := by
  apply ByteArray.ext
  apply Array.ext'
  rw [ByteArray.data_extract, Array.toList_extract, List.extract_eq_take_drop, strOfNums_data, strOfNums_data, List.map_take, List.map_drop]
theorem str_one (l : List Int) (k : Nat) (h : k < l.length) : ((strOfNums l).extract k (strOfNums l).size).extract 0 1 = strOfNums [l.getD k 0] := by
  rw [str_cut, str_cut, nums_size, List.drop_zero, Nat.sub_zero, List.take_take, show min 1 (l.length - k) = 1 by omega, List.drop_eq_getElem_cons h, List.getD_eq_getElem?_getD, List.getElem?_eq_getElem h]
  rfl
/-- What LzUnpack answers. -/
def unRef (p : ByteArray) : Value := if (un (bs p) []).2 = 0 then .tuple #[.string (strOfNums (un (bs p) []).1), .int .i64 0] else .tuple #[.string ⟨#[]⟩, .int .i64 (un (bs p) []).2]
set_option maxHeartbeats 4000000 in
set_option maxRecDepth 10000 in
theorem refUnpack_at (p : ByteArray) (w : World) (hp : p.size ≤ 10000) : Calls Tryd.prog 8 #[.string p] w fun e w' => e = .returned (unRef p) ∧ Bl w w' := by
  obtain ⟨U, hU⟩ : ∃ U, U = un (bs p) [] := ⟨_, rfl⟩
  obtain ⟨R, hR⟩ : ∃ R, R = unRef p := ⟨_, rfl⟩
  have HR : Hid (R = if U.2 = 0 then .tuple #[.string (strOfNums U.1), .int .i64 0] else .tuple #[.string ⟨#[]⟩, .int .i64 U.2]) := by rw [hR, hU]; rfl
  rw [← hR]
  have HU : Hid (un (bs p) [] = U) := hU.symm
  clear hU hR
  go_enter Tryd.func8, Tryd.ntmps8
  go_wp2
  go_loopw [0, 4, 5, 6, 7] (fun xv ov _ _ _ wr => ∃ (x : ByteArray) (t : List Int) (O : ByteArray), xv = .string x ∧ ov = .string O ∧ x.size ≤ 10000 ∧ O.size ≤ 4000 ∧ Hid (O = strOfNums t ∧ O.size = t.length ∧ Bl w wr ∧ un (bs x) t = U)) (fun xv _ _ _ _ _ => szOf xv)
  case atStart => exact ⟨p, [], ⟨#[]⟩, rfl, rfl, hp, by decide, ⟨rfl, rfl, Bl.refl _, HU.out⟩⟩
  case round =>
    clear HU
    obtain ⟨x, t, O, rfl, rfl, hx, hO, H⟩ := hrel
    by_cases h0 : 0 < x.size
    · obtain ⟨n1, n2⟩ := ne_empty (a := x) (by omega)
      have h0z : (0 : Int) < x.size := by omega
      have e0 := (sb_get x 0 h0).symm
      have b0 := sb_bd x 0
      obtain ⟨c, hc⟩ : ∃ c : Nat, sb x 0 = (c : Int) := ⟨(sb x 0).toNat, by omega⟩
      rw [hc] at e0 b0
      by_cases h1 : c < 128
      · have h1z : (c : Int) < 128 := by omega
        by_cases h2 : x.size < c + 2
        · have h2z : (x.size : Int) < (c : Int) + 2 := by omega
          have hw0 : wh x t.length = 0 := by unfold wh; rw [hc, if_pos h1z, Int.toNat_natCast, if_pos h2]
          have HE : Hid (R = .tuple #[.string ⟨#[]⟩, .int .i64 3]) := by
            have h1 := HR.out
            rw [← H.out.2.2.2, un_bad x t h0 hw0] at h1
            exact h1
          have HB : Hid (Bl w wr) := H.out.2.2.1
          clear hc hw0 H HR
          go_wp2
          go_ret2
          exact ⟨by rw [HE.out]; rfl, HB.out⟩
        · have h2z : ¬ (x.size : Int) < (c : Int) + 2 := by omega
          have hw0 : wh x t.length = c + 2 := by unfold wh; rw [hc, if_pos h1z, Int.toNat_natCast, if_neg h2]
          have hgd := un_good x t h0 (by omega)
          rw [hw0] at hgd
          obtain ⟨d, hd⟩ : ∃ d, d = c + 2 := ⟨_, rfl⟩
          have hdz : (c : Int) + 2 = (d : Int) := by omega
          have ht : tl (x.extract 0 d) t = t ++ bs (x.extract 1 d) := by
            unfold tl
            have hsz : (x.extract 0 d).size = d := by rw [ByteArray.size_extract]; omega
            rw [sb_cut x d 0 (by omega) (by omega), hc, if_pos h1z, hsz, cut_cut x 0 d 1 d (by omega), Nat.zero_add, Nat.zero_add]
          rw [← hd, ht] at hgd
          obtain ⟨X, hX⟩ : ∃ X, X = x.extract 1 d := ⟨_, rfl⟩
          have hex : x.extract 1 d = X := hX.symm
          rw [hex] at hgd
          have hXs : X.size ≤ 10000 := by rw [hX, ByteArray.size_extract]; omega
          have hOX : O ++ X = strOfNums (t ++ bs X) := by rw [← nums_append, str_bs, ← H.out.1]
          have hl1 : (t ++ bs X).length = O.size + X.size := by rw [List.length_append, bs_len, H.out.2.1]
          have hl2 : (O ++ X).size = O.size + X.size := by rw [hOX, nums_size, hl1]
          obtain ⟨Z, hZ⟩ : ∃ Z, Z = O ++ X := ⟨_, rfl⟩
          have hOZ : O ++ X = Z := hZ.symm
          have hbig : ¬ 9223372036854775807 < O.size + X.size := by omega
          have g1 : (1 : Int) ≤ (d : Int) := by omega
          have g2 : (d : Int) ≤ (x.size : Int) := by omega
          have g3 : 1 ≤ d := by omega
          have g4 : d ≤ x.size := by omega
          rw [← hZ] at hl2 hOX
          by_cases hbg : 4000 < Z.size
          · have hbz : (4000 : Int) < (Z.size : Int) := by omega
            have hE : un (bs x) t = ([], 4) := by rw [hgd, if_pos (by omega)]
            have HE : Hid (R = .tuple #[.string ⟨#[]⟩, .int .i64 4]) := by
              have h1 := HR.out
              rw [← H.out.2.2.2, hE] at h1
              exact h1
            have HB : Hid (Bl w wr) := H.out.2.2.1
            have hZs : Z.size ≤ 20000 := by omega
            clear hc hw0 H HR hgd ht hX hl1 hl2 hOX hd hZ hE
            go_wp2
            go_ret2
            exact ⟨by rw [HE.out]; rfl, HB.out⟩
          · have hbz : ¬ (4000 : Int) < (Z.size : Int) := by omega
            have HF : Hid (Z = strOfNums (t ++ bs X) ∧ Z.size = (t ++ bs X).length ∧ Bl w wr ∧ un (bs (x.extract d x.size)) (t ++ bs X) = U) := ⟨hOX, by omega, H.out.2.2.1, by rw [← H.out.2.2.2, hgd, if_neg (by omega)]⟩
            have hZs : Z.size ≤ 4000 := by omega
            clear hc hw0 H HR hgd ht hX hl1 hl2 hOX hd hZ
            go_wp2
            go_roundw
            case rel => exact ⟨_, _, Z, rfl, rfl, by rw [ByteArray.size_extract]; omega, hZs, HF⟩
            case measure =>
              show (x.extract d x.size).size < x.size
              rw [ByteArray.size_extract]
              omega
      · have h1z : ¬ (c : Int) < 128 := by omega
        by_cases h2 : x.size < 3
        · have h2z : (x.size : Int) < 3 := by omega
          have hw0 : wh x t.length = 0 := by unfold wh; rw [hc, if_neg h1z, if_pos h2]
          have HE : Hid (R = .tuple #[.string ⟨#[]⟩, .int .i64 3]) := by
            have h1 := HR.out
            rw [← H.out.2.2.2, un_bad x t h0 hw0] at h1
            exact h1
          have HB : Hid (Bl w wr) := H.out.2.2.1
          clear hc hw0 H HR
          go_wp2
          go_ret2
          exact ⟨by rw [HE.out]; rfl, HB.out⟩
        · have h2z : ¬ (x.size : Int) < 3 := by omega
          have b1 := sb_bd x 1
          have b2 := sb_bd x 2
          have e1 := (sb_get x 1 (by omega)).symm
          have e2 := (sb_get x 2 (by omega)).symm
          obtain ⟨q1, hq1⟩ : ∃ q : Nat, sb x 1 = (q : Int) := ⟨(sb x 1).toNat, by omega⟩
          obtain ⟨q2, hq2⟩ : ∃ q : Nat, sb x 2 = (q : Int) := ⟨(sb x 2).toNat, by omega⟩
          obtain ⟨f, hf⟩ : ∃ f : Nat, f = q1 * 256 + q2 := ⟨_, rfl⟩
          have hfe : sb x 1 * 256 + sb x 2 = (f : Int) := by rw [hq1, hq2, hf]; omega
          rw [hq1] at e1
          rw [hq2] at e2
          have hb1 : q1 < 256 := by omega
          have hb2 : q2 < 256 := by omega
          have hv4 : (q1 : Int) * 256 + (q2 : Int) = (f : Int) := by omega
          have hfb : f < 65536 := by omega
          have d1 : (1 : Int) < x.size := by omega
          have d2 : (2 : Int) < x.size := by omega
          have d3 : 1 < x.size := by omega
          have d4 : 2 < x.size := by omega
          obtain ⟨M, hM⟩ : ∃ M : Nat, M = min 1023 O.size := ⟨_, rfl⟩
          have hmin : (if (O.size : Int) < 1023 then (O.size : Int) else 1023) = (M : Int) := by split <;> omega
          have cW := fun w => within_at (f : Int) 1 (M : Int) w
          by_cases hin : (1 : Int) ≤ (f : Int) ∧ (f : Int) ≤ (M : Int)
          · have hO1 := H.out.2.1
            have hw0 : wh x t.length = 3 := by
              unfold wh
              rw [hc, if_neg h1z, if_neg h2, hfe, if_neg (by omega)]
            have hgd := un_good x t h0 (by omega)
            rw [hw0] at hgd
            obtain ⟨m, hm⟩ : ∃ m, m = c - 125 := ⟨_, rfl⟩
            have ht : tl (x.extract 0 3) t = cp t f m := by
              unfold tl
              rw [sb_cut x 3 0 (by omega) (by omega), sb_cut x 3 1 (by omega) (by omega), sb_cut x 3 2 (by omega) (by omega), hc, if_neg h1z, hfe, Int.toNat_natCast, Int.toNat_natCast, hm]
            rw [ht, cp_len] at hgd
            have hmz : (c : Int) - 125 = (m : Int) := by omega
            have hmb : m ≤ 130 := by omega
            have hf1 : 1 ≤ f := by omega
            have hf2 : f ≤ O.size := by omega
            have HG : Hid (un (bs x) t = if 4000 < t.length + m then ([], 4) else un (bs (x.extract 3 x.size)) (cp t f m)) := hgd
            have HT : Hid (O = strOfNums t ∧ t.length = O.size ∧ Bl w wr ∧ un (bs x) t = U) := ⟨H.out.1, H.out.2.1.symm, H.out.2.2⟩
            rw [decide_eq_true hin] at cW
            obtain ⟨S, hS⟩ : ∃ S, S = O.size := ⟨_, rfl⟩
            have HS : Hid (S = O.size) := hS
            have hS1 : S ≤ 4000 := by omega
            have hS2 : f ≤ S := by omega
            clear hc hw0 H hfe hq1 hq2 hf hM b1 b2 hin hgd ht hm hO1 hS
            go_wp2
            go_quiet (fail)
            clear hv4
            go_wp2_with (go_at_call 24; refine (cW _).mono ?_; rintro e w2 ⟨rfl, rfl⟩)
            have HB : Hid (Bl w (wr.drewN nq)) := HT.out.2.2.1.drewN _
            generalize wr.drewN nq = wz at HB ⊢
            go_loopw [4, 7] (fun ov nv wq => ∃ (i j : Nat) (Z : ByteArray), i + j = m ∧ nv = .int .i64 (j : Int) ∧ ov = .string Z ∧ Z.size = S + i ∧ Hid (Z = strOfNums (cp t f i) ∧ Bl w wq)) (fun _ nv _ => (intOf nv).toNat)
            case atStart => exact ⟨0, m, O, by omega, rfl, rfl, HS.out.symm, ⟨HT.out.1, HB.out⟩⟩
            case round =>
              clear HB
              obtain ⟨i, j, Z, hij, rfl, rfl, hZ, HZ⟩ := hrel
              obtain ⟨K, hK⟩ : ∃ K, K = Z.size := ⟨_, rfl⟩
              by_cases hj : 0 < j
              · have hjz : (0 : Int) < (j : Int) := by omega
                obtain ⟨j', rfl⟩ : ∃ j', j = j' + 1 := ⟨j - 1, by omega⟩
                have hcl := cp_len t f i
                have hlt := HT.out.2.1
                have hSO := HS.out
                obtain ⟨k, hk⟩ : ∃ k, k = Z.size - f := ⟨_, rfl⟩
                have hkz : (Z.size : Int) - (f : Int) = (k : Int) := by omega
                have h1 := str_one (cp t f i) k (by omega)
                rw [← HZ.out.1] at h1
                obtain ⟨Y, hY⟩ : ∃ Y, Y = (Z.extract k Z.size).extract 0 1 := ⟨_, rfl⟩
                have hYs : Y.size = 1 := by rw [hY, h1, nums_size]; rfl
                have hey : (Z.extract k Z.size).extract 0 1 = Y := hY.symm
                have hnx : Z ++ Y = strOfNums (cp t f (i + 1)) := by
                  rw [hY, h1]
                  conv => lhs; rw [HZ.out.1]
                  rw [nums_append, cp, hcl, show t.length + i - f = k by omega]
                have hZb : Z.size ≤ 5000 := by omega
                have hbig : ¬ 9223372036854775807 < Z.size + Y.size := by omega
                have g1 : (k : Int) ≤ (Z.size : Int) := by omega
                have g2 : k ≤ Z.size := by omega
                have g3 : (1 : Int) ≤ ((Z.extract k Z.size).size : Int) := by rw [ByteArray.size_extract]; omega
                have g4 : 1 ≤ (Z.extract k Z.size).size := by rw [ByteArray.size_extract]; omega
                obtain ⟨V, hV⟩ : ∃ V, V = Z ++ Y := ⟨_, rfl⟩
                have hZY : Z ++ Y = V := hV.symm
                have HN : Hid (V = strOfNums (cp t f (i + 1)) ∧ V.size = S + (i + 1)) := by
                  refine ⟨by rw [hV, hnx], ?_⟩
                  rw [hV, hnx, nums_size, cp_len]
                  omega
                have hjs : ((j' + 1 : Nat) : Int) - 1 = (j' : Int) := by omega
                obtain ⟨X, hX⟩ : ∃ X, X = Z.extract k Z.size := ⟨_, rfl⟩
                have hZX : Z.extract k Z.size = X := hX.symm
                rw [hZX] at hey g3 g4
                have HB : Hid (Bl w wr) := HZ.out.2
                clear hcl hlt hSO hk h1 hY hYs hnx hV HZ hK hX hZ
                go_wp2
                go_roundw
                case rel => exact ⟨i + 1, j', V, by omega, by go_num, rfl, HN.out.2, ⟨HN.out.1, HB.out⟩⟩
                case measure => simp [intOf]
              · have hjz : ¬ (0 : Int) < (j : Int) := by omega
                obtain rfl : j = 0 := by omega
                obtain rfl : i = m := by omega
                have hlt := HT.out.2.1
                have hSO := HS.out
                by_cases hbg : 4000 < Z.size
                · have hbz : (4000 : Int) < (Z.size : Int) := by omega
                  have hE : un (bs x) t = ([], 4) := by rw [HG.out, if_pos (by omega)]
                  have HE : Hid (R = .tuple #[.string ⟨#[]⟩, .int .i64 4]) := by
                    have h1 := HR.out
                    rw [← HT.out.2.2.2, hE] at h1
                    exact h1
                  have HB : Hid (Bl w wr) := HZ.out.2
                  have hZs : Z.size ≤ 20000 := by omega
                  clear hlt hSO hE HR HZ HT HG HS hZ hK
                  go_wp2
                  go_ret2
                  exact ⟨by rw [HE.out]; rfl, HB.out⟩
                · have hbz : ¬ (4000 : Int) < (Z.size : Int) := by omega
                  have HF : Hid (Z = strOfNums (cp t f i) ∧ Z.size = (cp t f i).length ∧ Bl w wr ∧ un (bs (x.extract 3 x.size)) (cp t f i) = U) := ⟨HZ.out.1, by rw [cp_len]; omega, HZ.out.2, by rw [← HT.out.2.2.2, HG.out, if_neg (by omega)]⟩
                  have hZs : Z.size ≤ 4000 := by omega
                  clear hlt hSO HR HZ HT HG HS hZ hK
                  go_wp2
                  go_roundw
                  case rel => exact ⟨_, _, Z, rfl, rfl, by rw [ByteArray.size_extract]; omega, hZs, HF⟩
                  case measure =>
                    show (x.extract 3 x.size).size < x.size
                    rw [ByteArray.size_extract]
                    omega
          · have hw0 : wh x t.length = 0 := by
              unfold wh
              rw [hc, if_neg h1z, if_neg h2, hfe, if_pos (by have := H.out.2.1; omega)]
            have HE : Hid (R = .tuple #[.string ⟨#[]⟩, .int .i64 3]) := by
              have h1 := HR.out
              rw [← H.out.2.2.2, un_bad x t h0 hw0] at h1
              exact h1
            have HB : Hid (Bl w wr) := H.out.2.2.1
            rw [decide_eq_false hin] at cW
            clear hc hw0 H HR hfe hq1 hq2 hf hM b1 b2 hin
            go_wp2
            go_quiet (fail)
            clear hv4
            go_wp2_with (go_at_call 24; refine (cW _).mono ?_; rintro e w2 ⟨rfl, rfl⟩)
            go_ret2
            exact ⟨by rw [HE.out]; rfl, HB.out.drewN _⟩
    · have h0e : x = ⟨#[]⟩ := eq_empty (by omega)
      have hE : un (bs x) t = (t, 0) := by rw [un, dif_pos (by rw [bs_len]; omega)]
      have HE : Hid (R = .tuple #[.string O, .int .i64 0]) := by
        have h1 := HR.out
        rw [← H.out.2.2.2, hE] at h1
        rw [H.out.1]
        exact h1
      have HB : Hid (Bl w wr) := H.out.2.2.1
      clear hE HR H
      subst h0e
      go_wp2
      go_ret2
      exact ⟨by rw [HE.out]; rfl, HB.out⟩
end Go.Proofs.YtmchpmfogjhpoaaDoor.lzr
