/- What lz.Unpack answers. -/
import Derived.Test.YtmchpmfogjhpoaaDoorLz7
namespace Go.Proofs.YtmchpmfogjhpoaaDoor.lz
set_option linter.unusedVariables false
open Go.ChangeShapes Go.WideShapes Go.ChangeAt Go.RowKit
open mem rows

theorem bs_cut (s : ByteArray) (a b : Nat) : bs (s.extract a b) = ((bs s).drop a).take (b - a) := by
  unfold bs
  rw [ByteArray.data_extract, Array.toList_extract, List.extract_eq_take_drop, List.map_take, List.map_drop]
theorem sb_cut (x : ByteArray) (n i : Nat) (hi : i < n) (hn : n ≤ x.size) : sb (x.extract 0 n) i = sb x i := by
  rw [← bs_get, ← bs_get, bs_cut, List.drop_zero, Nat.sub_zero, List.getD_eq_getElem?_getD, List.getElem?_take, if_pos hi, ← List.getD_eq_getElem?_getD]
/-- What was told, and what a piece tells. -/
def tl (p : ByteArray) (t : List Int) : List Int := if sb p 0 < 128 then t ++ bs (p.extract 1 p.size) else cp t (sb p 1 * 256 + sb p 2).toNat ((sb p 0).toNat - 125)
theorem wh_le (x : ByteArray) (k : Nat) : wh x k ≤ x.size ∧ wh x k ≤ 300 ∧ (sb x 0 < 128 → wh x k ≠ 0 → wh x k = (sb x 0).toNat + 2) ∧ (¬ sb x 0 < 128 → wh x k ≠ 0 → wh x k = 3 ∧ 1 ≤ sb x 1 * 256 + sb x 2 ∧ sb x 1 * 256 + sb x 2 ≤ (k : Int)) := by
  have b0 := sb_bd x 0
  unfold wh
  by_cases c : sb x 0 < 128
  · rw [if_pos c]
    by_cases h : x.size < (sb x 0).toNat + 2
    · rw [if_pos h]
      exact ⟨by omega, by omega, fun _ h => absurd rfl h, fun h => absurd c h⟩
    · rw [if_neg h]
      exact ⟨by omega, by omega, fun _ _ => rfl, fun h => absurd c h⟩
  · rw [if_neg c]
    by_cases h : x.size < 3
    · rw [if_pos h]
      exact ⟨by omega, by omega, fun h => absurd h c, fun _ h => absurd rfl h⟩
    · rw [if_neg h]
      by_cases h2 : sb x 1 * 256 + sb x 2 < 1 ∨ 1023 < sb x 1 * 256 + sb x 2 ∨ (k : Int) < sb x 1 * 256 + sb x 2
      · rw [if_pos h2]
        exact ⟨by omega, by omega, fun h => absurd h c, fun _ h => absurd rfl h⟩
      · rw [if_neg h2]
        exact ⟨by omega, by omega, fun h => absurd h c, fun _ _ => ⟨rfl, by omega, by omega⟩⟩
theorem un_bad (x : ByteArray) (t : List Int) (hx : 1 ≤ x.size) (h : wh x t.length = 0) : un (bs x) t = ([], 3) := by
  have b0 := sb_bd x 0
  unfold wh at h
  rw [un, dif_neg (by rw [bs_len]; omega), bs_get, bs_get, bs_get, bs_len]
  by_cases c : sb x 0 < 128
  · rw [if_pos c]
    rw [if_pos c] at h
    by_cases h2 : x.size < (sb x 0).toNat + 2
    · rw [if_pos h2]
    · rw [if_neg h2] at h
      omega
  · rw [if_neg c]
    rw [if_neg c] at h
    by_cases h2 : x.size < 3
    · rw [if_pos h2]
    · rw [if_neg h2]
      rw [if_neg h2] at h
      by_cases h3 : sb x 1 * 256 + sb x 2 < 1 ∨ 1023 < sb x 1 * 256 + sb x 2 ∨ (t.length : Int) < sb x 1 * 256 + sb x 2
      · rw [if_pos h3]
      · rw [if_neg h3] at h
        omega
theorem un_good (x : ByteArray) (t : List Int) (hx : 1 ≤ x.size) (h : wh x t.length ≠ 0) :
    un (bs x) t = if 4000 < (tl (x.extract 0 (wh x t.length)) t).length then ([], 4) else un (bs (x.extract (wh x t.length) x.size)) (tl (x.extract 0 (wh x t.length)) t) := by
  have b0 := sb_bd x 0
  obtain ⟨h1, h2, h3, h4⟩ := wh_le x t.length
  have hrest : bs (x.extract (wh x t.length) x.size) = (bs x).drop (wh x t.length) := by
    rw [bs_cut, List.take_of_length_le]
    rw [List.length_drop, bs_len]
    omega
  rw [hrest]
  by_cases c : sb x 0 < 128
  · have e := h3 c h
    have ht : tl (x.extract 0 (wh x t.length)) t = t ++ ((bs x).drop 1).take ((sb x 0).toNat + 1) := by
      unfold tl
      rw [sb_cut x _ 0 (by omega) h1, if_pos c, bs_cut, bs_cut, ByteArray.size_extract, List.drop_zero, Nat.sub_zero, Nat.sub_zero, List.drop_take, List.take_take]
      have e9 : ∀ a b : Nat, a = b → t ++ ((bs x).drop 1).take a = t ++ ((bs x).drop 1).take b := fun a b h => by rw [h]
      exact e9 _ _ (by omega)
    rw [ht, un, dif_neg (by rw [bs_len]; omega), bs_get, if_pos c, bs_len, if_neg (by omega), e]
  · obtain ⟨e, h5, h6⟩ := h4 c h
    have ht : tl (x.extract 0 (wh x t.length)) t = cp t (sb x 1 * 256 + sb x 2).toNat ((sb x 0).toNat - 125) := by
      unfold tl
      rw [sb_cut x _ 0 (by omega) h1, sb_cut x _ 1 (by omega) h1, sb_cut x _ 2 (by omega) h1, if_neg c]
    have h7 : ¬ (sb x 1 * 256 + sb x 2 < 1 ∨ 1023 < sb x 1 * 256 + sb x 2 ∨ (t.length : Int) < sb x 1 * 256 + sb x 2) := fun h8 => h (by unfold wh; rw [if_neg c, if_neg (by omega), if_pos h8])
    rw [ht, un, dif_neg (by rw [bs_len]; omega), bs_get, bs_get, bs_get, if_neg c, bs_len, if_neg (by omega), if_neg h7, e]
theorem tell_at (x : ByteArray) (n : Nat) (v : Value) (l : List Int) (w0 w : World) (hx : 1 ≤ x.size) (hn : n = wh x l.length) (h0 : n ≠ 0) (hl : l.length ≤ 10000) (hb : Bl w0 w) (ho : BOwn w w0.heap.size v l) :
    Calls Tryd.prog 26 #[v, .string (x.extract 0 n)] w fun e w' => ∃ v', e = .returned v' ∧ BOwn w' w0.heap.size v' (tl (x.extract 0 n) l) ∧ Bl w0 w' := by
  obtain ⟨h1, h2, h3, h4⟩ := wh_le x l.length
  rw [← hn] at h1 h2 h3 h4
  have hs : (x.extract 0 n).size = n := by rw [ByteArray.size_extract]; omega
  have b0 := sb_bd x 0
  have h2n : 2 ≤ n := by
    by_cases c : sb x 0 < 128
    · have := h3 c h0; omega
    · have := h4 c h0; omega
  have s0 := sb_cut x n 0 (by omega) h1
  unfold tl
  by_cases c : sb (x.extract 0 n) 0 < 128
  · rw [if_pos c]
    exact tell_plain _ v l w0 w (by omega) (by omega) c hl hb ho
  · rw [if_neg c]
    obtain ⟨e, h5, h6⟩ := h4 (by rw [← s0]; exact c) h0
    have s1 := sb_cut x n 1 (by omega) h1
    have s2 := sb_cut x n 2 (by omega) h1
    exact tell_again _ v l w0 w (by omega) (by omega) c hl (by rw [s1, s2]; exact h5) (by rw [s1, s2]; exact h6) hb ho
def szOf : Value → Nat
  | .string x => x.size
  | _ => 0
theorem tl_len (x : ByteArray) (t : List Int) (n : Nat) (hn : n = wh x t.length) : (tl (x.extract 0 n) t).length ≤ t.length + 600 := by
  obtain ⟨h1, h2, h3, h4⟩ := wh_le x t.length
  rw [← hn] at h1 h2
  unfold tl
  have b0 := sb_bd (x.extract 0 n) 0
  split
  · rw [List.length_append, bs_len, ByteArray.size_extract, ByteArray.size_extract]; omega
  · rw [cp_len]; omega
/-- What Unpack answers. -/
def unAns (p : ByteArray) : Value := if (un (bs p) []).2 = 0 then .tuple #[.string (strOfNums (un (bs p) []).1), .nilIface] else .tuple #[.string ⟨#[]⟩, .iface 22 (.int .i64 (un (bs p) []).2)]
set_option maxRecDepth 10000 in
set_option maxHeartbeats 1000000 in
theorem Unpack_at (p : ByteArray) (w : World) (hp : p.size ≤ 10000) : Calls Tryd.prog 9 #[.string p] w fun e w' => e = .returned (unAns p) ∧ Bl w w' := by
  obtain ⟨base, hbase⟩ : ∃ b, b = w.heap.size := ⟨_, rfl⟩
  have HBA : Hid (base = w.heap.size) := hbase
  obtain ⟨U, hU⟩ : ∃ U, U = un (bs p) [] := ⟨_, rfl⟩
  obtain ⟨R, hR⟩ : ∃ R, R = unAns p := ⟨_, rfl⟩
  have HR : Hid (R = if U.2 = 0 then .tuple #[.string (strOfNums U.1), .nilIface] else .tuple #[.string ⟨#[]⟩, .iface 22 (.int .i64 U.2)]) := by rw [hR, hU]; rfl
  rw [← hR]
  have HU : Hid (un (bs p) [] = U) := hU.symm
  clear hU hR hbase
  go_enter Tryd.func9, Tryd.ntmps9
  go_wp2
  go_loopw [0, 4, 5] (fun xv vv _ wr => ∃ (x : ByteArray) (t : List Int), xv = .string x ∧ x.size ≤ 10000 ∧ t.length ≤ 4000 ∧ Hid (BOwn wr base vv t ∧ Bl w wr ∧ un (bs x) t = U)) (fun xv _ _ _ => szOf xv)
  case atStart => exact ⟨p, [], rfl, hp, by simp, ⟨BOwn.nil _ _, Bl.refl _, HU.out⟩⟩
  case round =>
    clear HU
    obtain ⟨x, t, rfl, hx, ht, H⟩ := hrel
    by_cases h0 : 0 < x.size
    · have h0z : (0 : Int) < x.size := by omega
      obtain ⟨q, c, hv⟩ := H.out.1.slice
      obtain ⟨k, hk⟩ : ∃ k, k = t.length := ⟨_, rfl⟩
      rw [← hk] at hv
      subst hv
      have cW := fun w => whole_at x k w h0 (by omega) (by omega)
      obtain ⟨n, hn⟩ : ∃ n, n = wh x k := ⟨_, rfl⟩
      rw [← hn] at cW
      have hwl := wh_le x k
      rw [← hn] at hwl
      have hn1 : n ≤ x.size := hwl.1
      have hn2 : n ≤ 300 := hwl.2.1
      have HN : Hid (n = wh x t.length ∧ k = t.length) := ⟨by rw [hn, hk], hk⟩
      clear hwl hn hk
      go_wp2_with fail
      refine (cW _).mono ?_
      rintro e w2 ⟨rfl, hd⟩
      have HQ : Hid (BOwn w2 base (.slice q k c) t ∧ Bl w w2 ∧ un (bs x) t = U) := ⟨H.out.1.step hd.bl, H.out.2.1.trans hd.bl, H.out.2.2⟩
      clear cW H hd
      by_cases hz : n = 0
      · have hE : un (bs x) t = ([], 3) := un_bad x t h0 (by rw [← HN.out.1]; exact hz)
        have HE : Hid (R = .tuple #[.string ⟨#[]⟩, .iface 22 (.int .i64 3)]) := by
          have h1 := HR.out
          rw [← HQ.out.2.2, hE] at h1
          exact h1
        clear hE HR
        subst hz
        go_wp2
        go_ret2
        exact ⟨by rw [HE.out]; rfl, HQ.out.2.1⟩
      · have hnz : ((n : Int) == 0) = false := by rw [beq_eq_false_iff_ne]; omega
        obtain ⟨y, hy⟩ : ∃ y, y = x.extract 0 n := ⟨_, rfl⟩
        have hyx : x.extract 0 n = y := hy.symm
        have hB : base = w.heap.size := HBA.out
        have cT := tell_at x n (.slice q k c) t w w2 h0 HN.out.1 hz (by omega) HQ.out.2.1 (by rw [← hB]; exact HQ.out.1)
        have hgd := un_good x t h0 (by rw [← HN.out.1]; exact hz)
        have hlen := tl_len x t n HN.out.1
        rw [← HN.out.1, hyx] at hgd
        rw [hyx, ← hB] at cT
        rw [hyx] at hlen
        obtain ⟨t', ht'⟩ : ∃ t', t' = tl y t := ⟨_, rfl⟩
        rw [← ht'] at cT hgd hlen
        have HG : Hid _ := hgd
        have g1 : (0 : Int) ≤ (n : Int) := by omega
        have g2 : (n : Int) ≤ (x.size : Int) := by omega
        clear hB hgd hy ht'
        go_wp2_with fail
        refine cT.mono ?_
        clear cT
        rintro e w3 ⟨v3, rfl, ho3, hb3⟩
        obtain ⟨q3, c3, hv3⟩ := ho3.slice
        obtain ⟨m, hm⟩ : ∃ m, m = t'.length := ⟨_, rfl⟩
        rw [← hm] at hv3
        subst hv3
        by_cases hbig : 4000 < m
        · have hbz : (4000 : Int) < m := by omega
          have hE : un (bs x) t = ([], 4) := by rw [HG.out, if_pos (by omega)]
          have HE : Hid (R = .tuple #[.string ⟨#[]⟩, .iface 22 (.int .i64 4)]) := by
            have h1 := HR.out
            rw [← HQ.out.2.2, hE] at h1
            exact h1
          have HB3 : Hid (Bl w w3) := hb3
          clear hE HR hm ho3 hb3
          go_wp2
          go_ret2
          exact ⟨by rw [HE.out]; rfl, HB3.out⟩
        · have hbz : ¬ (4000 : Int) < m := by omega
          have HF : Hid (BOwn w3 base (.slice q3 m c3) t' ∧ Bl w w3 ∧ un (bs (x.extract n x.size)) t' = U) := ⟨ho3, hb3, by rw [← HQ.out.2.2, HG.out, if_neg (by omega)]⟩
          have htl : t'.length ≤ 4000 := by omega
          have hn0 : 1 ≤ n := by omega
          clear ho3 hb3 hm
          go_wp2
          go_roundw
          case rel => exact ⟨_, t', rfl, by rw [ByteArray.size_extract]; omega, htl, HF⟩
          case measure =>
            show (x.extract n x.size).size < x.size
            rw [ByteArray.size_extract]
            omega
    · have h0z : ¬ (0 : Int) < x.size := by omega
      have hE : un (bs x) t = (t, 0) := by rw [un, dif_pos (by rw [bs_len]; omega)]
      have HE : Hid (R = .tuple #[.string (strOfNums t), .nilIface]) := by
        have h1 := HR.out
        rw [← H.out.2.2, hE] at h1
        exact h1
      have htx := H.out.1.text
      have hx0 : x.size = 0 := by omega
      have HB3 : Hid (Bl w wr) := H.out.2.1
      clear hE HR H
      go_wp2
      go_ret2
      exact ⟨by rw [HE.out]; rfl, HB3.out⟩
end Go.Proofs.YtmchpmfogjhpoaaDoor.lz
