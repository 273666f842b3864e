/- The text that Pack writes just so. -/
import Derived.Test.YtkldnapbeebdkaaHi5
namespace Go.Proofs.Ytkldnapbeebdkaa.hi
set_option linter.unusedVariables false
open Go.ChangeShapes Go.WideShapes Go.ChangeAt Go.RowKit Go.Maps
open mem rows hg hh bit bitw
theorem bits_len {s : ByteArray} (hs : s.size ≤ 4000) : (bits s).length ≤ 68000 := by
  have h := bits_bd (s := s) (D := lensT s) (S := signsT s) (M := 17) (fun c hc => by have := ((lensT_facts hs).1 c hc).2.1; omega) s.size
  unfold bits
  omega
/-- All of a text is read. -/
theorem way_has {s q : ByteArray} (hs : s.size ≤ 4000) (hq : q = strOfNums (bytesOf (gb (bits s)) true (((bits s).length + 7) / 8))) : ∀ k, k ≤ s.size → Way (mf (lensT s) (signsT s) 256) q k ((List.range k).map (sb s)) (bk (lensT s) (signsT s) s k).length
  | 0, _ => ⟨rfl, rfl⟩
  | k + 1, hk => by
    refine ⟨_, _, _, _, way_has hs hq k (by omega), sign_at hs hq (by omega), ?_, ?_⟩
    · rw [List.range_succ, List.map_append]; rfl
    · rw [bk_succ, List.length_append, sgb_len]
theorem packT_inj {s t : ByteArray} (hs : s.size ≤ 4000) (ht : t.size ≤ 4000) (h : packT s = packT t) : s = t := by
  have e0 := packT_num hs 0 (by omega)
  have e1 := packT_num hs 1 (by omega)
  have e2 := packT_num hs 2 (by omega)
  have f0 := packT_num ht 0 (by omega)
  have f1 := packT_num ht 1 (by omega)
  have f2 := packT_num ht 2 (by omega)
  rw [h] at e0 e1 e2
  rw [e0] at f0
  rw [e1] at f1
  rw [e2] at f2
  simp at f0 f1 f2
  have hz : s.size = t.size := by omega
  have hl := lens_read hs
  rw [h, lens_read ht] at hl
  have hq := text_read hs
  rw [h, text_read ht] at hq
  have hS : signsT s = signsT t := by unfold signsT; rw [hl]
  have hw := way_has hs rfl s.size (Nat.le_refl _)
  rw [← hl, hS, ← hq] at hw
  have := (way_is ht rfl s.size _ _ (by omega) hw).1
  rw [← way_text s, this, hz, way_text t]
theorem i64_or_nat (X Y : Nat) (hX : X < 16777216) (hY : Y < 16777216) : Go.bits .or .i64 (X : Int) (Y : Int) = ((X ||| Y : Nat) : Int) := by
  have h1 : (BitVec.ofInt 64 (X : Int)).toNat = X := by rw [BitVec.toNat_ofInt]; omega
  have h2 : (BitVec.ofInt 64 (Y : Int)).toNat = Y := by rw [BitVec.toNat_ofInt]; omega
  have h3 : X ||| Y < 2 ^ 24 := Nat.or_lt_two_pow (by omega) (by omega)
  have h4 : (2 : Nat) ^ 24 = 16777216 := by decide
  show IntKind.i64.wrap ((BitVec.ofInt 64 (X : Int) ||| BitVec.ofInt 64 (Y : Int)).toNat : Nat) = _
  rw [BitVec.toNat_or, h1, h2, IntKind.wrap_i64]
  omega
theorem or3 (a b c : Nat) (ha : a < 256) (hb : b < 256) (hc : c < 256) :
    Go.bits .or .i64 (Go.bits .or .i64 ((a : Int) * 65536) ((b : Int) * 256)) (c : Int) = ((a * 65536 + b * 256 + c : Nat) : Int) := by
  have e1 : (a : Int) * 65536 = ((a * 65536 : Nat) : Int) := by omega
  have e2 : (b : Int) * 256 = ((b * 256 : Nat) : Int) := by omega
  have f1 : a * 65536 ||| b * 256 = (a * 256 + b) * 256 := by
    have := Nat.shiftLeft_add_eq_or_of_lt (i := 16) (b := b * 256) (by omega) a
    rw [Nat.shiftLeft_eq, show (2 : Nat) ^ 16 = 65536 from rfl] at this
    rw [← this]
    omega
  have f2 : (a * 256 + b) * 256 ||| c = a * 65536 + b * 256 + c := by
    have := Nat.shiftLeft_add_eq_or_of_lt (i := 8) (b := c) (by omega) (a * 256 + b)
    rw [Nat.shiftLeft_eq, show (2 : Nat) ^ 8 = 256 from rfl] at this
    rw [← this]
    omega
  rw [e1, e2, i64_or_nat _ _ (by omega) (by omega), f1, i64_or_nat _ _ (by omega) (by omega), f2]
theorem toList_beq (a b : ByteArray) : (a.toList == b.toList) = decide (a = b) := by
  rw [Bool.eq_iff_iff, beq_iff_eq, decide_eq_true_iff, ByteArray.toList_eq, ByteArray.toList_eq]
  constructor
  · intro h
    obtain ⟨⟨x⟩⟩ := a
    obtain ⟨⟨y⟩⟩ := b
    simp at h
    rw [h]
  · intro h; rw [h]
set_option maxHeartbeats 4000000 in
theorem Unpack_at (p : ByteArray) (w : World) (hp : p.size ≤ 100000) : Calls Try.prog 14 #[.string p] w fun e w' => Bl w w' ∧
    ((∃ t, t.size ≤ 4000 ∧ packT t = p ∧ e = .returned (.tuple #[.string t, .nilIface])) ∨
     (Why p ∧ e = .returned (.tuple #[.string "".toUTF8, .iface 49 (.int .i64 3)]))) := by
  by_cases h259 : p.size < 259
  · have hz : (p.size : Int) < 259 := by omega
    go_enter Try.func14, Try.ntmps14
    go_wp2
    go_ret2
    exact ⟨Bl.refl _, Or.inr ⟨Or.inl h259, rfl⟩⟩
  · have hz : ¬ (p.size : Int) < 259 := by omega
    have cS := bySigns_at (p.extract 0 256) w (by rw [ByteArray.size_extract]; omega)
    go_enter Try.func14, Try.ntmps14
    go_wp2_with fail
    refine cS.mono ?_
    clear cS
    rintro e w1 ⟨hb1, ⟨i, hno, rfl⟩ | ⟨hok, htk, b, rfl, hbz, hM⟩⟩
    · have HN : Hid (Bl w w1 ∧ Why p) := ⟨hb1, Or.inr (Or.inl hno)⟩
      clear hb1 hno
      go_wp2
      go_ret2
      exact ⟨HN.out.1, Or.inr ⟨HN.out.2, rfl⟩⟩
    · have HM : Hid (Bl w w1 ∧ Mp w1 b (mf (bl (p.extract 0 256) 256 256) (signsOf (bl (p.extract 0 256) 256 256)) 256) 256) := ⟨hb1, hM⟩
      clear hb1 hok htk hbz hM
      have h6 : (256 : Int) < p.size := by omega
      have h7 : (257 : Int) < p.size := by omega
      have h8 : (258 : Int) < p.size := by omega
      go_wp2_with fail
      have n6 : 256 < p.size := by omega
      have n7 : 257 < p.size := by omega
      have n8 : 258 < p.size := by omega
      obtain ⟨n, hn⟩ : ∃ n, n = (p[256]'n6).toNat * 65536 + (p[257]'n7).toNat * 256 + (p[258]'n8).toNat := ⟨_, rfl⟩
      have hb6 := (p[256]'n6).toNat_lt
      have hb7 := (p[257]'n7).toNat_lt
      have hb8 := (p[258]'n8).toNat_lt
      have hor := or3 (p[256]'n6).toNat (p[257]'n7).toNat (p[258]'n8).toNat (by omega) (by omega) (by omega)
      rw [← hn] at hor
      have hns : (n : Int) = sb p 256 * 65536 + sb p 257 * 256 + sb p 258 := by rw [sb_get p 256 n6, sb_get p 257 n7, sb_get p 258 n8]; omega
      have hnb : n ≤ 16777215 := by omega
      have HNS : Hid _ := hns
      clear hns hn
      go_quiet (fail)
      have HD : Hid (Bl w (w1.drewN nq) ∧ Mp (w1.drewN nq) b (mf (bl (p.extract 0 256) 256 256) (signsOf (bl (p.extract 0 256) 256 256)) 256) 256) := ⟨HM.out.1.drewN nq, HM.out.2⟩
      clear HM hor hb6 hb7 hb8
      generalize w1.drewN nq = w2 at HD ⊢
      have cR := read_at (p.extract 259 p.size) n b 256 _ w2 HD.out.2 (by rw [ByteArray.size_extract]; omega) hnb
      go_wp2_with fail
      refine cR.mono ?_
      clear cR
      rintro e w3 ⟨hb3, ⟨zs, hn4, ⟨A, hway⟩, rfl⟩ | ⟨i, hno, rfl⟩⟩
      · have hzl := hway.bd.1
        have hts : (strOfNums zs).size ≤ 4000 := by rw [strOfNums_size]; omega
        obtain ⟨t, ht⟩ : ∃ t, t = strOfNums zs := ⟨_, rfl⟩
        rw [← ht] at hts ⊢
        have cP := Pack_at t w3 hts
        have HW : Hid (Bl w w3 ∧ (packT t ≠ p → Why p)) := by
          refine ⟨HD.out.1.trans hb3, fun hne => Or.inr (Or.inr ⟨n, HNS.out, Or.inr (Or.inr ⟨zs, A, hway, ?_⟩)⟩)⟩
          rw [← ht]
          exact hne
        clear hb3 hway HD HNS ht hzl
        go_wp2_with fail
        refine cP.mono ?_
        clear cP
        rintro e w4 ⟨rfl, hb4⟩
        have HW4 : Hid (Bl w w4) := HW.out.1.trans hb4
        clear hb4
        by_cases heq : packT t = p
        · rw [heq]
          go_wp2
          go_ret2
          exact ⟨HW4.out, Or.inl ⟨t, hts, heq, rfl⟩⟩
        · have HY : Hid (Why p) := HW.out.2 heq
          have hbq : ((packT t).toList == p.toList) = false := by rw [toList_beq, decide_eq_false heq]
          clear HW
          go_wp2
          go_ret2
          exact ⟨HW4.out, Or.inr ⟨HY.out, rfl⟩⟩
      · have HW : Hid (Bl w w3 ∧ Why p) := by
          refine ⟨HD.out.1.trans hb3, Or.inr (Or.inr ⟨n, HNS.out, ?_⟩)⟩
          rcases hno with h | h
          · exact Or.inl h
          · exact Or.inr (Or.inl h)
        clear hb3 hno HD HNS
        go_wp2
        go_ret2
        exact ⟨HW.out.1, Or.inr ⟨HW.out.2, rfl⟩⟩
end Go.Proofs.Ytkldnapbeebdkaa.hi
