/- What row of package xxd answers: bytes as digits, in groups. -/
import Derived.Test.YtmchpmfogjhpoabDoorBld
import Derived.Test.YtmchpmfogjhpoabDoorDigs4
namespace Go.Proofs.YtmchpmfogjhpoabDoor.xd
set_option linter.unusedVariables false
open Go.ChangeShapes Go.WideShapes Go.ChangeAt Go.RowKit Go.Shelf
open mem rows bld
open dig (ch)
open digs (hex_at)

/-- Numbers as bytes. -/
def ub (l : List Int) : List UInt8 := l.map fun z => UInt8.ofNat z.toNat
theorem ub_app (a b : List Int) : ub (a ++ b) = ub a ++ ub b := by simp [ub]
theorem ub_len (l : List Int) : (ub l).length = l.length := by simp [ub]
theorem ub_str (l : List Int) : (strOfNums l).data.toList = ub l := by rw [strOfNums_data]; rfl
theorem str_ub (l : List Int) : (⟨(ub l).toArray⟩ : ByteArray) = strOfNums l := by
  apply ByteArray.ext
  apply Array.ext'
  rw [ub_str]
/-- Byte i of a text, as two digits. -/
def hx (s : ByteArray) (i : Nat) : List Int := [ch ((sb s i).toNat / 16), ch ((sb s i).toNat % 16)]
/-- The first i bytes' places of a line. -/
def rwl (s : ByteArray) (g : Nat) : Nat → List Int
  | 0 => []
  | i + 1 => rwl s g i ++ (if i % g = 0 then [32] else []) ++ (if i < s.size then hx s i else [32, 32])
theorem rwl_len (s : ByteArray) (g : Nat) : ∀ i, (rwl s g i).length ≤ 3 * i
  | 0 => by simp [rwl]
  | i + 1 => by
    have := rwl_len s g i
    rw [rwl, List.length_append, List.length_append]
    have h1 : (if i % g = 0 then [(32 : Int)] else []).length ≤ 1 := by split <;> simp
    have h2 : (if i < s.size then hx s i else [32, 32]).length = 2 := by split <;> rfl
    omega
theorem hex_one (s : ByteArray) (i : Nat) (h : i < s.size) : strOfNums (digs.hexL (s.extract i (i + 1)) (s.extract i (i + 1)).size) = strOfNums (hx s i) := by
  have hs : (s.extract i (i + 1)).size = 1 := by rw [ByteArray.size_extract]; omega
  have e : digs.nb (s.extract i (i + 1)) 0 = (sb s i).toNat := by
    have h1 : 0 < (s.extract i (i + 1)).size := by omega
    show (sb (s.extract i (i + 1)) 0).toNat = _
    rw [sb_get _ _ h1, ByteArray.getElem_extract, sb_get s i h]
    rfl
  rw [hs]
  unfold hx
  simp [digs.hexL, e]
set_option maxHeartbeats 1000000 in
set_option maxRecDepth 10000 in
theorem row_at (s : ByteArray) (c g : Nat) (w : World) (hg : 1 ≤ g) (hgc : g ≤ c) (hc : c ≤ 256) (hs : s.size ≤ 1000) :
    Calls Tryd.prog 17 #[.string s, .int .i64 (c : Int), .int .i64 (g : Int)] w fun e w' => e = .returned (.string (strOfNums (rwl s g c))) ∧ Bl w w' := by
  obtain ⟨b, hb⟩ : ∃ b, b = w.heap.size := ⟨_, rfl⟩
  obtain ⟨W, hW⟩ : ∃ W, W = w.alloc (.cells #[.pointer none, .slice none 0 0] 40) := ⟨_, rfl⟩
  have H0 : Hid (Bd b b [] W ∧ Bl w W) := by rw [hW, hb]; exact ⟨Bd.new w, (Bl.refl w).alloc _⟩
  go_enter Tryd.func17, Tryd.ntmps17
  go_wp2
  rw [← hW, ← hb]
  have HB : Hid (b = w.heap.size) := hb
  clear hW hb
  go_loopw [8, 10] (fun _ iv wr => ∃ i : Nat, i ≤ c ∧ iv = .int .i64 (i : Int) ∧ Hid (Bd b b (ub (rwl s g i)) wr ∧ Bl w wr)) (fun _ iv _ => c - (intOf iv).toNat)
  case atStart => exact ⟨0, Nat.zero_le _, rfl, H0⟩
  case round =>
    clear H0
    obtain ⟨i, hi, rfl, H⟩ := hrel
    by_cases hlt : i < c
    · have hltz : (i : Int) < c := by omega
      obtain ⟨r, hr⟩ : ∃ r, r = i % g := ⟨_, rfl⟩
      have hrz : (i : Int).tmod (g : Int) = (r : Int) := by rw [Int.tmod_eq_emod_of_nonneg (by omega), hr]; rfl
      have hgz : ((g : Int) == 0) = false := by rw [beq_eq_false_iff_ne]; omega
      have hlen := rwl_len s g i
      have HL : Hid (rwl s g (i + 1) = rwl s g i ++ (if r = 0 then [32] else []) ++ (if i < s.size then hx s i else [32, 32])) := by rw [hr]; rfl
      clear hr
      by_cases h0 : r = 0
      · have h0z : ((r : Int) == 0) = true := by rw [beq_iff_eq]; omega
        rw [if_pos h0] at HL
        have cB := writeb_at b b (ub (rwl s g i)) 32 32 rfl wr H.out.1 (by rw [ub_len]; omega)
        go_wp2_with fail
        refine cB.mono ?_
        rintro e w1 ⟨rfl, hd1, hb1, hk1⟩
        have H1 : Hid (Bd b b (ub (rwl s g i ++ [32])) w1 ∧ Bl w w1) := ⟨by rw [ub_app]; exact hd1, by rw [HB.out] at hb1; exact Below.trans H.out.2 hb1⟩
        clear cB hd1 hb1 hk1 H
        by_cases h1 : i < s.size
        · have h1z : (i : Int) < s.size := by omega
          rw [if_pos h1] at HL
          obtain ⟨j, hj⟩ : ∃ j, j = i + 1 := ⟨_, rfl⟩
          have hjz : (i : Int) + 1 = (j : Int) := by omega
          have g1 : i ≤ j := by omega
          have g2 : j ≤ s.size := by omega
          have cH := fun w => hex_at (s.extract i j) w (by rw [ByteArray.size_extract]; omega)
          have e1 : strOfNums (digs.hexL (s.extract i j) (s.extract i j).size) = strOfNums (hx s i) := by rw [hj]; exact hex_one s i h1
          rw [e1] at cH
          clear hj e1
          go_wp2_with fail
          refine (cH _).mono ?_
          rintro e w2 ⟨rfl, hg2⟩
          have cW := write_at b b (ub (rwl s g i ++ [32])) (strOfNums (hx s i)) w2 (H1.out.1.bl hg2.bl) (by rw [ub_len, strOfNums_size]; simp [hx]; omega)
          rw [ub_str, ← ub_app, ← HL.out] at cW
          go_wp2_with fail
          refine cW.mono ?_
          rintro e w3 ⟨rfl, hd3, hb3, hk3⟩
          have HF : Hid (Bd b b (ub (rwl s g (i + 1))) w3 ∧ Bl w w3) := ⟨hd3, by rw [HB.out] at hb3; exact Below.trans (H1.out.2.trans hg2.bl) hb3⟩
          clear cH cW hg2 hd3 hb3 hk3 H1
          go_wp2
          go_roundw
          case rel => exact ⟨i + 1, hlt, by go_num, HF⟩
          case measure => simp [intOf]; omega
        · have h1z : ¬ (i : Int) < s.size := by omega
          rw [if_neg h1] at HL
          have cW := write_at b b (ub (rwl s g i ++ [32])) ⟨#[32, 32]⟩ w1 H1.out.1 (by rw [ub_len]; show _ + 2 ≤ _; simp; omega)
          have e2 : ub (rwl s g i ++ [32]) ++ (⟨#[32, 32]⟩ : ByteArray).data.toList = ub (rwl s g (i + 1)) := by rw [HL.out, ub_app (rwl s g i ++ [32]) [32, 32]]; rfl
          rw [e2] at cW
          clear e2
          go_wp2_with fail
          refine cW.mono ?_
          rintro e w3 ⟨rfl, hd3, hb3, hk3⟩
          have HF : Hid (Bd b b (ub (rwl s g (i + 1))) w3 ∧ Bl w w3) := ⟨hd3, by rw [HB.out] at hb3; exact Below.trans H1.out.2 hb3⟩
          clear cW hd3 hb3 hk3 H1
          go_wp2
          go_roundw
          case rel => exact ⟨i + 1, hlt, by go_num, HF⟩
          case measure => simp [intOf]; omega
      · have h0z : ((r : Int) == 0) = false := by rw [beq_eq_false_iff_ne]; omega
        rw [if_neg h0, List.append_nil] at HL
        by_cases h1 : i < s.size
        · have h1z : (i : Int) < s.size := by omega
          rw [if_pos h1] at HL
          obtain ⟨j, hj⟩ : ∃ j, j = i + 1 := ⟨_, rfl⟩
          have hjz : (i : Int) + 1 = (j : Int) := by omega
          have g1 : i ≤ j := by omega
          have g2 : j ≤ s.size := by omega
          have cH := fun w => hex_at (s.extract i j) w (by rw [ByteArray.size_extract]; omega)
          have e1 : strOfNums (digs.hexL (s.extract i j) (s.extract i j).size) = strOfNums (hx s i) := by rw [hj]; exact hex_one s i h1
          rw [e1] at cH
          clear hj e1
          go_wp2_with fail
          refine (cH _).mono ?_
          rintro e w2 ⟨rfl, hg2⟩
          have cW := write_at b b (ub (rwl s g i)) (strOfNums (hx s i)) w2 (H.out.1.bl hg2.bl) (by rw [ub_len, strOfNums_size]; simp [hx]; omega)
          rw [ub_str, ← ub_app, ← HL.out] at cW
          go_wp2_with fail
          refine cW.mono ?_
          rintro e w3 ⟨rfl, hd3, hb3, hk3⟩
          have HF : Hid (Bd b b (ub (rwl s g (i + 1))) w3 ∧ Bl w w3) := ⟨hd3, by rw [HB.out] at hb3; exact Below.trans (H.out.2.trans hg2.bl) hb3⟩
          clear cH cW hg2 hd3 hb3 hk3 H
          go_wp2
          go_roundw
          case rel => exact ⟨i + 1, hlt, by go_num, HF⟩
          case measure => simp [intOf]; omega
        · have h1z : ¬ (i : Int) < s.size := by omega
          rw [if_neg h1] at HL
          have cW := write_at b b (ub (rwl s g i)) ⟨#[32, 32]⟩ wr H.out.1 (by rw [ub_len]; show _ + 2 ≤ _; simp; omega)
          have e2 : ub (rwl s g i) ++ (⟨#[32, 32]⟩ : ByteArray).data.toList = ub (rwl s g (i + 1)) := by rw [HL.out, ub_app (rwl s g i) [32, 32]]; rfl
          rw [e2] at cW
          clear e2
          go_wp2_with fail
          refine cW.mono ?_
          rintro e w3 ⟨rfl, hd3, hb3, hk3⟩
          have HF : Hid (Bd b b (ub (rwl s g (i + 1))) w3 ∧ Bl w w3) := ⟨hd3, by rw [HB.out] at hb3; exact Below.trans H.out.2 hb3⟩
          clear cW hd3 hb3 hk3 H
          go_wp2
          go_roundw
          case rel => exact ⟨i + 1, hlt, by go_num, HF⟩
          case measure => simp [intOf]; omega
    · have hltz : ¬ (i : Int) < c := by omega
      obtain rfl : i = c := by omega
      have cS := string_at b b (ub (rwl s g i)) wr H.out.1
      rw [str_ub] at cS
      go_wp2_with fail
      refine cS.mono ?_
      rintro e w1 ⟨rfl, hb1, hk1⟩
      have HF : Hid (Bl w w1) := by
        rw [HB.out] at hb1
        exact Below.trans H.out.2 hb1
      clear cS hb1 hk1 H
      go_wp2
      go_ret
      exact ⟨rfl, HF.out⟩
end Go.Proofs.YtmchpmfogjhpoabDoor.xd
