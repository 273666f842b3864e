/- Texts laid together: Tr8, BlX. -/
import Derived.Test.YtpanodaecjlgaaaGreatDoorXTypesFinds25
import Derived.Test.YtpanodaecjlgaaaGreatDoorXTypesFinds23
import Derived.Test.YtpanodaecjlgaaaGreatDoorXTypesFinds7
import Derived.Test.YtpanodaecjlgaaaGreatDoorXTypesFinds1
/- The document's reader of templates at a text that is too long. -/
namespace Go.Proofs.YtpanodaecjlgaaaGreatDoor.tr
set_option linter.unusedVariables false
open Go.ChangeShapes Go.WideShapes Go.ChangeAt Go.RowKit
open mem lx ex tm

set_option maxRecDepth 10000 in
set_option maxHeartbeats 2000000 in
theorem TParse_long (s : ByteArray) (w : World) (hs : 3000 < s.size) :
    Calls Tryz.prog 9 #[.string s] w fun e w' => e = .returned (.tuple #[(.slice none 0 0), flt 4 (-1)]) ∧ Bl w w' := by
  have cX := fun w => newEyes_long s w hs
  go_enter Tryz.func9, Tryz.ntmps9
  go_wp2_with fail
  refine (cX _).mono ?_
  rintro e w2 ⟨hb2, P, hP, rfl⟩
  have hF := Fl.made (c := 4) (p := -1) hb2
  obtain ⟨W, hW⟩ : ∃ W, W = w2.alloc (.cells #[.int .i64 4, .int .i64 (-1)] 26) := ⟨_, rfl⟩
  obtain ⟨M, hM⟩ : ∃ M, M = w.heap.size := ⟨_, rfl⟩
  obtain ⟨N, hN⟩ : ∃ N, N = w2.heap.size := ⟨_, rfl⟩
  rw [← hW, ← hM, ← hN] at hF
  have HF : Hid (Fl w W M N 4 (-1)) := hF
  unfold flt
  clear hF hP cX hb2
  go_wp2_with fail
  rw [← hW, ← hM, ← hN]
  clear hW hM hN
  refine (Is_at 4 (-1) W).mono ?_
  rintro e w3 ⟨rfl, hb3⟩
  have HF3 : Hid (Fl w w3 M N 4 (-1)) := HF.out.step hb3
  obtain ⟨g0, g1, m0, m1, z0, z1, hMs, hNs⟩ := HF3.out.cells
  clear hb3
  have h00 : ((4 : Int) == 0) = false := rfl
  rw [h00]
  go_upto_region 3 with fail
  go_region
  go_wp2
  obtain ⟨k1, k2⟩ := HF3.out.told 4 (-1)
  exact bodyPost_ret (v := .tuple #[(.slice none 0 0), flt 4 (-1)]) (results_tmp_cell (p := 3) (u := 2) (ty := 26) rfl _ _ _ M (flt 4 (-1)) rfl (ldF _ _ _ _ k2)) rfl ⟨rfl, k1.trans ((Bl.refl _).drew)⟩
end Go.Proofs.YtpanodaecjlgaaaGreatDoor.tr
/- What is wrong first with a text's templates: the walk of TypesFinds. -/
namespace Go.Proofs.YtpanodaecjlgaaaGreatDoor.tc
set_option linter.unusedVariables false
open Go.ChangeShapes Go.WideShapes Go.ChangeAt Go.RowKit Go.Shelf Go.Maps
open mem lx ex tm tr

theorem far_x (s : ByteArray) (w : World) : Calls Tryz.prog 8 #[.string s] w fun e w' => e = .returned (.bool (decide ((900 < s.size ∧ s.size ≤ 3000) ∨ 3009 < s.size))) ∧ w' = w := by
  go_enter Tryz.func8, Tryz.ntmps8
  go_wp2
  all_goals
    go_ret
    refine ⟨ret_bool ?_, rfl⟩
    rw [Bool.eq_iff_iff]
    simp
    try omega
set_option maxRecDepth 10000 in
set_option maxHeartbeats 4000000 in
theorem finds_at (a0 : ByteArray) (w : World) (hg : errs.Laid w) (hM : Ml w) (hMw : 4 < w.heap.size) :
    Calls Tryz.prog 6 #[.string a0] w fun e w' => e = .returned (.bool true) ∧ Below w.heap.size w w' := by
  have cF := far_x a0
  have HG : Hid (errs.Laid w ∧ Ml w ∧ 4 < w.heap.size) := ⟨hg, hM, hMw⟩
  clear hg hM hMw
  go_enter Tryz.func6, Tryz.ntmps6
  by_cases hf : (900 < a0.size ∧ a0.size ≤ 3000) ∨ 3009 < a0.size
  · rw [decide_eq_true hf] at cF
    go_wp2_with fail
    refine (cF _).mono ?_
    rintro e w2 ⟨rfl, hw⟩
    obtain rfl := hw.symm
    go_wp2
    go_ret
    exact ⟨rfl, Below.refl _ _⟩
  · rw [decide_eq_false hf] at cF
    go_wp2_with fail
    refine (cF _).mono ?_
    rintro e w2 ⟨rfl, hw⟩
    obtain rfl := hw.symm
    clear cF
    by_cases hl : 3000 < a0.size
    · clear hf
      go_wp2_with fail
      refine (TParse_long a0 _ hl).mono ?_
      rintro e w3 ⟨rfl, hb3⟩
      have HB3 : Hid (Bl w w3) := hb3
      clear hb3
      unfold flt
      go_wp2_with fail
      refine (Is_at 4 (-1) _).mono ?_
      rintro e w4 ⟨rfl, hb4⟩
      have HB4 : Hid (Bl w w4) := HB3.out.trans (fl_cl hb4).2.2.1
      clear hb4
      go_wp2
      go_ret
      exact ⟨rfl, HB4.out⟩
    · have hl' : a0.size ≤ 900 := by omega
      clear hf hl
      have cR := TParse_at a0 w (by omega) HG.out.2.1 HG.out.2.2
      go_wp2_with fail
      refine cR.mono ?_
      rintro e w3 ⟨hb3, hans⟩
      clear cR
      have HB3 : Hid (Bl w w3) := hb3
      clear hb3
      cases hp : prT (L a0) with
      | error cp =>
        obtain ⟨c, p⟩ := cp
        rw [hp] at hans
        obtain ⟨rfl, hc⟩ := hans
        have hc0 : (c == 0) = false := by rw [beq_eq_false_iff_ne]; exact hc
        clear hp hc
        unfold flt
        go_wp2_with fail
        refine (Is_at c (p : Int) _).mono ?_
        rintro e w4 ⟨rfl, hb4⟩
        have HB4 : Hid (Bl w w4) := HB3.out.trans (fl_cl hb4).2.2.1
        clear hb4
        go_wp2
        go_ret
        exact ⟨rfl, HB4.out⟩
      | ok l =>
        rw [hp] at hans
        obtain ⟨v, rfl, hv⟩ := hans
        obtain ⟨hci, hwt, hpl, hl8⟩ := prT_told hp (by rw [L_len]; omega)
        have hzz := prT_z hp (by rw [L_len]; omega)
        have HV : Hid (CI l ∧ WT l ∧ ∀ t ∈ l, zI t.l ≤ 4000) := ⟨hci, hwt, fun t ht => by have := hzz t ht; rw [L_len] at this; omega⟩
        obtain ⟨ok, HK⟩ : ∃ ok : Nat → Prop, Hid (IsTs w3 ok v l) := ⟨_, hv⟩
        clear hv hci hwt hpl hl8 hzz hp
        unfold flt
        go_wp2_with fail
        refine (Is_at 0 (-1) _).mono ?_
        rintro e w4 ⟨rfl, hb4⟩
        have hb34 := (fl_cl hb4).2.2.1
        have HB4 : Hid (Bl w3 w4) := hb34
        have cA := tm.Check_at l v w4 ok (HK.out.bl hb34) HV.out.1
        clear hb4 hb34
        go_wp2_with fail
        refine cA.mono ?_
        rintro e w5 ⟨hb5, hans⟩
        have HB5 : Hid (Bl w3 w5) := HB4.out.trans hb5
        have cB := TypesCheck_at l v w5 ok (HK.out.bl HB5.out) HV.out.2.1 HV.out.2.2
        clear hb5 cA
        cases hc : chk l with
        | none =>
          rw [hc] at hans cB
          dsimp only at hans
          subst hans
          clear hc
          go_wp2_with fail
          refine cB.mono ?_
          rintro e w6 ⟨rfl, hb6⟩
          have HB6 : Hid (Bl w w6) := (HB3.out.trans HB5.out).trans hb6
          rw [show chkV none = .agg #[.int .i64 0, .int .i64 (-1)] from rfl]
          clear hb6 cB
          go_wp2_with fail
          refine (errs.placed_nil _).mono ?_
          rintro e w7 ⟨rfl, hg7⟩
          have HB7 : Hid (Bl w w7) := HB6.out.trans hg7.bl
          clear hg7
          go_wp2
          go_ret
          exact ⟨rfl, HB7.out⟩
        | some cp =>
          obtain ⟨c, p⟩ := cp
          rw [hc] at hans cB
          obtain ⟨A, rfl, hA1, hA2⟩ := hans
          clear hc
          unfold atV
          go_wp2_with fail
          refine cB.mono ?_
          rintro e w6 ⟨rfl, hb6⟩
          have HB6 : Hid (Bl w w6 ∧ AtX w6 A c (p : Int)) := ⟨(HB3.out.trans HB5.out).trans hb6, AtX.bl hA2 hb6⟩
          rw [show chkV (some (c, p)) = .agg #[.int .i64 c, .int .i64 (p : Int)] from rfl]
          clear hb6 cB hA1 hA2
          go_wp2_with fail
          refine (errs.placed_at c (p : Int) A w6 (HG.out.1.bl HB6.out.1) (by rw [cell_of HB6.out.2]; rfl) (by rw [cell_of HB6.out.2]; rfl)).mono ?_
          rintro e w7 ⟨rfl, hg7⟩
          have HB7 : Hid (Bl w w7) := HB6.out.1.trans hg7.bl
          clear hg7
          go_wp2
          go_ret
          exact ⟨rfl, HB7.out⟩
end Go.Proofs.YtpanodaecjlgaaaGreatDoor.tc
