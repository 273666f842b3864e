/- Texts laid together: LbE. -/
import Derived.Test.YtococaecjecjgaaGreatDoorXLayoutBack27
/- The law on texts that are read and written: the walk. -/
namespace Go.Proofs.YtococaecjecjgaaGreatDoor.ly
set_option linter.unusedVariables false
open Go.ChangeShapes Go.WideShapes Go.ChangeAt Go.RowKit Go.Shelf
open mem lx ex tm num

set_option maxRecDepth 10000 in
set_option maxHeartbeats 4000000 in
theorem back_at (a0 a1 a2 : ByteArray) (w : World) (hG : Gt w) (h1 : a1.size ≤ 140737488351232) (h2 : a2.size ≤ 140737488351232) :
    Calls Tryz.prog 4 #[.string a0, .string a1, .string a2] w fun e w' => e = .returned (.bool true) ∧ Below w.heap.size w w' := by
  have cL := laid_at w hG
  have HG : Hid (Gt w) := hG
  have h1m : (L a1).length ≤ maxLen := by rw [L_len]; unfold maxLen; omega
  clear hG h1
  go_enter Tryz.func4, Tryz.ntmps4
  go_wp2_with fail
  refine cL.mono ?_
  rintro e w1 ⟨rfl, hb1⟩
  have cR := right_at a0 w1 (HG.out.bl hb1)
  go_wp2_with fail
  refine cR.mono ?_
  rintro e w2 ⟨hb2, ⟨v, l, ok, rfl, hv, hW⟩ | ⟨v, rfl⟩⟩
  rotate_left
  · have HB : Hid (Bl w w2) := hb1.trans hb2
    clear cL cR hb1 hb2
    go_wp2
    go_ret
    exact ⟨rfl, HB.out⟩
  · have HB : Hid (Bl w w2) := hb1.trans hb2
    clear cL cR hb1 hb2
    by_cases h6 : 600 < a2.size
    · have h6' : (600 : Int) < (a2.size : Int) := by omega
      go_wp2
      go_ret
      exact ⟨rfl, HB.out⟩
    · have h6' : ¬ (600 : Int) < (a2.size : Int) := by omega
      have cR := Read_at w2 ok v l (L a1) (L a2) hv hW.1 (WT.nms hW) (WT.okt hW) h1m (by rw [L_len]; omega)
      have e1 : tx (L a1) = a1 := tx_L a1
      have e2 : tx (L a2) = a2 := tx_L a2
      rw [e1, e2] at cR
      have HV : Hid (IsTs w2 ok v l ∧ WT l ∧ (L a1).length ≤ maxLen ∧ tx (L a1) = a1 ∧ tx (L a2) = a2 ∧ a2.size ≤ 600) := ⟨hv, hW, h1m, e1, e2, by omega⟩
      obtain ⟨vp, vn, vc, rfl⟩ : ∃ p n c, v = .slice p n c := by obtain ⟨p, c, cs, h1, _⟩ := hv; exact ⟨_, _, _, h1⟩
      clear hv hW h1m e1 e2 h6 h2
      go_wp2_with fail
      refine cR.mono ?_
      rintro e w3 ⟨hb3, hans⟩
      cases hq : rd (L a2) l (L a1) with
      | error er =>
        rw [hq] at hans
        obtain ⟨u, rfl, hu⟩ := hans
        obtain ⟨ty, u, rfl⟩ := hu.iface
        have HB3 : Hid (Bl w w3) := HB.out.trans hb3
        have hty : ty = 28 ∧ u = .int .i64 7 ∨ ty = 113 ∧ ∃ B : Nat, u = .pointer (some ⟨B, 0, none⟩) := by
          rcases hu with ⟨_, e⟩ | ⟨B, e, _⟩
          · injection e with e1 e2; exact Or.inl ⟨e1, e2⟩
          · injection e with e1 e2; exact Or.inr ⟨e1, B, e2⟩
        clear cR hb3 hu hq
        unfold ndV
        rcases hty with ⟨rfl, rfl⟩ | ⟨rfl, B, rfl⟩
        · go_wp2
          go_ret
          exact ⟨rfl, HB3.out.trans ((Bl.refl _).alloc _)⟩
        · go_wp2
          go_ret
          exact ⟨rfl, HB3.out.trans ((Bl.refl _).alloc _)⟩
      | ok r =>
        obtain ⟨nd, ks⟩ := r
        rw [hq] at hans
        obtain ⟨p, c, rfl, hns⟩ := hans
        have hwr := rd_back (WT.okt HV.out.2.1) hq
        have hz := rd_z hq
        obtain ⟨w4, hw4⟩ : ∃ w4, w4 = w3.alloc (.cells #[.string (tx nd.nm), .int .i64 (nd.kd : Int), .int .i64 (nd.at_ : Int), .int .i64 (nd.sz : Int), .int .i64 nd.n, .string (tx nd.tx), .slice p ks.len c] 27) := ⟨_, rfl⟩
        obtain ⟨X, hX⟩ : ∃ X, X = w3.heap.size := ⟨_, rfl⟩
        have hN4 : Nv w4 X nd p ks.len c := by rw [hw4, hX]; exact new_at _ _
        have hb4 : Bl w3 w4 := by rw [hw4]; exact (Bl.refl _).alloc _
        have cW := Write_at w4 ok _ (.slice vp vn vc) l (L a1) nd p ks.len c ks (L a2) (HV.out.1.bl (hb3.trans hb4)) HV.out.2.1.1 (WT.nms HV.out.2.1) (WT.okt HV.out.2.1) HV.out.2.2.1 (hns.bl hb4) hwr (by rw [L_len]; have := HV.out.2.2.2.2.2; omega) hz
        rw [HV.out.2.2.2.1, HV.out.2.2.2.2.1] at cW
        obtain ⟨y0, y1, y2, y3, y4, y5, y6⟩ := hN4.cells
        have hXs := hN4.lt
        have HB4 : Hid (Bl w w4) := (HB.out.trans hb3).trans hb4
        unfold ndV at cW ⊢
        clear cR hb3 hns hwr hz hN4 hb4 hq
        go_wp2_with fail
        rw [← hw4, ← hX]
        clear hw4 hX
        refine cW.mono ?_
        rintro e w5 ⟨rfl, hb5⟩
        have HF : Hid (Bl w w5) := HB4.out.trans hb5
        clear cW hb5 y0 y1 y2 y3 y4 y5 y6 hXs
        go_wp2
        go_ret
        exact ⟨by simp, HF.out⟩
end Go.Proofs.YtococaecjecjgaaGreatDoor.ly
