/- Texts laid together: TmJ, TmK, TmL, Ty1. -/
import Derived.Test.YtpanodaecjlgaaaGreatDoorZ18
import Derived.BigQuiet
import Derived.Test.YtpanodaecjlgaaaGreatDoorZ10
/- Templates, printed: an item that has no others. -/
namespace Go.Proofs.YtpanodaecjlgaaaGreatDoor.tm
set_option linter.unusedVariables false
open Go.ChangeShapes Go.WideShapes Go.ChangeAt Go.RowKit Go.Shelf
open mem lx ex

theorem kw_len {d : D} (h : WD d) (h4 : d.kd ≠ 4) : (kw d).length ≤ 12 := by
  unfold kw
  rcases h with h | h | h | h
  · exact absurd h.1 h4
  · rw [if_pos h.1]; decide
  · rw [if_neg (by rw [h.1]; decide), if_pos h.1]; exact h.2.1.2.2.1
  · rw [if_neg (by rw [h.1]; decide), if_neg (by rw [h.1]; decide)]
    have key : ∀ p ∈ numW, p.1.length ≤ 12 := by decide
    cases hf : numW.find? (fun p => p.2.1 == d.wd && p.2.2.1 == d.od && p.2.2.2 == d.sg) with
    | none => exact Nat.zero_le _
    | some p => exact key p (List.mem_of_find?_eq_some hf)
theorem ret_s {s s' : ByteArray} (h : s = s') : Ending.returned (.string s) = .returned (.string s') := by rw [h]
set_option maxRecDepth 10000 in
set_option maxHeartbeats 4000000 in
theorem partW_at (w : World) (c : C) (hG : Gt w) (hd : WD c.d) (h4 : c.d.kd ≠ 4) (hx : IsO w c.pc c.d.ct) (hl : (txO c.d.ct).length ≤ 1000000) :
    Calls Tryz.prog 63 #[itV c] w fun e w' => e = .returned (.string (tx (paT c.d))) ∧ Bl w w' := by
  have hb1 : Bl w (w.alloc (.cells (cl c).toArray 75)) := (Bl.refl _).alloc _
  obtain ⟨N, hN⟩ : ∃ N, N = w.heap.size := ⟨_, rfl⟩
  obtain ⟨w1, hw1⟩ : ∃ w1, w1 = w.alloc (.cells (cl c).toArray 75) := ⟨_, rfl⟩
  have hv1 : Iv w1 N c := ⟨by rw [hw1, hN]; exact new_at _ _⟩
  rw [← hw1] at hb1
  have H1 : Hid (Bl w w1 ∧ Iv w1 N c ∧ Gt w1 ∧ IsO w1 c.pc c.d.ct) := ⟨hb1, hv1, hG.bl hb1, hx.keep (Kx.bl hb1)⟩
  have HD : Hid (WD c.d ∧ c.d.kd ≠ 4 ∧ (txO c.d.ct).length ≤ 1000000) := ⟨hd, h4, hl⟩
  obtain ⟨q0, q1, q2, q3, q4, q5, q6, q7, q8, q9, q10, q11, q12⟩ := (hv1.bl (Bl.refl w1).drew).facts
  have hbd := (Bl.refl w1).drew
  have cK := fun wx (hb : Bl w1 wx) => kw_at wx c (H1.out.2.2.1.bl hb)
  obtain ⟨K, hK⟩ : ∃ K, K = tx (kw c.d) := ⟨_, rfl⟩
  obtain ⟨M, hM⟩ : ∃ M, M = tx c.d.nm := ⟨_, rfl⟩
  rw [← hK] at cK
  rw [← hM] at q2
  have hKs : K.size ≤ 12 := by rw [hK, tx_size]; exact kw_len hd h4
  have hMs : M.size ≤ 12 := by rw [hM, tx_size]; exact (wd_nm hd h4).2.2.1
  have HS : Hid (K = tx (kw c.d) ∧ M = tx c.d.nm) := ⟨hK, hM⟩
  have hz1 : ¬ 9223372036854775807 < K.size + 1 := by omega
  have hz2 : ¬ 9223372036854775807 < K.size + 1 + M.size := by omega
  have HB : Hid (Bl w1 w1.drew) := hbd
  clear hbd hb1 hv1 hG hd h4 hx hl hK
  unfold itV cl at cK ⊢
  rw [← hM] at cK
  go_enter Tryz.func63, Tryz.ntmps63
  go_upto_region 1 with fail
  change Code.wp _ _ _ _ (w.alloc (.cells (cl c).toArray 75))
  rw [← hw1, ← hN]
  clear hw1 hN hM
  go_region_held3 (fun w' => w'.cell? ⟨N, 0, none⟩ = some (.int .i64 (c.d.kd : Int)) ∧ w'.cell? ⟨N, 1, none⟩ = some (.int .i64 (c.d.at_ : Int)) ∧ w'.cell? ⟨N, 2, none⟩ = some (.string M) ∧ w'.cell? ⟨N, 3, none⟩ = some (.string (tx c.d.ty)) ∧ w'.cell? ⟨N, 4, none⟩ = some (.int .i64 (c.d.wd : Int)) ∧ w'.cell? ⟨N, 5, none⟩ = some (.int .i64 (c.d.od : Int)) ∧ w'.cell? ⟨N, 6, none⟩ = some (.bool c.d.sg) ∧ w'.cell? ⟨N, 7, none⟩ = some (.bool c.d.mn) ∧ w'.cell? ⟨N, 8, none⟩ = some (.pointer c.pc) ∧ w'.cell? ⟨N, 9, none⟩ = some (.int .i64 (c.d.ru : Int)) ∧ w'.cell? ⟨N, 10, none⟩ = some (.string (tx c.d.f1)) ∧ w'.cell? ⟨N, 11, none⟩ = some (.string (tx c.d.l1)) ∧ w'.cell? ⟨N, 12, none⟩ = some (.slice c.p c.n c.c)) (refine ⟨?_, ?_, ?_, ?_, ?_, ?_, ?_, ?_, ?_, ?_, ?_, ?_, ?_⟩ <;> first | assumption | exact at_bl ((Bl.refl _).drew) (by assumption))
    (first
      | (go_at_call 94; (with_reducible refine (cK _ HB.out).mono ?_); rintro e w6 ⟨rfl, hb6⟩
         have HB6 : Hid (Bl w1 w6) := HB.out.trans hb6
         obtain ⟨s0, s1, s2, s3, s4, s5, s6, s7, s8, s9, s10, s11, s12⟩ := (H1.out.2.1.bl HB6.out).facts
         rw [← HS.out.2] at s2
         clear hb6))
  clear q0 q1 q2 q3 q4 q5 q6 q7 q8 q9 q10 q11 q12 cK
  obtain ⟨S1, hS1⟩ : ∃ S1, S1 = K ++ ⟨#[32]⟩ ++ M := ⟨_, rfl⟩
  have HS1 : Hid (S1 = tx (kw c.d ++ [32] ++ c.d.nm)) := by
    show S1 = _
    rw [hS1, HS.out.1, HS.out.2, show ({ data := #[32] } : ByteArray) = tx [32] from rfl, tx_app, tx_app]
  have hS1s : S1.size ≤ 25 := by
    rw [hS1, ByteArray.size_append, ByteArray.size_append]
    show K.size + 1 + M.size ≤ 25
    omega
  rw [← hS1]
  clear hS1
  by_cases hm : c.d.mn = true ∨ c.d.kd = 2
  · obtain ⟨x, hx, wx⟩ := mn_some HD.out.1 HD.out.2.1 hm
    have hru : c.d.ru = 0 := by
      rcases HD.out.1 with h | h | h | h
      · exact absurd h.1 HD.out.2.1
      · exact h.2.2.2.2.1
      · exact h.2.2.2.2.2.2.1
      · rcases h.2.2.2.2 with h' | h'
        · exact h'.2.2.1
        · exfalso
          rcases hm with hm | hm
          · rw [h'.1] at hm; cases hm
          · rw [h.1] at hm; cases hm
    have hxx : IsX w6 (.pointer c.pc) x := by
      have := H1.out.2.2.2
      rw [hx] at this
      exact IsX.keep (Kx.bl HB6.out) this
    have hln : (txt x).length ≤ 1000000 := by have := HD.out.2.2; rw [hx] at this; exact this
    have hG6 := H1.out.2.2.1.bl HB6.out
    have cT := Text_at x (.pointer c.pc) w6 hxx hG6.gd.pw hG6.gd.lt wx.2.1.fit (by omega)
    obtain ⟨TT, hTT⟩ : ∃ TT, TT = tx (txt x) := ⟨_, rfl⟩
    have hTTs : TT.size ≤ 1000000 := by rw [hTT, tx_size]; exact hln
    rw [← hTT] at cT
    have HTT : Hid (TT = tx (txt x)) := hTT
    clear hTT hxx hln hG6
    rcases Bool.eq_false_or_eq_true c.d.mn with hmn | hmn
    · have HQ : Hid (paT c.d = kw c.d ++ [32] ++ c.d.nm ++ ([91] ++ txt x ++ [93])) := by
        show paT c.d = _
        unfold paT mnT ruT
        rw [if_pos hm, if_pos (Or.inl hru), hx]
        simp [txO]
      rw [hru] at s9
      rw [hmn] at s7
      clear hm hru hx wx
      go_upto_region 3 with fail
      go_wp2_with fail
      refine cT.mono ?_
      rintro e w7 ⟨rfl, hb7⟩
      have H7 : Hid (Bl w w7) := (H1.out.1.trans HB6.out).trans hb7
      have s9 := at_bl hb7 s9
      clear hb7 s0 s1 s2 s3 s4 s5 s6 s7 s8 s10 s11 s12 cT
      go_wp2
      go_ret
      exact ⟨ret_s (by rw [HQ.out, HS1.out, HTT.out, show ({ data := #[91] } : ByteArray) = tx [91] from rfl, show ({ data := #[93] } : ByteArray) = tx [93] from rfl, tx_app, tx_app, tx_app]), H7.out⟩
    · have hk2 : c.d.kd = 2 := by
        rcases hm with h | h
        · rw [hmn] at h; cases h
        · exact h
      have HQ : Hid (paT c.d = kw c.d ++ [32] ++ c.d.nm ++ ([91] ++ txt x ++ [93])) := by
        show paT c.d = _
        unfold paT mnT ruT
        rw [if_pos hm, if_pos (Or.inl hru), hx]
        simp [txO]
      rw [hru] at s9
      rw [hmn] at s7
      rw [hk2] at s0
      clear hk2
      clear hm hru hx wx
      go_upto_region 3 with fail
      go_wp2_with fail
      refine cT.mono ?_
      rintro e w7 ⟨rfl, hb7⟩
      have H7 : Hid (Bl w w7) := (H1.out.1.trans HB6.out).trans hb7
      have s9 := at_bl hb7 s9
      clear hb7 s0 s1 s2 s3 s4 s5 s6 s7 s8 s10 s11 s12 cT
      go_wp2
      go_ret
      exact ⟨ret_s (by rw [HQ.out, HS1.out, HTT.out, show ({ data := #[91] } : ByteArray) = tx [91] from rfl, show ({ data := #[93] } : ByteArray) = tx [93] from rfl, tx_app, tx_app, tx_app]), H7.out⟩
  · have hmn : c.d.mn = false := by cases hc : c.d.mn with | true => exact absurd (Or.inl hc) hm | false => rfl
    have hk2 : ¬ ((c.d.kd : Int) = 2) := fun e => hm (Or.inr (by omega))
    have hP0 : paT c.d = kw c.d ++ [32] ++ c.d.nm ++ ruT c.d := by
      unfold paT mnT
      rw [if_neg hm]
      simp
    have HP0 : Hid (paT c.d = kw c.d ++ [32] ++ c.d.nm ++ ruT c.d) := hP0
    have H6 : Hid (Bl w w6) := H1.out.1.trans HB6.out
    rw [hmn] at s7
    clear hP0 hm hmn
    by_cases hr0 : c.d.ru = 0
    · have HQ : Hid (paT c.d = kw c.d ++ [32] ++ c.d.nm) := by
        show paT c.d = _
        rw [HP0.out]
        unfold ruT
        rw [if_pos (Or.inl hr0)]
        simp
      rw [hr0] at s9
      clear hr0 s1 s2 s3 s4 s5 s6 s8 s10 s11 s12
      go_wp2
      go_ret
      exact ⟨ret_s (by rw [HQ.out, HS1.out]), H6.out⟩
    · obtain ⟨wr, hkd, _, hct⟩ := ru_wr HD.out.1 hr0
      have hG6 := H1.out.2.2.1.bl HB6.out
      obtain ⟨F, hF⟩ : ∃ F, F = tx c.d.f1 := ⟨_, rfl⟩
      obtain ⟨G, hGe⟩ : ∃ G, G = tx c.d.l1 := ⟨_, rfl⟩
      have hf1 : NM c.d.f1 := by
        rcases wr with h | h | h
        · exact absurd h.1 hr0
        · exact h.2.1
        · exact h.2.1
      have hl1 : c.d.l1.length ≤ 12 := by
        rcases wr with h | h | h
        · exact absurd h.1 hr0
        · rw [h.2.2]; exact Nat.zero_le _
        · exact h.2.2.2.2.1
      have hFs : F.size ≤ 12 := by rw [hF, tx_size]; exact hf1.2.2.1
      have hGs : G.size ≤ 12 := by rw [hGe, tx_size]; exact hl1
      have hFl : F.toList = c.d.f1 := by rw [ByteArray.toList_eq, hF]; simp [tx]
      have hGl : G.toList = c.d.l1 := by rw [ByteArray.toList_eq, hGe]; simp [tx]
      rw [← hF] at s10
      rw [← hGe] at s11
      have HFG : Hid (F = tx c.d.f1 ∧ G = tx c.d.l1) := ⟨hF, hGe⟩
      obtain ⟨WW, hWW, hWs, HWW⟩ : ∃ WW : ByteArray, w6.cell? ⟨2, c.d.ru, none⟩ = some (.string WW) ∧ WW.size ≤ 12 ∧ Hid (WW = tx (rw_ c.d.ru)) := by
        have k : ∀ (j : Nat) (v : Value), ruL[j]? = some v → w6.cell? ⟨2, 0 + j, none⟩ = some v := hG6.ru
        have hru : c.d.ru = 1 ∨ c.d.ru = 2 ∨ c.d.ru = 3 := by
          rcases wr with h | h | h
          · exact absurd h.1 hr0
          · rcases h.1 with e | e
            · exact Or.inl e
            · exact Or.inr (Or.inl e)
          · exact Or.inr (Or.inr h.1)
        rcases hru with e | e | e
        · rw [e]; exact ⟨_, k 1 _ rfl, by rw [tx_size]; decide, rfl⟩
        · rw [e]; exact ⟨_, k 2 _ rfl, by rw [tx_size]; decide, rfl⟩
        · rw [e]; exact ⟨_, k 3 _ rfl, by rw [tx_size]; decide, rfl⟩
      have hru : c.d.ru = 1 ∨ c.d.ru = 2 ∨ (c.d.ru = 3 ∧ c.d.l1 = c.d.f1) ∨ (c.d.ru = 3 ∧ c.d.l1 ≠ c.d.f1) := by
        rcases wr with h | h | h
        · exact absurd h.1 hr0
        · rcases h.1 with e | e
          · exact Or.inl e
          · exact Or.inr (Or.inl e)
        · by_cases hl : c.d.l1 = c.d.f1
          · exact Or.inr (Or.inr (Or.inl ⟨h.1, hl⟩))
          · exact Or.inr (Or.inr (Or.inr ⟨h.1, hl⟩))
      have hcat : S1 ++ (⟨#[32, 61, 32]⟩ ++ WW ++ ⟨#[32]⟩ ++ F) = tx (kw c.d ++ [32] ++ c.d.nm ++ ([32, 61, 32] ++ rw_ c.d.ru ++ [32] ++ c.d.f1)) := by
        rw [HS1.out, HWW.out, HFG.out.1, show ({ data := #[32, 61, 32] } : ByteArray) = tx [32, 61, 32] from rfl, show ({ data := #[32] } : ByteArray) = tx [32] from rfl, tx_app, tx_app, tx_app, tx_app]
      have hcat2 : S1 ++ (⟨#[32, 61, 32]⟩ ++ WW ++ ⟨#[32]⟩ ++ F) ++ (⟨#[32]⟩ ++ G) = tx (kw c.d ++ [32] ++ c.d.nm ++ ([32, 61, 32] ++ rw_ c.d.ru ++ [32] ++ c.d.f1) ++ ([32] ++ c.d.l1)) := by
        rw [hcat, HFG.out.2, show ({ data := #[32] } : ByteArray) = tx [32] from rfl, tx_app, tx_app]
      have HC : Hid (S1 ++ (⟨#[32, 61, 32]⟩ ++ WW ++ ⟨#[32]⟩ ++ F) = tx (kw c.d ++ [32] ++ c.d.nm ++ ([32, 61, 32] ++ rw_ c.d.ru ++ [32] ++ c.d.f1)) ∧ S1 ++ (⟨#[32, 61, 32]⟩ ++ WW ++ ⟨#[32]⟩ ++ F) ++ (⟨#[32]⟩ ++ G) = tx (kw c.d ++ [32] ++ c.d.nm ++ ([32, 61, 32] ++ rw_ c.d.ru ++ [32] ++ c.d.f1) ++ ([32] ++ c.d.l1))) := ⟨hcat, hcat2⟩
      clear hcat hcat2 wr hct hkd hf1 hl1 hF hGe hG6
      clear s1 s2 s3 s4 s5 s6 s8 s12
      have hbd6 := (Bl.refl w6).drew
      rcases hru with e | e | ⟨e, hl⟩ | ⟨e, hl⟩
      · have HQ : Hid (paT c.d = kw c.d ++ [32] ++ c.d.nm ++ ([32, 61, 32] ++ rw_ c.d.ru ++ [32] ++ c.d.f1)) := by
          show paT c.d = _
          rw [HP0.out]
          unfold ruT
          rw [if_neg (by omega), if_neg (fun hc => by omega)]
          simp
        skip
        rw [e] at s9 hWW
        clear e hr0  hFl hGl
        have s9d := at_bl hbd6 s9
        have s10d := at_bl hbd6 s10
        have s11d := at_bl hbd6 s11
        have hWd := at_bl hbd6 hWW
        have HBD : Hid (Bl w w6.drew) := H6.out.trans hbd6
        clear hbd6
        go_upto_region 6 with fail
        go_region
        all_goals
          generalize w6.drew = w7 at *
          go_wp2
          go_ret
          exact ⟨ret_s (by rw [HQ.out]; exact HC.out.1), HBD.out⟩
      · have HQ : Hid (paT c.d = kw c.d ++ [32] ++ c.d.nm ++ ([32, 61, 32] ++ rw_ c.d.ru ++ [32] ++ c.d.f1)) := by
          show paT c.d = _
          rw [HP0.out]
          unfold ruT
          rw [if_neg (by omega), if_neg (fun hc => by omega)]
          simp
        skip
        rw [e] at s9 hWW
        clear e hr0  hFl hGl
        have s9d := at_bl hbd6 s9
        have s10d := at_bl hbd6 s10
        have s11d := at_bl hbd6 s11
        have hWd := at_bl hbd6 hWW
        have HBD : Hid (Bl w w6.drew) := H6.out.trans hbd6
        clear hbd6
        go_upto_region 6 with fail
        go_region
        all_goals
          generalize w6.drew = w7 at *
          go_wp2
          go_ret
          exact ⟨ret_s (by rw [HQ.out]; exact HC.out.1), HBD.out⟩
      · have HQ : Hid (paT c.d = kw c.d ++ [32] ++ c.d.nm ++ ([32, 61, 32] ++ rw_ c.d.ru ++ [32] ++ c.d.f1)) := by
          show paT c.d = _
          rw [HP0.out]
          unfold ruT
          rw [if_neg (by omega), if_neg (fun hc => hc.2 hl)]
          simp
        have hb : (G.toList == F.toList) = true := by rw [hFl, hGl, hl]; simp
        rw [e] at s9 hWW
        clear e hr0 hl hFl hGl
        have s9d := at_bl hbd6 s9
        have s10d := at_bl hbd6 s10
        have s11d := at_bl hbd6 s11
        have hWd := at_bl hbd6 hWW
        have HBD : Hid (Bl w w6.drew) := H6.out.trans hbd6
        clear hbd6
        go_upto_region 6 with fail
        go_region
        all_goals
          generalize w6.drew = w7 at *
          go_wp2
          go_ret
          exact ⟨ret_s (by rw [HQ.out]; exact HC.out.1), HBD.out⟩
      · have HQ : Hid (paT c.d = kw c.d ++ [32] ++ c.d.nm ++ ([32, 61, 32] ++ rw_ c.d.ru ++ [32] ++ c.d.f1) ++ ([32] ++ c.d.l1)) := by
          show paT c.d = _
          rw [HP0.out]
          unfold ruT
          rw [if_neg (by omega), if_pos ⟨e, hl⟩]
          simp
        have hb : (G.toList == F.toList) = false := by rw [hFl, hGl]; simpa using hl
        rw [e] at s9 hWW
        clear e hr0 hl hFl hGl
        have s9d := at_bl hbd6 s9
        have s10d := at_bl hbd6 s10
        have s11d := at_bl hbd6 s11
        have hWd := at_bl hbd6 hWW
        have HBD : Hid (Bl w w6.drew) := H6.out.trans hbd6
        clear hbd6
        go_upto_region 6 with fail
        go_region
        all_goals
          generalize w6.drew = w7 at *
          go_wp2
          go_ret
          exact ⟨ret_s (by rw [HQ.out]; exact HC.out.2), HBD.out⟩
end Go.Proofs.YtpanodaecjlgaaaGreatDoor.tm
/- Templates, printed: items in their brackets. -/
namespace Go.Proofs.YtpanodaecjlgaaaGreatDoor.tm
set_option linter.unusedVariables false
open Go.ChangeShapes Go.WideShapes Go.ChangeAt Go.RowKit Go.Shelf
open mem lx ex bld

def Its.ps : Its → List (D × Its)
  | .nil => []
  | .cons d s t => (d, s) :: t.ps
theorem Its.ps_len (l : Its) : l.ps.length = l.len := by
  induction l with
  | nil => rfl
  | cons d s t _ it => simp [Its.ps, Its.len, it]
/-- An item as text. -/
def itx1 (pad : List UInt8) (e : D × Its) : List UInt8 := pad ++ [32, 32] ++ (if e.1.kd = 4 then wWhen ++ [32] ++ txO e.1.ct ++ [32, 123, 10] ++ itx (pad ++ [32, 32]) e.2 ++ pad ++ [32, 32, 125, 10] else paT e.1 ++ [59, 10])
theorem itx_ps (pad : List UInt8) (l : Its) : itx pad l = l.ps.flatMap (itx1 pad) := by
  induction l with
  | nil => rfl
  | cons d s t _ it => rw [itx, Its.ps, List.flatMap_cons, ← it]; rfl
def pre1 (pad : List UInt8) (l : Its) (j : Nat) : List UInt8 := (l.ps.take j).flatMap (itx1 pad)
theorem pre1_step (pad : List UInt8) (l : Its) (j : Nat) (e : D × Its) (h : l.ps[j]? = some e) : pre1 pad l (j + 1) = pre1 pad l j ++ itx1 pad e := by
  unfold pre1
  rw [List.take_add_one, h, List.flatMap_append]
  simp
theorem pre1_all (pad : List UInt8) (l : Its) : pre1 pad l l.len = itx pad l := by
  unfold pre1
  rw [← Its.ps_len, List.take_length, itx_ps]
theorem pre1_len (pad : List UInt8) (l : Its) (j : Nat) : (pre1 pad l j).length ≤ (itx pad l).length := by
  rw [itx_ps]
  conv => rhs; rw [← List.take_append_drop j l.ps, List.flatMap_append, List.length_append]
  exact Nat.le_add_right _ _
theorem Rep.at {w : World} {ok : Nat → Prop} {l : Its} : ∀ {cs : List C}, Rep w ok l cs → ∀ j, j < l.len → ∃ c d s, cs[j]? = some c ∧ l.ps[j]? = some (d, s) ∧ c.d = d ∧ IsO w c.pc d.ct ∧ ∃ cs2, ir.Lie w ok c.p c.n c.c cs2 ∧ Rep w ok s cs2 := by
  induction l with
  | nil => intro cs h j hj; exact absurd hj (Nat.not_lt_zero _)
  | cons d s t _ it =>
    intro cs h j hj
    obtain ⟨c, r, rfl, h2, h3, h4, h6⟩ := h
    cases j with
    | zero => exact ⟨c, d, s, rfl, rfl, h2, h3, h4⟩
    | succ j =>
      obtain ⟨c', d', s', k1, k2, k3⟩ := it h6 j (by simp [Its.len] at hj; omega)
      exact ⟨c', d', s', by simpa using k1, by simpa [Its.ps] using k2, k3⟩
theorem WI.at {k : Nat} {l : Its} (h : WI k l) : ∀ (j : Nat) (d : D) (s : Its), l.ps[j]? = some (d, s) → WD d ∧ (d.kd ≠ 4 → noSub s = true) ∧ (d.kd = 4 → 0 < k ∧ s.len ≤ 16 ∧ WI (k - 1) s) := by
  induction l with
  | nil => intro j d s hj; cases hj
  | cons d s t _ it =>
    intro j d' s' hj
    obtain ⟨w1, w2, w3, w4⟩ := h
    cases j with
    | zero => simp [Its.ps] at hj; obtain ⟨rfl, rfl⟩ := hj; exact ⟨w1, w2, w3⟩
    | succ j => exact it w4 j d' s' (by simpa [Its.ps] using hj)
theorem Rep.low {w w' : World} {B : Nat} {l : Its} {cs : List C} (h : Rep w (fun g => g < B) l cs) (hb : Below B w w') (hx : Kx w w') : Rep w' (fun g => g < B) l cs := h.keep (fun g hg _ => hb.block g hg) hb.size hx
theorem lie_low {w w' : World} {B : Nat} {p : Option Addr} {n c : Nat} {cs : List C} (h : ir.Lie w (fun g => g < B) p n c cs) (hb : Below B w w') : ir.Lie w' (fun g => g < B) p n c cs := h.keep (fun g hg _ => hb.block g hg) hb.size
theorem lie_at {w : World} {ok : Nat → Prop} {p : Option Addr} {n c : Nat} {l : List C} (h : ir.Lie w ok p n c l) (k : Nat) (y : C) (hy : l[k]? = some y) : ∃ x : Addr, p = some x ∧ ok x.block ∧ w.cell? (x.add (k * 13)) = (cl y)[0]? ∧ ∀ j u, (cl y)[j]? = some u → w.cell? ⟨(x.add (k * 13)).block, (x.add (k * 13)).off + j, none⟩ = some u := by
  obtain ⟨hk, hy'⟩ := List.getElem?_eq_some_iff.1 hy
  obtain ⟨x, e1, e2, e3, e4⟩ := h.at k hk
  rw [hy'] at e4
  refine ⟨x, e1, e3, ?_, e4⟩
  have h0 := e4 0 _ rfl
  obtain ⟨_, _, h3⟩ := h
  rcases h3 with h3 | ⟨g, e, _⟩
  · subst h3; exact absurd hk (Nat.not_lt_zero _)
  · rw [e] at e1
    injection e1 with e1
    subst e1
    rw [Addr.add_lit] at h0 ⊢
    exact h0
/-- How far writing has come. -/
structure Wb (B b : Nat) (w wr : World) (acc : List UInt8) : Prop where
  bd : Bd B b acc wr
  bl : Below B w wr
  kb : Kb b w wr
theorem Wb.bl' {B b : Nat} {w wr w' : World} {acc : List UInt8} (h : Wb B b w wr acc) (hb : Bl wr w') : Wb B b w w' acc := ⟨h.bd.bl hb, h.bl.trans (hb.mono h.bd.le), h.kb.trans (Kb.bl hb)⟩
theorem Wb.go {B b : Nat} {w wr w' : World} {acc acc' : List UInt8} (h : Wb B b w wr acc) (h1 : Bd B b acc' w') (h2 : Below B wr w') (h3 : Kb b wr w') : Wb B b w w' acc' := ⟨h1, h.bl.trans h2, h.kb.trans h3⟩
theorem Iv.kb {w w' : World} {b M : Nat} {c : C} (h : Iv w M c) (hk : Kb b w w') (hne : M ≠ b) : Iv w' M c := ⟨hk.same M _ h.h hne (fun c fz e => by injection e with _ e2 _; exact absurd e2 (by decide))⟩
theorem Gt.low {w w' : World} {B : Nat} (h : Gt w) (hb : Below B w w') (hB : 6 ≤ B) : Gt w' := h.below (hb.mono hB)
theorem txO_le {d : D} (h : WD d) (h4 : d.kd ≠ 4) : (txO d.ct).length ≤ (paT d).length := by
  have key : (d.mn = true ∨ d.kd = 2) → (txO d.ct).length ≤ (paT d).length := by
    intro hm
    unfold paT mnT
    rw [if_pos hm]
    simp only [List.length_append, List.length_cons, List.length_nil]
    omega
  rcases h with h | h | h | h
  · exact absurd h.1 h4
  · exact key (Or.inr h.1)
  · rcases h.2.2.2.2.2.2.2.2.2 with h' | h'
    · exact key (Or.inl h'.1)
    · rw [h'.2]; exact Nat.zero_le _
  · rcases h.2.2.2.2 with h' | h'
    · exact key (Or.inl h'.1)
    · rw [h'.2.1]; exact Nat.zero_le _
/-- What writing items in their brackets does. -/
def BlkW (k : Nat) : Prop := ∀ (l : Its) (B b : Nat) (acc pad : List UInt8) (p : Option Addr) (c : Nat) (cs : List C) (w : World), WI k l → l.len ≤ 16 → Bd B b acc w → ir.Lie w (fun g => g < B) p l.len c cs → Rep w (fun g => g < B) l cs → Gt w → 6 ≤ B →
  acc.length + (itx pad l).length + pad.length + 10 ≤ 1000000 →
  Calls Tryz.prog 39 #[.pointer (some ⟨b, 0, none⟩), .slice p l.len c, .string (tx pad)] w fun e w' => Wrote B b acc ([32, 123, 10] ++ itx pad l ++ pad ++ [125, 10]) w e w'
set_option maxRecDepth 10000 in
set_option maxHeartbeats 4000000 in
theorem block_w (k : Nat) (hrec : ∀ k', k' < k → BlkW k') : BlkW k := by
  intro l B b acc pad p c cs w hw hlen hB hlie hrep hG hNG hl
  have c0 := write_at B b acc ⟨#[32, 123, 10]⟩ w hB (by show acc.length + 3 ≤ _; omega)
  obtain ⟨PS, hPS⟩ : ∃ PS, PS = tx pad := ⟨_, rfl⟩
  have hPSs : PS.size ≤ 1000000 := by rw [hPS, tx_size]; omega
  have H0 : Hid (WI k l ∧ Bd B b acc w ∧ ir.Lie w (fun g => g < B) p l.len c cs ∧ Rep w (fun g => g < B) l cs ∧ Gt w ∧ 6 ≤ B ∧ acc.length + (itx pad l).length + pad.length + 10 ≤ 1000000 ∧ PS = tx pad) := ⟨hw, hB, hlie, hrep, hG, hNG, hl, hPS⟩
  rw [← hPS]
  obtain ⟨n, hn⟩ : ∃ n, n = l.len := ⟨_, rfl⟩
  rw [← hn] at hlen ⊢
  have Hn : Hid (n = l.len) := hn
  clear hw hB hlie hrep hG hNG hl hPS hn
  go_enter Tryz.func39, Tryz.ntmps39
  go_wp2_with fail
  refine c0.mono ?_
  rintro e w1 ⟨rfl, hB1, hb1, hk1⟩
  have H1 : Hid (Wb B b w w1 (acc ++ [32, 123, 10])) := ⟨hB1, hb1, hk1⟩
  clear hB1 hb1 hk1 c0
  go_wp2
  go_loopw [12] (fun i wr => ∃ j : Nat, j ≤ n ∧ i = .int .i64 (j : Int) ∧ Hid (Wb B b w wr (acc ++ [32, 123, 10] ++ pre1 pad l j))) (fun i _ => n - (intOf i).toNat)
  case atStart => exact ⟨0, by omega, rfl, by show Wb B b w w1 (acc ++ [32, 123, 10] ++ pre1 pad l 0); have := H1.out; simpa [pre1] using this⟩
  case round =>
    clear H1
    obtain ⟨j, hj, rfl, HB⟩ := hrel
    by_cases hjn : j < n
    · have d1 : decide ((j : Int) < (n : Int)) = true := decide_eq_true (by omega)
      have i0 : (0 : Int) ≤ (j : Int) := by omega
      have i1 : (j : Int) < (n : Int) := by omega
      obtain ⟨x, d, s, e1, e2, e3, e4, cs2, e5, e6⟩ := H0.out.2.2.2.1.at j (by rw [← Hn.out]; exact hjn)
      have hkx : Kx w wr := Kb.kx HB.out.kb H0.out.2.1
      subst e3
      obtain ⟨X, rfl, _, g0', g⟩ := lie_at (lie_low H0.out.2.2.1 HB.out.bl) j x e1
      have g0 : wr.cell? (X.add (j * 13)) = some (.int .i64 (x.d.kd : Int)) := g0'
      clear g0'
      have g1 := g 1 _ rfl
      have g2 := g 2 _ rfl
      have g3 := g 3 _ rfl
      have g4 := g 4 _ rfl
      have g5 := g 5 _ rfl
      have g6 := g 6 _ rfl
      have g7 := g 7 _ rfl
      have g8 := g 8 _ rfl
      have g9 := g 9 _ rfl
      have g10 := g 10 _ rfl
      have g11 := g 11 _ rfl
      have g12 := g 12 _ rfl
      clear g e1
      obtain ⟨w3, hw3⟩ : ∃ w3, w3 = wr.alloc (.cells (cl x).toArray 75) := ⟨_, rfl⟩
      obtain ⟨M, hM⟩ : ∃ M, M = wr.heap.size := ⟨_, rfl⟩
      have hv3 : Iv w3 M x := ⟨by rw [hw3, hM]; exact new_at _ _⟩
      have hbl3 : Bl wr w3 := by rw [hw3]; exact (Bl.refl _).alloc _
      have hMb : M ≠ b := by have := HB.out.bd.lt; omega
      have hpl : (pre1 pad l (j + 1)).length ≤ (itx pad l).length := pre1_len pad l (j + 1)
      rw [pre1_step pad l j _ e2, List.length_append] at hpl
      have hbase := H0.out.2.2.2.2.2.2.1
      have W3 := HB.out.bl' hbl3
      have hit : (itx1 pad (x.d, s)).length = pad.length + 2 + (if x.d.kd = 4 then wWhen ++ [32] ++ txO x.d.ct ++ [32, 123, 10] ++ itx (pad ++ [32, 32]) s ++ pad ++ [32, 32, 125, 10] else paT x.d ++ [59, 10]).length := by
        unfold itx1
        rw [List.length_append, List.length_append]
        rfl
      have cW := write_at B b _ (PS ++ ⟨#[32, 32]⟩) w3 W3.bd (by
        rw [ByteArray.size_append]
        show _ + (_ + 2) ≤ _
        simp only [List.length_append, List.length_cons, List.length_nil]
        omega)
      have hpp : (PS ++ ⟨#[32, 32]⟩ : ByteArray) = tx (pad ++ [32, 32]) := by rw [H0.out.2.2.2.2.2.2.2, show ({ data := #[32, 32] } : ByteArray) = tx [32, 32] from rfl, tx_app]
      have hppl : (PS ++ ⟨#[32, 32]⟩ : ByteArray).data.toList = pad ++ [32, 32] := by rw [hpp]; exact L_tx _
      rw [hppl] at cW
      obtain ⟨w1', w2', w3'⟩ := H0.out.1.at j _ _ e2
      have HI : Hid (WD x.d ∧ (x.d.kd ≠ 4 → noSub s = true) ∧ (x.d.kd = 4 → 0 < k ∧ s.len ≤ 16 ∧ WI (k - 1) s)) := ⟨w1', w2', w3'⟩
      have HL : Hid ((pre1 pad l j).length + (itx1 pad (x.d, s)).length ≤ (itx pad l).length ∧ (itx1 pad (x.d, s)).length = pad.length + 2 + (if x.d.kd = 4 then wWhen ++ [32] ++ txO x.d.ct ++ [32, 123, 10] ++ itx (pad ++ [32, 32]) s ++ pad ++ [32, 32, 125, 10] else paT x.d ++ [59, 10]).length ∧ acc.length + (itx pad l).length + pad.length + 10 ≤ 1000000) := ⟨hpl, hit, hbase⟩
      have HE : Hid (l.ps[j]? = some (x.d, s) ∧ (PS ++ ⟨#[32, 32]⟩ : ByteArray) = tx (pad ++ [32, 32])) := ⟨e2, hpp⟩
      have H3 : Hid (Wb B b w w3 (acc ++ [32, 123, 10] ++ pre1 pad l j) ∧ Iv w3 M x) := ⟨W3, hv3⟩
      clear hpl hit hbase W3 hv3 hbl3 hpp hppl w1' w2' w3' e2 hkx
      go_upto_region 4 with fail
      change Code.wp _ _ _ _ (wr.alloc (.cells (cl x).toArray 75))
      rw [← hw3, ← hM]
      clear hw3 hM g0 g1 g2 g3 g4 g5 g6 g7 g8 g9 g10 g11 g12
      go_wp2_with fail
      refine cW.mono ?_
      rintro e w4 ⟨rfl, hB4, hb4, hk4⟩
      have H4 : Hid (Wb B b w w4 (acc ++ [32, 123, 10] ++ pre1 pad l j ++ (pad ++ [32, 32])) ∧ Iv w4 M x) := ⟨H3.out.1.go hB4 hb4 hk4, H3.out.2.kb hk4 hMb⟩
      clear hB4 hb4 hk4 cW
      obtain ⟨a0, a1, a2, a3, a4, a5, a6, a7, a8, a9, a10, a11, a12⟩ := H4.out.2.facts
      have hkx4 : Kx w w4 := Kb.kx H4.out.1.kb H0.out.2.1
      have hG4 : Gt w4 := H0.out.2.2.2.2.1.low H4.out.1.bl H0.out.2.2.2.2.2.1
      by_cases hk4 : x.d.kd = 4
      · obtain ⟨ex, hex, wx⟩ : ∃ e, x.d.ct = some e ∧ WX e := by
          rcases HI.out.1 with h | h | h | h
          · exact h.2.1
          · rw [h.1] at hk4; cases hk4
          · rw [h.1] at hk4; cases hk4
          · rw [h.1] at hk4; cases hk4
        obtain ⟨u1, u2, u3⟩ := HI.out.2.2 hk4
        have hlen4 := HL.out
        rw [if_pos hk4, hex] at hlen4
        simp only [List.length_append, List.length_cons, List.length_nil] at hlen4
        have hxx : IsX w4 (.pointer x.pc) ex := by
          have := e4
          rw [hex] at this
          exact IsX.keep hkx4 this
        have hwl : wWhen.length = 4 := rfl
        have htl : (txt ex).length ≤ 1000000 := by have h1 : (txO (some ex)).length = (txt ex).length := rfl; omega
        have cT := Text_at ex (.pointer x.pc) w4 hxx hG4.gd.pw hG4.gd.lt wx.2.1.fit (by omega)
        obtain ⟨TT, hTT⟩ : ∃ TT, TT = tx (txt ex) := ⟨_, rfl⟩
        have hTTs : TT.size ≤ 1000000 := by rw [hTT, tx_size]; exact htl
        rw [← hTT] at cT
        have hen : x.n = s.len := by rw [e5.1]; exact e6.len.1
        have HX : Hid (TT = tx (txt ex) ∧ x.d.ct = some ex ∧ x.d.kd = 4) := ⟨hTT, hex, hk4⟩
        have HU : Hid (0 < k ∧ s.len ≤ 16 ∧ WI (k - 1) s ∧ ir.Lie w (fun g => g < B) x.p s.len x.c cs2 ∧ Rep w (fun g => g < B) s cs2 ∧ x.n = s.len) := ⟨u1, u2, u3, by rw [← hen]; exact e5, e6, hen⟩
        rw [hk4] at a0
        clear hTT hxx htl wx u1 u2 u3 hex hk4 a1 a2 a3 a4 a5 a6 a7 a9 a10 a11 hen
        go_wp2_with fail
        refine cT.mono ?_
        rintro e w5 ⟨rfl, hb5⟩
        have H5 : Hid (Wb B b w w5 (acc ++ [32, 123, 10] ++ pre1 pad l j ++ (pad ++ [32, 32])) ∧ Iv w5 M x) := ⟨H4.out.1.bl' hb5, H4.out.2.bl hb5⟩
        have cW := write_at B b _ (⟨#[119, 104, 101, 110, 32]⟩ ++ TT) w5 H5.out.1.bd (by
          rw [ByteArray.size_append]
          show _ + (5 + _) ≤ _
          simp only [List.length_append, List.length_cons, List.length_nil]
          omega)
        have hppl : (⟨#[119, 104, 101, 110, 32]⟩ ++ TT : ByteArray).data.toList = wWhen ++ [32] ++ txt ex := by
          rw [HX.out.1, show ({ data := #[119, 104, 101, 110, 32] } : ByteArray) = tx (wWhen ++ [32]) from rfl, tx_app]
          exact L_tx _
        rw [hppl] at cW
        clear hppl hb5 cT a0 a8 a12
        go_wp2_with fail
        refine cW.mono ?_
        rintro e w6 ⟨rfl, hB6, hb6, hk6⟩
        have H6 : Hid (Wb B b w w6 (acc ++ [32, 123, 10] ++ pre1 pad l j ++ (pad ++ [32, 32]) ++ (wWhen ++ [32] ++ txt ex)) ∧ Iv w6 M x) := ⟨H5.out.1.go hB6 hb6 hk6, H5.out.2.kb hk6 hMb⟩
        have cR := hrec (k - 1) (by have := HU.out.1; omega) s B b _ (pad ++ [32, 32]) x.p x.c cs2 w6 HU.out.2.2.1 HU.out.2.1 hB6 (lie_low HU.out.2.2.2.1 H6.out.1.bl) (HU.out.2.2.2.2.1.low H6.out.1.bl (Kb.kx H6.out.1.kb H0.out.2.1)) (H0.out.2.2.2.2.1.low H6.out.1.bl H0.out.2.2.2.2.2.1) H0.out.2.2.2.2.2.1 (by
          have h1 : (txO (some ex)).length = (txt ex).length := rfl
          simp only [List.length_append, List.length_cons, List.length_nil]
          omega)
        rw [← HE.out.2, ← HU.out.2.2.2.2.2] at cR
        obtain ⟨b0, b1, b2, b3, b4, b5, b6, b7, b8, b9, b10, b11, b12⟩ := H6.out.2.facts
        clear hB6 hb6 hk6 cW b0 b1 b2 b3 b4 b5 b6 b7 b8 b9 b10 b11
        go_wp2_with fail
        refine cR.mono ?_
        rintro e w7 ⟨rfl, hB7, hb7, hk7⟩
        have H7 : Hid (Wb B b w w7 (acc ++ [32, 123, 10] ++ pre1 pad l (j + 1))) := by
          show Wb B b w w7 _
          rw [pre1_step pad l j _ HE.out.1]
          have h7 := H6.out.1.go hB7 hb7 hk7
          unfold itx1
          rw [if_pos (show (x.d, s).1.kd = 4 from HX.out.2.2)]
          have e9 : acc ++ [32, 123, 10] ++ (pre1 pad l j ++ (pad ++ [32, 32] ++ (wWhen ++ [32] ++ txO (x.d, s).1.ct ++ [32, 123, 10] ++ itx (pad ++ [32, 32]) (x.d, s).2 ++ pad ++ [32, 32, 125, 10]))) = acc ++ [32, 123, 10] ++ pre1 pad l j ++ (pad ++ [32, 32]) ++ (wWhen ++ [32] ++ txt ex) ++ ([32, 123, 10] ++ itx (pad ++ [32, 32]) s ++ (pad ++ [32, 32]) ++ [125, 10]) := by
            rw [show (x.d, s).1.ct = some ex from HX.out.2.1]
            simp [txO]
          rw [e9]
          exact h7
        clear hB7 hb7 hk7 cR b12
        go_wp2
        go_roundw
        case rel => exact ⟨j + 1, by omega, by go_num, H7.out⟩
        case measure => simp [intOf]; omega
      · have hlen4 := HL.out
        rw [if_neg hk4] at hlen4
        simp only [List.length_append, List.length_cons, List.length_nil] at hlen4
        have htx := txO_le HI.out.1 hk4
        have cP := partW_at w4 x hG4 HI.out.1 hk4 (e4.keep hkx4) (by omega)
        obtain ⟨TT, hTT⟩ : ∃ TT, TT = tx (paT x.d) := ⟨_, rfl⟩
        have hTTs : TT.size ≤ 1000000 := by rw [hTT, tx_size]; omega
        rw [← hTT] at cP
        have HX : Hid (TT = tx (paT x.d) ∧ ¬ x.d.kd = 4) := ⟨hTT, hk4⟩
        have hk4' : ¬ ((x.d.kd : Int) = 4) := by omega
        unfold itV cl at cP
        have hTl : TT.size = (paT x.d).length := by rw [hTT, tx_size]
        clear hTT hk4
        go_wp2_with fail
        refine cP.mono ?_
        rintro e w5 ⟨rfl, hb5⟩
        have H5 : Hid (Wb B b w w5 (acc ++ [32, 123, 10] ++ pre1 pad l j ++ (pad ++ [32, 32]))) := H4.out.1.bl' hb5
        have cW := write_at B b _ (TT ++ ⟨#[59, 10]⟩) w5 H5.out.bd (by
          rw [ByteArray.size_append]
          show _ + (_ + 2) ≤ _
          simp only [List.length_append, List.length_cons, List.length_nil]
          omega)
        have hppl : (TT ++ ⟨#[59, 10]⟩ : ByteArray).data.toList = paT x.d ++ [59, 10] := by
          rw [HX.out.1, show ({ data := #[59, 10] } : ByteArray) = tx [59, 10] from rfl, tx_app]
          exact L_tx _
        rw [hppl] at cW
        clear hppl hb5 cP a0 a1 a2 a3 a4 a5 a6 a7 a8 a9 a10 a11 a12
        go_wp2_with fail
        refine cW.mono ?_
        rintro e w6 ⟨rfl, hB6, hb6, hk6⟩
        have H7 : Hid (Wb B b w w6 (acc ++ [32, 123, 10] ++ pre1 pad l (j + 1))) := by
          show Wb B b w w6 _
          rw [pre1_step pad l j _ HE.out.1]
          have h7 := H5.out.go hB6 hb6 hk6
          unfold itx1
          rw [if_neg (show ¬ (x.d, s).1.kd = 4 from HX.out.2)]
          have e9 : acc ++ [32, 123, 10] ++ (pre1 pad l j ++ (pad ++ [32, 32] ++ (paT (x.d, s).1 ++ [59, 10]))) = acc ++ [32, 123, 10] ++ pre1 pad l j ++ (pad ++ [32, 32]) ++ (paT x.d ++ [59, 10]) := by simp
          rw [e9]
          exact h7
        clear hB6 hb6 hk6 cW
        go_wp2
        go_roundw
        case rel => exact ⟨j + 1, by omega, by go_num, H7.out⟩
        case measure => simp [intOf]; omega
    · obtain rfl : j = n := by omega
      have hb := H0.out.2.2.2.2.2.2.1
      have hpe : pre1 pad l j = itx pad l := by rw [Hn.out]; exact pre1_all pad l
      have cW := write_at B b _ (PS ++ ⟨#[125, 10]⟩) wr HB.out.bd (by
        rw [ByteArray.size_append, hpe]
        show _ + (_ + 2) ≤ _
        simp only [List.length_append, List.length_cons, List.length_nil]
        omega)
      have hppl : (PS ++ ⟨#[125, 10]⟩ : ByteArray).data.toList = pad ++ [125, 10] := by
        rw [H0.out.2.2.2.2.2.2.2, show ({ data := #[125, 10] } : ByteArray) = tx [125, 10] from rfl, tx_app]
        exact L_tx _
      rw [hppl, hpe] at cW
      have HP : Hid (pre1 pad l j = itx pad l) := hpe
      clear hppl hpe hb
      go_wp2_with fail
      refine cW.mono ?_
      rintro e w6 ⟨rfl, hB6, hb6, hk6⟩
      have H7 := HB.out.go hB6 hb6 hk6
      have e9 : acc ++ [32, 123, 10] ++ itx pad l ++ (pad ++ [125, 10]) = acc ++ ([32, 123, 10] ++ itx pad l ++ pad ++ [125, 10]) := by simp
      rw [e9] at H7
      go_wp2
      go_end0
      exact ⟨rfl, H7.bd, H7.bl, H7.kb⟩
theorem block_wa (k : Nat) : BlkW k := by
  induction k using Nat.strongRecOn with
  | ind k ih => exact block_w k ih
end Go.Proofs.YtpanodaecjlgaaaGreatDoor.tm
/- Templates, printed. -/
namespace Go.Proofs.YtpanodaecjlgaaaGreatDoor.tm
set_option linter.unusedVariables false
open Go.ChangeShapes Go.WideShapes Go.ChangeAt Go.RowKit Go.Shelf
open mem lx ex bld

def pre2 (l : List Ty) (j : Nat) : List UInt8 := (l.take j).flatMap tyx
theorem pre2_step (l : List Ty) (j : Nat) (t : Ty) (h : l[j]? = some t) : pre2 l (j + 1) = pre2 l j ++ tyx t := by
  unfold pre2
  rw [List.take_add_one, h, List.flatMap_append]
  simp
theorem pre2_all (l : List Ty) : pre2 l l.length = ptxt l := by
  unfold pre2
  rw [List.take_length]; rfl
theorem pre2_len (l : List Ty) (j : Nat) : (pre2 l j).length ≤ (ptxt l).length := by
  unfold ptxt
  conv => rhs; rw [← List.take_append_drop j l, List.flatMap_append, List.length_append]
  exact Nat.le_add_right _ _
theorem RepT.at {w : World} {ok : Nat → Prop} {l : List Ty} : ∀ {cs : List CT}, RepT w ok l cs → ∀ j, j < l.length → ∃ c t, cs[j]? = some c ∧ l[j]? = some t ∧ c.nm = t.nm ∧ c.a = t.at_ ∧ ∃ cs2, ir.Lie w ok c.p c.n c.c cs2 ∧ Rep w ok t.l cs2 := by
  induction l with
  | nil => intro cs h j hj; exact absurd hj (Nat.not_lt_zero _)
  | cons t l it =>
    intro cs h j hj
    obtain ⟨c, r, rfl, h2, h3, h4, h6⟩ := h
    cases j with
    | zero => exact ⟨c, t, rfl, rfl, h2, h3, h4⟩
    | succ j =>
      obtain ⟨c', t', k1, k2, k3⟩ := it h6 j (by simpa using hj)
      exact ⟨c', t', by simpa using k1, by simpa using k2, k3⟩
theorem lieT_low {w w' : World} {B : Nat} {p : Option Addr} {n c : Nat} {cs : List CT} (h : sr.Lie w (fun g => g < B) p n c cs) (hb : Below B w w') : sr.Lie w' (fun g => g < B) p n c cs := h.keep (fun g hg _ => hb.block g hg) hb.size
theorem lieT_at {w : World} {ok : Nat → Prop} {p : Option Addr} {n c : Nat} {l : List CT} (h : sr.Lie w ok p n c l) (k : Nat) (y : CT) (hy : l[k]? = some y) : ∃ x : Addr, p = some x ∧ ok x.block ∧ w.cell? (x.add (k * 3)) = (clT y)[0]? ∧ ∀ j u, (clT y)[j]? = some u → w.cell? ⟨(x.add (k * 3)).block, (x.add (k * 3)).off + j, none⟩ = some u := by
  obtain ⟨hk, hy'⟩ := List.getElem?_eq_some_iff.1 hy
  obtain ⟨x, e1, e2, e3, e4⟩ := h.at k hk
  rw [hy'] at e4
  refine ⟨x, e1, e3, ?_, e4⟩
  have h0 := e4 0 _ rfl
  obtain ⟨_, _, h3⟩ := h
  rcases h3 with h3 | ⟨g, e, _⟩
  · subst h3; exact absurd hk (Nat.not_lt_zero _)
  · rw [e] at e1
    injection e1 with e1
    subst e1
    rw [Addr.add_lit] at h0 ⊢
    exact h0
set_option maxRecDepth 10000 in
set_option maxHeartbeats 4000000 in
theorem Print_at (l : List Ty) (v : Value) (w : World) (ok : Nat → Prop) (h : IsTs w ok v l) (hw : WT l) (hG : Gt w) (hl : (ptxt l).length + 20 ≤ 1000000) :
    Calls Tryz.prog 13 #[v] w fun e w' => e = .returned (.string (tx (ptxt l))) ∧ Bl w w' := by
  obtain ⟨p, c, cs, rfl, h1, h2⟩ := h
  have h1 := h1.mono (ok' := fun g => g < w.heap.size) (fun g _ hg => hg)
  have h2 := h2.mono (ok' := fun g => g < w.heap.size) (fun g _ hg => hg)
  have hNG : 6 ≤ w.heap.size := by have := hG.gd.lt; omega
  have hb0 := Bd.new w
  obtain ⟨B, hB⟩ : ∃ B, B = w.heap.size := ⟨_, rfl⟩
  obtain ⟨w1, hw1⟩ : ∃ w1, w1 = w.alloc (.cells #[.pointer none, .slice none 0 0] 80) := ⟨_, rfl⟩
  have hbl : Bl w w1 := by rw [hw1]; exact (Bl.refl _).alloc _
  rw [← hw1, ← hB] at hb0
  rw [← hB] at h1 h2 hNG
  have hbl' : Below B w w1 := by rw [hB]; exact hbl
  obtain ⟨n, hn⟩ : ∃ n, n = l.length := ⟨_, rfl⟩
  have hn8 : n ≤ 8 := by rw [hn]; exact hw.1
  have H1 : Hid (Wb B B w1 w1 [] ∧ sr.Lie w1 (fun g => g < B) p l.length c cs ∧ RepT w1 (fun g => g < B) l cs ∧ Gt w1 ∧ 6 ≤ B ∧ WT l ∧ (ptxt l).length + 20 ≤ 1000000 ∧ n = l.length ∧ Below B w w1) :=
    ⟨⟨hb0, Below.refl _ _, Kb.refl _ _⟩, lieT_low h1 hbl', h2.keep (fun g hg _ => hbl'.block g hg) hbl'.size (Kx.bl hbl), hG.bl hbl, hNG, hw, hl, hn, hbl'⟩
  have HBe : Hid (B = w.heap.size) := hB
  rw [← hn]
  clear h1 h2 hNG hb0 hbl hbl' hn hw hG hl
  go_enter Tryz.func13, Tryz.ntmps13
  go_upto_region 2 with fail
  rw [← hw1, ← hB]
  clear hw1 hB
  go_wp2
  go_loopw [8] (fun i wr => ∃ j : Nat, j ≤ n ∧ i = .int .i64 (j : Int) ∧ Hid (Wb B B w1 wr (pre2 l j))) (fun i _ => n - (intOf i).toNat)
  case atStart => exact ⟨0, by omega, rfl, H1.out.1⟩
  case round =>
    obtain ⟨j, hj, rfl, HB⟩ := hrel
    obtain ⟨H10, Hlie, Hrep, HGt, HNG, HWT, Hl, Hn, Hbl⟩ := H1.out
    by_cases hjn : j < n
    · have d1 : decide ((j : Int) < (n : Int)) = true := decide_eq_true (by omega)
      have i0 : (0 : Int) ≤ (j : Int) := by omega
      have i1 : (j : Int) < (n : Int) := by omega
      obtain ⟨x, t, e1, e2, e3, e4, cs2, e5, e6⟩ := Hrep.at j (by rw [← Hn]; exact hjn)
      have hkx : Kx w1 wr := Kb.kx HB.out.kb H10.bd
      obtain ⟨X, rfl, _, g0', g⟩ := lieT_at (lieT_low Hlie HB.out.bl) j x e1
      have g0 : wr.cell? (X.add (j * 3)) = some (.string (tx x.nm)) := g0'
      clear g0'
      have g1 := g 1 _ rfl
      have g2 := g 2 _ rfl
      clear g e1
      obtain ⟨w3, hw3⟩ : ∃ w3, w3 = wr.alloc (.cells (clT x).toArray 36) := ⟨_, rfl⟩
      obtain ⟨M, hM⟩ : ∃ M, M = wr.heap.size := ⟨_, rfl⟩
      have hv3 : w3.heap[M]? = some (.cells (clT x).toArray 36 (0, 0)) := by rw [hw3, hM]; exact new_at _ _
      have hbl3 : Bl wr w3 := by rw [hw3]; exact (Bl.refl _).alloc _
      have hMb : M ≠ B := by have := HB.out.bd.lt; omega
      have hpl := pre2_len l (j + 1)
      rw [pre2_step l j _ e2, List.length_append] at hpl
      have W3 := HB.out.bl' hbl3
      have hit : (tyx t).length = 7 + t.nm.length + 3 + (itx [] t.l).length + 2 := by
        unfold tyx
        simp only [List.length_append, List.length_cons, List.length_nil]
        rw [show wStruct.length = 6 from rfl]
      obtain ⟨t1, t2, t3⟩ := HWT.2 t (List.mem_of_getElem? e2)
      obtain ⟨NMs, hNM⟩ : ∃ NMs, NMs = tx x.nm := ⟨_, rfl⟩
      have hNMs : NMs.size ≤ 12 := by rw [hNM, tx_size, e3]; exact t1.2.2.1
      have cW := write_at B B _ (⟨#[115, 116, 114, 117, 99, 116, 32]⟩ ++ NMs) w3 W3.bd (by
        rw [ByteArray.size_append]
        show _ + (7 + _) ≤ _
        omega)
      have hppl : (⟨#[115, 116, 114, 117, 99, 116, 32]⟩ ++ NMs : ByteArray).data.toList = wStruct ++ [32] ++ t.nm := by
        rw [hNM, e3, show ({ data := #[115, 116, 114, 117, 99, 116, 32] } : ByteArray) = tx (wStruct ++ [32]) from rfl, tx_app]
        exact L_tx _
      rw [hppl] at cW
      have hen : x.n = t.l.len := by rw [e5.1]; exact e6.len.1
      have H3 : Hid (Wb B B w1 w3 (pre2 l j) ∧ w3.heap[M]? = some (.cells (clT x).toArray 36 (0, 0)) ∧ l[j]? = some t ∧ t.l.len ≤ 16 ∧ WI 7 t.l ∧ x.n = t.l.len ∧ ir.Lie w1 (fun g => g < B) x.p t.l.len x.c cs2 ∧ Rep w1 (fun g => g < B) t.l cs2) := ⟨W3, hv3, e2, t2, t3, hen, by rw [← hen]; exact e5, e6⟩
      have HL : Hid ((pre2 l j).length + (tyx t).length ≤ (ptxt l).length ∧ (tyx t).length = 7 + t.nm.length + 3 + (itx [] t.l).length + 2 ∧ (ptxt l).length + 20 ≤ 1000000) := ⟨hpl, hit, Hl⟩
      have hMs : M < w3.heap.size := lt_of_heap hv3
      have c0 : w3.cell? ⟨M, 0, none⟩ = some (.string NMs) := by rw [cell_of hv3, hNM]; rfl
      clear hpl hit W3 hv3 hbl3 hppl t1 t2 t3 e2 e3 e4 e5 e6 hkx H10 Hlie Hrep HGt HNG HWT Hl Hbl hen Hn hNM
      go_upto_region 5 with fail
      change Code.wp _ _ _ _ (wr.alloc (.cells (clT x).toArray 36))
      rw [← hw3, ← hM]
      clear hw3 hM g0 g1 g2
      go_wp2_with fail
      refine cW.mono ?_
      rintro e w4 ⟨rfl, hB4, hb4, hk4⟩
      have H4 : Hid (Wb B B w1 w4 (pre2 l j ++ (wStruct ++ [32] ++ t.nm)) ∧ w4.heap[M]? = some (.cells (clT x).toArray 36 (0, 0))) := ⟨H3.out.1.go hB4 hb4 hk4, hk4.same M _ H3.out.2.1 hMb (fun c fz e => by injection e with _ e2 _; exact absurd e2 (by decide))⟩
      have c2 : w4.cell? ⟨M, 2, none⟩ = some (.slice x.p x.n x.c) := by rw [cell_of H4.out.2]; rfl
      have hlens := HL.out
      have cR := block_wa 7 t.l B B _ [] x.p x.c cs2 w4 H3.out.2.2.2.2.1 H3.out.2.2.2.1 hB4 (lie_low H3.out.2.2.2.2.2.2.1 H4.out.1.bl) (H3.out.2.2.2.2.2.2.2.low H4.out.1.bl (Kb.kx H4.out.1.kb H1.out.1.bd)) (H1.out.2.2.2.1.low H4.out.1.bl H1.out.2.2.2.2.1) H1.out.2.2.2.2.1 (by
        simp only [List.length_append, List.length_cons, List.length_nil]
        rw [show wStruct.length = 6 from rfl]
        omega)
      rw [← H3.out.2.2.2.2.2.1] at cR
      rw [show tx [] = (⟨#[]⟩ : ByteArray) from rfl] at cR
      clear hB4 hb4 hk4 cW c0 hlens
      go_wp2_with fail
      refine cR.mono ?_
      rintro e w7 ⟨rfl, hB7, hb7, hk7⟩
      have H7 : Hid (Wb B B w1 w7 (pre2 l (j + 1))) := by
        show Wb B B w1 w7 _
        rw [pre2_step l j _ H3.out.2.2.1]
        have h7 := H4.out.1.go hB7 hb7 hk7
        have e9 : pre2 l j ++ tyx t = pre2 l j ++ (wStruct ++ [32] ++ t.nm) ++ ([32, 123, 10] ++ itx [] t.l ++ [] ++ [125, 10]) := by
          unfold tyx
          simp
        rw [e9]
        exact h7
      clear hB7 hb7 hk7 cR c2
      go_wp2
      go_roundw
      case rel => exact ⟨j + 1, by omega, by go_num, H7.out⟩
      case measure => simp [intOf]; omega
    · obtain rfl : j = n := by omega
      have hpe : pre2 l j = ptxt l := by rw [Hn]; exact pre2_all l
      have hB9 := HB.out.bd
      rw [hpe] at hB9
      have HBl : Hid (Below B w wr) := Hbl.trans HB.out.bl
      clear H10 Hlie Hrep HGt HNG HWT Hl Hn Hbl hpe
      go_wp2_with fail
      refine (string_at _ _ _ _ hB9).mono ?_
      rintro e w3 ⟨rfl, hb3, _⟩
      have HBl3 : Hid (Bl w w3) := by
        have := HBl.out.trans hb3
        rw [HBe.out] at this
        exact this
      clear hb3 hB9
      go_wp2
      go_ret
      exact ⟨rfl, HBl3.out⟩
end Go.Proofs.YtpanodaecjlgaaaGreatDoor.tm
/- Whether templates fit together: an item by its name. -/
namespace Go.Proofs.YtpanodaecjlgaaaGreatDoor.tm
set_option linter.unusedVariables false
open Go.ChangeShapes Go.WideShapes Go.ChangeAt Go.RowKit Go.Shelf
open mem lx ex

theorem lie_bl {w w' : World} {ok : Nat → Prop} {p : Option Addr} {n c : Nat} {cs : List C} (h : ir.Lie w ok p n c cs) (hb : Bl w w') : ir.Lie w' ok p n c cs := h.keep (fun g _ hg => Below.block hb g hg) hb.size
theorem named_is (m : ByteArray) (b : Nat) (x : C) (w : World) (hb : w.cell? ⟨b, 0, none⟩ = some (.string m)) : Calls Tryz.prog 137 #[itV x, .pointer (some ⟨b, 0, none⟩)] w fun e w' => e = .returned (.bool (decide (x.d.nm = L m))) ∧ Bl w w' := by
  have hb' := at_bl ((Bl.refl w).alloc (.cells (cl x).toArray 75)) hb
  have hlt : b < w.heap.size := by
    rcases Nat.lt_or_ge b w.heap.size with h | h
    · exact h
    · simp [World.cell?, Array.getElem?_eq_none h] at hb
  have hne : ¬ b = w.heap.size := by omega
  have htl := tl_tx x.d.nm
  have hml : m.toList = L m := ByteArray.toList_eq m
  have hD : (decide (x.d.nm = L m)) = ((tx x.d.nm).toList == m.toList) := by rw [htl, hml, Bool.eq_iff_iff]; simp
  rw [hD]
  obtain ⟨w1, hw1⟩ : ∃ w1, w1 = w.alloc (.cells (cl x).toArray 75) := ⟨_, rfl⟩
  obtain ⟨N, hN⟩ : ∃ N, N = w.heap.size := ⟨_, rfl⟩
  have hv : Iv w1 N x := ⟨by rw [hw1, hN]; exact new_at _ _⟩
  have HB : Hid (Bl w w1) := by show Bl w w1; rw [hw1]; exact (Bl.refl _).alloc _
  have g2 := hv.facts.2.2.1
  rw [← hw1] at hb'
  clear hD htl hml hv hne hlt hb
  unfold itV
  go_enter Tryz.func137, Tryz.ntmps137
  go_upto_region 1 with fail
  change Code.wp _ _ _ _ (w.alloc (.cells (cl x).toArray 75))
  rw [← hw1, ← hN]
  clear hw1 hN
  go_wp2
  go_ret
  exact ⟨rfl, HB.out⟩
/-- Where an item stands that is called so, or -1. -/
def idx : Option Nat → Int
  | some k => (k : Int)
  | none => -1
theorem nmd_idx (cs : List C) (t : List UInt8) : idx (nmd (cs.map C.d) t) = if cs.findIdx (fun c => c.d.nm == t) < cs.length then ((cs.findIdx (fun c => c.d.nm == t) : Nat) : Int) else -1 := by
  unfold nmd
  induction cs with
  | nil => rfl
  | cons c r ih =>
    rw [List.map_cons, List.findIdx?_cons, List.findIdx_cons]
    cases hc : (c.d.nm == t) with
    | true => simp [idx]
    | false =>
      simp only [cond_false, Bool.false_eq_true, if_false, List.length_cons, Nat.add_lt_add_iff_right]
      cases hr : List.findIdx? (fun d => d.nm == t) (r.map C.d) with
      | none =>
        rw [hr] at ih
        have ih' : (-1 : Int) = if r.findIdx (fun c => c.d.nm == t) < r.length then ((r.findIdx (fun c => c.d.nm == t) : Nat) : Int) else -1 := ih
        split at ih'
        · omega
        · rename_i h; rw [if_neg h]; rfl
      | some k =>
        rw [hr] at ih
        have ih' : ((k : Nat) : Int) = if r.findIdx (fun c => c.d.nm == t) < r.length then ((r.findIdx (fun c => c.d.nm == t) : Nat) : Int) else -1 := ih
        split at ih'
        · rename_i h
          rw [if_pos h]
          show ((k + 1 : Nat) : Int) = _
          omega
        · omega
set_option maxRecDepth 10000 in
set_option maxHeartbeats 1000000 in
theorem indexI_at (m : ByteArray) (b : Nat) (cs : List C) (ok : Nat → Prop) (p : Option Addr) (n c : Nat) (w : World) (hin : ir.Lie w ok p n c cs) (hn : n ≤ 3000) (hb : w.cell? ⟨b, 0, none⟩ = some (.string m)) :
    Calls Tryz.prog 136 #[.slice p n c, .func (.func 137) #[] #[.pointer (some ⟨b, 0, none⟩)]] w fun e w' => e = .returned (.int .i64 (idx (nmd (cs.map C.d) (L m)))) ∧ Bl w w' := by
  rw [nmd_idx]
  obtain ⟨U, hU⟩ : ∃ U, U = cs.findIdx (fun c => c.d.nm == L m) := ⟨_, rfl⟩
  rw [← hU]
  have hnc : n = cs.length := hin.1
  have hncap : n ≤ c := hin.2.1
  have u1 : U ≤ n := by rw [hnc, hU]; exact List.findIdx_le_length
  have u2 : ∀ i x, cs[i]? = some x → i < U → x.d.nm ≠ L m := by
    intro i x hx hi
    obtain ⟨hl, he⟩ := List.getElem?_eq_some_iff.1 hx
    have := List.not_of_lt_findIdx (p := fun c : C => c.d.nm == L m) (xs := cs) (i := i) (by rw [← hU]; exact hi)
    rw [he] at this
    simpa using this
  have u3 : ∀ x, cs[U]? = some x → x.d.nm = L m := by
    intro x hx
    obtain ⟨hl, he⟩ := List.getElem?_eq_some_iff.1 hx
    subst hU
    have := List.findIdx_getElem (p := fun c : C => c.d.nm == L m) (xs := cs) (w := hl)
    rw [he] at this
    simpa using this
  rw [← hnc]
  have HI : Hid (ir.Lie w ok p n c cs ∧ n = cs.length ∧ (∀ i x, cs[i]? = some x → i < U → x.d.nm ≠ L m) ∧ (∀ x, cs[U]? = some x → x.d.nm = L m)) := ⟨hin, hnc, u2, u3⟩
  clear hin u2 u3 hnc hU
  go_enter Tryz.func136, Tryz.ntmps136
  go_wp2
  go_loopw [8] (fun i wr => ∃ k : Nat, k ≤ U ∧ i = .int .i64 (k : Int) ∧ Hid (Bl w wr)) (fun i _ => n - (intOf i).toNat)
  case atStart => exact ⟨0, by omega, rfl, Bl.refl _⟩
  case round =>
    obtain ⟨k, hk, rfl, HB⟩ := hrel
    by_cases hkn : k < n
    · have d1 : decide ((k : Int) < (n : Int)) = true := decide_eq_true (by omega)
      have i0 : (0 : Int) ≤ (k : Int) := by omega
      have i1 : (k : Int) < (n : Int) := by omega
      obtain ⟨x, hx⟩ : ∃ x, cs[k]? = some x := ⟨_, List.getElem?_eq_getElem (by have := HI.out.2.1; omega)⟩
      obtain ⟨X, rfl, _, g0', g⟩ := lie_at (lie_bl HI.out.1 HB.out) k x hx
      have g0 : wr.cell? (X.add (k * 13)) = some (.int .i64 (x.d.kd : Int)) := g0'
      clear g0'
      have g1 := g 1 _ rfl
      have g2 := g 2 _ rfl
      have g3 := g 3 _ rfl
      have g4 := g 4 _ rfl
      have g5 := g 5 _ rfl
      have g6 := g 6 _ rfl
      have g7 := g 7 _ rfl
      have g8 := g 8 _ rfl
      have g9 := g 9 _ rfl
      have g10 := g 10 _ rfl
      have g11 := g 11 _ rfl
      have g12 := g 12 _ rfl
      have cM := named_is m b x wr (at_bl HB.out hb)
      unfold itV cl at cM
      have HT : Hid (k < U → x.d.nm ≠ L m) := HI.out.2.2.1 k x hx
      have HT2 : Hid (k = U → x.d.nm = L m) := fun h => HI.out.2.2.2 x (by rw [← h]; exact hx)
      clear g hx
      by_cases hkU : k < U
      · have hD : decide (x.d.nm = L m) = false := decide_eq_false (HT.out hkU)
        rw [hD] at cM
        clear hD
        go_wp2_with fail
        refine cM.mono ?_
        rintro e w2 ⟨rfl, hb2⟩
        clear cM g0 g1 g2 g3 g4 g5 g6 g7 g8 g9 g10 g11 g12
        go_wp2
        go_roundw
        case rel => exact ⟨k + 1, by omega, by go_num, HB.out.trans hb2⟩
        case measure => simp [intOf]; omega
      · obtain rfl : k = U := by omega
        have hD : decide (x.d.nm = L m) = true := decide_eq_true (HT2.out rfl)
        rw [hD] at cM
        clear hD
        go_wp2_with fail
        refine cM.mono ?_
        rintro e w2 ⟨rfl, hb2⟩
        clear cM g0 g1 g2 g3 g4 g5 g6 g7 g8 g9 g10 g11 g12
        go_wp2
        go_ret
        exact ⟨ret_int rfl, HB.out.trans hb2⟩
    · have d1 : decide ((k : Int) < (n : Int)) = false := decide_eq_false (by omega)
      have hUn : ¬ U < n := by omega
      go_wp2
      go_ret
      exact ⟨ret_int rfl, HB.out⟩
set_option maxHeartbeats 1000000 in
theorem named_at (m : ByteArray) (cs : List C) (ok : Nat → Prop) (p : Option Addr) (n c : Nat) (w : World) (hin : ir.Lie w ok p n c cs) (hn : n ≤ 3000) :
    Calls Tryz.prog 119 #[.slice p n c, .string m] w fun e w' => e = .returned (.int .i64 (idx (nmd (cs.map C.d) (L m)))) ∧ Bl w w' := by
  have hmf : ∀ (fn : Fn) (first cap : Array Value) (w : World), (Instr.makeFunc fn first cap).run Tryz.prog w = .ok (.func fn first cap) w := fun _ _ _ _ => rfl
  have hb1 : Bl w (w.alloc (.cells #[.string m] 9)) := (Bl.refl _).alloc _
  have c1 := indexI_at m w.heap.size cs ok p n c _ (lie_bl hin hb1) hn (by rw [cell_of (new_at w (.cells #[.string m] 9))]; rfl)
  have HB : Hid (Bl w (w.alloc (.cells #[.string m] 9))) := hb1
  clear hin hb1
  go_enter Tryz.func119, Tryz.ntmps119
  go_wp2_with fail
  refine c1.mono ?_
  rintro e w2 ⟨rfl, hb2⟩
  go_wp2
  go_ret
  exact ⟨rfl, HB.out.trans hb2⟩
end Go.Proofs.YtpanodaecjlgaaaGreatDoor.tm
