/- What the closure of the document's own LzPack does: it tells PLAIN bytes. -/
import Derived.Test.YtmchpmfogjhpoaaDoorLr1
import Derived.Deep.RegionHeld3
namespace Go.Proofs.YtmchpmfogjhpoaaDoor.lzr
set_option linter.unusedVariables false
open Go.ChangeShapes Go.WideShapes Go.ChangeAt Go.RowKit
open mem rows lz
theorem nums_append (a b : List Int) : strOfNums a ++ strOfNums b = strOfNums (a ++ b) := by
  apply ByteArray.ext
  apply Array.ext'
  simp [strOfNums]
theorem nums_size (l : List Int) : (strOfNums l).size = l.length := by
  show (strOfNums l).data.toList.length = _
  rw [strOfNums_data]; simp
theorem cut_nums (s : ByteArray) (a b : Nat) (h1 : a ≤ b) (h2 : b ≤ s.size) : s.extract a b = strOfNums ((List.range (b - a)).map fun i => sb s (a + i)) := by
  rw [← bs_extract s a b h1 h2, str_bs]
theorem cut_cut (s : ByteArray) (a b i j : Nat) (hb : a + j ≤ b) : (s.extract a b).extract i j = s.extract (a + i) (a + j) := by
  apply ByteArray.ext
  rw [ByteArray.data_extract, ByteArray.data_extract, ByteArray.data_extract, Array.extract_extract, show min (a + j) b = a + j by omega]
theorem ne_empty {a : ByteArray} (h : ¬ a.size = 0) : (a.toList == []) = false ∧ (a.toList != []) = true := by
  have e := isEmpty_at a
  rw [decide_eq_false h] at e
  cases hl : a.toList with
  | nil => rw [hl] at e; cases e
  | cons x y => exact ⟨rfl, rfl⟩
theorem eq_empty {a : ByteArray} (h : a.size = 0) : a = ⟨#[]⟩ := by
  apply ByteArray.ext
  exact Array.eq_empty_of_size_eq_zero h
/-- What LzPack has made so far: what is told lies at A, PLAIN bytes that aren't told yet at A + 1. -/
structure Rk (w0 w : World) (A : Nat) (O P : ByteArray) : Prop where
  out : Vr w A (.string O) 9
  pl : Vr w (A + 1) (.string P) 9
  bl : Bl w0 w
  base : w0.heap.size ≤ A
theorem Rk.drew {w0 w : World} {A : Nat} {O P : ByteArray} (h : Rk w0 w A O P) : Rk w0 w.drew A O P := ⟨h.out, h.pl, h.bl.drew, h.base⟩
theorem Rk.step {w0 w w' : World} {A : Nat} {O P : ByteArray} (h : Rk w0 w A O P) (hb : Bl w w') : Rk w0 w' A O P := ⟨h.out.step hb, h.pl.step hb, h.bl.trans hb, h.base⟩
theorem Rk.setO {w0 w : World} {A : Nat} {O P : ByteArray} (h : Rk w0 w A O P) (x : ByteArray) : Rk w0 (w.setCell ⟨A, 0, none⟩ (.string x)) A x P := ⟨h.out.set _, h.pl.set_other (by omega) _, h.bl.setCell (by have := h.base; exact this) _, h.base⟩
theorem Rk.setP {w0 w : World} {A : Nat} {O P : ByteArray} (h : Rk w0 w A O P) (x : ByteArray) : Rk w0 (w.setCell ⟨A + 1, 0, none⟩ (.string x)) A O x := ⟨h.out.set_other (by omega) _, h.pl.set _, h.bl.setCell (by have := h.base; show w0.heap.size ≤ A + 1; omega) _, h.base⟩
theorem told_step (g : Nat → Int) (a b k : Nat) (h : a < b) (hk : k = min (b - a) 128) (L : List Int) : (L ++ ([((k : Nat) : Int) - 1] ++ ((List.range k).map fun i => g (a + i)))) ++ told g (a + k) b = L ++ told g a b := by
  conv => rhs; rw [told, dif_pos h, ← hk]
  simp [List.append_assoc]
theorem told_none (g : Nat → Int) (a : Nat) : told g a a = [] := by rw [told, dif_neg (Nat.lt_irrefl _)]
set_option maxHeartbeats 1000000 in
set_option maxRecDepth 10000 in
theorem tellr_at (s : ByteArray) (w0 w : World) (A a fr : Nat) (L : List Int) (hs : s.size ≤ 4000) (ha : a ≤ s.size) (hfr : fr ≤ a) (hL : (L ++ told (sb s) fr a).length ≤ 10000) (h : Rk w0 w A (strOfNums L) (s.extract fr a)) :
    Calls Tryd.prog 18 #[.pointer (some ⟨A + 1, 0, none⟩), .pointer (some ⟨A, 0, none⟩)] w fun e w' => e = .returned (.tuple #[]) ∧ Rk w0 w' A (strOfNums (L ++ told (sb s) fr a)) ⟨#[]⟩ := by
  obtain ⟨T, hT⟩ : ∃ T, T = L ++ told (sb s) fr a := ⟨_, rfl⟩
  rw [← hT] at hL ⊢
  have HT : Hid (L ++ told (sb s) fr a = T) := hT.symm
  have H0 : Hid (Rk w0 w A (strOfNums L) (s.extract fr a)) := h
  clear hT h
  go_enter Tryd.func18, Tryd.ntmps18
  go_wp2
  go_loopw [2] (fun _ wr => ∃ (L : List Int) (fr : Nat), fr ≤ a ∧ Hid (Rk w0 wr A (strOfNums L) (s.extract fr a) ∧ L ++ told (sb s) fr a = T)) (fun _ wr => match wr.cell? ⟨A + 1, 0, none⟩ with | some (.string x) => x.size | _ => 0)
  case atStart => exact ⟨L, fr, hfr, ⟨H0.out, HT.out⟩⟩
  case round =>
    clear H0 HT hfr L fr
    obtain ⟨L, fr, hfr, H⟩ := hrel
    have cO := H.out.1.out.cell
    have cP := H.out.1.pl.cell
    have CP0 : Hid (wr.cell? ⟨A + 1, 0, none⟩ = some (.string (s.extract fr a))) := cP
    have hPs : (s.extract fr a).size = a - fr := by rw [ByteArray.size_extract]; omega
    obtain ⟨P, hP⟩ : ∃ P, P = s.extract fr a := ⟨_, rfl⟩
    obtain ⟨O, hO⟩ : ∃ O, O = strOfNums L := ⟨_, rfl⟩
    rw [← hP] at cP hPs
    rw [← hO] at cO
    by_cases hlt : fr < a
    · obtain ⟨n1, n2⟩ := ne_empty (a := P) (by omega)
      obtain ⟨k, hk⟩ : ∃ k, k = min (a - fr) 128 := ⟨_, rfl⟩
      have hmin : (if (128 : Int) < (P.size : Int) then (128 : Int) else (P.size : Int)) = (k : Int) := by split <;> omega
      have hkb : 1 ≤ k ∧ k ≤ 128 ∧ fr + k ≤ a := by omega
      have hst := told_step (sb s) fr a k hlt hk L
      rw [H.out.2] at hst
      have hlen : L.length + 1 + k ≤ 10000 := by
        have := congrArg List.length hst
        simp only [List.length_append, List.length_cons, List.length_nil, List.length_map, List.length_range] at this
        omega
      obtain ⟨y, hy⟩ : ∃ y : Int, y = (k : Int) - 1 := ⟨_, rfl⟩
      have hyz : (k : Int) - 1 = y := hy.symm
      have hyb : 0 ≤ y ∧ y ≤ 127 := by omega
      have hym : y % 256 = y := by omega
      have hwy1 : IntKind.i64.wrap y = y := by rw [IntKind.wrap_i64]; omega
      have hwy2 : IntKind.u64.wrap y = y := by rw [IntKind.wrap_u64]; omega
      rw [hyz] at hst
      have cC := fun w => char_at y w hyb.1 (by omega)
      rw [hym] at cC
      have hOs : O.size = L.length := by rw [hO, nums_size]
      have e1 : P.extract 0 k = strOfNums ((List.range k).map fun i => sb s (fr + i)) := by
        rw [hP, cut_cut s fr a 0 k (by omega), Nat.add_zero, cut_nums s fr (fr + k) (by omega) (by omega), Nat.add_sub_cancel_left]
      have e2 : P.extract k P.size = s.extract (fr + k) a := by
        rw [hPs, hP, cut_cut s fr a k (a - fr) (by omega), show fr + (a - fr) = a by omega]
      obtain ⟨X, hX⟩ : ∃ X, X = P.extract 0 k := ⟨_, rfl⟩
      have hXs : X.size = k := by rw [hX, ByteArray.size_extract]; omega
      have hex : P.extract 0 k = X := hX.symm
      obtain ⟨Y, hY⟩ : ∃ Y, Y = strOfNums [y] := ⟨_, rfl⟩
      have hYs : Y.size = 1 := by rw [hY, nums_size]; rfl
      rw [← hY] at cC
      have HF : Hid (O ++ (Y ++ X) = strOfNums (L ++ ([y] ++ ((List.range k).map fun i => sb s (fr + i)))) ∧ P.extract k P.size = s.extract (fr + k) a) := by
        refine ⟨?_, e2⟩
        rw [hO, hY, hX, e1, nums_append, nums_append]
      have HQ : Hid (Rk w0 wr A O P) := by rw [hO, hP]; exact H.out.1
      have HST : Hid _ := hst
      have hk1 : (k : Int) ≤ (P.size : Int) := by omega
      have hPb : P.size ≤ 4000 := by omega
      have HPS : Hid (P.size = a - fr) := hPs
      have hXb : X.size ≤ 128 := by omega
      have hOb : O.size ≤ 10000 := by omega
      have HXS : Hid (X.size = k ∧ O.size = L.length ∧ Y.size = 1) := ⟨hXs, hOs, hYs⟩
      have hYb : Y.size ≤ 1 := by omega
      clear hst hy hX hY e1 e2 hk hO hP H hPs hXs hOs hYs hlen
      go_wp2
      go_region_with (go_at_call 19; refine (cC _).mono ?_; rintro e w2 ⟨rfl, hg2⟩; have hq2 := HQ.out.drew.step hg2.bl; have cO2 := hq2.out.cell; have cP2 := hq2.pl.cell; have fO2 := hq2.out.frozen; have fP2 := hq2.pl.frozen)
      all_goals
        have HF2 : Hid (Rk w0 ((w2.setCell ⟨A, 0, none⟩ (.string (O ++ (Y ++ X)))).setCell ⟨A + 1, 0, none⟩ (.string (P.extract k P.size))) A (O ++ (Y ++ X)) (P.extract k P.size)) := (hq2.setO _).setP _
        clear hq2 hg2 HQ cC
        go_wp2
        go_roundw
        case rel => exact ⟨_, fr + k, by omega, ⟨by rw [← HF.out.1, ← HF.out.2]; exact HF2.out, HST.out⟩⟩
        case measure =>
          rw [CP0.out, HF2.out.pl.cell]
          dsimp only
          rw [ByteArray.size_extract, ByteArray.size_extract, HPS.out]
          omega
    · obtain rfl : fr = a := by omega
      have hP0 : P = ⟨#[]⟩ := eq_empty (by omega)
      have HF : Hid (Rk w0 wr A (strOfNums T) ⟨#[]⟩) := by
        have := H.out.2
        rw [told_none, List.append_nil] at this
        rw [← this, ← hP0, hP]
        exact H.out.1
      clear hP hPs H CP0 hO
      subst hP0
      go_wp2
      go_end0
      exact ⟨rfl, HF.out⟩
end Go.Proofs.YtmchpmfogjhpoaaDoor.lzr
