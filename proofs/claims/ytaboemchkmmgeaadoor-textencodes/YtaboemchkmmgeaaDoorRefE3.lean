/- What TextWide, of the document's own, answers. -/
import Derived.Test.YtaboemchkmmgeaaDoorEnc4
import Derived.Test.YtaboemchkmmgeaaDoorRefE2
namespace Go.Proofs.YtaboemchkmmgeaaDoor.refe
set_option linter.unusedVariables false
open Go.ChangeShapes Go.WideShapes Go.ChangeAt Go.RowKit
open mem num words enc
open utf (sign isSign_at within_at)

theorem refWide_order (p : Option Addr) (n c : Nat) (O : Int) (w : World) (h : ¬ (O = 0 ∨ O = 1)) :
    Calls Tryd.prog 13 #[.slice p n c, .int .i64 O] w fun e w' => e = .returned (.tuple #[.string ⟨#[]⟩, .agg #[.int .i64 1, .int .i64 (-1)]]) ∧ Bl w w' := by
  have cO := fun w => within_at O 0 1 w
  rw [decide_eq_false (fun h' => h (by omega))] at cO
  clear h
  go_enter Tryd.func13, Tryd.ntmps13
  go_wp2_with (go_at_call 32; refine (cO _).mono ?_; rintro e w1 ⟨rfl, rfl⟩)
  refine bodyPost_ret (v := .tuple #[.string ⟨#[]⟩, .agg #[.int .i64 1, .int .i64 (-1)]]) (by simp [results, Tryd.f13, go_sem]) rfl ⟨rfl, ?_⟩
  first | exact (Bl.refl w).alloc _ | exact Bl.setCell (a := ⟨w.heap.size, 1, none⟩) (Bl.setCell (a := ⟨w.heap.size, 0, none⟩) ((Bl.refl w).alloc _) (Nat.le_refl _) _) (Nat.le_refl _) _
set_option maxHeartbeats 4000000 in
set_option maxRecDepth 100000 in
theorem refWide_at (p : Option Addr) (c : Nat) (l : List Int) (o : Bool) (O : Int) (w : World) (hO : (if o then (1 : Int) else 0) = O) (hl : l.length ≤ 1000) (hin : In w p l) (hall : ∀ k, k < l.length → sign (l.getD k 0)) :
    Calls Tryd.prog 13 #[.slice p l.length c, .int .i64 O] w fun e w' => e = .returned (.tuple #[.string (strOfNums (wb l o l.length)), .agg #[.int .i64 0, .int .i64 (-1)]]) ∧ Bl w w' := by
  have cO := fun w => within_at O 0 1 w
  rw [decide_eq_true (show 0 ≤ O ∧ O ≤ 1 by cases o <;> simp at hO <;> omega)] at cO
  have HO : Hid ((if o then (1 : Int) else 0) = O) := hO
  have HI : Hid (In (w.alloc (.cells #[.int .i64 0, .int .i64 0] 29)) p l) := hin.step ((Bl.refl w).alloc _)
  have HA : Hid (∀ k, k < l.length → sign (l.getD k 0)) := hall
  clear hin hall hO
  obtain ⟨m, hm⟩ : ∃ m, m = l.length := ⟨_, rfl⟩
  rw [← hm] at hl ⊢
  have HM : Hid (m = l.length) := hm
  clear hm
  go_enter Tryd.func13, Tryd.ntmps13
  go_wp2_with (go_at_call 32; refine (cO _).mono ?_; rintro e w1 ⟨rfl, rfl⟩)
  go_loopw [6, 20] (fun sv i wr => ∃ (k : Nat) (t : ByteArray), k ≤ m ∧ i = .int .i64 (k : Int) ∧ sv = .string t ∧ t.size ≤ 4 * k ∧ Hid (t = strOfNums (wb l o k)) ∧ Bl (w.alloc (.cells #[.int .i64 0, .int .i64 0] 29)) wr) (fun _ i _ => m - (intOf i).toNat)
  case atStart => exact ⟨0, _, Nat.zero_le _, rfl, rfl, Nat.le_refl _, rfl, Bl.refl _⟩
  case round =>
    obtain ⟨k, t, hk, rfl, rfl, htz, HT, hbl⟩ := hrel
    by_cases hlt : k < m
    · have hlz : (k : Int) < (m : Int) := by omega
      obtain ⟨x, rfl, hc⟩ := (HI.out.step hbl).at k (by rw [← HM.out]; exact hlt)
      have hsg := HA.out k (by rw [← HM.out]; exact hlt)
      have HE : Hid (wb l o (k + 1) = wb l o k ++ enc.hv (l.getD k 0) o) := rfl
      generalize l.getD k 0 = n at hc hsg HE
      have cI := fun w => isSign_at n w
      rw [decide_eq_true hsg] at cI
      have hn : 0 ≤ n ∧ n ≤ 1114111 := by unfold sign at hsg; omega
      clear hsg
      by_cases hlow : n ≤ 65535
      · have hzl : ¬ (65535 < n) := by omega
        have cP := fun w => refPut_any n 2 o O w (by omega) (by omega) HO.out (Or.inr (Or.inl rfl))
        have cP' : ∀ w, Calls Tryd.prog 33 #[.int .u64 n, .int .i64 2, .int .i64 O] w fun e w' => e = .returned (.tuple #[.string (strOfNums (putL n 2 o 2)), .int .i64 0]) ∧ Gb w w' := cP
        have hul : (strOfNums (putL n 2 o 2)).size = 2 := put_len n 2 o
        obtain ⟨u, hu⟩ : ∃ u, strOfNums (putL n 2 o 2) = u := ⟨_, rfl⟩
        rw [hu] at hul
        simp only [hu] at cP'
        have HT2 : Hid (t ++ u = strOfNums (wb l o (k + 1))) := by rw [HE.out, HT.out, ← hu, nums_append]; unfold enc.hv; rw [if_pos (by omega)]; rfl
        have hcat : ¬ 9223372036854775807 < t.size + u.size := by omega
        obtain ⟨tu, htu⟩ : ∃ tu, t ++ u = tu := ⟨_, rfl⟩
        have hts : tu.size = t.size + 2 := by rw [← htu, ByteArray.size_append, hul]
        clear hu cP
        go_wp2_with (go_at_call 27; refine (cI _).mono ?_; rintro e w2 ⟨rfl, rfl⟩)
        rename Bl (w.alloc (.cells #[.int .i64 0, .int .i64 0] 29)) _ => hblr
        go_loopw [6, 45] (fun sv i wx => ((sv = .string t ∧ i = .int .i64 0) ∨ (sv = .string tu ∧ i = .int .i64 1)) ∧ Bl (World.alloc _ (.cells #[.int .i64 n] 3)) wx) (fun _ i _ => 2 - (intOf i).toNat)
        case atStart => exact ⟨Or.inl ⟨rfl, rfl⟩, Bl.refl _⟩
        case round =>
          obtain ⟨hh, hblx⟩ := hrel
          rcases hh with ⟨rfl, rfl⟩ | ⟨rfl, rfl⟩
          · have hc0 : wr.cell? ⟨w2.heap.size, 0, none⟩ = some (.int .i64 n) := at_bl hblx (by simp)
            go_wp2_with (go_at_call 33; refine (cP' _).mono ?_; rintro e w3 ⟨rfl, hg3⟩)
            go_roundw
            case rel => exact ⟨Or.inr ⟨by first | rfl | rw [htu], rfl⟩, hblx.trans hg3.bl⟩
            case measure => simp [intOf]
          · have hblz := (hblr.alloc _).trans hblx
            go_wp2
            go_roundw
            case rel => exact ⟨k + 1, _, by omega, by go_num, rfl, by omega, by rw [← htu]; exact HT2, hblz⟩
            case measure => simp [intOf]; omega
      · have hzl : 65535 < n := by omega
        obtain ⟨H1, hH1⟩ : ∃ H1, 55296 + (n - 65536) / 1024 = H1 := ⟨_, rfl⟩
        obtain ⟨H2, hH2⟩ : ∃ H2, 56320 + (n - 65536) % 1024 = H2 := ⟨_, rfl⟩
        have hb1 : 0 ≤ H1 ∧ H1 < 65536 := by omega
        have hb2 : 0 ≤ H2 ∧ H2 < 65536 := by omega
        have cP : ∀ w, Calls Tryd.prog 33 #[.int .u64 H1, .int .i64 2, .int .i64 O] w fun e w' => e = .returned (.tuple #[.string (strOfNums (putL H1 2 o 2)), .int .i64 0]) ∧ Gb w w' := fun w => refPut_any H1 2 o O w (by omega) (by omega) HO.out (Or.inr (Or.inl rfl))
        have cQ : ∀ w, Calls Tryd.prog 33 #[.int .u64 H2, .int .i64 2, .int .i64 O] w fun e w' => e = .returned (.tuple #[.string (strOfNums (putL H2 2 o 2)), .int .i64 0]) ∧ Gb w w' := fun w => refPut_any H2 2 o O w (by omega) (by omega) HO.out (Or.inr (Or.inl rfl))
        have hul : (strOfNums (putL H1 2 o 2)).size = 2 := put_len H1 2 o
        have hvl : (strOfNums (putL H2 2 o 2)).size = 2 := put_len H2 2 o
        obtain ⟨u, hu⟩ : ∃ u, strOfNums (putL H1 2 o 2) = u := ⟨_, rfl⟩
        obtain ⟨y, hy⟩ : ∃ y, strOfNums (putL H2 2 o 2) = y := ⟨_, rfl⟩
        rw [hu] at hul
        rw [hy] at hvl
        simp only [hu] at cP
        simp only [hy] at cQ
        obtain ⟨tu, htu⟩ : ∃ tu, t ++ u = tu := ⟨_, rfl⟩
        have hts : tu.size = t.size + 2 := by rw [← htu, ByteArray.size_append, hul]
        obtain ⟨tv, htv⟩ : ∃ tv, tu ++ y = tv := ⟨_, rfl⟩
        have hvs : tv.size = t.size + 4 := by rw [← htv, ByteArray.size_append, hvl, hts]
        have HT2 : Hid (tv = strOfNums (wb l o (k + 1))) := by rw [← htv, ← htu, HE.out, HT.out, ← hu, ← hy, nums_append, nums_append]; unfold enc.hv; rw [if_neg (by omega), hH1, hH2, List.append_assoc]; rfl
        have hcat : ¬ 9223372036854775807 < t.size + u.size := by omega
        have hcat2 : ¬ 9223372036854775807 < tu.size + y.size := by omega
        clear hu hy
        go_wp2_with (go_at_call 27; refine (cI _).mono ?_; rintro e w2 ⟨rfl, rfl⟩)
        rename Bl (w.alloc (.cells #[.int .i64 0, .int .i64 0] 29)) _ => hblr
        go_loopw [6, 45] (fun sv i wx => ((sv = .string t ∧ i = .int .i64 0) ∨ (sv = .string tu ∧ i = .int .i64 1) ∨ (sv = .string tv ∧ i = .int .i64 2)) ∧ Bl ((World.alloc _ (.cells #[.int .i64 n] 3)).alloc (.cells #[.int .i64 H1, .int .i64 H2] 3)) wx) (fun _ i _ => 3 - (intOf i).toNat)
        case atStart => exact ⟨Or.inl ⟨rfl, rfl⟩, Bl.refl _⟩
        case round =>
          obtain ⟨hh, hblx⟩ := hrel
          rcases hh with ⟨rfl, rfl⟩ | ⟨rfl, rfl⟩ | ⟨rfl, rfl⟩
          · have hc0 : wr.cell? ⟨w2.heap.size + 1, 0, none⟩ = some (.int .i64 H1) := at_bl hblx (by simp)
            go_wp2_with (go_at_call 33; refine (cP _).mono ?_; rintro e w3 ⟨rfl, hg3⟩)
            go_roundw
            case rel => exact ⟨Or.inr (Or.inl ⟨by first | rfl | rw [htu], rfl⟩), hblx.trans hg3.bl⟩
            case measure => simp [intOf]
          · have hc0 : wr.cell? ⟨w2.heap.size + 1, 1, none⟩ = some (.int .i64 H2) := at_bl hblx (by simp)
            go_wp2_with (go_at_call 33; refine (cQ _).mono ?_; rintro e w3 ⟨rfl, hg3⟩)
            go_roundw
            case rel => exact ⟨Or.inr (Or.inr ⟨by first | rfl | rw [htv], rfl⟩), hblx.trans hg3.bl⟩
            case measure => simp [intOf]
          · have hblz := ((hblr.alloc _).alloc _).trans hblx
            go_wp2
            go_roundw
            case rel => exact ⟨k + 1, _, by omega, by go_num, rfl, by omega, HT2, hblz⟩
            case measure => simp [intOf]; omega
    · obtain rfl : k = m := by omega
      go_wp2_with (go_at_call 29; refine (good_at _).mono ?_; rintro e v1 ⟨rfl, g1⟩; have c0 := at_bl (hbl.trans g1) (a := ⟨w.heap.size, 0, none⟩) (v := .int .i64 0) (by simp); have c1 := at_bl (hbl.trans g1) (a := ⟨w.heap.size, 1, none⟩) (v := .int .i64 0) (by simp); have f0 := fz_bl (hbl.trans g1) (a := ⟨w.heap.size, 0, none⟩) (by simp) (by simp); have f1 := fz_bl (hbl.trans g1) (a := ⟨w.heap.size, 1, none⟩) (by simp) (by simp))
      refine bodyPost_ret (v := .tuple #[.string t, .agg #[.int .i64 0, .int .i64 (-1)]]) (by simp [results, Tryd.f13, go_sem, c0, c1]) rfl ⟨by rw [HT.out], ?_⟩
      exact Bl.setCell (a := ⟨w.heap.size, 1, none⟩) (Bl.setCell (a := ⟨w.heap.size, 0, none⟩) (((Bl.refl w).alloc _).trans (hbl.trans g1)) (Nat.le_refl _) _) (Nat.le_refl _) _
set_option maxHeartbeats 4000000 in
set_option maxRecDepth 100000 in
theorem refWide_no (p : Option Addr) (c : Nat) (l : List Int) (j : Nat) (o : Bool) (O : Int) (w : World) (hO : (if o then (1 : Int) else 0) = O) (hl : l.length ≤ 1000) (hin : In w p l) (hj : j < l.length) (hall : ∀ k, k < j → sign (l.getD k 0)) (hno : ¬ sign (l.getD j 0)) :
    Calls Tryd.prog 13 #[.slice p l.length c, .int .i64 O] w fun e w' => e = .returned (.tuple #[.string ⟨#[]⟩, .agg #[.int .i64 1, .int .i64 j]]) ∧ Bl w w' := by
  have cO := fun w => within_at O 0 1 w
  rw [decide_eq_true (show 0 ≤ O ∧ O ≤ 1 by cases o <;> simp at hO <;> omega)] at cO
  have HO : Hid ((if o then (1 : Int) else 0) = O) := hO
  have HI : Hid (In (w.alloc (.cells #[.int .i64 0, .int .i64 0] 29)) p l) := hin.step ((Bl.refl w).alloc _)
  have HA : Hid (∀ k, k < j → sign (l.getD k 0)) := hall
  have HN : Hid (¬ sign (l.getD j 0)) := hno
  clear hin hall hO hno
  obtain ⟨m, hm⟩ : ∃ m, m = l.length := ⟨_, rfl⟩
  rw [← hm] at hl hj ⊢
  have HM : Hid (m = l.length) := hm
  clear hm
  go_enter Tryd.func13, Tryd.ntmps13
  go_wp2_with (go_at_call 32; refine (cO _).mono ?_; rintro e w1 ⟨rfl, rfl⟩)
  go_loopw [6, 20] (fun sv i wr => ∃ (k : Nat) (t : ByteArray), k ≤ j ∧ i = .int .i64 (k : Int) ∧ sv = .string t ∧ t.size ≤ 4 * k ∧ Bl (w.alloc (.cells #[.int .i64 0, .int .i64 0] 29)) wr) (fun _ i _ => m - (intOf i).toNat)
  case atStart => exact ⟨0, _, Nat.zero_le _, rfl, rfl, Nat.le_refl _, Bl.refl _⟩
  case round =>
    obtain ⟨k, t, hk, rfl, rfl, htz, hbl⟩ := hrel
    have hlz : (k : Int) < (m : Int) := by omega
    obtain ⟨x, rfl, hc⟩ := (HI.out.step hbl).at k (by rw [← HM.out]; omega)
    by_cases hlt : k < j
    · have hsg := HA.out k hlt
      generalize l.getD k 0 = n at hc hsg
      have cI := fun w => isSign_at n w
      rw [decide_eq_true hsg] at cI
      have hn : 0 ≤ n ∧ n ≤ 1114111 := by unfold sign at hsg; omega
      clear hsg
      by_cases hlow : n ≤ 65535
      · have hzl : ¬ (65535 < n) := by omega
        have cP := fun w => refPut_any n 2 o O w (by omega) (by omega) HO.out (Or.inr (Or.inl rfl))
        have cP' : ∀ w, Calls Tryd.prog 33 #[.int .u64 n, .int .i64 2, .int .i64 O] w fun e w' => e = .returned (.tuple #[.string (strOfNums (putL n 2 o 2)), .int .i64 0]) ∧ Gb w w' := cP
        have hul : (strOfNums (putL n 2 o 2)).size = 2 := put_len n 2 o
        obtain ⟨u, hu⟩ : ∃ u, strOfNums (putL n 2 o 2) = u := ⟨_, rfl⟩
        rw [hu] at hul
        simp only [hu] at cP'
        have hcat : ¬ 9223372036854775807 < t.size + u.size := by omega
        obtain ⟨tu, htu⟩ : ∃ tu, t ++ u = tu := ⟨_, rfl⟩
        have hts : tu.size = t.size + 2 := by rw [← htu, ByteArray.size_append, hul]
        clear hu cP
        go_wp2_with (go_at_call 27; refine (cI _).mono ?_; rintro e w2 ⟨rfl, rfl⟩)
        rename Bl (w.alloc (.cells #[.int .i64 0, .int .i64 0] 29)) _ => hblr
        go_loopw [6, 45] (fun sv i wx => ((sv = .string t ∧ i = .int .i64 0) ∨ (sv = .string tu ∧ i = .int .i64 1)) ∧ Bl (World.alloc _ (.cells #[.int .i64 n] 3)) wx) (fun _ i _ => 2 - (intOf i).toNat)
        case atStart => exact ⟨Or.inl ⟨rfl, rfl⟩, Bl.refl _⟩
        case round =>
          obtain ⟨hh, hblx⟩ := hrel
          rcases hh with ⟨rfl, rfl⟩ | ⟨rfl, rfl⟩
          · have hc0 : wr.cell? ⟨w2.heap.size, 0, none⟩ = some (.int .i64 n) := at_bl hblx (by simp)
            go_wp2_with (go_at_call 33; refine (cP' _).mono ?_; rintro e w3 ⟨rfl, hg3⟩)
            go_roundw
            case rel => exact ⟨Or.inr ⟨by first | rfl | rw [htu], rfl⟩, hblx.trans hg3.bl⟩
            case measure => simp [intOf]
          · have hblz := (hblr.alloc _).trans hblx
            go_wp2
            go_roundw
            case rel => exact ⟨k + 1, _, by omega, by go_num, rfl, by omega, hblz⟩
            case measure => simp [intOf]; omega
      · have hzl : 65535 < n := by omega
        obtain ⟨H1, hH1⟩ : ∃ H1, 55296 + (n - 65536) / 1024 = H1 := ⟨_, rfl⟩
        obtain ⟨H2, hH2⟩ : ∃ H2, 56320 + (n - 65536) % 1024 = H2 := ⟨_, rfl⟩
        have hb1 : 0 ≤ H1 ∧ H1 < 65536 := by omega
        have hb2 : 0 ≤ H2 ∧ H2 < 65536 := by omega
        have cP : ∀ w, Calls Tryd.prog 33 #[.int .u64 H1, .int .i64 2, .int .i64 O] w fun e w' => e = .returned (.tuple #[.string (strOfNums (putL H1 2 o 2)), .int .i64 0]) ∧ Gb w w' := fun w => refPut_any H1 2 o O w (by omega) (by omega) HO.out (Or.inr (Or.inl rfl))
        have cQ : ∀ w, Calls Tryd.prog 33 #[.int .u64 H2, .int .i64 2, .int .i64 O] w fun e w' => e = .returned (.tuple #[.string (strOfNums (putL H2 2 o 2)), .int .i64 0]) ∧ Gb w w' := fun w => refPut_any H2 2 o O w (by omega) (by omega) HO.out (Or.inr (Or.inl rfl))
        have hul : (strOfNums (putL H1 2 o 2)).size = 2 := put_len H1 2 o
        have hvl : (strOfNums (putL H2 2 o 2)).size = 2 := put_len H2 2 o
        obtain ⟨u, hu⟩ : ∃ u, strOfNums (putL H1 2 o 2) = u := ⟨_, rfl⟩
        obtain ⟨y, hy⟩ : ∃ y, strOfNums (putL H2 2 o 2) = y := ⟨_, rfl⟩
        rw [hu] at hul
        rw [hy] at hvl
        simp only [hu] at cP
        simp only [hy] at cQ
        obtain ⟨tu, htu⟩ : ∃ tu, t ++ u = tu := ⟨_, rfl⟩
        have hts : tu.size = t.size + 2 := by rw [← htu, ByteArray.size_append, hul]
        obtain ⟨tv, htv⟩ : ∃ tv, tu ++ y = tv := ⟨_, rfl⟩
        have hvs : tv.size = t.size + 4 := by rw [← htv, ByteArray.size_append, hvl, hts]
        have hcat : ¬ 9223372036854775807 < t.size + u.size := by omega
        have hcat2 : ¬ 9223372036854775807 < tu.size + y.size := by omega
        clear hu hy
        go_wp2_with (go_at_call 27; refine (cI _).mono ?_; rintro e w2 ⟨rfl, rfl⟩)
        rename Bl (w.alloc (.cells #[.int .i64 0, .int .i64 0] 29)) _ => hblr
        go_loopw [6, 45] (fun sv i wx => ((sv = .string t ∧ i = .int .i64 0) ∨ (sv = .string tu ∧ i = .int .i64 1) ∨ (sv = .string tv ∧ i = .int .i64 2)) ∧ Bl ((World.alloc _ (.cells #[.int .i64 n] 3)).alloc (.cells #[.int .i64 H1, .int .i64 H2] 3)) wx) (fun _ i _ => 3 - (intOf i).toNat)
        case atStart => exact ⟨Or.inl ⟨rfl, rfl⟩, Bl.refl _⟩
        case round =>
          obtain ⟨hh, hblx⟩ := hrel
          rcases hh with ⟨rfl, rfl⟩ | ⟨rfl, rfl⟩ | ⟨rfl, rfl⟩
          · have hc0 : wr.cell? ⟨w2.heap.size + 1, 0, none⟩ = some (.int .i64 H1) := at_bl hblx (by simp)
            go_wp2_with (go_at_call 33; refine (cP _).mono ?_; rintro e w3 ⟨rfl, hg3⟩)
            go_roundw
            case rel => exact ⟨Or.inr (Or.inl ⟨by first | rfl | rw [htu], rfl⟩), hblx.trans hg3.bl⟩
            case measure => simp [intOf]
          · have hc0 : wr.cell? ⟨w2.heap.size + 1, 1, none⟩ = some (.int .i64 H2) := at_bl hblx (by simp)
            go_wp2_with (go_at_call 33; refine (cQ _).mono ?_; rintro e w3 ⟨rfl, hg3⟩)
            go_roundw
            case rel => exact ⟨Or.inr (Or.inr ⟨by first | rfl | rw [htv], rfl⟩), hblx.trans hg3.bl⟩
            case measure => simp [intOf]
          · have hblz := ((hblr.alloc _).alloc _).trans hblx
            go_wp2
            go_roundw
            case rel => exact ⟨k + 1, _, by omega, by go_num, rfl, by omega, hblz⟩
            case measure => simp [intOf]; omega
    · obtain rfl : k = j := by omega
      have hsg := HN.out
      generalize l.getD k 0 = n at hc hsg
      have cI := fun w => isSign_at n w
      rw [decide_eq_false hsg] at cI
      clear hsg
      have c0 := at_bl hbl (a := ⟨w.heap.size, 0, none⟩) (v := .int .i64 0) (by simp)
      have c1 := at_bl hbl (a := ⟨w.heap.size, 1, none⟩) (v := .int .i64 0) (by simp)
      have f0 := fz_bl hbl (a := ⟨w.heap.size, 0, none⟩) (by simp) (by simp)
      have f1 := fz_bl hbl (a := ⟨w.heap.size, 1, none⟩) (by simp) (by simp)
      go_wp2_with (go_at_call 27; refine (cI _).mono ?_; rintro e w2 ⟨rfl, rfl⟩)
      refine bodyPost_ret (v := .tuple #[.string ⟨#[]⟩, .agg #[.int .i64 1, .int .i64 (k : Int)]]) (by simp [results, Tryd.f13, go_sem, c0, c1]) rfl ⟨rfl, ?_⟩
      exact Bl.setCell (a := ⟨w.heap.size, 1, none⟩) (Bl.setCell (a := ⟨w.heap.size, 0, none⟩) (((Bl.refl w).alloc _).trans hbl) (Nat.le_refl _) _) (Nat.le_refl _) _
end Go.Proofs.YtaboemchkmmgeaaDoor.refe
