/- What TextEncode, of the document's own, answers. -/
import Derived.Test.YtaboemchkmmgeaaDoorEnc2
import Derived.Test.YtaboemchkmmgeaaDoorRefE1
namespace Go.Proofs.YtaboemchkmmgeaaDoor.refe
set_option linter.unusedVariables false
open Go.ChangeShapes Go.WideShapes Go.ChangeAt Go.RowKit
open mem num words enc
open utf (sign isSign_at)
open Go.Lib (encodeRuneZ)

theorem fz_bl {w w' : World} (h : Bl w w') {a : Addr} (hlt : a.block < w.heap.size) (hc : w.frozen? a = false) : w'.frozen? a = false := by
  unfold World.frozen? at hc ⊢
  rw [Below.block h _ hlt]
  exact hc
theorem good_at (w : World) : Calls Tryd.prog 29 #[] w fun e w' => e = .returned (.agg #[.int .i64 0, .int .i64 (-1)]) ∧ Bl w w' := by
  go_enter Tryd.func29, Tryd.ntmps29
  go_wp2
  refine bodyPost_ret (v := .agg #[.int .i64 0, .int .i64 (-1)]) (by simp [results, Tryd.f29, go_sem]) rfl ⟨rfl, ?_⟩
  exact (Bl.refl w).alloc _
set_option maxHeartbeats 2000000 in
theorem refEncode_at (p : Option Addr) (c : Nat) (l : List Int) (w : World) (hl : l.length ≤ 1000) (hin : In w p l) (hall : ∀ k, k < l.length → sign (l.getD k 0)) :
    Calls Tryd.prog 11 #[.slice p l.length c] w fun e w' => e = .returned (.tuple #[.string (strOfNums (eb l l.length)), .agg #[.int .i64 0, .int .i64 (-1)]]) ∧ Bl w w' := by
  have HI : Hid (In (w.alloc (.cells #[.int .i64 0, .int .i64 0] 29)) p l) := hin.step ((Bl.refl w).alloc _)
  have HA : Hid (∀ k, k < l.length → sign (l.getD k 0)) := hall
  clear hin hall
  obtain ⟨m, hm⟩ : ∃ m, m = l.length := ⟨_, rfl⟩
  rw [← hm] at hl ⊢
  have HM : Hid (m = l.length) := hm
  clear hm
  go_enter Tryd.func11, Tryd.ntmps11
  go_wp2
  go_loopw [4, 9] (fun sv i wr => ∃ (k : Nat) (t : ByteArray), k ≤ m ∧ i = .int .i64 (k : Int) ∧ sv = .string t ∧ t.size ≤ 4 * k ∧ Hid (t = strOfNums (eb l k)) ∧ Bl (w.alloc (.cells #[.int .i64 0, .int .i64 0] 29)) wr) (fun _ i _ => m - (intOf i).toNat)
  case atStart => exact ⟨0, _, Nat.zero_le _, rfl, rfl, Nat.le_refl _, rfl, Bl.refl _⟩
  case round =>
    obtain ⟨k, t, hk, rfl, rfl, htz, HT, hbl⟩ := hrel
    by_cases hlt : k < m
    · have hlz : (k : Int) < (m : Int) := by omega
      obtain ⟨x, rfl, hc⟩ := (HI.out.step hbl).at k (by rw [← HM.out]; exact hlt)
      have hsg := HA.out k (by rw [← HM.out]; exact hlt)
      have HE : Hid (eb l (k + 1) = eb l k ++ encodeRuneZ (l.getD k 0)) := rfl
      generalize l.getD k 0 = n at hc hsg HE
      have cI := fun w => isSign_at n w
      rw [decide_eq_true hsg] at cI
      have cB := fun w => signBytes_at n w hsg
      have hul : (strOfNums (encodeRuneZ n)).size ≤ 4 := by rw [strOfNums_size]; exact (Go.Lib.encodeRuneZ_length n).2
      obtain ⟨u, hu⟩ : ∃ u, strOfNums (encodeRuneZ n) = u := ⟨_, rfl⟩
      rw [hu] at cB hul
      have HT' : Hid (t ++ u = strOfNums (eb l (k + 1))) := by rw [HE.out, HT.out, ← hu, nums_append]; rfl
      have hcat : ¬ 9223372036854775807 < t.size + u.size := by omega
      clear hu hsg HE
      go_wp2_with (first | (go_at_call 27; refine (cI _).mono ?_; rintro e w2 ⟨rfl, rfl⟩) | (go_at_call 28; refine (cB _).mono ?_; rintro e w3 ⟨rfl, hg3⟩))
      go_roundw
      case rel => exact ⟨k + 1, _, by omega, by go_num, rfl, by rw [ByteArray.size_append]; omega, HT', hbl.trans hg3.bl⟩
      case measure => simp [intOf]; omega
    · obtain rfl : k = m := by omega
      go_wp2_with (go_at_call 29; refine (good_at _).mono ?_; rintro e v1 ⟨rfl, g1⟩; have c0 := at_bl (hbl.trans g1) (a := ⟨w.heap.size, 0, none⟩) (v := .int .i64 0) (by simp); have c1 := at_bl (hbl.trans g1) (a := ⟨w.heap.size, 1, none⟩) (v := .int .i64 0) (by simp); have f0 := fz_bl (hbl.trans g1) (a := ⟨w.heap.size, 0, none⟩) (by simp) (by simp); have f1 := fz_bl (hbl.trans g1) (a := ⟨w.heap.size, 1, none⟩) (by simp) (by simp))
      refine bodyPost_ret (v := .tuple #[.string t, .agg #[.int .i64 0, .int .i64 (-1)]]) (by simp [results, Tryd.f11, go_sem, c0, c1]) rfl ⟨by rw [HT.out], ?_⟩
      exact Bl.setCell (a := ⟨w.heap.size, 1, none⟩) (Bl.setCell (a := ⟨w.heap.size, 0, none⟩) (((Bl.refl w).alloc _).trans (hbl.trans g1)) (Nat.le_refl _) _) (Nat.le_refl _) _
set_option maxHeartbeats 2000000 in
theorem refEncode_no (p : Option Addr) (c : Nat) (l : List Int) (j : Nat) (w : World) (hl : l.length ≤ 1000) (hin : In w p l) (hj : j < l.length) (hall : ∀ k, k < j → sign (l.getD k 0)) (hno : ¬ sign (l.getD j 0)) :
    Calls Tryd.prog 11 #[.slice p l.length c] w fun e w' => e = .returned (.tuple #[.string ⟨#[]⟩, .agg #[.int .i64 1, .int .i64 j]]) ∧ Bl w w' := by
  have HI : Hid (In (w.alloc (.cells #[.int .i64 0, .int .i64 0] 29)) p l) := hin.step ((Bl.refl w).alloc _)
  have HA : Hid (∀ k, k < j → sign (l.getD k 0)) := hall
  have HN : Hid (¬ sign (l.getD j 0)) := hno
  clear hin hall hno
  obtain ⟨m, hm⟩ : ∃ m, m = l.length := ⟨_, rfl⟩
  rw [← hm] at hl hj ⊢
  have HM : Hid (m = l.length) := hm
  clear hm
  go_enter Tryd.func11, Tryd.ntmps11
  go_wp2
  go_loopw [4, 9] (fun sv i wr => ∃ (k : Nat) (t : ByteArray), k ≤ j ∧ i = .int .i64 (k : Int) ∧ sv = .string t ∧ t.size ≤ 4 * k ∧ Bl (w.alloc (.cells #[.int .i64 0, .int .i64 0] 29)) wr) (fun _ i _ => m - (intOf i).toNat)
  case atStart => exact ⟨0, _, Nat.zero_le _, rfl, rfl, Nat.le_refl _, Bl.refl _⟩
  case round =>
    obtain ⟨k, t, hk, rfl, rfl, htz, hbl⟩ := hrel
    have hlz : (k : Int) < (m : Int) := by omega
    obtain ⟨x, rfl, hc⟩ := (HI.out.step hbl).at k (by rw [← HM.out]; omega)
    by_cases hlt : k < j
    · have hsg := HA.out k hlt
      generalize l.getD k 0 = n at hc hsg
      have cI := fun w => isSign_at n w
      rw [decide_eq_true hsg] at cI
      have cB := fun w => signBytes_at n w hsg
      have hul : (strOfNums (encodeRuneZ n)).size ≤ 4 := by rw [strOfNums_size]; exact (Go.Lib.encodeRuneZ_length n).2
      generalize strOfNums (encodeRuneZ n) = u at cB hul
      have hcat : ¬ 9223372036854775807 < t.size + u.size := by omega
      clear hsg
      go_wp2_with (first | (go_at_call 27; refine (cI _).mono ?_; rintro e w2 ⟨rfl, rfl⟩) | (go_at_call 28; refine (cB _).mono ?_; rintro e w3 ⟨rfl, hg3⟩))
      go_roundw
      case rel => exact ⟨k + 1, _, by omega, by go_num, rfl, by rw [ByteArray.size_append]; omega, hbl.trans hg3.bl⟩
      case measure => simp [intOf]; omega
    · obtain rfl : k = j := by omega
      have hsg := HN.out
      generalize l.getD k 0 = n at hc hsg
      have cI := fun w => isSign_at n w
      rw [decide_eq_false hsg] at cI
      clear hsg
      have c0 := at_bl hbl (a := ⟨w.heap.size, 0, none⟩) (v := .int .i64 0) (by simp)
      have c1 := at_bl hbl (a := ⟨w.heap.size, 1, none⟩) (v := .int .i64 0) (by simp)
      have f0 := fz_bl hbl (a := ⟨w.heap.size, 0, none⟩) (by simp) (by simp)
      have f1 := fz_bl hbl (a := ⟨w.heap.size, 1, none⟩) (by simp) (by simp)
      go_wp2_with (go_at_call 27; refine (cI _).mono ?_; rintro e w2 ⟨rfl, rfl⟩)
      refine bodyPost_ret (v := .tuple #[.string ⟨#[]⟩, .agg #[.int .i64 1, .int .i64 (k : Int)]]) (by simp [results, Tryd.f11, go_sem, c0, c1]) rfl ⟨rfl, ?_⟩
      exact Bl.setCell (a := ⟨w.heap.size, 1, none⟩) (Bl.setCell (a := ⟨w.heap.size, 0, none⟩) (((Bl.refl w).alloc _).trans hbl) (Nat.le_refl _) _) (Nat.le_refl _) _
end Go.Proofs.YtaboemchkmmgeaaDoor.refe
