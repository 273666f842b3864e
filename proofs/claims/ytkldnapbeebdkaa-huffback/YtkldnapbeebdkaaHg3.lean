/- The fixed fact on signs; slices.Equal at numbers. -/
import Derived.Test.YtkldnapbeebdkaaHf6
import Derived.Test.YtkldnapbeebdkaaHg2
namespace Go.Proofs.Ytkldnapbeebdkaa.hg
set_option linter.unusedVariables false
set_option linter.unusedSimpArgs false
open Go.ChangeShapes Go.WideShapes Go.ChangeAt Go.RowKit
open mem rows hfp hf

theorem equal_at (a b : Value) (l : List Int) (w : World) (ha : View w a l) (hb : View w b l) (hl : l.length ≤ 5000) :
    Calls Try.prog 15 #[a, b] w fun e w' => e = .returned (.bool true) ∧ Bl w w' := by
  obtain ⟨p, c, rfl, hp⟩ := ha
  obtain ⟨p', c', rfl, hp'⟩ := hb
  obtain ⟨m, hm⟩ : ∃ m, m = l.length := ⟨_, rfl⟩
  rw [← hm] at hl ⊢
  have HM : Hid (m = l.length) := hm
  have HP : Hid (In w p l) := hp
  have HQ : Hid (In w p' l) := hp'
  clear hm hp hp'
  go_enter Try.func15, Try.ntmps15
  go_wp2
  go_loopw [13] (fun i wr => ∃ k : Nat, k ≤ m ∧ i = .int .i64 (k : Int) ∧ Dr w wr) (fun i _ => m - (intOf i).toNat)
  case atStart => exact ⟨0, Nat.zero_le _, rfl, Dr.refl _⟩
  case round =>
    obtain ⟨k, hk, rfl, hd⟩ := hrel
    by_cases hlt : k < m
    · obtain ⟨q, rfl⟩ := hd
      obtain ⟨x, rfl, hc1⟩ := (HP.out.step ((Dr.drewN q (Dr.refl w)).bl)).at k (by rw [← HM.out]; exact hlt)
      obtain ⟨x', rfl, hc2⟩ := (HQ.out.step ((Dr.drewN q (Dr.refl w)).bl)).at k (by rw [← HM.out]; exact hlt)
      generalize l.getD k 0 = z at hc1 hc2
      generalize hwq : w.drewN q = wq at hc1 hc2 ⊢
      have hlz : (k : Int) < (m : Int) := by omega
      have HW : Hid (w.drewN q = wq) := hwq
      clear hwq
      go_wp2
      go_quiet (fail)
      go_wp2
      go_roundw
      case rel => exact ⟨k + 1, by omega, by go_num, by rw [← HW.out]; exact Dr.drewN _ ⟨q, rfl⟩⟩
      case measure => simp [intOf]; omega
    · obtain rfl : k = m := by omega
      go_wp2
      go_ret
      exact ⟨rfl, hd.bl⟩
theorem eq_lit (v : Value) (l : List Int) (n : Nat) (w : World) (hv : View w v l) (hl : l.length ≤ 5000) (hn : n = l.length) : Calls Try.prog 15 #[v, .slice (some ⟨w.heap.size, 0, none⟩) n n] (w.alloc (.cells (rowI l).toArray 3)) fun e w' => e = .returned (.bool true) ∧ Bl w w' := by
  subst hn
  refine (equal_at _ _ _ _ (hv.step ((Bl.refl w).alloc _)) (lit_view w l 3 l.length) hl).mono ?_
  rintro e w' ⟨rfl, hb⟩
  exact ⟨rfl, ((Bl.refl w).alloc _).trans hb⟩
theorem l0 : grp [5, 1, 0, 2, 9] 5 = [(5, [0]), (1, [1]), (2, [3]), (9, [4])] := by kernel_rfl
theorem m1 : ([(5, [0]), (1, [1]), (2, [3]), (9, [4])] : List G).mergeSort leP = [(1, [1]), (2, [3]), (5, [0]), (9, [4])] := by
  simp [List.mergeSort, List.MergeSort.Internal.splitInTwo, leP]
theorem m2 : ([(5, [0]), (9, [4]), (3, [1, 3])] : List G).mergeSort leP = [(3, [1, 3]), (5, [0]), (9, [4])] := by
  simp [List.mergeSort, List.MergeSort.Internal.splitInTwo, leP]
theorem m3 : ([(9, [4]), (8, [1, 3, 0])] : List G).mergeSort leP = [(8, [1, 3, 0]), (9, [4])] := by
  simp [List.mergeSort, List.MergeSort.Internal.splitInTwo, leP]
theorem l1 : lensOf [5, 1, 0, 2, 9] = [2, 3, 0, 3, 1] := by
  have e : lensOf [5, 1, 0, 2, 9] = hloop 4 [(5, [0]), (1, [1]), (2, [3]), (9, [4])] [0, 0, 0, 0, 0] := by
    unfold lensOf
    rw [show grp [5, 1, 0, 2, 9] ([5, 1, 0, 2, 9] : List Int).length = [(5, [0]), (1, [1]), (2, [3]), (9, [4])] from l0]
    rfl
  rw [e, hloop_step m1]
  show hloop 3 [(5, [0]), (9, [4]), (3, [1, 3])] [0, 1, 0, 1, 0] = _
  rw [hloop_step m2]
  show hloop 2 [(9, [4]), (8, [1, 3, 0])] [1, 2, 0, 2, 0] = _
  rw [hloop_step m3, hloop_end (by simp)]
  rfl
theorem l2 : signsOf [2, 1, 3, 3] = [2, 0, 6, 7] := by kernel_rfl
theorem s1 (X : Nat) (w : World) (hin : In w (some ⟨X, 0, none⟩) [5, 1, 0, 2, 9]) : Calls Try.prog 10 #[.slice (some ⟨X, 0, none⟩) 5 5] w fun e w' => ∃ v, e = .returned (.tuple #[v, .nilIface]) ∧ View w' v [2, 3, 0, 3, 1] ∧ Bl w w' := by
  refine (Lens_at (some ⟨X, 0, none⟩) 5 5 [5, 1, 0, 2, 9] w hin rfl (by omega)).mono ?_
  rintro e w' ⟨hb, h | h | h⟩
  · exact absurd h.1 (by decide)
  · exact absurd (show okL [5, 1, 0, 2, 9] 5 from fun i hi => by
      have : i = 0 ∨ i = 1 ∨ i = 2 ∨ i = 3 ∨ i = 4 := by omega
      rcases this with rfl | rfl | rfl | rfl | rfl <;> decide) h.2.1
  · obtain ⟨_, _, B, rfl, _, hr⟩ := h
    rw [l1] at hr
    exact ⟨_, rfl, hr.view 5, hb⟩
theorem s2 (X : Nat) (w : World) (hin : In w (some ⟨X, 0, none⟩) [2, 1, 3, 3]) : Calls Try.prog 9 #[.slice (some ⟨X, 0, none⟩) 4 4] w fun e w' => ∃ v, e = .returned (.tuple #[v, .nilIface]) ∧ View w' v [2, 0, 6, 7] ∧ Bl w w' := by
  have hok : okS [2, 1, 3, 3] 4 := fun i hi => by
    have : i = 0 ∨ i = 1 ∨ i = 2 ∨ i = 3 := by omega
    rcases this with rfl | rfl | rfl | rfl <;> decide
  have ht : tk [2, 1, 3, 3] 4 = 16777216 := by decide
  refine (Signs_at (some ⟨X, 0, none⟩) 4 4 [2, 1, 3, 3] w hin rfl (by omega)).mono ?_
  rintro e w' ⟨hb, h | h | h | h⟩
  · exact absurd h.1 (by decide)
  · exact absurd hok h.2.1
  · have := h.2.2.1
    rw [show tk [2, 1, 3, 3] ([2, 1, 3, 3] : List Int).length = 16777216 from ht] at this
    omega
  · obtain ⟨_, _, _, B, rfl, _, hr⟩ := h
    rw [l2] at hr
    exact ⟨_, rfl, hr.view 4, hb⟩
theorem lit_in (w : World) (l : List Int) : In (w.alloc (.cells (rowI l).toArray 3)) (some ⟨w.heap.size, 0, none⟩) l := by
  obtain ⟨p, c, e, h⟩ := lit_view w l 3 0
  simp only [Value.slice.injEq] at e
  rw [← e.1] at h
  exact h
set_option maxRecDepth 10000 in
theorem coded_at (w : World) : Calls Try.prog 7 #[] w fun e w' => e = .returned (.bool true) ∧ Bl w w' := by
  go_enter Try.func7, Try.ntmps7
  go_wp2_with (first
    | (go_at_call 10; refine (s1 _ _ (lit_in _ [5, 1, 0, 2, 9])).mono ?_; rintro e w1 ⟨v1, rfl, hv1, hb1⟩)
    | (go_at_call 9; refine (s2 _ _ (lit_in _ [2, 1, 3, 3])).mono ?_; rintro e w2 ⟨v2, rfl, hv2, hb2⟩)
    | (go_at_call_of 15 v1; refine (eq_lit v1 [2, 3, 0, 3, 1] 5 _ (hv1.step (((Bl.refl w1).alloc _).trans hb2)) (by decide) rfl).mono ?_; rintro e w4 ⟨rfl, hb4⟩)
    | (go_at_call_of 15 v2; refine (eq_lit v2 [2, 0, 6, 7] 4 _ (hv2.step hb4) (by decide) rfl).mono ?_; rintro e w5 ⟨rfl, hb5⟩))
  go_ret
  exact ⟨rfl, (((((Bl.refl w).alloc _).trans hb1).trans (((Bl.refl w1).alloc _).trans hb2)).trans hb4).trans hb5⟩
end Go.Proofs.Ytkldnapbeebdkaa.hg
