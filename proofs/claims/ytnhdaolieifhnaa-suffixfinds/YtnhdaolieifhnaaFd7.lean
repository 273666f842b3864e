/- The fixed fact on patterns; slices.Equal, slices.Contains and pick. -/
import Derived.Test.YtnhdaolieifhnaaFd5
import Derived.Test.YtnhdaolieifhnaaFd6
namespace Go.Proofs.Ytnhdaolieifhnaa.find
set_option linter.unusedVariables false
open Go.ChangeShapes Go.WideShapes Go.ChangeAt Go.RowKit
open mem rows fd

theorem equal_at (a b : Value) (l : List Int) (w : World) (ha : View w a l) (hb : View w b l) (hl : l.length ≤ 5000) :
    Calls Try.prog 12 #[a, b] w fun e w' => e = .returned (.bool true) ∧ Bl w w' := by
  obtain ⟨p, c, rfl, hp⟩ := ha
  obtain ⟨p', c', rfl, hp'⟩ := hb
  obtain ⟨m, hm⟩ : ∃ m, m = l.length := ⟨_, rfl⟩
  rw [← hm] at hl ⊢
  have HM : Hid (m = l.length) := hm
  have HP : Hid (In w p l) := hp
  have HQ : Hid (In w p' l) := hp'
  clear hm hp hp'
  go_enter Try.func12, Try.ntmps12
  go_wp2
  go_loopw [13] (fun i wr => ∃ k : Nat, k ≤ m ∧ i = .int .i64 (k : Int) ∧ Dr w wr) (fun i _ => m - (intOf i).toNat)
  case atStart => exact ⟨0, Nat.zero_le _, rfl, Dr.refl _⟩
  case round =>
    obtain ⟨k, hk, rfl, hd⟩ := hrel
    by_cases hlt : k < m
    · obtain ⟨q, rfl⟩ := hd
      obtain ⟨x, rfl, hc1⟩ := (HP.out.step ((Dr.drewN q (Dr.refl w)).bl)).at k (by rw [← HM.out]; exact hlt)
      obtain ⟨x', rfl, hc2⟩ := (HQ.out.step ((Dr.drewN q (Dr.refl w)).bl)).at k (by rw [← HM.out]; exact hlt)
      generalize l.getD k 0 = z at hc1 hc2
      generalize hwq : w.drewN q = wq at hc1 hc2 ⊢
      have hlz : (k : Int) < (m : Int) := by omega
      have HW : Hid (w.drewN q = wq) := hwq
      clear hwq
      go_wp2
      go_quiet (fail)
      go_wp2
      go_roundw
      case rel => exact ⟨k + 1, by omega, by go_num, by rw [← HW.out]; exact Dr.drewN _ ⟨q, rfl⟩⟩
      case measure => simp [intOf]; omega
    · obtain rfl : k = m := by omega
      go_wp2
      go_ret
      exact ⟨rfl, hd.bl⟩
theorem k1 : ints (pls (sb ⟨#[97, 98, 97]⟩) (sb ⟨#[97, 98, 97, 98, 97, 98, 97]⟩) 3 7) = [0, 2, 4] := by decide +kernel
theorem k2 : rd (sb ⟨#[52, 63, 32, 48, 97]⟩) 5 0 [] = some [4, -1, 0, 10] := by decide +kernel
theorem k3 : ints (lks (mfn [4, -1, 0, 10]) (sb ⟨#[65, 10, 74, 10]⟩) 2 4) = [0, 2] := by decide +kernel
theorem k4 : brs (sb ⟨#[97, 98, 97, 98]⟩) 4 4 = [0, 0, 1, 2] := by decide +kernel
theorem f1 (w : World) : Calls Try.prog 10 #[.string ⟨#[97, 98, 97, 98, 97, 98, 97]⟩, .string ⟨#[97, 98, 97]⟩] w fun e w' => ∃ v, e = .returned (.tuple #[v, .nilIface]) ∧ View w' v [0, 2, 4] ∧ Bl w w' := by
  refine (All_at ⟨#[97, 98, 97, 98, 97, 98, 97]⟩ ⟨#[97, 98, 97]⟩ w (by decide) (by decide) (by decide)).mono ?_
  rintro e w' ⟨v, rfl, ho, hb⟩
  have := view_own ho
  rw [show (ByteArray.mk #[97, 98, 97]).size = 3 from rfl, show (ByteArray.mk #[97, 98, 97, 98, 97, 98, 97]).size = 7 from rfl, k1] at this
  exact ⟨v, rfl, this, hb⟩
theorem f2 (w : World) : Calls Try.prog 20 #[.string ⟨#[52, 63, 32, 48, 97]⟩] w fun e w' => ∃ v, e = .returned (.tuple #[v, .nilIface]) ∧ View w' v [4, -1, 0, 10] ∧ Bl w w' := by
  refine (Read_at ⟨#[52, 63, 32, 48, 97]⟩ w (by decide)).mono ?_
  rintro e w' ⟨ha, hb⟩
  rw [show (ByteArray.mk #[52, 63, 32, 48, 97]).size = 5 from rfl, k2] at ha
  obtain ⟨v, rfl, ho, _⟩ := ha
  exact ⟨v, rfl, view_own ho, hb⟩
theorem f3 (v : Value) (w : World) (hv : View w v [4, -1, 0, 10]) : Calls Try.prog 21 #[.string ⟨#[65, 10, 74, 10]⟩, v] w fun e w' => ∃ v, e = .returned (.tuple #[v, .nilIface]) ∧ View w' v [0, 2] ∧ Bl w w' := by
  refine (Like_at ⟨#[65, 10, 74, 10]⟩ v [4, -1, 0, 10] 2 w (by decide) hv rfl (by decide) (by decide)).mono ?_
  rintro e w' ⟨v, rfl, ho, hb⟩
  have := view_own ho
  rw [show (ByteArray.mk #[65, 10, 74, 10]).size = 4 from rfl, k3] at this
  exact ⟨v, rfl, this, hb⟩
theorem f4 (w : World) : Calls Try.prog 22 #[.string ⟨#[97, 98, 97, 98]⟩] w fun e w' => ∃ v, e = .returned v ∧ View w' v [0, 0, 1, 2] ∧ Bl w w' := by
  refine (Borders_at ⟨#[97, 98, 97, 98]⟩ w (by decide)).mono ?_
  rintro e w' ⟨v, rfl, ho, hb⟩
  have := view_own ho
  rw [show (ByteArray.mk #[97, 98, 97, 98]).size = 4 from rfl, k4] at this
  exact ⟨v, rfl, this, hb⟩
theorem eq_lit (v : Value) (l : List Int) (n : Nat) (w : World) (hv : View w v l) (hl : l.length ≤ 5000) (hn : n = l.length) : Calls Try.prog 12 #[v, .slice (some ⟨w.heap.size, 0, none⟩) n n] (w.alloc (.cells (rowI l).toArray 3)) fun e w' => e = .returned (.bool true) ∧ Bl w w' := by
  subst hn
  refine (equal_at _ _ _ _ (hv.step ((Bl.refl w).alloc _)) (lit_view w l 3 l.length) hl).mono ?_
  rintro e w' ⟨rfl, hb⟩
  exact ⟨rfl, ((Bl.refl w).alloc _).trans hb⟩
set_option maxRecDepth 10000 in
theorem found_at (w : World) : Calls Try.prog 8 #[] w fun e w' => e = .returned (.bool true) ∧ Bl w w' := by
  go_enter Try.func8, Try.ntmps8
  go_wp2_with (first
    | (go_at_call 10; refine (f1 _).mono ?_; rintro e w1 ⟨v1, rfl, hv1, hb1⟩)
    | (go_at_call 20; refine (f2 _).mono ?_; rintro e w2 ⟨v2, rfl, hv2, hb2⟩)
    | (go_at_call 21; refine (f3 _ _ hv2).mono ?_; rintro e w3 ⟨v3, rfl, hv3, hb3⟩)
    | (go_at_call 22; refine (f4 _).mono ?_; rintro e w6 ⟨v4, rfl, hv6, hb6⟩)
    | (go_at_call_of 12 v1; refine (eq_lit v1 [0, 2, 4] 3 _ ((hv1.step hb2).step hb3) (by decide) rfl).mono ?_; rintro e w4 ⟨rfl, hb4⟩)
    | (go_at_call_of 12 v3; refine (eq_lit v3 [0, 2] 2 _ (hv3.step hb4) (by decide) rfl).mono ?_; rintro e w5 ⟨rfl, hb5⟩)
    | (go_at_call_of 12 v4; refine (eq_lit v4 [0, 0, 1, 2] 4 _ hv6 (by decide) rfl).mono ?_; rintro e w7 ⟨rfl, hb7⟩))
  go_ret
  exact ⟨rfl, (((((hb1.trans hb2).trans hb3).trans hb4).trans hb5).trans hb6).trans hb7⟩
end Go.Proofs.Ytnhdaolieifhnaa.find
