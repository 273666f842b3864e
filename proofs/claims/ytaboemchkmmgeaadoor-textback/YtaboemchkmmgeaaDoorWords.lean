/- What Put, Get and Swap of package word answer where width and order are right. -/
import Derived.Test.YtaboemchkmmgeaaDoorRows
import Derived.Test.YtaboemchkmmgeaaDoorMem
import Derived.Test.YtaboemchkmmgeaaDoorNum
import Derived.WalkLawsBesides
namespace Go.Proofs.YtaboemchkmmgeaaDoor.words
open Go.ChangeShapes Go.WideShapes Go.ChangeAt Go.RowKit
open mem num

theorem whole_yes (W : Int) (w : World) (h : W = 1 ∨ W = 2 ∨ W = 4 ∨ W = 8) :
    Calls Tryd.prog 51 #[.int .i64 W] w fun e w' => e = .returned (.bool true) ∧ w' = w := by
  rcases h with rfl | rfl | rfl | rfl
  all_goals
    go_enter Tryd.func51, Tryd.ntmps51
    go_wp2
    go_ret
    exact ⟨rfl, rfl⟩
theorem known_yes (o : Int) (w : World) (h : o = 0 ∨ o = 1) :
    Calls Tryd.prog 52 #[.int .i64 o] w fun e w' => e = .returned (.bool true) ∧ w' = w := by
  rcases h with rfl | rfl
  all_goals
    go_enter Tryd.func52, Tryd.ntmps52
    go_wp2
    go_ret
    exact ⟨rfl, rfl⟩
theorem place_any (k W : Nat) (o : Bool) (w : World) (hk : k < W) (hW : W ≤ 8) :
    Calls Tryd.prog 53 #[.int .i64 k, .int .i64 W, .int .i64 (if o then 1 else 0)] w fun e w' => e = .returned (.int .i64 (pl W o k : Nat)) ∧ w' = w := by
  cases o
  all_goals
    simp only [if_true, Bool.false_eq_true, if_false]
    go_enter Tryd.func53, Tryd.ntmps53
    go_wp2
    go_ret
    exact ⟨ret_int (by simp [pl]; try omega), rfl⟩
theorem place_at (k W : Nat) (o : Bool) (O : Int) (w : World) (hk : k < W) (hW : W ≤ 8) (hO : (if o then (1 : Int) else 0) = O) :
    Calls Tryd.prog 53 #[.int .i64 k, .int .i64 W, .int .i64 O] w fun e w' => e = .returned (.int .i64 (pl W o k : Nat)) ∧ w' = w := by
  subst hO
  exact place_any k W o w hk hW
theorem info8 : (Tryd.prog.info? 5).map (fun i => (i.zero, i.size, i.bytes)) = some (some (.int .u8 0), 1, 1) := by kernel_rfl
theorem put_any (n : Int) (W : Nat) (o : Bool) (w : World) (hW : (W : Int) = 1 ∨ (W : Int) = 2 ∨ (W : Int) = 4 ∨ (W : Int) = 8) :
    Calls Tryd.prog 36 #[.int .u64 n, .int .i64 W, .int .i64 (if o then 1 else 0)] w fun e w' => e = .returned (.tuple #[.string (strOfNums (putL n W o W)), .nilIface]) ∧ Gb w w' := by
  have hmk := fun w => run_make_row' (P := Tryd.prog) 58 5 (.int .u8 0) 1 Tryd.underlying58 info8 rfl .i64 .i64 W (by omega) (by omega) w
  have ho : (if o then (1 : Int) else 0) = 0 ∨ (if o then (1 : Int) else 0) = 1 := by cases o <;> simp
  have hw8 : W ≤ 8 := by omega
  have HW : Hid ((W : Int) = 1 ∨ (W : Int) = 2 ∨ (W : Int) = 4 ∨ (W : Int) = 8) := hW
  have HO : Hid ((if o then (1 : Int) else 0) = 0 ∨ (if o then (1 : Int) else 0) = 1) := ho
  clear hW ho
  generalize hO : (if o then (1 : Int) else 0) = O at *
  have HOO : Hid ((if o then (1 : Int) else 0) = O) := hO
  clear hO
  go_enter Tryd.func36, Tryd.ntmps36
  go_wp2_with (first | (go_at_call 51; refine (whole_yes _ _ HW.out).mono ?_; rintro e w' ⟨rfl, rfl⟩) | (go_at_call 52; refine (known_yes _ _ HO.out).mono ?_; rintro e w' ⟨rfl, rfl⟩))
  go_loopw [22] (fun i wr => ∃ k : Nat, k ≤ W ∧ i = .int .i64 k ∧ Row wr 5 w'.heap.size (putL n W o k) ∧ Gb w' wr) (fun i _ => W - (intOf i).toNat)
  case atStart => exact ⟨0, Nat.zero_le _, rfl, by rw [putL_zero]; exact Row.made _ _ _, (Gb.refl _).alloc _ _⟩
  case round =>
    obtain ⟨k, hk, rfl, hrow, hgb⟩ := hrel
    by_cases hlt : k < W
    · have hpl : pl W o k < W := by unfold pl; split <;> omega
      have hc := hrow.cell (j := pl W o k) (by rw [putL_len]; exact hpl)
      have hf := hrow.frozen (pl W o k)
      have hsh := run_shr8 (P := Tryd.prog) n k (by omega)
      have hu8 := IntKind.wrap_u8' (n / 256 ^ k)
      go_wp2_with fail
      go_region_with (go_at_call 53; refine (place_at _ _ o _ _ (by omega) (by omega) HOO.out).mono ?_; rintro e w2 ⟨rfl, rfl⟩)
      go_wp2
      go_roundw
      case rel => exact ⟨k + 1, by omega, by go_num, by rw [← putL_set n W o k hlt]; exact (hrow.set _ _).drew, (hgb.setCell (Nat.le_refl _) _).drew⟩
      case measure => simp [intOf]; omega
    · obtain rfl : k = W := by omega
      have hcv := hrow.text (P := Tryd.prog) Tryd.underlying58 Tryd.underlying5 Tryd.underlying9 k (putL_len _ _ _ _)
      go_wp2
      go_ret2
      exact ⟨rfl, hgb⟩
theorem get_any (s : ByteArray) (A W : Nat) (o : Bool) (O : Int) (w : World) (hO : (if o then (1 : Int) else 0) = O) (hW : (W : Int) = 1 ∨ (W : Int) = 2 ∨ (W : Int) = 4 ∨ (W : Int) = 8) (hs : s.size ≤ maxLen) (hA : A + W ≤ s.size) :
    Calls Tryd.prog 54 #[.string s, .int .i64 A, .int .i64 W, .int .i64 O] w fun e w' => e = .returned (.tuple #[.int .u64 (gv (fun i => sb s (A + pl W o i)) W), .nilIface]) ∧ w' = w := by
  have ho : O = 0 ∨ O = 1 := by cases o <;> simp at hO <;> omega
  have hw8 : W ≤ 8 := by omega
  have HW : Hid ((W : Int) = 1 ∨ (W : Int) = 2 ∨ (W : Int) = 4 ∨ (W : Int) = 8) := hW
  have HO : Hid (O = 0 ∨ O = 1) := ho
  have HOO : Hid ((if o then (1 : Int) else 0) = O) := hO
  clear hW ho hO
  unfold maxLen at hs
  go_enter Tryd.func54, Tryd.ntmps54
  go_wp2_with (first | (go_at_call 51; refine (whole_yes _ _ HW.out).mono ?_; rintro e w' ⟨rfl, rfl⟩) | (go_at_call 52; refine (known_yes _ _ HO.out).mono ?_; rintro e w' ⟨rfl, rfl⟩))
  go_loop [10, 33] (fun n i => ∃ k : Nat, k ≤ W ∧ i = .int .i64 k ∧ n = .int .u64 (gv (fun i => sb s (A + pl W o i)) k)) (fun _ i => W - (intOf i).toNat)
  case atStart => exact ⟨0, Nat.zero_le _, rfl, rfl⟩
  case round =>
    obtain ⟨k, hk, rfl, rfl⟩ := hrel
    by_cases hlt : k < W
    · have hpl : pl W o k < W := by unfold pl; split <;> omega
      go_wp2_with (go_at_call 53; refine (place_at _ _ o _ _ (by omega) (by omega) HOO.out).mono ?_; rintro e w2 ⟨rfl, rfl⟩)
      go_round
      case rel => exact ⟨k + 1, by omega, by go_num, by
        have hb := sb_bd s (A + pl W o k)
        have hv := gv_bd (fun i => sb s (A + pl W o i)) (fun i => sb_bd s _) k
        rw [← sb_get s (A + pl W o k) (by omega), or_step _ _ k (by omega) hv.1 hv.2 hb.1 hb.2]
        rfl⟩
      case measure => simp [intOf]; omega
    · obtain rfl : k = W := by omega
      go_wp2
      go_ret2
      exact ⟨rfl, rfl⟩
theorem put_at (n : Int) (W : Nat) (o : Bool) (O : Int) (w : World) (hO : (if o then (1 : Int) else 0) = O) (hW : (W : Int) = 1 ∨ (W : Int) = 2 ∨ (W : Int) = 4 ∨ (W : Int) = 8) :
    Calls Tryd.prog 36 #[.int .u64 n, .int .i64 W, .int .i64 O] w fun e w' => e = .returned (.tuple #[.string (strOfNums (putL n W o W)), .nilIface]) ∧ Gb w w' := by
  subst hO
  exact put_any n W o w hW
end Go.Proofs.YtaboemchkmmgeaaDoor.words
