/- Keys compared; what the closure of Sort of package suffix answers. -/
import Derived.Test.YtnhdaolieifhnaaGreatDoorSx2
namespace Go.Proofs.YtnhdaolieifhnaaGreatDoor.sx
set_option linter.unusedVariables false
open Go.ChangeShapes Go.WideShapes Go.ChangeAt Go.RowKit
open mem rows fd

def cfi (x y : Int) : Int := if x < y then -1 else if y < x then 1 else 0
theorem isNaN_at (x : Int) (w : World) : Calls Tryz.prog 60 #[.int .i64 x] w fun e w' => e = .returned (.bool false) ∧ w' = w := by
  go_enter Tryz.func60, Tryz.ntmps60
  go_wp2
  go_ret
  exact ⟨rfl, rfl⟩
theorem Compare_at (x y : Int) (w : World) : Calls Tryz.prog 38 #[.int .i64 x, .int .i64 y] w fun e w' => e = .returned (.int .i64 (cfi x y)) ∧ w' = w := by
  have c := isNaN_at
  go_enter Tryz.func38, Tryz.ntmps38
  by_cases h1 : x < y
  · go_wp2_with (go_at_call 60; refine (c _ _).mono ?_; rintro e w' ⟨rfl, rfl⟩)
    go_ret
    exact ⟨ret_int (by unfold cfi; rw [if_pos h1]), rfl⟩
  · by_cases h2 : y < x
    · go_wp2_with (go_at_call 60; refine (c _ _).mono ?_; rintro e w' ⟨rfl, rfl⟩)
      go_ret
      exact ⟨ret_int (by unfold cfi; rw [if_neg (by omega), if_pos (by omega)]), rfl⟩
    · go_wp2_with (go_at_call 60; refine (c _ _).mono ?_; rintro e w' ⟨rfl, rfl⟩)
      go_ret
      exact ⟨ret_int (by unfold cfi; rw [if_neg (by omega), if_neg (by omega)]), rfl⟩
/-- The first of two numbers that isn't 0. -/
def orI (a b : Int) : Int := if a = 0 then b else a
def cf2 (x y : Int × Int) : Int := orI (cfi x.1 y.1) (cfi x.2 y.2)
set_option maxRecDepth 10000 in
theorem compare_at (x y : Int × Int) (K a b : Nat) (w : World) (a0 : w.cell? ⟨K, a, none⟩ = some (.int .i64 x.1)) (a1 : w.cell? ⟨K, a + 1, none⟩ = some (.int .i64 x.2)) (b0 : w.cell? ⟨K, b, none⟩ = some (.int .i64 y.1)) (b1 : w.cell? ⟨K, b + 1, none⟩ = some (.int .i64 y.2)) :
    Calls Tryz.prog 20 #[.slice (some ⟨K, a, none⟩) 2 2, .slice (some ⟨K, b, none⟩) 2 2] w fun e w' => e = .returned (.int .i64 (cf2 x y)) ∧ w' = w := by
  have c1 := fun W => Compare_at x.1 y.1 W
  have c2 := fun W => Compare_at x.2 y.2 W
  unfold cf2
  generalize cfi x.1 y.1 = r1 at *
  generalize cfi x.2 y.2 = r2 at *
  generalize x.1 = x1 at *
  generalize x.2 = x2 at *
  generalize y.1 = y1 at *
  generalize y.2 = y2 at *
  go_enter Tryz.func20, Tryz.ntmps20
  go_wp2
  go_loop [11] (fun i => i = .int .i64 0 ∨ (i = .int .i64 1 ∧ r1 = 0) ∨ (i = .int .i64 2 ∧ r1 = 0 ∧ r2 = 0)) (fun i => 2 - (intOf i).toNat)
  case atStart => exact Or.inl rfl
  case round =>
    rcases hrel with rfl | ⟨rfl, h1⟩ | ⟨rfl, h1, h2⟩
    · by_cases h : r1 = 0
      · have hz : (r1 != 0) = false := by simpa using h
        have HH : Hid (r1 = 0) := h
        clear h
        go_wp2_with (go_at_call 38; refine (c1 _).mono ?_; rintro e w' ⟨rfl, rfl⟩)
        go_round
        case rel => exact Or.inr (Or.inl ⟨by go_num, HH.out⟩)
        case measure => simp [intOf]
      · have hz : (r1 != 0) = true := by simpa using h
        go_wp2_with (go_at_call 38; refine (c1 _).mono ?_; rintro e w' ⟨rfl, rfl⟩)
        go_ret
        exact ⟨ret_int (by unfold orI; rw [if_neg h]), rfl⟩
    · by_cases h : r2 = 0
      · have hz : (r2 != 0) = false := by simpa using h
        have HH : Hid (r1 = 0 ∧ r2 = 0) := ⟨h1, h⟩
        clear h h1
        go_wp2_with (go_at_call 38; refine (c2 _).mono ?_; rintro e w' ⟨rfl, rfl⟩)
        go_round
        case rel => exact Or.inr (Or.inr ⟨by go_num, HH.out⟩)
        case measure => simp [intOf]
      · have hz : (r2 != 0) = true := by simpa using h
        have HH : Hid (r1 = 0) := h1
        clear h1
        go_wp2_with (go_at_call 38; refine (c2 _).mono ?_; rintro e w' ⟨rfl, rfl⟩)
        go_ret
        exact ⟨ret_int (by unfold orI; rw [if_pos HH.out]), rfl⟩
    · have HH : Hid (r1 = 0 ∧ r2 = 0) := ⟨h1, h2⟩
      clear h1 h2
      go_wp2
      go_ret
      exact ⟨ret_int (by unfold orI; rw [if_pos HH.out.1, HH.out.2]), rfl⟩
set_option maxRecDepth 10000 in
/-- Sort's closure: the keys of two ends. -/
theorem closure_at (r : Nat → Int) (N n X K i j : Nat) (w : World) (hN : N ≤ 4000) (hX : w.cell? ⟨X, 0, none⟩ = some (.slice (some ⟨K, 0, none⟩) N N)) (hK : RowK w K (tab (kf r N n) (N * 2))) (hi : i < N) (hj : j < N) :
    Calls Tryz.prog 19 #[.int .i64 (i : Int), .int .i64 (j : Int), .pointer (some ⟨X, 0, none⟩)] w fun e w' => e = .returned (.int .i64 (cf2 (kk r N n i) (kk r N n j))) ∧ Dr w w' := by
  have cell : ∀ k, k < N → w.cell? ⟨K, k * 2, none⟩ = some (.int .i64 (kk r N n k).1) ∧ w.cell? ⟨K, k * 2 + 1, none⟩ = some (.int .i64 (kk r N n k).2) := fun k hk => by
    have h1 := hK.cell (j := k * 2) (by rw [tab_len]; omega)
    have h2 := hK.cell (j := k * 2 + 1) (by rw [tab_len]; omega)
    rw [tab_at _ _ _ (by omega)] at h1 h2
    rw [kf_even] at h1
    rw [kf_odd] at h2
    exact ⟨h1, h2⟩
  have cC := fun q => compare_at (kk r N n i) (kk r N n j) K (i * 2) (j * 2) (w.drewN q) (cell i hi).1 (cell i hi).2 (cell j hj).1 (cell j hj).2
  generalize cf2 (kk r N n i) (kk r N n j) = z at *
  have t1 : 0 ≤ (i : Int) ∧ (i : Int) < (N : Int) := by omega
  have t2 : 0 ≤ (j : Int) ∧ (j : Int) < (N : Int) := by omega
  clear hK cell
  go_enter Tryz.func19, Tryz.ntmps19
  go_wp2
  go_quiet ((go_at_call 20; exact Calls.quiet_of_same (cC _)))
  go_wp2
  go_ret
  exact ⟨rfl, Dr.drewN _ (Dr.refl w)⟩
end Go.Proofs.YtnhdaolieifhnaaGreatDoor.sx
