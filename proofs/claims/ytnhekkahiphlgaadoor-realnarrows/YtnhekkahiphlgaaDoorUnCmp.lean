/- The document's own: two numbers of 34 words compared. -/
import Derived.Test.YtnhekkahiphlgaaDoorUnLess
namespace Go.Proofs.YtnhekkahiphlgaaDoor.rl
open Go.RowKit
open mem flt
attribute [local go_sem] World.cell?_alloc_some
def cm (a b : Nat) : Int := if a < b then -1 else if a = b then 0 else 1
theorem div_next (a i : Nat) : a / 2 ^ (64 * i) = a / 2 ^ (64 * (i + 1)) * 18446744073709551616 + wd a i := by
  rw [Nat.mul_add, Nat.pow_add, ← Nat.div_div_eq_div_mul]
  unfold wd
  omega
theorem lt_of_div {a b M : Nat} (h : a / M < b / M) : a < b := Nat.lt_of_not_le fun h' => absurd (Nat.div_le_div_right (c := M) h') (by omega)
set_option maxHeartbeats 1000000 in
theorem cmp_at (a b : Nat) (w : World) (ha : a < 2 ^ (64 * 34)) (hb : b < 2 ^ (64 * 34)) :
    Calls Tryd.prog 43 #[.agg (ul a), .agg (ul b)] w fun e w' => e = .returned (.int .i64 (cm a b)) ∧ Gb w w' := by
  have h0 : a / 2 ^ (64 * 34) = b / 2 ^ (64 * 34) := by rw [Nat.div_eq_of_lt ha, Nat.div_eq_of_lt hb]
  have HZ : Hid (a / 2 ^ (64 * 34) = b / 2 ^ (64 * 34)) := h0
  clear h0 ha hb
  obtain ⟨r, hr⟩ : ∃ r, cm a b = r := ⟨_, rfl⟩
  have HR := hide hr
  rw [hr]
  clear hr
  unfold ul
  go_enter Tryd.func43, Tryd.ntmps43
  go_upto_region 1 with fail
  have u1 : Un ((w.alloc (Obj.cells (ulf (wd a)).toArray 73)).alloc (Obj.cells (ulf (wd b)).toArray 73)) w.heap.size (wd a) := (Un.new w _ _).alloc _ _
  have u2 : Un ((w.alloc (Obj.cells (ulf (wd a)).toArray 73)).alloc (Obj.cells (ulf (wd b)).toArray 73)) (w.heap.size + 1) (wd b) := by
    have := Un.new (w.alloc (Obj.cells (ulf (wd a)).toArray 73)) (wd b) 73
    simpa using this
  have k3 : Gb w ((w.alloc (Obj.cells (ulf (wd a)).toArray 73)).alloc (Obj.cells (ulf (wd b)).toArray 73)) := ((Gb.refl w).alloc _ _).alloc _ _
  generalize ((w.alloc (Obj.cells (ulf (wd a)).toArray 73)).alloc (Obj.cells (ulf (wd b)).toArray 73)) = w1 at *
  obtain ⟨g, hg⟩ : ∃ g, w.heap.size = g := ⟨_, rfl⟩
  rw [hg] at u1 u2
  rw [hg]
  go_wp2
  go_loopw [5] (fun i wr => ∃ k : Nat, k ≤ 34 ∧ i = .int .i64 ((k : Int) - 1) ∧ Hid (a / 2 ^ (64 * k) = b / 2 ^ (64 * k)) ∧ Un wr g (wd a) ∧ Un wr (g + 1) (wd b) ∧ Gb w wr) (fun i _ => (intOf i + 1).toNat)
  case atStart => exact ⟨34, by omega, rfl, HZ, u1, u2, k3⟩
  case round =>
    clear u1 u2 k3 w1 HZ
    obtain ⟨k, hk, rfl, HK, v1, v2, gw⟩ := hrel
    rcases Nat.eq_zero_or_pos k with h0 | h0
    · have hab : a = b := by have := HK.out; rw [h0] at this; simpa using this
      have hr : r = 0 := by rw [← HR.out]; unfold cm; rw [if_neg (by omega), if_pos hab]
      subst h0 hr
      clear HK HR hab v1 v2
      have t : (0 : Int) ≤ ((0 : Nat) : Int) - 1 ↔ False := iff_false_intro (by omega)
      go_wp2
      go_ret
      exact ⟨rfl, gw⟩
    · obtain ⟨j, rfl⟩ : ∃ j, k = j + 1 := ⟨k - 1, by omega⟩
      have ej : (((j + 1 : Nat) : Int) - 1) = (j : Int) := by omega
      rw [ej]
      have hj : j < 34 := by omega
      have c1 := (v1 j hj).1
      have c2 := (v2 j hj).1
      have da := div_next a j
      have db := div_next b j
      rw [HK.out] at da
      obtain ⟨x, hx⟩ : ∃ x, wd a j = x := ⟨_, rfl⟩
      obtain ⟨y, hy⟩ : ∃ y, wd b j = y := ⟨_, rfl⟩
      rw [hx] at c1 da
      rw [hy] at c2 db
      have hj' : (j : Int) < 34 := by omega
      have hj0 : (0 : Int) ≤ (j : Int) := by omega
      clear ej hx hy
      rcases Nat.lt_trichotomy x y with h | h | h
      · have hab : a < b := lt_of_div (M := 2 ^ (64 * j)) (by rw [da, db]; omega)
        have hr : r = -1 := by rw [← HR.out]; unfold cm; rw [if_pos hab]
        subst hr
        have n1 : ((x : Int) == (y : Int)) = false := by simp; omega
        have n3 : decide (y < x) = false := by simp; omega
        have o1 : ∀ w, Calls Tryd.prog 25 #[.bool false] w fun e w' => e = .returned (.int .i64 0) ∧ w' = w := fun w => one_at false w
        clear HK HR hab da db h v1 v2
        go_upto_region 4 with fail
        go_region
        go_upto_region 5 with fail
        go_region_held3 (fun w' => w'.cell? ⟨g, j, none⟩ = some (.int .u64 (x : Int)) ∧ w'.cell? ⟨g + 1, j, none⟩ = some (.int .u64 (y : Int))) (go_keep) (first | (go_at_call 25; refine (o1 _).mono ?_; rintro e w3 ⟨rfl, rfl⟩))
        all_goals go_wp2
        all_goals go_ret
        all_goals exact ⟨rfl, gw.drew.drew⟩
      · subst h
        have HK' : Hid (a / 2 ^ (64 * j) = b / 2 ^ (64 * j)) := by show _ = _; rw [da, db]
        clear HK HR da db
        go_upto_region 4 with fail
        go_region
        have hkw : IntKind.i64.wrap ((j : Int) - 1) = (j : Int) - 1 := wrap_i64 _ (by omega) (by omega)
        go_wp2
        go_roundw
        case rel => exact ⟨j, by omega, by go_num, HK', v1.drew, v2.drew, gw.drew⟩
        case measure => simp [intOf]
      · have hab : b < a := lt_of_div (M := 2 ^ (64 * j)) (by rw [da, db]; omega)
        have hr : r = 1 := by rw [← HR.out]; unfold cm; rw [if_neg (by omega), if_neg (by omega)]
        subst hr
        have n1 : ((x : Int) == (y : Int)) = false := by simp; omega
        have n3 : decide (y < x) = true := by simp; omega
        have o1 : ∀ w, Calls Tryd.prog 25 #[.bool true] w fun e w' => e = .returned (.int .i64 1) ∧ w' = w := fun w => one_at true w
        clear HK HR hab da db h v1 v2
        go_upto_region 4 with fail
        go_region
        go_upto_region 5 with fail
        go_region_held3 (fun w' => w'.cell? ⟨g, j, none⟩ = some (.int .u64 (x : Int)) ∧ w'.cell? ⟨g + 1, j, none⟩ = some (.int .u64 (y : Int))) (go_keep) (first | (go_at_call 25; refine (o1 _).mono ?_; rintro e w3 ⟨rfl, rfl⟩))
        all_goals go_wp2
        all_goals go_ret
        all_goals exact ⟨rfl, gw.drew.drew⟩
end Go.Proofs.YtnhekkahiphlgaaDoor.rl
