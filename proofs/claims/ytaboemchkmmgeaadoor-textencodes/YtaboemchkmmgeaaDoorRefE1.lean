/- The bytes of a sign, as the document's own has them. -/
import Derived.Test.YtaboemchkmmgeaaDoorRefWord
import Derived.Test.YtaboemchkmmgeaaDoorRefT1
import Derived.Lib.RuneBytes
import Derived.Deep.RegionHeld3
namespace Go.Proofs.YtaboemchkmmgeaaDoor.refe
set_option linter.unusedVariables false
open Go.ChangeShapes Go.WideShapes Go.ChangeAt Go.RowKit
open mem num words
open utf (sign pow2_at)
open Go.Lib (encodeRuneZ encodeRuneZ_one encodeRuneZ_two encodeRuneZ_three encodeRuneZ_four)

theorem at_bl {w w' : World} (h : Bl w w') {a : Addr} {v : Value} (hc : w.cell? a = some v) : w'.cell? a = some v := by
  have hlt : a.block < w.heap.size := by
    rcases Nat.lt_or_ge a.block w.heap.size with h1 | h1
    · exact h1
    · simp [World.cell?, Array.getElem?_eq_none h1] at hc
  unfold World.cell? at hc ⊢
  rw [Below.block h _ hlt]
  exact hc
theorem tail_at (k : Nat) (K : Int) (hK : K = (k : Int)) (P : Nat) (r : Int) (Rc : Nat) (w : World) (h0 : 0 ≤ r) (h1 : r ≤ 1114111) (hP : 2 ^ (6 * k) = P) (hk : k ≤ 2) (hc : w.cell? ⟨Rc, 0, none⟩ = some (.int .i64 r)) :
    Calls Tryd.prog 46 #[.int .i64 K, .pointer (some ⟨Rc, 0, none⟩)] w fun e w' => e = .returned (.string (strOfNums [r / P % 64 + 128])) ∧ Gb w w' := by
  subst hK
  have hP0 : 1 ≤ P := by rw [← hP]; exact Nat.one_le_two_pow
  have hP1 : P ≤ 4096 := by rw [← hP]; exact Nat.pow_le_pow_right (by omega) (show 6 * k ≤ 12 by omega)
  obtain ⟨x, hx⟩ : ∃ x, r / (P : Int) = x := ⟨_, rfl⟩
  have hx0 : 0 ≤ x := by rw [← hx]; exact Int.ediv_nonneg h0 (by omega)
  have hx1 : x ≤ r := by rw [← hx]; exact Int.ediv_le_self _ h0
  obtain ⟨y, hy⟩ : ∃ y, x % 64 + 128 = y := ⟨_, rfl⟩
  have hyb : 128 ≤ y ∧ y < 192 := by omega
  obtain ⟨k6, hk6⟩ : ∃ k6 : Nat, 6 * k = k6 := ⟨_, rfl⟩
  have cP := fun w => pow2_at k6 P (by omega) (by rw [← hk6]; exact hP) w
  have cC := fun w => char_any y w (by omega)
  rw [show y % 256 = y by omega] at cC
  rw [hx, hy]
  have t1 : IntKind.i64.wrap (6 * (k : Int)) = (k6 : Int) := by rw [IntKind.wrap_i64]; omega
  have t2 : IntKind.u64.wrap r = r := by rw [IntKind.wrap_u64]; omega
  have t3 : ((P : Int) == 0) = false := by rw [beq_eq_false_iff_ne]; omega
  have t3' : ¬ P = 0 := by omega
  have t4 : r.tdiv (P : Int) = x := by rw [Int.tdiv_eq_ediv_of_nonneg h0]; exact hx
  have t4' : IntKind.u64.wrap x = x := by rw [IntKind.wrap_u64]; omega
  have t5 : x.tmod 64 = x % 64 := Int.tmod_eq_emod_of_nonneg hx0
  have t6 : IntKind.u64.wrap (x % 64) = x % 64 := by rw [IntKind.wrap_u64]; omega
  have t7 : IntKind.u64.wrap (x % 64 + 128) = y := by rw [IntKind.wrap_u64]; omega
  clear hx hy hP hk6
  go_enter Tryd.func46, Tryd.ntmps46
  go_wp2
  go_region_held3 (fun w' => w'.cell? ⟨Rc, 0, none⟩ = some (.int .i64 r)) (first | assumption | (simp (maxDischargeDepth := 9) [*])) (first | (go_at_call 43; refine (cP _).mono ?_; rintro e w2 ⟨rfl, rfl⟩) | (go_at_call 47; refine (cC _).mono ?_; rintro e w3 ⟨rfl, hg3⟩; have hc3 : w3.cell? ⟨Rc, 0, none⟩ = some (.int .i64 r) := at_bl hg3.bl (by assumption)))
  all_goals go_wp2
  all_goals go_ret
  all_goals exact ⟨rfl, ((Gb.refl w).drew).trans hg3⟩
theorem tail_0 (r : Int) (Rc : Nat) (w : World) (h0 : 0 ≤ r) (h1 : r ≤ 1114111) (hc : w.cell? ⟨Rc, 0, none⟩ = some (.int .i64 r)) :
    Calls Tryd.prog 46 #[.int .i64 0, .pointer (some ⟨Rc, 0, none⟩)] w fun e w' => e = .returned (.string (strOfNums [128 + r % 64])) ∧ Gb w w' := by
  have h := tail_at 0 0 rfl 1 r Rc w h0 h1 rfl (by omega) hc
  rw [show r / ((1 : Nat) : Int) % 64 + 128 = 128 + r % 64 by simp; omega] at h
  exact h
theorem tail_1 (r : Int) (Rc : Nat) (w : World) (h0 : 0 ≤ r) (h1 : r ≤ 1114111) (hc : w.cell? ⟨Rc, 0, none⟩ = some (.int .i64 r)) :
    Calls Tryd.prog 46 #[.int .i64 1, .pointer (some ⟨Rc, 0, none⟩)] w fun e w' => e = .returned (.string (strOfNums [128 + r / 64 % 64])) ∧ Gb w w' := by
  have h := tail_at 1 1 rfl 64 r Rc w h0 h1 rfl (by omega) hc
  rw [show r / ((64 : Nat) : Int) % 64 + 128 = 128 + r / 64 % 64 by omega] at h
  exact h
theorem tail_2 (r : Int) (Rc : Nat) (w : World) (h0 : 0 ≤ r) (h1 : r ≤ 1114111) (hc : w.cell? ⟨Rc, 0, none⟩ = some (.int .i64 r)) :
    Calls Tryd.prog 46 #[.int .i64 2, .pointer (some ⟨Rc, 0, none⟩)] w fun e w' => e = .returned (.string (strOfNums [128 + r / 4096 % 64])) ∧ Gb w w' := by
  have h := tail_at 2 2 rfl 4096 r Rc w h0 h1 rfl (by omega) hc
  rw [show r / ((4096 : Nat) : Int) % 64 + 128 = 128 + r / 4096 % 64 by omega] at h
  exact h
theorem lead_at (x : Int) (w : World) (h0 : 0 ≤ x) (h1 : x < 256) : Calls Tryd.prog 47 #[.int .u64 x] w fun e w' => e = .returned (.string (strOfNums [x])) ∧ Gb w w' := by
  have h := char_any x w h0
  rw [show x % 256 = x by omega] at h
  exact h
set_option maxHeartbeats 2000000 in
theorem signBytes_at (r : Int) (w : World) (hs : sign r) :
    Calls Tryd.prog 28 #[.int .i64 r] w fun e w' => e = .returned (.string (strOfNums (encodeRuneZ r))) ∧ Gb w w' := by
  have h0 : 0 ≤ r := by unfold sign at hs; omega
  have h1 : r ≤ 1114111 := by unfold sign at hs; omega
  have hga : Gb w (w.alloc (.cells #[.int .i64 r] 3)) := (Gb.refl w).alloc _ _
  have hc : (w.alloc (.cells #[.int .i64 r] 3)).cell? ⟨w.heap.size, 0, none⟩ = some (.int .i64 r) := by simp
  rcases (show r < 128 ∨ (128 ≤ r ∧ r < 2048) ∨ ((2048 ≤ r ∧ r < 55296) ∨ (57343 < r ∧ r ≤ 65535)) ∨ (65536 ≤ r ∧ r ≤ 1114111) by unfold sign at hs; omega) with c | c | c | c
  · rw [encodeRuneZ_one h0 (by omega)]
    have cL := fun w => lead_at r w h0 (by omega)
    clear hs
    go_enter Tryd.func28, Tryd.ntmps28
    go_wp2_with (go_at_call 47; refine (cL _).mono ?_; rintro e w2 ⟨rfl, hg2⟩)
    go_ret
    exact ⟨rfl, hga.trans hg2⟩
  · rw [encodeRuneZ_two (by omega) (by omega)]
    clear hs
    go_enter Tryd.func28, Tryd.ntmps28
    go_wp2_with (first | (go_at_call 47; refine (lead_at (192 + r / 64) _ (by omega) (by omega)).mono ?_; rintro e w2 ⟨rfl, hg2⟩; have hc2 := at_bl hg2.bl hc) | (go_at_call 46; refine (tail_0 r _ _ h0 h1 hc2).mono ?_; rintro e w3 ⟨rfl, hg3⟩))
    all_goals go_ret
    all_goals exact ⟨by simp [nums_append], (hga.trans hg2).trans hg3⟩
  · rw [encodeRuneZ_three c]
    clear hs
    go_enter Tryd.func28, Tryd.ntmps28
    go_wp2_with (first
      | (go_at_call 47; refine (lead_at (224 + r / 4096) _ (by omega) (by omega)).mono ?_; rintro e w2 ⟨rfl, hg2⟩; have hc2 := at_bl hg2.bl hc)
      | (go_at_call_of 46 (Value.int .i64 1); refine (tail_1 r _ _ h0 h1 hc2).mono ?_; rintro e w3 ⟨rfl, hg3⟩; have hc3 := at_bl hg3.bl hc2)
      | (go_at_call_of 46 (Value.int .i64 0); refine (tail_0 r _ _ h0 h1 hc3).mono ?_; rintro e w4 ⟨rfl, hg4⟩; have hc4 := at_bl hg4.bl hc3))
    all_goals go_ret
    all_goals exact ⟨by simp [nums_append], ((hga.trans hg2).trans hg3).trans hg4⟩
  · rw [encodeRuneZ_four (by omega) (by omega)]
    clear hs
    go_enter Tryd.func28, Tryd.ntmps28
    go_wp2_with (first
      | (go_at_call 47; refine (lead_at (240 + r / 262144) _ (by omega) (by omega)).mono ?_; rintro e w2 ⟨rfl, hg2⟩; have hc2 := at_bl hg2.bl hc)
      | (go_at_call_of 46 (Value.int .i64 2); refine (tail_2 r _ _ h0 h1 hc2).mono ?_; rintro e w3 ⟨rfl, hg3⟩; have hc3 := at_bl hg3.bl hc2)
      | (go_at_call_of 46 (Value.int .i64 1); refine (tail_1 r _ _ h0 h1 hc3).mono ?_; rintro e w4 ⟨rfl, hg4⟩; have hc4 := at_bl hg4.bl hc3)
      | (go_at_call_of 46 (Value.int .i64 0); refine (tail_0 r _ _ h0 h1 hc4).mono ?_; rintro e w5 ⟨rfl, hg5⟩; have hc5 := at_bl hg5.bl hc4))
    all_goals go_ret
    all_goals exact ⟨by simp [nums_append], (((hga.trans hg2).trans hg3).trans hg4).trans hg5⟩
end Go.Proofs.YtaboemchkmmgeaaDoor.refe
