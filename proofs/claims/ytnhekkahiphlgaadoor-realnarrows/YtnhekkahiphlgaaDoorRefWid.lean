/- The document's own: what 32 bits are, widened. -/
import Derived.Test.YtnhekkahiphlgaaDoorRefReal4
import Derived.Test.YtnhekkahiphlgaaDoorReal8
import Derived.Test.YtnhekkahiphlgaaDoorLen
namespace Go.Proofs.YtnhekkahiphlgaaDoor.rl
open Go.RowKit
open mem
attribute [local go_sem] World.cell?_alloc_some
set_option maxHeartbeats 2000000 in
theorem refWiden_at (b r : Nat) (hb : b < 2 ^ 32) (hr : widW b = r) (w : World) :
    Calls Tryd.prog 17 #[.int .u32 b] w fun e w' => e = .returned (.int .u64 r) ∧ Gb w w' := by
  have p29 : ∀ w, Calls Tryd.prog 24 #[.int .i64 29] w fun e w' => e = .returned (.int .u64 536870912) ∧ w' = w := fun w => pow2_at 29 536870912 (by omega) rfl w
  obtain ⟨x, hx⟩ : ∃ x, b / 2 ^ 23 % 256 = x := ⟨_, rfl⟩
  obtain ⟨f, hf⟩ : ∃ f, b % 2 ^ 23 = f := ⟨_, rfl⟩
  obtain ⟨n, hn⟩ : ∃ n, (b / 2 ^ 31 % 2 == 1) = n := ⟨_, rfl⟩
  obtain ⟨c, hc⟩ : ∃ c, cls 255 x f = c := ⟨_, rfl⟩
  have hk : b % 2 ^ 31 = x * 2 ^ 23 + f := by omega
  have hfl : f < 2 ^ 23 := by omega
  have hxl : x < 256 := by omega
  have hb64 : b < 2 ^ 64 := by omega
  unfold widW at hr
  rw [hn, hk] at hr
  have e0 : IntKind.u64.wrap (b : Int) = (b : Int) := wrap_u64 _ (by omega) (by omega)
  have HN : Hid _ := hn
  have HX : Hid _ := hx
  have HF : Hid _ := hf
  have HC : Hid _ := hc
  have HR : Hid _ := hr
  clear hn hx hf hr hk
  go_enter Tryd.func17, Tryd.ntmps17
  go_upto_region 4 with (first
    | (go_at_call 31; refine (refApart32 b x f n hb64 HN.out HX.out HF.out _).mono ?_; rintro e w1 ⟨rfl, g1⟩)
    | (go_at_call 33; refine (refClass32 b x f c hb64 HX.out HF.out HC.out _).mono ?_; rintro e w2 ⟨rfl, g2⟩
       have c0 := at_gb g2 (a := ⟨w1.heap.size, 0, none⟩) (v := .bool n) (by go_simp)
       have c1 := at_gb g2 (a := ⟨w1.heap.size, 1, none⟩) (v := .int .i64 x) (by go_simp)
       have c2 := at_gb g2 (a := ⟨w1.heap.size, 2, none⟩) (v := .int .u64 f) (by go_simp)
       have s1 : w1.heap.size ≠ w2.heap.size := by have := g2.size; simp at this; omega
       have s2 : w2.heap.size ≠ w1.heap.size := s1.symm
       have k2 : Gb w w2 := g1.trans (((Gb.refl w1).alloc _ _).trans g2)))
  by_cases h255 : x = 255
  · have hcc : ((c : Int) == 4) = true ∨ (((c : Int) == 4) = false ∧ ((c : Int) == 3) = true) := by
      rw [← HC.out]; unfold cls; rw [if_pos h255]; split <;> decide
    obtain ⟨F, hFF⟩ : ∃ F, F = f * 2 ^ 29 := ⟨_, rfl⟩
    have hr : (if n then 2 ^ 63 else 0) + 2047 * 2 ^ 52 + F = r := by
      rw [← HR.out, wid_top x f h255, hFF, Nat.add_assoc]
    have t1 : IntKind.u64.wrap ((f : Int) * 536870912) = (F : Int) := (wrap_u64 _ (by omega) (by omega)).trans (by omega)
    have hF : F < 2 ^ 52 := by omega
    have cJ : ∀ w, Calls Tryd.prog 8 #[.agg #[.bool n, .int .i64 2047, .int .u64 F], .int .i64 64] w fun e w' => e = .returned (.tuple #[.int .u64 r, .int .i64 0]) ∧ Gb w w' := fun w => refJoin64 n 2047 F r (by omega) hF hr w
    clear hr hFF h255 hc HR HC HX HF HN
    rcases hcc with hcc | ⟨hcc, hcc'⟩
    · go_wp2
      go_region_held3 (fun w' => w'.cell? ⟨w1.heap.size, 2, none⟩ = some (.int .u64 f)) (go_keep) (first | (go_at_call 24; refine (p29 _).mono ?_; rintro e w3 ⟨rfl, rfl⟩))
      all_goals go_wp2_with (first | (go_at_call 8; refine (cJ _).mono ?_; rintro e w3 ⟨rfl, g3⟩))
      all_goals go_ret
      all_goals exact ⟨rfl, k2.trans (((Gb.refl w2).alloc _ _).drew.trans g3)⟩
    · go_wp2
      go_region_held3 (fun w' => w'.cell? ⟨w1.heap.size, 2, none⟩ = some (.int .u64 f)) (go_keep) (first | (go_at_call 24; refine (p29 _).mono ?_; rintro e w3 ⟨rfl, rfl⟩))
      all_goals go_wp2_with (first | (go_at_call 8; refine (cJ _).mono ?_; rintro e w3 ⟨rfl, g3⟩))
      all_goals go_ret
      all_goals exact ⟨rfl, k2.trans (((Gb.refl w2).alloc _ _).drew.trans g3)⟩
  · by_cases hx0 : x = 0
    · by_cases hf0 : f = 0
      · have hc0 : c = 0 := by rw [← HC.out]; unfold cls; rw [if_neg h255, if_pos hx0, if_pos hf0]
        have hr : (if n then 2 ^ 63 else 0) + 0 * 2 ^ 52 + 0 = r := by rw [← HR.out, wid_zero x f hx0 hf0]
        have cJ : ∀ w, Calls Tryd.prog 8 #[.agg #[.bool n, .int .i64 0, .int .u64 0], .int .i64 64] w fun e w' => e = .returned (.tuple #[.int .u64 r, .int .i64 0]) ∧ Gb w w' := fun w => refJoin64 n 0 0 r (by omega) (by omega) hr w
        have d4 : ((c : Int) == 4) = false := by rw [hc0]; rfl
        have d3 : ((c : Int) == 3) = false := by rw [hc0]; rfl
        have d2 : ((c : Int) == 2) = false := by rw [hc0]; rfl
        have d1 : ((c : Int) == 1) = false := by rw [hc0]; rfl
        clear hr h255 hc HR HC HX HF HN hx0 hf0 hc0
        go_wp2_with (first | (go_at_call 8; refine (cJ _).mono ?_; rintro e w3 ⟨rfl, g3⟩))
        all_goals go_ret
        all_goals exact ⟨rfl, k2.trans (((Gb.refl w2).alloc _ _).trans g3)⟩
      · have hc1 : c = 1 := by rw [← HC.out]; unfold cls; rw [if_neg h255, if_pos hx0, if_neg hf0]
        have hf1 : 0 < f := by omega
        obtain ⟨l, hl⟩ : ∃ l, l = f.log2 := ⟨_, rfl⟩
        have lb : 2 ^ l ≤ f := by rw [hl]; exact Nat.log2_self_le (by omega)
        have lu : f < 2 ^ (l + 1) := by rw [hl]; exact Nat.lt_log2_self
        have l23 : l < 23 := (Nat.pow_lt_pow_iff_right (by omega : 1 < 2)).1 (Nat.lt_of_le_of_lt lb hfl)
        obtain ⟨j, hj⟩ : ∃ j, j = 23 - l := ⟨_, rfl⟩
        obtain ⟨Q, hQ⟩ : ∃ Q, Q = 2 ^ j := ⟨_, rfl⟩
        obtain ⟨M, hM⟩ : ∃ M, M = f * Q := ⟨_, rfl⟩
        have hM1 : 2 ^ 23 ≤ M := by
          rw [hM, hQ, show (2 : Nat) ^ 23 = 2 ^ l * 2 ^ j from by rw [← Nat.pow_add]; congr 1; omega]
          exact Nat.mul_le_mul_right _ lb
        have hM2 : M < 2 ^ 24 := by
          rw [hM, hQ, show (2 : Nat) ^ 24 = 2 ^ (l + 1) * 2 ^ j from by rw [← Nat.pow_add]; congr 1; omega]
          exact Nat.mul_lt_mul_of_pos_right lu (Nat.two_pow_pos j)
        obtain ⟨z, hz⟩ : ∃ z, z = M - 2 ^ 23 := ⟨_, rfl⟩
        obtain ⟨F, hFF⟩ : ∃ F, F = z * 2 ^ 29 := ⟨_, rfl⟩
        obtain ⟨X, hXX⟩ : ∃ X, X = 897 - j := ⟨_, rfl⟩
        have hr : (if n then 2 ^ 63 else 0) + X * 2 ^ 52 + F = r := by
          rw [← HR.out, wid_tiny x f j z hx0 hf1 hfl (by rw [hj, hl]) (by rw [hz, hM, hQ]), hFF, hXX, Nat.add_assoc]
        have cJ : ∀ w, Calls Tryd.prog 8 #[.agg #[.bool n, .int .i64 X, .int .u64 F], .int .i64 64] w fun e w' => e = .returned (.tuple #[.int .u64 r, .int .i64 0]) ∧ Gb w w' := fun w => refJoin64 n X F r (by omega) (by omega) hr w
        have cL : ∀ w, Calls Tryd.prog 39 #[.int .u64 f] w fun e w' => e = .returned (.int .i64 ((l + 1 : Nat) : Int)) ∧ w' = w := fun w => by rw [hl]; exact len64_at f w hf1 hfl
        obtain ⟨L, hL⟩ : ∃ L, l + 1 = L := ⟨_, rfl⟩
        rw [hL] at cL
        have pj : ∀ w, Calls Tryd.prog 24 #[.int .i64 (j : Int)] w fun e w' => e = .returned (.int .u64 (Q : Int)) ∧ w' = w := fun w => pow2_at j Q (by omega) hQ.symm w
        have p23 : ∀ w, Calls Tryd.prog 24 #[.int .i64 23] w fun e w' => e = .returned (.int .u64 8388608) ∧ w' = w := fun w => pow2_at 23 8388608 (by omega) rfl w
        obtain ⟨J, hJ⟩ : ∃ J : Int, J = (j : Int) := ⟨_, rfl⟩
        rw [← hJ] at pj
        have t1 : IntKind.i64.wrap (23 - (L : Int)) = 23 - (L : Int) := wrap_i64 _ (by omega) (by omega)
        have t2 : IntKind.i64.wrap (896 - (23 - (L : Int))) = (X : Int) := (wrap_i64 _ (by omega) (by omega)).trans (by omega)
        have t3 : IntKind.i64.wrap (24 - (L : Int)) = J := (wrap_i64 _ (by omega) (by omega)).trans (by omega)
        have t4 : IntKind.u64.wrap ((f : Int) * (Q : Int)) = (M : Int) := by rw [← Int.natCast_mul, ← hM]; exact wrap_u64 _ (by omega) (by omega)
        have t5 : (M : Int).tmod 8388608 = (z : Int) := by rw [Int.tmod_eq_emod_of_nonneg (by omega)]; omega
        have t6 : IntKind.u64.wrap ((z : Int) * 536870912) = (F : Int) := (wrap_u64 _ (by omega) (by omega)).trans (by omega)
        have d4 : ((c : Int) == 4) = false := by rw [hc1]; rfl
        have d3 : ((c : Int) == 3) = false := by rw [hc1]; rfl
        have d2 : ((c : Int) == 2) = false := by rw [hc1]; rfl
        have d1 : ((c : Int) == 1) = true := by rw [hc1]; rfl
        clear hr h255 hc HR HC HX HF HN hx0 hf0 hc1 hl lb lu hj hQ hM hM1 hM2 hz hFF hXX hL hJ
        go_wp2_with (go_at_call 39; refine (cL _).mono ?_; rintro e w3 ⟨rfl, rfl⟩)
        go_region_held3 (fun w' => w'.cell? ⟨w1.heap.size, 2, none⟩ = some (.int .u64 f)) (go_keep) (first | (go_at_call_of 24 (Value.int IntKind.i64 29); refine (p29 _).mono ?_; rintro e w3 ⟨rfl, rfl⟩) | (go_at_call_of 24 (Value.int IntKind.i64 23); refine (p23 _).mono ?_; rintro e w3 ⟨rfl, rfl⟩) | (go_at_call_of 24 (Value.int IntKind.i64 J); refine (pj _).mono ?_; rintro e w3 ⟨rfl, rfl⟩))
        all_goals go_wp2_with (first | (go_at_call 8; refine (cJ _).mono ?_; rintro e w3 ⟨rfl, g3⟩))
        all_goals go_ret
        all_goals exact ⟨rfl, k2.trans (((Gb.refl w2).alloc _ _).drew.trans g3)⟩
    · have hc2 : c = 2 := by rw [← HC.out]; unfold cls; rw [if_neg h255, if_neg hx0]
      obtain ⟨F, hFF⟩ : ∃ F, F = f * 2 ^ 29 := ⟨_, rfl⟩
      obtain ⟨X, hXX⟩ : ∃ X, X = x + 896 := ⟨_, rfl⟩
      have hr : (if n then 2 ^ 63 else 0) + X * 2 ^ 52 + F = r := by
        rw [← HR.out, wid_mid x f (by omega) (by omega) hfl, hFF, hXX, Nat.add_assoc]
      have t1 : IntKind.u64.wrap ((f : Int) * 536870912) = (F : Int) := (wrap_u64 _ (by omega) (by omega)).trans (by omega)
      have t2 : IntKind.i64.wrap ((x : Int) + 896) = (X : Int) := (wrap_i64 _ (by omega) (by omega)).trans (by omega)
      have cJ : ∀ w, Calls Tryd.prog 8 #[.agg #[.bool n, .int .i64 X, .int .u64 F], .int .i64 64] w fun e w' => e = .returned (.tuple #[.int .u64 r, .int .i64 0]) ∧ Gb w w' := fun w => refJoin64 n X F r (by omega) (by omega) hr w
      have d4 : ((c : Int) == 4) = false := by rw [hc2]; rfl
      have d3 : ((c : Int) == 3) = false := by rw [hc2]; rfl
      have d2 : ((c : Int) == 2) = true := by rw [hc2]; rfl
      clear hr hFF h255 hc HR HC HX HF HN hc2 hx0 hXX
      go_wp2
      go_region_held3 (fun w' => w'.cell? ⟨w1.heap.size, 1, none⟩ = some (.int .i64 x) ∧ w'.cell? ⟨w1.heap.size, 2, none⟩ = some (.int .u64 f)) (go_keep) (first | (go_at_call 24; refine (p29 _).mono ?_; rintro e w3 ⟨rfl, rfl⟩))
      all_goals go_wp2_with (first | (go_at_call 8; refine (cJ _).mono ?_; rintro e w3 ⟨rfl, g3⟩))
      all_goals go_ret
      all_goals exact ⟨rfl, k2.trans (((Gb.refl w2).alloc _ _).drew.trans g3)⟩
end Go.Proofs.YtnhekkahiphlgaaDoor.rl
