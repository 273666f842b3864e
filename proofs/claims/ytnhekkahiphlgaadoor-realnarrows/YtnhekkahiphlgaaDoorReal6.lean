/- Narrow: the nearest real of 32 bits, as package real has it. -/
import Derived.Test.YtnhekkahiphlgaaDoorReal5
namespace Go.Proofs.YtnhekkahiphlgaaDoor.rl
open Go.RowKit
open mem flt
attribute [local go_sem] World.cell?_alloc_some

/-- What bits of 64 are, narrowed to 32. -/
def narW (b : Nat) : Nat := (if b / 2 ^ 63 % 2 == 1 then 2 ^ 31 else 0) +
  (if 2047 * 2 ^ 52 < b % 2 ^ 63 then 255 * 2 ^ 23 + (b % 2 ^ 52 / 2 ^ 29 ||| 2 ^ 22) else min (nar (b % 2 ^ 63)) (255 * 2 ^ 23))
theorem or_sign (n : Bool) (s m : Nat) (hs : s = if n then 2 ^ 31 else 0) (hm : m < 2 ^ 31) : bits .or .u64 (s : Int) (m : Int) = ((s + m : Nat) : Int) := by
  cases n with
  | false => subst hs; rw [u64_or_nat _ _ (by simp) (by omega)]; simp
  | true => subst hs; exact or_add 1 31 m hm (by omega)
theorem nan_or (a : Nat) (ha : a < 2 ^ 23) : bits .or .u64 (a : Int) 4194304 = ((a ||| 2 ^ 22 : Nat) : Int) := u64_or_nat a 4194304 (by omega) (by omega)
theorem nan_lt (a : Nat) (ha : a < 2 ^ 23) : (a ||| 2 ^ 22) < 2 ^ 23 := Nat.or_lt_two_pow ha (by omega)
set_option maxHeartbeats 1000000 in
theorem Narrow_at (b r : Nat) (hb : b < 2 ^ 64) (hr : narW b = r) (w : World) (hl : FL w) :
    Calls Tryd.prog 18 #[.int .u64 b] w fun e w' => e = .returned (.int .u32 r) ∧ Gb w w' := by
  have hl' := hl
  obtain ⟨l0, l1, l2, l3, l4, l5⟩ := hl'
  have k2 : Gb w ((w.alloc (Obj.cells #[.int .i64 32, .int .i64 8, .int .i64 23] 55)).alloc (Obj.cells #[.int .i64 64, .int .i64 11, .int .i64 52] 55)) := Gb.alloc (Gb.alloc (Gb.refl w) _ _) _ _
  have k2' : Gb w ((w.alloc (Obj.cells #[.int .i64 64, .int .i64 11, .int .i64 52] 55)).alloc (Obj.cells #[.int .i64 32, .int .i64 8, .int .i64 23] 55)) := Gb.alloc (Gb.alloc (Gb.refl w) _ _) _ _
  go_enter Tryd.func18, Tryd.ntmps18
  go_upto_region 1 with fail
  go_cut [3, 4] from 9 to 12 (fun s3 s4 wx => ∃ p q, s3 = .pointer (some ⟨p, 0, none⟩) ∧ s4 = .pointer (some ⟨q, 0, none⟩) ∧ Two wx p q ∧ Gb w wx)
  case first =>
    go_region_held3 (fun w' => w'.cell? ⟨0, 0, none⟩ = some (.int .i64 32) ∧ w'.cell? ⟨0, 1, none⟩ = some (.int .i64 8) ∧ w'.cell? ⟨0, 2, none⟩ = some (.int .i64 23) ∧ w'.cell? ⟨0, 3, none⟩ = some (.int .i64 64) ∧ w'.cell? ⟨0, 4, none⟩ = some (.int .i64 11) ∧ w'.cell? ⟨0, 5, none⟩ = some (.int .i64 52)) (simp (maxDischargeDepth := 9) [*, World.cell?_alloc_some]) (fail)
    all_goals go_wp2_with fail
    all_goals go_meet
    all_goals refine ⟨_, _, rfl, rfl, ⟨by go_simp, by go_simp, by go_simp, by go_simp, by go_simp, by go_simp⟩, ?_⟩
    all_goals first | exact k2.drew | exact k2'.drew
  case rest =>
    obtain ⟨p, q, rfl, rfl, h2, g⟩ := hcut
    obtain ⟨x, hx⟩ : ∃ x, b / 2 ^ 52 % 2048 = x := ⟨_, rfl⟩
    obtain ⟨f, hf⟩ : ∃ f, b % 2 ^ 52 = f := ⟨_, rfl⟩
    obtain ⟨n, hn⟩ : ∃ n, (b / 2 ^ 63 % 2 == 1) = n := ⟨_, rfl⟩
    obtain ⟨c, hc⟩ : ∃ c, cls 2047 x f = c := ⟨_, rfl⟩
    obtain ⟨sg, hs⟩ : ∃ sg, sg = (if n then 2 ^ 31 else 0) := ⟨_, rfl⟩
    have hs' : (if n then 2 ^ 31 else 0) + 0 * 2 ^ 23 + 0 = sg := by rw [hs]; simp
    have hsl : sg ≤ 2 ^ 31 := by rw [hs]; split <;> omega
    have hk : b % 2 ^ 63 = x * 2 ^ 52 + f := by omega
    have hfl : f < 2 ^ 52 := by omega
    have hxl : x < 2048 := by omega
    unfold narW at hr
    rw [hn, ← hs, hk, hf] at hr
    have HS : Hid (sg = if n then 2 ^ 31 else 0) := hs
    have HS' : Hid ((if n then 2 ^ 31 else 0) + 0 * 2 ^ 23 + 0 = sg) := hs'
    have HR := hide hr
    have HC := hide hc
    clear hs hs' hr hc
    clear k2 k2' l0 l1 l2 l3 l4 l5
    have h2' := h2
    obtain ⟨a0, a1, a2, b0, b1, b2⟩ := h2'
    go_upto_region 4 with (first
      | (go_at_call 35; refine (apart64 b x f n hb hn hx hf _).mono ?_; rintro e w1 ⟨rfl, g1⟩
         have h3 := h2.gb g1
         have h3' := h3
         obtain ⟨p0, p1, p2, q0, q1, q2⟩ := h3')
      | (go_at_call 29; refine (join32 n 0 0 sg (by omega) (by omega) HS'.out _).mono ?_; rintro e w2 ⟨rfl, g2⟩
         have g2' : Gb w1 w2 := (Gb.alloc (Gb.refl w1) _ _).trans g2
         have r0 := at_gb g2 (a := ⟨w1.heap.size, 0, none⟩) (v := .bool n) (by go_simp)
         have r1 := at_gb g2 (a := ⟨w1.heap.size, 1, none⟩) (v := .int .i64 x) (by go_simp)
         have r2 := at_gb g2 (a := ⟨w1.heap.size, 2, none⟩) (v := .int .u64 f) (by go_simp)))
    have h4 := h3.gb g2'
    have h4' := h4
    obtain ⟨e0, e1, e2, d0, d1, d2⟩ := h4'
    clear a0 a1 a2 b0 b1 b2 p0 p1 p2 q0 q1 q2
    go_region_held3 (fun w' => w'.cell? ⟨p, 0, none⟩ = some (.int .i64 32) ∧ w'.cell? ⟨p, 1, none⟩ = some (.int .i64 8) ∧ w'.cell? ⟨p, 2, none⟩ = some (.int .i64 23)) (go_keep) (first
      | (go_at_call 27; refine (lastExp32 _).mono ?_; rintro e w3 ⟨rfl, rfl⟩)
      | (go_at_call 29; refine (join32 false 255 0 2139095040 (by omega) (by omega) (by simp) _).mono ?_; rintro e w3 ⟨rfl, g3⟩
         have g3' : Gb w2 w3 := (Gb.drew (Gb.alloc (Gb.refl w2) _ _)).trans g3
         have e3 := at_gb g3' e0
         have e4 := at_gb g3' e1
         have e5 := at_gb g3' e2
         have d3 := at_gb g3' d0
         have d4 := at_gb g3' d1
         have d5 := at_gb g3' d2
         have r3 := at_gb g3' r0
         have r4 := at_gb g3' r1
         have r5 := at_gb g3' r2))
    have gg : Gb w w3 := g.trans (g1.trans (g2'.trans g3'))
    by_cases h255 : x = 2047
    · by_cases hf0 : f = 0
      · have hc3 : ((c : Int) == 3) = true ∧ ((c : Int) == 4) = false := by rw [← HC.out]; unfold cls; rw [if_pos h255, if_pos hf0]; decide
        obtain ⟨hc3, hc4⟩ := hc3
        have hm : min (nar (x * 2 ^ 52 + f)) (255 * 2 ^ 23) = 2139095040 := by
          have : 255 * 2 ^ 23 ≤ nar (x * 2 ^ 52 + f) := by
            unfold nar
            rw [if_neg (by omega)]
            omega
          omega
        have hr : sg + 2139095040 = r := by
          rw [← HR.out, if_neg (by omega), hm]
        have z1 := or_sign n sg 2139095040 HS.out (by omega)
        have z2 : bits .or .u64 (sg : Int) 2139095040 = (r : Int) := by rw [← hr]; exact z1
        have z3 : IntKind.u32.wrap (r : Int) = (r : Int) := wrap_u32 _ (by omega) (by omega)
        clear z1 hr hm h255 hf0
        go_wp2_with (go_at_call 36; refine (class64 n x f c HC.out _).mono ?_; rintro e w4 ⟨rfl, g4⟩)
        go_ret
        exact ⟨rfl, gg.trans g4⟩
      · have hc4 : ((c : Int) == 4) = true := by rw [← HC.out]; unfold cls; rw [if_pos h255, if_neg hf0]; decide
        obtain ⟨y, hy⟩ : ∃ y, y = f / 2 ^ 29 ||| 2 ^ 22 := ⟨_, rfl⟩
        have hyl : y < 2 ^ 23 := by rw [hy]; exact nan_lt _ (by omega)
        have hr : sg + (255 * 2 ^ 23 + y) = r := by
          rw [← HR.out, if_pos (by omega), hy]
        have z0 : bits .or .u64 ((f : Int) / 536870912) 4194304 = (y : Int) := by rw [hy]; exact nan_or (f / 536870912) (by omega)
        obtain ⟨s1, hs1⟩ : ∃ s1, s1 = sg + 2139095040 := ⟨_, rfl⟩
        have z1 : bits .or .u64 (sg : Int) 2139095040 = (s1 : Int) := by rw [hs1]; exact or_sign n sg 2139095040 HS.out (by omega)
        have z2 : bits .or .u64 (s1 : Int) (y : Int) = (r : Int) := by
          have e : s1 = (s1 / 2 ^ 23) * 2 ^ 23 := by
            have := HS.out
            rw [hs1, this]; split <;> rfl
          rw [e, or_add (s1 / 2 ^ 23) 23 y hyl (by omega)]
          omega
        have z3 : IntKind.u32.wrap (r : Int) = (r : Int) := wrap_u32 _ (by omega) (by omega)
        have z4 : IntKind.i64.wrap 29 = 29 := rfl
        have z5 : IntKind.i64.wrap 22 = 22 := rfl
        have z6 : IntKind.u64.wrap 4194304 = 4194304 := rfl
        clear hr hs1 hy h255 hf0
        go_wp2_with (go_at_call 36; refine (class64 n x f c HC.out _).mono ?_; rintro e w4 ⟨rfl, g4⟩
                     have e6 := at_gb g4 e3
                     have e7 := at_gb g4 e4
                     have e8 := at_gb g4 e5
                     have d6 := at_gb g4 d3
                     have d7 := at_gb g4 d4
                     have d8 := at_gb g4 d5
                     have r6 := at_gb g4 r3
                     have r7 := at_gb g4 r4
                     have r8 := at_gb g4 r5)
        go_region_held3 (fun w' => w'.cell? ⟨p, 2, none⟩ = some (.int .i64 23) ∧ w'.cell? ⟨q, 2, none⟩ = some (.int .i64 52) ∧ w'.cell? ⟨w1.heap.size, 2, none⟩ = some (.int .u64 f)) (go_keep) (fail)
        go_wp2_with fail
        go_ret
        exact ⟨rfl, (gg.trans g4).drew⟩
    · have hcn : ((c : Int) == 4) = false ∧ ((c : Int) == 3) = false := by
        rw [← HC.out]; unfold cls; rw [if_neg h255]; split
        · split <;> decide
        · decide
      obtain ⟨hc4, hc3⟩ := hcn
      obtain ⟨y, hy⟩ : ∃ y, y = nar (x * 2 ^ 52 + f) := ⟨_, rfl⟩
      obtain ⟨z, hz⟩ : ∃ z, z = min y 2139095040 := ⟨_, rfl⟩
      have hr : sg + z = r := by
        rw [← HR.out, if_neg (by omega), ← hy, hz]
      have z1 : bits .or .u64 (sg : Int) (z : Int) = (r : Int) := by rw [← hr]; exact or_sign n sg z HS.out (by omega)
      have z2 : (if (2139095040 : Int) < (y : Int) then (2139095040 : Int) else (y : Int)) = (z : Int) := by split <;> omega
      have z3 : IntKind.u32.wrap (r : Int) = (r : Int) := wrap_u32 _ (by omega) (by omega)
      have hxl' : x < 2047 := by omega
      have HY := hide hy.symm
      clear hr hz hy h255
      go_wp2_with (first
        | (go_at_call 36; refine (class64 n x f c HC.out _).mono ?_; rintro e w4 ⟨rfl, g4⟩
           have r6 := at_gb g4 r3
           have r7 := at_gb g4 r4
           have r8 := at_gb g4 r5)
        | (go_at_call 40; refine (narrowed_at n x f y hxl' hfl HY.out _ (hl.gb (gg.trans g4))).mono ?_; rintro e w5 ⟨rfl, g5⟩))
      go_ret
      exact ⟨rfl, gg.trans (g4.trans g5)⟩
end Go.Proofs.YtnhekkahiphlgaaDoor.rl
