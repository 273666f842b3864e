/- Package real's own functions: the nearest number without its low bits, the nearest real of 32 bits, and what is widened. -/
import Derived.Test.YtnhekkahiphlgaaDoorReal2
import Derived.Test.YtnhekkahiphlgaaDoorReal3
import Derived.Test.YtnhekkahiphlgaaDoorFlt
import Derived.Deep.CutRange
namespace Go.Proofs.YtnhekkahiphlgaaDoor.rl
open Go.RowKit
open mem flt
attribute [local go_sem] World.cell?_alloc_some
theorem hide {p : Prop} (h : p) : Hid p := h
theorem nearest_le (n d r : Nat) (hd : 1 ≤ d) (h63 : d ≤ 63) (hn : n < 2 ^ 53) (hr : rne n d = r) (w : World) :
    Calls Tryd.prog 48 #[.int .u64 n, .int .i64 d] w fun e w' => e = .returned (.int .u64 r) ∧ w' = w := by
  have hp : 2 ^ d = 2 * 2 ^ (d - 1) := by
    obtain ⟨k, rfl⟩ : ∃ k, d = k + 1 := ⟨d - 1, by omega⟩
    rw [Nat.pow_succ, Nat.add_sub_cancel, Nat.mul_comm]
  have hl : 2 ^ (d - 1) ≤ 2 ^ 62 := Nat.pow_le_pow_right (by omega) (by omega)
  have hl0 : 0 < 2 ^ (d - 1) := Nat.two_pow_pos _
  have e4 := and_mask64 n d (by omega) (by omega)
  have e5 : (n : Int) / 2 ^ d = ((n / 2 ^ d : Nat) : Int) := by push_cast; rfl
  have hq : n / 2 ^ d ≤ n := Nat.div_le_self _ _
  have hm : n % 2 ^ d < 2 ^ d := Nat.mod_lt _ (Nat.two_pow_pos d)
  unfold rne at hr
  have e1 : IntKind.u64.wrap (2 ^ (d - 1)) = ((2 ^ (d - 1) : Nat) : Int) := by
    have : ((2 : Int) ^ (d - 1)) = ((2 ^ (d - 1) : Nat) : Int) := by push_cast; rfl
    rw [this]; exact wrap_u64 _ (by omega) (by omega)
  generalize n / 2 ^ d = q at *
  generalize n % 2 ^ d = R at *
  rw [hp] at e4 hr hm
  generalize 2 ^ (d - 1) = h at e1 e4 hr hl hl0 hm
  have e2 : IntKind.u64.wrap (2 * (h : Int)) = 2 * (h : Int) := wrap_u64 _ (by omega) (by omega)
  have e3 : IntKind.u64.wrap (2 * (h : Int) - 1) = 2 * (h : Int) - 1 := wrap_u64 _ (by omega) (by omega)
  have e4' : bits .and .u64 (n : Int) (2 * (h : Int) - 1) = (R : Int) := by
    rw [← e4]; congr 1; omega
  have e6 : IntKind.u64.wrap ((q : Int) + 1) = (q : Int) + 1 := wrap_u64 _ (by omega) (by omega)
  have e7 : ((q : Int).tmod 2) = (q : Int) % 2 := Int.tmod_eq_emod_of_nonneg (by omega)
  have c1 : r = q ∨ r = q + 1 := by rw [← hr]; split <;> omega
  clear e4 hp
  by_cases t1 : h < R
  · have f1 : ¬ (R : Int) ≤ (h : Int) := by omega
    obtain rfl : r = q + 1 := by rw [← hr, if_pos (by omega)]
    go_enter Tryd.func48, Tryd.ntmps48
    go_wp2
    go_ret
    exact ⟨by simp, rfl⟩
  · have f1 : (R : Int) ≤ (h : Int) := by omega
    by_cases t2 : R = h
    · by_cases t3 : q % 2 = 1
      · have f2 : ((R : Int) == (h : Int)) = true := by simp; omega
        have f3 : ((q : Int) % 2 == 1) = true := by simp; omega
        obtain rfl : r = q + 1 := by rw [← hr, if_pos (by omega)]
        go_enter Tryd.func48, Tryd.ntmps48
        go_wp2
        go_ret
        exact ⟨by simp, rfl⟩
      · have f2 : ((R : Int) == (h : Int)) = true := by simp; omega
        have f3 : ((q : Int) % 2 == 1) = false := by simp; omega
        obtain rfl : r = q := by rw [← hr, if_neg (by omega)]; rfl
        go_enter Tryd.func48, Tryd.ntmps48
        go_wp2
        go_ret
        exact ⟨by simp, rfl⟩
    · have f2 : ((R : Int) == (h : Int)) = false := by simp; omega
      obtain rfl : r = q := by rw [← hr, if_neg (by omega)]; rfl
      go_enter Tryd.func48, Tryd.ntmps48
      go_wp2
      go_ret
      exact ⟨by simp, rfl⟩
theorem nearest_gt (n d : Nat) (h63 : 63 < d) (hn : n < 2 ^ 53) (w : World) :
    Calls Tryd.prog 48 #[.int .u64 n, .int .i64 d] w fun e w' => e = .returned (.int .u64 0) ∧ w' = w := by
  have e1 : bits .and .u64 (n : Int) 9223372036854775807 = (n : Int) := (and_mask64 n 63 (by omega) (by omega)).trans (by omega)
  have e2 : (n : Int) / 9223372036854775808 = 0 := by omega
  have f1 : (n : Int) ≤ 4611686018427387904 := by omega
  have f2 : ((n : Int) == 4611686018427387904) = false := by simp; omega
  have f3 : (63 : Int) < (d : Int) := by omega
  clear h63
  go_enter Tryd.func48, Tryd.ntmps48
  go_wp2
  go_ret
  exact ⟨by simp, rfl⟩
theorem nearest_any (n d r : Nat) (hd : 1 ≤ d) (hn : n < 2 ^ 53) (hr : rne n d = r) (w : World) :
    Calls Tryd.prog 48 #[.int .u64 n, .int .i64 d] w fun e w' => e = .returned (.int .u64 r) ∧ w' = w := by
  by_cases h : d ≤ 63
  · exact nearest_le n d r hd h hn hr w
  · have : rne n d = 0 := rne_zero n d (by
      have : 2 ^ 64 ≤ 2 ^ d := Nat.pow_le_pow_right (by omega) (by omega)
      omega)
    rw [this] at hr
    subst hr
    exact nearest_gt n d (by omega) hn w
/-- Both forms in blocks of their own. -/
def Two (w' : World) (p q : Nat) : Prop := w'.cell? ⟨p, 0, none⟩ = some (.int .i64 32) ∧ w'.cell? ⟨p, 1, none⟩ = some (.int .i64 8) ∧ w'.cell? ⟨p, 2, none⟩ = some (.int .i64 23) ∧ w'.cell? ⟨q, 0, none⟩ = some (.int .i64 64) ∧ w'.cell? ⟨q, 1, none⟩ = some (.int .i64 11) ∧ w'.cell? ⟨q, 2, none⟩ = some (.int .i64 52)
theorem Two.gb {w w' : World} {p q : Nat} (h : Two w p q) (g : Gb w w') : Two w' p q := by
  obtain ⟨h0, h1, h2, h3, h4, h5⟩ := h
  exact ⟨at_gb g h0, at_gb g h1, at_gb g h2, at_gb g h3, at_gb g h4, at_gb g h5⟩
theorem narrowed_at (n : Bool) (x f r : Nat) (hx : x < 2047) (hf : f < 2 ^ 52) (hr : nar (x * 2 ^ 52 + f) = r) (w : World) (hl : FL w) :
    Calls Tryd.prog 40 #[.agg #[.bool n, .int .i64 x, .int .u64 f]] w fun e w' => e = .returned (.int .u64 r) ∧ Gb w w' := by
  obtain ⟨l0, l1, l2, l3, l4, l5⟩ := hl
  have k2 : Gb w (((w.alloc (Obj.cells #[.bool n, .int .i64 x, .int .u64 f] 24)).alloc (Obj.cells #[.int .i64 32, .int .i64 8, .int .i64 23] 55)).alloc (Obj.cells #[.int .i64 64, .int .i64 11, .int .i64 52] 55)) := Gb.alloc (Gb.alloc (Gb.alloc (Gb.refl w) _ _) _ _) _ _
  have k2' : Gb w (((w.alloc (Obj.cells #[.bool n, .int .i64 x, .int .u64 f] 24)).alloc (Obj.cells #[.int .i64 64, .int .i64 11, .int .i64 52] 55)).alloc (Obj.cells #[.int .i64 32, .int .i64 8, .int .i64 23] 55)) := Gb.alloc (Gb.alloc (Gb.alloc (Gb.refl w) _ _) _ _) _ _
  go_enter Tryd.func40, Tryd.ntmps40
  go_upto_region 1 with fail
  go_cut [3, 4] from 8 to 11 (fun s3 s4 wx => ∃ p q, s3 = .pointer (some ⟨p, 0, none⟩) ∧ s4 = .pointer (some ⟨q, 0, none⟩) ∧ Two wx p q ∧ wx.cell? ⟨w.heap.size, 0, none⟩ = some (.bool n) ∧ wx.cell? ⟨w.heap.size, 1, none⟩ = some (.int .i64 x) ∧ wx.cell? ⟨w.heap.size, 2, none⟩ = some (.int .u64 f) ∧ Gb w wx)
  case first =>
    go_region_held3 (fun w' => w'.cell? ⟨0, 0, none⟩ = some (.int .i64 32) ∧ w'.cell? ⟨0, 1, none⟩ = some (.int .i64 8) ∧ w'.cell? ⟨0, 2, none⟩ = some (.int .i64 23) ∧ w'.cell? ⟨0, 3, none⟩ = some (.int .i64 64) ∧ w'.cell? ⟨0, 4, none⟩ = some (.int .i64 11) ∧ w'.cell? ⟨0, 5, none⟩ = some (.int .i64 52)) (simp (maxDischargeDepth := 9) [*, World.cell?_alloc_some]) (fail)
    all_goals go_wp2_with fail
    all_goals go_meet
    all_goals refine ⟨_, _, rfl, rfl, ⟨by go_simp, by go_simp, by go_simp, by go_simp, by go_simp, by go_simp⟩, by go_simp, by go_simp, by go_simp, ?_⟩
    all_goals first | exact k2.drew | exact k2'.drew
  case rest =>
    obtain ⟨p, q, rfl, rfl, h2, c0, c1, c2, g⟩ := hcut
    obtain ⟨m, hm⟩ : ∃ m, m = max x 1 := ⟨_, rfl⟩
    obtain ⟨N, hN⟩ : ∃ N, N = (if x = 0 then f else 2 ^ 52 + f) := ⟨_, rfl⟩
    clear k2 k2' l0 l1 l2 l3 l4 l5
    go_upto_if 16 with fail
    go_cut [5] from 16 to 21 (fun s5 wx => s5 = .int .u64 N ∧ Gb wc wx)
    case first =>
      by_cases hx0 : x = 0
      · have t0 : ((x : Int) != 0) = false := by simp; omega
        rw [if_pos hx0] at hN
        clear hx0 hr
        go_wp2_with fail
        go_meet
        exact ⟨by rw [hN], Gb.refl _⟩
      · have t0 : ((x : Int) != 0) = true := by simp; omega
        rw [if_neg hx0] at hN
        have t3 : bits .or .u64 (f : Int) 4503599627370496 = (N : Int) := by
          rw [hN]; exact (or_add' 1 52 f hf (by omega)).trans (by omega)
        have h2' := h2
        obtain ⟨a0, a1, a2, b0, b1, b2⟩ := h2'
        clear hx0 hr hN
        go_wp2_with (go_at_call 28; refine (lastFrac64 _).mono ?_; rintro e w1 ⟨rfl, rfl⟩)
        go_meet
        exact ⟨rfl, Gb.alloc (Gb.refl _) _ _⟩
    case rest =>
      rename World => wb
      obtain ⟨rfl, gb⟩ := hcut
      have c1b := at_gb gb c1
      have hmx : (if (x : Int) < 1 then (1 : Int) else (x : Int)) = (m : Int) := by split <;> omega
      have t1 : IntKind.i64.wrap ((m : Int) - 1023) = (m : Int) - 1023 := wrap_i64 _ (by omega) (by omega)
      have t2 : IntKind.i64.wrap ((m : Int) - 1023 + 127) = (m : Int) - 896 := (wrap_i64 _ (by omega) (by omega)).trans (by omega)
      have hm1 : 1 ≤ m ∧ m < 2047 := by omega
      have h3 := h2.gb gb
      obtain ⟨a0, a1, a2, b0, b1, b2⟩ := h3
      have hv : x * 2 ^ 52 + f = x * 2 ^ 52 + f ∧ (x * 2 ^ 52 + f) / 2 ^ 52 = x ∧ (x * 2 ^ 52 + f) % 2 ^ 52 = f := by omega
      have hr' : (if x < 897 then rne N (926 - m) else (x - 897) * 2 ^ 23 + rne N 29) = r := by
        rw [← hr]; unfold nar; rw [hv.2.1, hv.2.2, hN, hm]
        split
        · rfl
        · rw [if_neg (by omega)]
      have hNl : N < 2 ^ 53 := by rw [hN]; split <;> omega
      clear hr hv hN c0 c1 c2
      go_upto_region 5 with fail
      go_cut [6] from 22 to 30 (fun s6 wx => s6 = .int .i64 ((m : Int) - 896) ∧ Gb wb wx)
      case first =>
        have k4 : Gb wb ((((wb.alloc (Obj.cells #[.int .i64 64, .int .i64 11, .int .i64 52] 55)).alloc (Obj.cells #[.int .i64 64, .int .i64 11, .int .i64 52] 55)).alloc (Obj.cells #[.int .i64 32, .int .i64 8, .int .i64 23] 55)).alloc (Obj.cells #[.int .i64 32, .int .i64 8, .int .i64 23] 55)) := Gb.alloc (Gb.alloc (Gb.alloc (Gb.alloc (Gb.refl _) _ _) _ _) _ _) _ _
        clear hm hr' hm1 hNl hx
        go_region_held3 (fun w' => w'.cell? ⟨p, 0, none⟩ = some (.int .i64 32) ∧ w'.cell? ⟨p, 1, none⟩ = some (.int .i64 8) ∧ w'.cell? ⟨p, 2, none⟩ = some (.int .i64 23) ∧ w'.cell? ⟨q, 0, none⟩ = some (.int .i64 64) ∧ w'.cell? ⟨q, 1, none⟩ = some (.int .i64 11) ∧ w'.cell? ⟨q, 2, none⟩ = some (.int .i64 52) ∧ w'.cell? ⟨w.heap.size, 1, none⟩ = some (.int .i64 x)) (simp (maxDischargeDepth := 9) [c1b, a0, a1, a2, b0, b1, b2, World.cell?_alloc_some]) (first | (go_at_call_of 37 (Value.int IntKind.i64 64); refine (middle64 _).mono ?_; rintro e w1 ⟨rfl, rfl⟩) | (go_at_call_of 37 (Value.int IntKind.i64 32); refine (middle32 _).mono ?_; rintro e w2 ⟨rfl, rfl⟩))
        all_goals go_wp2_with fail
        all_goals go_meet
        all_goals exact ⟨rfl, k4.drew⟩
      case rest =>
        rename World => wd
        obtain ⟨rfl, gd⟩ := hcut
        have d0 := at_gb gd a2
        have d1 := at_gb gd b2
        clear hmx t1 t2
        by_cases h897 : m < 897
        · have z1 : (m : Int) - 896 < 1 := by omega
          obtain ⟨D, hD⟩ : ∃ D : Nat, D = 926 - m := ⟨_, rfl⟩
          have z2 : IntKind.i64.wrap (30 - ((m : Int) - 896)) = (D : Int) := (wrap_i64 _ (by omega) (by omega)).trans (by omega)
          rw [if_pos (by omega), ← hD] at hr'
          have hD1 : 1 ≤ D := by omega
          clear hD hm hx h897
          go_wp2_with (go_at_call 48; refine (nearest_any N D r hD1 hNl hr' _).mono ?_; rintro e w3 ⟨rfl, rfl⟩)
          go_ret
          exact ⟨rfl, g.trans (gb.trans gd)⟩
        · have z1 : ¬ (m : Int) - 896 < 1 := by omega
          obtain ⟨D, hD⟩ : ∃ D : Nat, D = m - 897 := ⟨_, rfl⟩
          obtain ⟨E, hE⟩ : ∃ E : Nat, E = rne N 29 := ⟨_, rfl⟩
          have z2 : IntKind.i64.wrap ((m : Int) - 896 - 1) = (D : Int) := (wrap_i64 _ (by omega) (by omega)).trans (by omega)
          have z3 : IntKind.u64.wrap (D : Int) = (D : Int) := wrap_u64 _ (by omega) (by omega)
          have z4 : IntKind.u64.wrap ((D : Int) * 8388608) = (D : Int) * 8388608 := wrap_u64 _ (by omega) (by omega)
          have hE2 : E ≤ N := by
            rw [hE]; unfold rne
            split <;> omega
          rw [if_neg (by omega), ← hE] at hr'
          have z5 : IntKind.u64.wrap ((D : Int) * 8388608 + (E : Int)) = (r : Int) := (wrap_u64 _ (by omega) (by omega)).trans (by omega)
          have n29 : ∀ w', Calls Tryd.prog 48 #[.int .u64 N, .int .i64 29] w' fun e w'' => e = .returned (.int .u64 E) ∧ w'' = w' := fun w' => nearest_any N 29 E (by omega) hNl hE.symm w'
          clear hD hm hx h897 hE hr' hE2 hNl
          go_wp2_with fail
          go_region_held3 (fun w' => w'.cell? ⟨p, 2, none⟩ = some (.int .i64 23)) (simp [d0]) (first | (go_at_call 48; refine (n29 _).mono ?_; rintro e w3 ⟨rfl, rfl⟩))
          go_wp2_with fail
          go_ret
          exact ⟨rfl, (g.trans (gb.trans gd)).drew⟩
end Go.Proofs.YtnhekkahiphlgaaDoor.rl
