/- Texts laid together: RefDig3, RefDig4, Er2, Er3. -/
import Derived.Test.YtpanodaecjlgaaaZ26
import Derived.Test.YtpanodaecjlgaaaZ7
import Derived.Laws.Bits64b
import Derived.Laws.Externs
import Derived.Test.YtpanodaecjlgaaaZ9
/- What the document's own DigitsParse answers. -/
namespace Go.Proofs.Ytpanodaecjlgaaa.digs
open Go.ChangeShapes Go.WideShapes Go.ChangeAt Go.RowKit
open mem dig

theorem hide {p : Prop} (h : p) : Hid p := h
theorem and32 (a : Nat) (ha : a < 18446744073709551616) : bits .and .u64 (a : Int) 4294967295 = ((a % 4294967296 : Nat) : Int) := by
  have h := bits_and_u64_nat a 4294967295 ha (by omega)
  rw [show a &&& 4294967295 = a % 4294967296 from Nat.and_two_pow_sub_one_eq_mod a 32] at h
  exact h
theorem u64N (a : Nat) (ha : a < 18446744073709551616) : IntKind.u64.wrap (a : Int) = (a : Int) := by rw [IntKind.wrap_u64]; omega
theorem mul64_at (x B H L : Nat) (w : World) (hx : x < 18446744073709551616) (hb : B ≤ 16) (hH : H = x * B / 18446744073709551616) (hL : L = x * B % 18446744073709551616) :
    Calls Try.prog 71 #[.int .u64 x, .int .u64 B] w fun e w' => e = .returned (.tuple #[.int .u64 H, .int .u64 L]) ∧ w' = w := by
  have a1 := and32 x hx
  have a2 := and32 B (by omega)
  rw [Nat.mod_eq_of_lt (show B < 4294967296 by omega)] at a2
  obtain ⟨X0, h0⟩ : ∃ X0, X0 = x % 4294967296 := ⟨_, rfl⟩
  obtain ⟨X1, h1⟩ : ∃ X1, X1 = x / 4294967296 := ⟨_, rfl⟩
  obtain ⟨P0, p0⟩ : ∃ P0, P0 = X0 * B := ⟨_, rfl⟩
  obtain ⟨P1, p1⟩ : ∃ P1, P1 = X1 * B := ⟨_, rfl⟩
  have l0 : P0 ≤ X0 * 16 := by rw [p0]; exact Nat.mul_le_mul_left _ hb
  have l1 : P1 ≤ X1 * 16 := by rw [p1]; exact Nat.mul_le_mul_left _ hb
  have hxx : x * B = P1 * 4294967296 + P0 := by
    have e : x = X1 * 4294967296 + X0 := by omega
    rw [e, Nat.add_mul, p0, p1, Nat.mul_right_comm]
  rw [hxx] at hH hL
  obtain ⟨Q0, q0⟩ : ∃ Q0, Q0 = P0 / 4294967296 := ⟨_, rfl⟩
  obtain ⟨T, t⟩ : ∃ T, T = P1 + Q0 := ⟨_, rfl⟩
  obtain ⟨T0, t0⟩ : ∃ T0, T0 = T % 4294967296 := ⟨_, rfl⟩
  rw [← h0] at a1
  have b1 : (x : Int) / 4294967296 = (X1 : Int) := by omega
  have b2 : (B : Int) / 4294967296 = 0 := by omega
  have b3 : IntKind.u64.wrap ((X1 : Int) * (B : Int)) = (P1 : Int) := by rw [← Int.natCast_mul, ← p1]; exact u64N _ (by omega)
  have b4 : IntKind.u64.wrap ((X0 : Int) * (B : Int)) = (P0 : Int) := by rw [← Int.natCast_mul, ← p0]; exact u64N _ (by omega)
  have b5 : (P0 : Int) / 4294967296 = (Q0 : Int) := by omega
  have b6 : IntKind.u64.wrap ((P1 : Int) + (Q0 : Int)) = (T : Int) := by rw [← Int.natCast_add, ← t]; exact u64N _ (by omega)
  have b7 : bits .and .u64 (T : Int) 4294967295 = (T0 : Int) := by rw [t0]; exact and32 T (by omega)
  have b8 : (T : Int) / 4294967296 = (H : Int) := by omega
  have b9 : IntKind.u64.wrap ((x : Int) * (B : Int)) = (L : Int) := by rw [← Int.natCast_mul, hxx, IntKind.wrap_u64]; omega
  have c0 : IntKind.u64.wrap (T0 : Int) = (T0 : Int) := u64N _ (by omega)
  have c1 : (T0 : Int) / 4294967296 = 0 := by omega
  have c2 : IntKind.u64.wrap (H : Int) = (H : Int) := u64N _ (by omega)
  clear hH hL h0 h1 p0 p1 l0 l1 hxx q0 t t0
  go_enter Try.func71, Try.ntmps71
  go_wp2
  go_ret2
  exact ⟨by simp [*], rfl⟩
theorem add64_run (x y S C : Nat) (hS : S = (x + y) % 18446744073709551616) (hC : C = (x + y) / 18446744073709551616) (w : World) :
    (callFunc 72 #[.int .u64 (x : Int), .int .u64 (y : Int), .int .u64 0]).run Try.prog w = .ok (.value (.tuple #[.int .u64 (S : Int), .int .u64 (C : Int)])) w := by
  rw [run_callFunc_extern Try.func72 (by kernel_rfl) (by kernel_rfl) (by kernel_rfl) (e := add64Entry) (by kernel_rfl), run_add64 x y 0 (by omega) (by omega) (by omega) (by omega)]
  simp only [Result.andThen]
  have e1 : ((x : Int) + (y : Int) + 0) % 18446744073709551616 = (S : Int) := by omega
  have e2 : ((x : Int) + (y : Int) + 0) / 18446744073709551616 = (C : Int) := by omega
  rw [e1, e2]
/-- What the document's own reader knows behind k digits. -/
def Kn (B : Nat) (s : ByteArray) (k N h : Nat) : Prop := (h = 0 ∧ N = pv B s k) ∨ (h = 1 ∧ 18446744073709551616 ≤ pv B s k)
theorem Kn.step {B : Nat} {s : ByteArray} {k N h D H L S C : Nat} (hb : 2 ≤ B) (h0 : Kn B s k N h) (hD : dv (sb s k) = (D : Int)) (hH : H = N * B / 18446744073709551616) (hL : L = N * B % 18446744073709551616)
    (hS : S = (L + D) % 18446744073709551616) (hC : C = (L + D) / 18446744073709551616) : Kn B s (k + 1) S (if 0 < H + C ∨ 0 < h then 1 else 0) := by
  have e : pv B s (k + 1) = pv B s k * B + D := by rw [pv, hD]; rfl
  rcases h0 with ⟨rfl, rfl⟩ | ⟨rfl, h0⟩
  · by_cases hc : 0 < H + C
    · rw [if_pos (Or.inl hc)]
      refine Or.inr ⟨rfl, ?_⟩
      rw [e]
      omega
    · rw [if_neg (by omega)]
      refine Or.inl ⟨rfl, ?_⟩
      rw [e]
      omega
  · rw [if_pos (Or.inr (by omega))]
    exact Or.inr ⟨rfl, Nat.le_trans h0 (pv_mono B s hb k (k + 1) (by omega))⟩
set_option maxHeartbeats 1000000 in
theorem refParse_good (B : Nat) (s : ByteArray) (w : World) (hs : s.size ≤ 140737488351232) (hb2 : 2 ≤ B) (hb16 : B ≤ 16) (h : okD B s) (v : Nat) (e : Int)
    (hv : (v = pv B s s.size ∧ v < 18446744073709551616 ∧ e = 0) ∨ (18446744073709551616 ≤ pv B s s.size ∧ v = 0 ∧ e = 2)) :
    Calls Try.prog 68 #[.string s, .int .i64 B] w fun e' w' => e' = .returned (.tuple #[.int .u64 v, .int .i64 e]) ∧ Gb w w' := by
  have HO : Hid (okD B s) := h
  have HV : Hid ((v = pv B s s.size ∧ v < 18446744073709551616 ∧ e = 0) ∨ (18446744073709551616 ≤ pv B s s.size ∧ v = 0 ∧ e = 2)) := hv
  have hp : 0 < s.size := h.1
  have he : s.toList.isEmpty = false := by rw [isEmpty_at]; exact decide_eq_false (by omega)
  have hw1 : IntKind.i64.wrap ((B : Int) - 1) = (B : Int) - 1 := by rw [IntKind.wrap_i64]; omega
  clear h hv
  go_enter Try.func68, Try.ntmps68
  go_wp2_with (go_at_call 41; refine (within_yes _ _ _ _ (by omega) (by omega)).mono ?_; rintro e w1 ⟨rfl, rfl⟩)
  go_loopw [6, 7, 8] (fun hi n i wr => ∃ k N h : Nat, k ≤ s.size ∧ i = .int .i64 (k : Int) ∧ n = .int .u64 (N : Int) ∧ hi = .int .u64 (h : Int) ∧ N < 18446744073709551616 ∧ Hid (Kn B s k N h) ∧ Gb w1 wr) (fun _ _ i _ => s.size - (intOf i).toNat)
  case atStart => exact ⟨0, 0, 0, Nat.zero_le _, rfl, rfl, rfl, by omega, Or.inl ⟨rfl, rfl⟩, Gb.refl _⟩
  case round =>
    obtain ⟨k, N, h, hk, rfl, rfl, rfl, hNl, HK, hgb⟩ := hrel
    by_cases hlt : k < s.size
    · have hgk : (((s[k]'hlt).toNat : Nat) : Int) = sb s k := (sb_get s k hlt).symm
      have hb := sb_bd s k
      have hd := HO.out.2 k hlt
      obtain ⟨D, hD⟩ := Int.eq_ofNat_of_zero_le hd.1
      obtain ⟨H, hH⟩ : ∃ H, H = N * B / 18446744073709551616 := ⟨_, rfl⟩
      obtain ⟨L, hL⟩ : ∃ L, L = N * B % 18446744073709551616 := ⟨_, rfl⟩
      obtain ⟨S, hS⟩ : ∃ S, S = (L + D) % 18446744073709551616 := ⟨_, rfl⟩
      obtain ⟨C, hC⟩ : ∃ C, C = (L + D) / 18446744073709551616 := ⟨_, rfl⟩
      have hst := HK.out.step hb2 hD hH hL hS hC
      have hH16 : H ≤ 16 := by
        have : N * B ≤ N * 16 := Nat.mul_le_mul_left _ hb16
        omega
      have hC1 : C ≤ 1 := by omega
      have hSl : S < 18446744073709551616 := by omega
      have hr := add64_run L D S C hS hC
      have hwd : IntKind.u64.wrap (D : Int) = (D : Int) := u64N _ (by omega)
      have hwc : IntKind.u64.wrap ((H : Int) + (C : Int)) = (H : Int) + (C : Int) := by rw [IntKind.wrap_u64]; omega
      have HH : Hid (H = N * B / 18446744073709551616) := hH
      have HL : Hid (L = N * B % 18446744073709551616) := hL
      have HST := hide hst
      have hl0 : (0 : Int) ≤ (D : Int) := by omega
      have hl1 : (D : Int) ≤ (B : Int) - 1 := by omega
      clear hH hL hS hC hst hd
      by_cases hc : 0 < H + C
      · have tc : (0 : Int) < (H : Int) + (C : Int) := by omega
        go_wp2_with (first | (go_at_call_of 41 (Value.int IntKind.i64 16); refine (within_yes _ _ _ _ (by omega) (by omega)).mono ?_; rintro e w1 ⟨rfl, rfl⟩) | (go_at_call 70; refine (refDigit_at _ _ (by omega) (by omega)).mono ?_; rintro e w2 ⟨rfl, g2⟩) | (go_at_call 41; refine (within_yes _ _ _ _ (by omega) (by omega)).mono ?_; rintro e w3 ⟨rfl, rfl⟩) | (go_at_call 71; refine (mul64_at N B H L _ hNl (by omega) HH.out HL.out).mono ?_; rintro e w4 ⟨rfl, rfl⟩))
        go_roundw
        case rel => exact ⟨k + 1, S, 1, by omega, by go_num, rfl, rfl, hSl, by have := HST.out; rwa [if_pos (Or.inl hc)] at this, hgb.trans g2⟩
        case measure => simp [intOf]; omega
      · have tc : ¬ (0 : Int) < (H : Int) + (C : Int) := by omega
        by_cases hh : 0 < h
        · have th : (0 : Int) < (h : Int) := by omega
          go_wp2_with (first | (go_at_call_of 41 (Value.int IntKind.i64 16); refine (within_yes _ _ _ _ (by omega) (by omega)).mono ?_; rintro e w1 ⟨rfl, rfl⟩) | (go_at_call 70; refine (refDigit_at _ _ (by omega) (by omega)).mono ?_; rintro e w2 ⟨rfl, g2⟩) | (go_at_call 41; refine (within_yes _ _ _ _ (by omega) (by omega)).mono ?_; rintro e w3 ⟨rfl, rfl⟩) | (go_at_call 71; refine (mul64_at N B H L _ hNl (by omega) HH.out HL.out).mono ?_; rintro e w4 ⟨rfl, rfl⟩))
          go_roundw
          case rel => exact ⟨k + 1, S, 1, by omega, by go_num, rfl, rfl, hSl, by have := HST.out; rwa [if_pos (Or.inr hh)] at this, hgb.trans g2⟩
          case measure => simp [intOf]; omega
        · obtain rfl : h = 0 := by omega
          go_wp2_with (first | (go_at_call_of 41 (Value.int IntKind.i64 16); refine (within_yes _ _ _ _ (by omega) (by omega)).mono ?_; rintro e w1 ⟨rfl, rfl⟩) | (go_at_call 70; refine (refDigit_at _ _ (by omega) (by omega)).mono ?_; rintro e w2 ⟨rfl, g2⟩) | (go_at_call 41; refine (within_yes _ _ _ _ (by omega) (by omega)).mono ?_; rintro e w3 ⟨rfl, rfl⟩) | (go_at_call 71; refine (mul64_at N B H L _ hNl (by omega) HH.out HL.out).mono ?_; rintro e w4 ⟨rfl, rfl⟩))
          go_roundw
          case rel => exact ⟨k + 1, S, 0, by omega, by go_num, rfl, rfl, hSl, by have := HST.out; rwa [if_neg (by omega)] at this, hgb.trans g2⟩
          case measure => simp [intOf]; omega
    · obtain rfl : k = s.size := by omega
      rcases HK.out with ⟨rfl, hN⟩ | ⟨rfl, hN⟩
      · obtain ⟨hv, _, rfl⟩ : v = pv B s s.size ∧ v < 18446744073709551616 ∧ e = 0 := by
          rcases HV.out with h | h
          · exact h
          · omega
        obtain rfl : N = v := by omega
        clear hN hv HK HV
        go_wp2
        go_ret2
        exact ⟨rfl, hgb⟩
      · obtain ⟨_, rfl, rfl⟩ : 18446744073709551616 ≤ pv B s s.size ∧ v = 0 ∧ e = 2 := by
          rcases HV.out with h | h
          · omega
          · exact h
        clear hN HK HV
        go_wp2
        go_ret2
        exact ⟨rfl, hgb⟩
set_option maxHeartbeats 1000000 in
theorem refParse_bad (B : Nat) (s : ByteArray) (w : World) (hs : s.size ≤ 140737488351232) (hb2 : 2 ≤ B) (hb16 : B ≤ 16) (h : ¬ okD B s) :
    Calls Try.prog 68 #[.string s, .int .i64 B] w fun e' w' => e' = .returned (.tuple #[.int .u64 0, .int .i64 3]) ∧ Gb w w' := by
  have HO : Hid (¬ okD B s) := h
  have hw1 : IntKind.i64.wrap ((B : Int) - 1) = (B : Int) - 1 := by rw [IntKind.wrap_i64]; omega
  clear h
  by_cases hp : s.size = 0
  · have he : s.toList.isEmpty = true := by rw [isEmpty_at]; exact decide_eq_true hp
    clear hp
    go_enter Try.func68, Try.ntmps68
    go_wp2_with (go_at_call 41; refine (within_yes _ _ _ _ (by omega) (by omega)).mono ?_; rintro e w1 ⟨rfl, rfl⟩)
    go_ret2
    exact ⟨rfl, Gb.refl _⟩
  · have he : s.toList.isEmpty = false := by rw [isEmpty_at]; exact decide_eq_false hp
    go_enter Try.func68, Try.ntmps68
    go_wp2_with (go_at_call 41; refine (within_yes _ _ _ _ (by omega) (by omega)).mono ?_; rintro e w1 ⟨rfl, rfl⟩)
    go_loopw [6, 7, 8] (fun hi n i wr => ∃ k N h : Nat, k ≤ s.size ∧ i = .int .i64 (k : Int) ∧ n = .int .u64 (N : Int) ∧ hi = .int .u64 (h : Int) ∧ N < 18446744073709551616 ∧ h ≤ 1 ∧ Hid (∀ j, j < k → 0 ≤ dv (sb s j) ∧ dv (sb s j) < B) ∧ Gb w1 wr) (fun _ _ i _ => s.size - (intOf i).toNat)
    case atStart => exact ⟨0, 0, 0, Nat.zero_le _, rfl, rfl, rfl, by omega, by omega, fun j hj => by omega, Gb.refl _⟩
    case round =>
      obtain ⟨k, N, h, hk, rfl, rfl, rfl, hNl, hh1, HP, hgb⟩ := hrel
      by_cases hlt : k < s.size
      · have hgk : (((s[k]'hlt).toNat : Nat) : Int) = sb s k := (sb_get s k hlt).symm
        have hb := sb_bd s k
        by_cases hd : 0 ≤ dv (sb s k) ∧ dv (sb s k) < B
        · obtain ⟨D, hD⟩ := Int.eq_ofNat_of_zero_le hd.1
          obtain ⟨H, hH⟩ : ∃ H, H = N * B / 18446744073709551616 := ⟨_, rfl⟩
          obtain ⟨L, hL⟩ : ∃ L, L = N * B % 18446744073709551616 := ⟨_, rfl⟩
          obtain ⟨S, hS⟩ : ∃ S, S = (L + D) % 18446744073709551616 := ⟨_, rfl⟩
          obtain ⟨C, hC⟩ : ∃ C, C = (L + D) / 18446744073709551616 := ⟨_, rfl⟩
          have hH16 : H ≤ 16 := by
            have : N * B ≤ N * 16 := Nat.mul_le_mul_left _ hb16
            omega
          have hC1 : C ≤ 1 := by omega
          have hSl : S < 18446744073709551616 := by omega
          have hr := add64_run L D S C hS hC
          have hwd : IntKind.u64.wrap (D : Int) = (D : Int) := u64N _ (by omega)
          have hwc : IntKind.u64.wrap ((H : Int) + (C : Int)) = (H : Int) + (C : Int) := by rw [IntKind.wrap_u64]; omega
          have HH : Hid (H = N * B / 18446744073709551616) := hH
          have HL : Hid (L = N * B % 18446744073709551616) := hL
          have HP' : Hid (∀ j, j < k + 1 → 0 ≤ dv (sb s j) ∧ dv (sb s j) < B) := fun j hj => by
            rcases Nat.lt_or_ge j k with h | h
            · exact HP.out j h
            · obtain rfl : j = k := by omega
              exact hd
          have hl0 : (0 : Int) ≤ (D : Int) := by omega
          have hl1 : (D : Int) ≤ (B : Int) - 1 := by omega
          clear hH hL hS hC hd
          by_cases hc : 0 < H + C
          · have tc : (0 : Int) < (H : Int) + (C : Int) := by omega
            go_wp2_with (first | (go_at_call_of 41 (Value.int IntKind.i64 16); refine (within_yes _ _ _ _ (by omega) (by omega)).mono ?_; rintro e w1 ⟨rfl, rfl⟩) | (go_at_call 70; refine (refDigit_at _ _ (by omega) (by omega)).mono ?_; rintro e w2 ⟨rfl, g2⟩) | (go_at_call 41; refine (within_yes _ _ _ _ (by omega) (by omega)).mono ?_; rintro e w3 ⟨rfl, rfl⟩) | (go_at_call 71; refine (mul64_at N B H L _ hNl (by omega) HH.out HL.out).mono ?_; rintro e w4 ⟨rfl, rfl⟩))
            go_roundw
            case rel => exact ⟨k + 1, S, 1, by omega, by go_num, rfl, rfl, hSl, by omega, HP', hgb.trans g2⟩
            case measure => simp [intOf]; omega
          · have tc : ¬ (0 : Int) < (H : Int) + (C : Int) := by omega
            by_cases hh : 0 < h
            · have th : (0 : Int) < (h : Int) := by omega
              go_wp2_with (first | (go_at_call_of 41 (Value.int IntKind.i64 16); refine (within_yes _ _ _ _ (by omega) (by omega)).mono ?_; rintro e w1 ⟨rfl, rfl⟩) | (go_at_call 70; refine (refDigit_at _ _ (by omega) (by omega)).mono ?_; rintro e w2 ⟨rfl, g2⟩) | (go_at_call 41; refine (within_yes _ _ _ _ (by omega) (by omega)).mono ?_; rintro e w3 ⟨rfl, rfl⟩) | (go_at_call 71; refine (mul64_at N B H L _ hNl (by omega) HH.out HL.out).mono ?_; rintro e w4 ⟨rfl, rfl⟩))
              go_roundw
              case rel => exact ⟨k + 1, S, 1, by omega, by go_num, rfl, rfl, hSl, by omega, HP', hgb.trans g2⟩
              case measure => simp [intOf]; omega
            · obtain rfl : h = 0 := by omega
              go_wp2_with (first | (go_at_call_of 41 (Value.int IntKind.i64 16); refine (within_yes _ _ _ _ (by omega) (by omega)).mono ?_; rintro e w1 ⟨rfl, rfl⟩) | (go_at_call 70; refine (refDigit_at _ _ (by omega) (by omega)).mono ?_; rintro e w2 ⟨rfl, g2⟩) | (go_at_call 41; refine (within_yes _ _ _ _ (by omega) (by omega)).mono ?_; rintro e w3 ⟨rfl, rfl⟩) | (go_at_call 71; refine (mul64_at N B H L _ hNl (by omega) HH.out HL.out).mono ?_; rintro e w4 ⟨rfl, rfl⟩))
              go_roundw
              case rel => exact ⟨k + 1, S, 0, by omega, by go_num, rfl, rfl, hSl, by omega, HP', hgb.trans g2⟩
              case measure => simp [intOf]; omega
        · have HB : Hid (dv (sb s k) < 0 ∨ (B : Int) - 1 < dv (sb s k)) := by show _ ∨ _; omega
          clear hd
          go_wp2_with (first | (go_at_call 70; refine (refDigit_at _ _ (by omega) (by omega)).mono ?_; rintro e w2 ⟨rfl, g2⟩) | (go_at_call 41; refine (within_no _ _ _ _ HB.out).mono ?_; rintro e w3 ⟨rfl, rfl⟩))
          go_ret2
          exact ⟨rfl, hgb.trans g2⟩
      · obtain rfl : k = s.size := by omega
        exact absurd ⟨by omega, HP.out⟩ HO.out
theorem refParse_at (b : Int) (s : ByteArray) (v : Nat) (e : Int) (w : World) (hs : s.size ≤ 140737488351232) (h : Parsed b s v e) :
    Calls Try.prog 68 #[.string s, .int .i64 b] w fun e' w' => e' = .returned (.tuple #[.int .u64 v, .int .i64 e]) ∧ Gb w w' := by
  rcases h with ⟨h1, rfl, rfl⟩ | ⟨h1, h2, rfl, rfl⟩ | ⟨h1, h2, h3, rfl, rfl⟩ | ⟨h1, h2, h3, hv, rfl⟩
  · have H : Hid (b < 2 ∨ 16 < b) := by show _ ∨ _; unfold okB at h1; omega
    clear h1
    go_enter Try.func68, Try.ntmps68
    go_wp2_with (go_at_call 41; refine (within_no _ _ _ _ H.out).mono ?_; rintro e w1 ⟨rfl, rfl⟩)
    go_ret2
    exact ⟨rfl, Gb.refl _⟩
  all_goals
    have hb2 : 2 ≤ b.toNat := by unfold okB at h1; omega
    have hb16 : b.toNat ≤ 16 := by unfold okB at h1; omega
    obtain ⟨B, rfl⟩ := Int.eq_ofNat_of_zero_le (show 0 ≤ b by unfold okB at h1; omega)
    rw [Int.toNat_natCast] at hb2 hb16 h2
  · exact refParse_bad B s w hs hb2 hb16 h2
  · rw [Int.toNat_natCast] at h3
    exact refParse_good B s w hs hb2 hb16 h2 0 2 (Or.inr ⟨h3, rfl, rfl⟩)
  · rw [Int.toNat_natCast] at h3 hv
    exact refParse_good B s w hs hb2 hb16 h2 v 0 (Or.inl ⟨hv, by omega, rfl⟩)
end Go.Proofs.Ytpanodaecjlgaaa.digs
/- What the document's own Number answers. -/
namespace Go.Proofs.Ytpanodaecjlgaaa.digs
open Go.ChangeShapes Go.WideShapes Go.ChangeAt Go.RowKit
open mem dig

theorem pow63 (w : World) : Calls Try.prog 69 #[.int .i64 63] w fun e w' => e = .returned (.int .u64 9223372036854775808) ∧ w' = w := by
  go_enter Try.func69, Try.ntmps69
  go_wp2
  go_loop [0, 3] (fun i o => ∃ k y : Nat, k ≤ 63 ∧ i = .int .i64 (k : Int) ∧ o = .int .u64 (y : Int) ∧ Hid (y = 2 ^ (63 - k))) (fun i _ => (intOf i).toNat)
  case atStart => exact ⟨63, 1, Nat.le_refl _, rfl, rfl, by simp [Hid]⟩
  case round =>
    obtain ⟨k, y, hk, rfl, rfl, HY⟩ := hrel
    by_cases h0 : 0 < k
    · have t1 : (0 : Int) < (k : Int) := by omega
      obtain ⟨k', hk'⟩ : ∃ k', k = k' + 1 := ⟨k - 1, by omega⟩
      obtain ⟨y', hy'⟩ : ∃ y', y' = y * 2 := ⟨_, rfl⟩
      have hyl : y ≤ 2 ^ 62 := by rw [HY.out]; exact Nat.pow_le_pow_right (by omega) (by omega)
      have t2 : IntKind.u64.wrap ((y : Int) * 2) = (y' : Int) := by rw [IntKind.wrap_u64]; omega
      have t3 : IntKind.i64.wrap ((k : Int) - 1) = (k' : Int) := by rw [IntKind.wrap_i64]; omega
      have HY' : Hid (y' = 2 ^ (63 - k')) := by
        have e : 63 - k' = (63 - k) + 1 := by omega
        rw [hy', e, Nat.pow_succ, ← HY.out]; rfl
      have HK : Hid (k = k' + 1) := hk'
      clear hk' hy'
      go_wp2
      go_round
      case rel => exact ⟨k', y', by have := HK.out; omega, by simp [*], by simp [*], HY'⟩
      case measure => have := HK.out; simp [intOf]; omega
    · obtain rfl : k = 0 := by omega
      have hyr : y = 9223372036854775808 := HY.out
      clear HY
      subst hyr
      go_wp2
      go_ret
      exact ⟨rfl, rfl⟩
theorem pre_m (s : ByteArray) (hp : 0 < s.size) : pre s pm = ((((s[0]'hp).toNat : Nat) : Int) == 45) := by
  have h1 : pm.size = 1 := rfl
  have h3 : s.data.toList.length = s.size := rfl
  have h2 : (s.extract 0 1).toList = [s[0]'hp] := by
    rw [ByteArray.toList_eq, ByteArray.data_extract, Array.toList_extract, List.extract_eq_take_drop]
    have hl : 0 < s.data.toList.length := by omega
    rw [List.drop_zero, show 1 - 0 = 0 + 1 from rfl, List.take_succ_eq_append_getElem hl]
    rfl
  unfold pre
  rw [h1, h2, decide_eq_true (show 1 ≤ s.size from hp), Bool.true_and]
  have e : pm.toList = [45] := by rw [ByteArray.toList_eq]; rfl
  rw [e, Bool.eq_iff_iff]
  simp
  constructor
  · intro h
    rw [h]; rfl
  · intro h
    have h' : (s[0]'hp).toNat = 45 := by omega
    exact UInt8.toNat_inj.1 h'
theorem pre_m0 (s : ByteArray) (hp : ¬ 0 < s.size) : pre s pm = false := by
  unfold pre
  rw [show pm.size = 1 from rfl, decide_eq_false (by omega), Bool.false_and]
/-- The document's own reading of a base. -/
theorem pre_2 (s p : ByteArray) (b : Bool) (hp : p.size = 2) (h : pre s p = b) : (2 ≤ s.size ∧ ((s.extract 0 2).toList == p.toList) = b) ∨ (¬ 2 ≤ s.size ∧ b = false) := by
  unfold pre at h
  rw [hp] at h
  by_cases h2 : 2 ≤ s.size
  · rw [decide_eq_true h2, Bool.true_and] at h
    exact Or.inl ⟨h2, h⟩
  · rw [decide_eq_false h2, Bool.false_and] at h
    exact Or.inr ⟨h2, h.symm⟩
set_option maxHeartbeats 8000000 in
set_option maxRecDepth 4000 in
theorem refNumber_at (s : ByteArray) (m e : Int) (w : World) (hs : s.size ≤ 140737488351232) (h : Numbered s m e) :
    Calls Try.prog 65 #[.string s] w fun e' w' => e' = .returned (.tuple #[.int .i64 m, .int .i64 e]) ∧ Gb w w' := by
  obtain ⟨n, t, b, v, f, h1, h2, h3, h4⟩ := h
  have hv := h3.bd
  have hr := rest_size s pm n
  have ht := h2.size
  have cp := fun w => refParse_at b t v f w (by omega) h3
  have H2 := hide h2
  have H4 := hide h4
  clear h3 h2 h4
  by_cases hp : 0 < s.size
  · have e1 := pre_m s hp
    rw [h1] at e1
    cases n
    · have e1' : ((((s[0]'hp).toNat : Nat) : Int) == 45) = false := e1.symm
      have hu : rest s pm false = s := rfl
      rw [hu] at H2 hr
      clear e1 h1 hu
      rcases H2.out with ⟨b1, rfl, rfl⟩ | ⟨b1, b2, rfl, rfl⟩ | ⟨b1, b2, hq, rfl⟩
      · obtain ⟨z, c1⟩ : 2 ≤ s.size ∧ ((s.extract 0 2).toList == px.toList) = true := by
          rcases pre_2 s px true rfl b1 with h | ⟨_, h⟩
          · exact h
          · cases h
        have c1' : ((s.extract 0 2).toList == [48, 120]) = true := by rw [← c1, show px.toList = [48, 120] from by rw [ByteArray.toList_eq]; rfl]
        have hx : rest s px true = s.extract 2 s.size := rfl
        rw [hx] at cp
        clear H2 b1 c1 hx
        rcases H4.out with ⟨hf, rfl, rfl⟩ | ⟨rfl, h5, rfl, rfl⟩ | ⟨rfl, h5, h6, rfl, rfl⟩
        · have hf' : (e == 0) = false := by simpa using hf
          clear hf H4
          go_enter Try.func65, Try.ntmps65
          go_wp2_with (first | (go_at_call 68; refine (cp _).mono ?_; rintro e w1 ⟨rfl, g1⟩) | (go_at_call 69; refine (pow63 _).mono ?_; rintro e w1 ⟨rfl, rfl⟩))
          go_region
          all_goals go_wp2_with (first | (go_at_call 68; refine (cp _).mono ?_; rintro e w1 ⟨rfl, g1⟩) | (go_at_call 69; refine (pow63 _).mono ?_; rintro e w1 ⟨rfl, rfl⟩))
          all_goals go_ret2
          all_goals exact ⟨rfl, by first | exact g1 | exact (Gb.drew (Gb.refl _)).trans g1⟩
        · have hl : (9223372036854775808 : Int) ≤ (v : Int) := by omega
          clear h5 H4
          go_enter Try.func65, Try.ntmps65
          go_wp2_with (first | (go_at_call 68; refine (cp _).mono ?_; rintro e w1 ⟨rfl, g1⟩) | (go_at_call 69; refine (pow63 _).mono ?_; rintro e w1 ⟨rfl, rfl⟩))
          go_region
          all_goals go_wp2_with (first | (go_at_call 68; refine (cp _).mono ?_; rintro e w1 ⟨rfl, g1⟩) | (go_at_call 69; refine (pow63 _).mono ?_; rintro e w1 ⟨rfl, rfl⟩))
          all_goals go_ret2
          all_goals exact ⟨rfl, by first | exact g1 | exact (Gb.drew (Gb.refl _)).trans g1⟩
        · have hn2 : v ≠ 9223372036854775808 := fun h => by cases h6 h
          have hl : decide ((9223372036854775808 : Int) ≤ (v : Int)) = false := decide_eq_false (by omega)
          have hl2 : decide ((9223372036854775808 : Int) < (v : Int)) = false := decide_eq_false (by omega)
          have hw : wrap64 (v : Int) = (v : Int) := by unfold wrap64; omega
          clear h5 h6 H4 hn2 hv
          go_enter Try.func65, Try.ntmps65
          go_wp2_with (first | (go_at_call 68; refine (cp _).mono ?_; rintro e w1 ⟨rfl, g1⟩) | (go_at_call 69; refine (pow63 _).mono ?_; rintro e w1 ⟨rfl, rfl⟩))
          go_region
          all_goals go_wp2_with (first | (go_at_call 68; refine (cp _).mono ?_; rintro e w1 ⟨rfl, g1⟩) | (go_at_call 69; refine (pow63 _).mono ?_; rintro e w1 ⟨rfl, rfl⟩))
          all_goals go_ret2
          all_goals exact ⟨rfl, by first | exact g1 | exact (Gb.drew (Gb.refl _)).trans g1⟩
      · obtain ⟨z, c2⟩ : 2 ≤ s.size ∧ ((s.extract 0 2).toList == pb.toList) = true := by
          rcases pre_2 s pb true rfl b2 with h | ⟨_, h⟩
          · exact h
          · cases h
        have c1 : ((s.extract 0 2).toList == px.toList) = false := by
          rcases pre_2 s px false rfl b1 with h | ⟨h, _⟩
          · exact h.2
          · omega
        have c1' : ((s.extract 0 2).toList == [48, 120]) = false := by rw [← c1, show px.toList = [48, 120] from by rw [ByteArray.toList_eq]; rfl]
        have c2' : ((s.extract 0 2).toList == [48, 98]) = true := by rw [← c2, show pb.toList = [48, 98] from by rw [ByteArray.toList_eq]; rfl]
        have hx : rest s pb true = s.extract 2 s.size := rfl
        rw [hx] at cp
        clear H2 b1 b2 c1 c2 hx
        rcases H4.out with ⟨hf, rfl, rfl⟩ | ⟨rfl, h5, rfl, rfl⟩ | ⟨rfl, h5, h6, rfl, rfl⟩
        · have hf' : (e == 0) = false := by simpa using hf
          clear hf H4
          go_enter Try.func65, Try.ntmps65
          go_wp2_with (first | (go_at_call 68; refine (cp _).mono ?_; rintro e w1 ⟨rfl, g1⟩) | (go_at_call 69; refine (pow63 _).mono ?_; rintro e w1 ⟨rfl, rfl⟩))
          go_region
          all_goals go_wp2_with (first | (go_at_call 68; refine (cp _).mono ?_; rintro e w1 ⟨rfl, g1⟩) | (go_at_call 69; refine (pow63 _).mono ?_; rintro e w1 ⟨rfl, rfl⟩))
          all_goals go_ret2
          all_goals exact ⟨rfl, by first | exact g1 | exact (Gb.drew (Gb.refl _)).trans g1⟩
        · have hl : (9223372036854775808 : Int) ≤ (v : Int) := by omega
          clear h5 H4
          go_enter Try.func65, Try.ntmps65
          go_wp2_with (first | (go_at_call 68; refine (cp _).mono ?_; rintro e w1 ⟨rfl, g1⟩) | (go_at_call 69; refine (pow63 _).mono ?_; rintro e w1 ⟨rfl, rfl⟩))
          go_region
          all_goals go_wp2_with (first | (go_at_call 68; refine (cp _).mono ?_; rintro e w1 ⟨rfl, g1⟩) | (go_at_call 69; refine (pow63 _).mono ?_; rintro e w1 ⟨rfl, rfl⟩))
          all_goals go_ret2
          all_goals exact ⟨rfl, by first | exact g1 | exact (Gb.drew (Gb.refl _)).trans g1⟩
        · have hn2 : v ≠ 9223372036854775808 := fun h => by cases h6 h
          have hl : decide ((9223372036854775808 : Int) ≤ (v : Int)) = false := decide_eq_false (by omega)
          have hl2 : decide ((9223372036854775808 : Int) < (v : Int)) = false := decide_eq_false (by omega)
          have hw : wrap64 (v : Int) = (v : Int) := by unfold wrap64; omega
          clear h5 h6 H4 hn2 hv
          go_enter Try.func65, Try.ntmps65
          go_wp2_with (first | (go_at_call 68; refine (cp _).mono ?_; rintro e w1 ⟨rfl, g1⟩) | (go_at_call 69; refine (pow63 _).mono ?_; rintro e w1 ⟨rfl, rfl⟩))
          go_region
          all_goals go_wp2_with (first | (go_at_call 68; refine (cp _).mono ?_; rintro e w1 ⟨rfl, g1⟩) | (go_at_call 69; refine (pow63 _).mono ?_; rintro e w1 ⟨rfl, rfl⟩))
          all_goals go_ret2
          all_goals exact ⟨rfl, by first | exact g1 | exact (Gb.drew (Gb.refl _)).trans g1⟩
      · rw [hq] at cp ht
        clear hq
        by_cases z : 2 ≤ s.size
        · have c1 : ((s.extract 0 2).toList == px.toList) = false := by
            rcases pre_2 s px false rfl b1 with h | ⟨h, _⟩
            · exact h.2
            · omega
          have c2 : ((s.extract 0 2).toList == pb.toList) = false := by
            rcases pre_2 s pb false rfl b2 with h | ⟨h, _⟩
            · exact h.2
            · omega
          have c1' : ((s.extract 0 2).toList == [48, 120]) = false := by rw [← c1, show px.toList = [48, 120] from by rw [ByteArray.toList_eq]; rfl]
          have c2' : ((s.extract 0 2).toList == [48, 98]) = false := by rw [← c2, show pb.toList = [48, 98] from by rw [ByteArray.toList_eq]; rfl]
          clear H2 b1 b2 c1 c2
          rcases H4.out with ⟨hf, rfl, rfl⟩ | ⟨rfl, h5, rfl, rfl⟩ | ⟨rfl, h5, h6, rfl, rfl⟩
          · have hf' : (e == 0) = false := by simpa using hf
            clear hf H4
            go_enter Try.func65, Try.ntmps65
            go_wp2_with (first | (go_at_call 68; refine (cp _).mono ?_; rintro e w1 ⟨rfl, g1⟩) | (go_at_call 69; refine (pow63 _).mono ?_; rintro e w1 ⟨rfl, rfl⟩))
            all_goals go_ret2
            all_goals exact ⟨rfl, by first | exact g1 | exact (Gb.drew (Gb.refl _)).trans g1⟩
          · have hl : (9223372036854775808 : Int) ≤ (v : Int) := by omega
            clear h5 H4
            go_enter Try.func65, Try.ntmps65
            go_wp2_with (first | (go_at_call 68; refine (cp _).mono ?_; rintro e w1 ⟨rfl, g1⟩) | (go_at_call 69; refine (pow63 _).mono ?_; rintro e w1 ⟨rfl, rfl⟩))
            all_goals go_ret2
            all_goals exact ⟨rfl, by first | exact g1 | exact (Gb.drew (Gb.refl _)).trans g1⟩
          · have hn2 : v ≠ 9223372036854775808 := fun h => by cases h6 h
            have hl : decide ((9223372036854775808 : Int) ≤ (v : Int)) = false := decide_eq_false (by omega)
            have hl2 : decide ((9223372036854775808 : Int) < (v : Int)) = false := decide_eq_false (by omega)
            have hw : wrap64 (v : Int) = (v : Int) := by unfold wrap64; omega
            clear h5 h6 H4 hn2 hv
            go_enter Try.func65, Try.ntmps65
            go_wp2_with (first | (go_at_call 68; refine (cp _).mono ?_; rintro e w1 ⟨rfl, g1⟩) | (go_at_call 69; refine (pow63 _).mono ?_; rintro e w1 ⟨rfl, rfl⟩))
            all_goals go_ret2
            all_goals exact ⟨rfl, by first | exact g1 | exact (Gb.drew (Gb.refl _)).trans g1⟩
        · clear H2 b1 b2
          rcases H4.out with ⟨hf, rfl, rfl⟩ | ⟨rfl, h5, rfl, rfl⟩ | ⟨rfl, h5, h6, rfl, rfl⟩
          · have hf' : (e == 0) = false := by simpa using hf
            clear hf H4
            go_enter Try.func65, Try.ntmps65
            go_wp2_with (first | (go_at_call 68; refine (cp _).mono ?_; rintro e w1 ⟨rfl, g1⟩) | (go_at_call 69; refine (pow63 _).mono ?_; rintro e w1 ⟨rfl, rfl⟩))
            all_goals go_ret2
            all_goals exact ⟨rfl, by first | exact g1 | exact (Gb.drew (Gb.refl _)).trans g1⟩
          · have hl : (9223372036854775808 : Int) ≤ (v : Int) := by omega
            clear h5 H4
            go_enter Try.func65, Try.ntmps65
            go_wp2_with (first | (go_at_call 68; refine (cp _).mono ?_; rintro e w1 ⟨rfl, g1⟩) | (go_at_call 69; refine (pow63 _).mono ?_; rintro e w1 ⟨rfl, rfl⟩))
            all_goals go_ret2
            all_goals exact ⟨rfl, by first | exact g1 | exact (Gb.drew (Gb.refl _)).trans g1⟩
          · have hn2 : v ≠ 9223372036854775808 := fun h => by cases h6 h
            have hl : decide ((9223372036854775808 : Int) ≤ (v : Int)) = false := decide_eq_false (by omega)
            have hl2 : decide ((9223372036854775808 : Int) < (v : Int)) = false := decide_eq_false (by omega)
            have hw : wrap64 (v : Int) = (v : Int) := by unfold wrap64; omega
            clear h5 h6 H4 hn2 hv
            go_enter Try.func65, Try.ntmps65
            go_wp2_with (first | (go_at_call 68; refine (cp _).mono ?_; rintro e w1 ⟨rfl, g1⟩) | (go_at_call 69; refine (pow63 _).mono ?_; rintro e w1 ⟨rfl, rfl⟩))
            all_goals go_ret2
            all_goals exact ⟨rfl, by first | exact g1 | exact (Gb.drew (Gb.refl _)).trans g1⟩
    · have e1' : ((((s[0]'hp).toNat : Nat) : Int) == 45) = true := e1.symm
      have hu : rest s pm true = s.extract 1 s.size := rfl
      rw [hu] at H2 hr ht
      clear e1 h1
      obtain ⟨U, hU⟩ : ∃ U, U = s.extract 1 s.size := ⟨_, rfl⟩
      rw [← hU] at H2 hr ht
      have hU' : s.extract 1 s.size = U := hU.symm
      clear hU hu
      rcases H2.out with ⟨b1, rfl, rfl⟩ | ⟨b1, b2, rfl, rfl⟩ | ⟨b1, b2, hq, rfl⟩
      · obtain ⟨z, c1⟩ : 2 ≤ U.size ∧ ((U.extract 0 2).toList == px.toList) = true := by
          rcases pre_2 U px true rfl b1 with h | ⟨_, h⟩
          · exact h
          · cases h
        have c1' : ((U.extract 0 2).toList == [48, 120]) = true := by rw [← c1, show px.toList = [48, 120] from by rw [ByteArray.toList_eq]; rfl]
        have hx : rest U px true = U.extract 2 U.size := rfl
        rw [hx] at cp
        clear H2 b1 c1 hx
        rcases H4.out with ⟨hf, rfl, rfl⟩ | ⟨rfl, h5, rfl, rfl⟩ | ⟨rfl, h5, h6, rfl, rfl⟩
        · have hf' : (e == 0) = false := by simpa using hf
          clear hf H4
          go_enter Try.func65, Try.ntmps65
          go_wp2_with (first | (go_at_call 68; refine (cp _).mono ?_; rintro e w1 ⟨rfl, g1⟩) | (go_at_call 69; refine (pow63 _).mono ?_; rintro e w1 ⟨rfl, rfl⟩))
          go_region
          all_goals go_wp2_with (first | (go_at_call 68; refine (cp _).mono ?_; rintro e w1 ⟨rfl, g1⟩) | (go_at_call 69; refine (pow63 _).mono ?_; rintro e w1 ⟨rfl, rfl⟩))
          all_goals go_ret2
          all_goals exact ⟨rfl, by first | exact g1 | exact (Gb.drew (Gb.refl _)).trans g1⟩
        · have hl : (9223372036854775808 : Int) < (v : Int) := by
            rcases h5 with h | ⟨_, h⟩
            · omega
            · cases h
          clear h5 H4
          go_enter Try.func65, Try.ntmps65
          go_wp2_with (first | (go_at_call 68; refine (cp _).mono ?_; rintro e w1 ⟨rfl, g1⟩) | (go_at_call 69; refine (pow63 _).mono ?_; rintro e w1 ⟨rfl, rfl⟩))
          go_region
          all_goals go_wp2_with (first | (go_at_call 68; refine (cp _).mono ?_; rintro e w1 ⟨rfl, g1⟩) | (go_at_call 69; refine (pow63 _).mono ?_; rintro e w1 ⟨rfl, rfl⟩))
          all_goals go_ret2
          all_goals exact ⟨rfl, by first | exact g1 | exact (Gb.drew (Gb.refl _)).trans g1⟩
        · have hl : ¬ (9223372036854775808 : Int) < (v : Int) := by omega
          have hm : wrap64 (IntKind.u64.wrap (-(v : Int))) = -(v : Int) := by simp only [IntKind.wrap_u64, wrap64]; omega
          clear h5 h6 H4
          go_enter Try.func65, Try.ntmps65
          go_wp2_with (first | (go_at_call 68; refine (cp _).mono ?_; rintro e w1 ⟨rfl, g1⟩) | (go_at_call 69; refine (pow63 _).mono ?_; rintro e w1 ⟨rfl, rfl⟩))
          go_region
          all_goals go_wp2_with (first | (go_at_call 68; refine (cp _).mono ?_; rintro e w1 ⟨rfl, g1⟩) | (go_at_call 69; refine (pow63 _).mono ?_; rintro e w1 ⟨rfl, rfl⟩))
          all_goals go_ret2
          all_goals exact ⟨by simp, by first | exact g1 | exact (Gb.drew (Gb.refl _)).trans g1⟩
      · obtain ⟨z, c2⟩ : 2 ≤ U.size ∧ ((U.extract 0 2).toList == pb.toList) = true := by
          rcases pre_2 U pb true rfl b2 with h | ⟨_, h⟩
          · exact h
          · cases h
        have c1 : ((U.extract 0 2).toList == px.toList) = false := by
          rcases pre_2 U px false rfl b1 with h | ⟨h, _⟩
          · exact h.2
          · omega
        have c1' : ((U.extract 0 2).toList == [48, 120]) = false := by rw [← c1, show px.toList = [48, 120] from by rw [ByteArray.toList_eq]; rfl]
        have c2' : ((U.extract 0 2).toList == [48, 98]) = true := by rw [← c2, show pb.toList = [48, 98] from by rw [ByteArray.toList_eq]; rfl]
        have hx : rest U pb true = U.extract 2 U.size := rfl
        rw [hx] at cp
        clear H2 b1 b2 c1 c2 hx
        rcases H4.out with ⟨hf, rfl, rfl⟩ | ⟨rfl, h5, rfl, rfl⟩ | ⟨rfl, h5, h6, rfl, rfl⟩
        · have hf' : (e == 0) = false := by simpa using hf
          clear hf H4
          go_enter Try.func65, Try.ntmps65
          go_wp2_with (first | (go_at_call 68; refine (cp _).mono ?_; rintro e w1 ⟨rfl, g1⟩) | (go_at_call 69; refine (pow63 _).mono ?_; rintro e w1 ⟨rfl, rfl⟩))
          go_region
          all_goals go_wp2_with (first | (go_at_call 68; refine (cp _).mono ?_; rintro e w1 ⟨rfl, g1⟩) | (go_at_call 69; refine (pow63 _).mono ?_; rintro e w1 ⟨rfl, rfl⟩))
          all_goals go_ret2
          all_goals exact ⟨rfl, by first | exact g1 | exact (Gb.drew (Gb.refl _)).trans g1⟩
        · have hl : (9223372036854775808 : Int) < (v : Int) := by
            rcases h5 with h | ⟨_, h⟩
            · omega
            · cases h
          clear h5 H4
          go_enter Try.func65, Try.ntmps65
          go_wp2_with (first | (go_at_call 68; refine (cp _).mono ?_; rintro e w1 ⟨rfl, g1⟩) | (go_at_call 69; refine (pow63 _).mono ?_; rintro e w1 ⟨rfl, rfl⟩))
          go_region
          all_goals go_wp2_with (first | (go_at_call 68; refine (cp _).mono ?_; rintro e w1 ⟨rfl, g1⟩) | (go_at_call 69; refine (pow63 _).mono ?_; rintro e w1 ⟨rfl, rfl⟩))
          all_goals go_ret2
          all_goals exact ⟨rfl, by first | exact g1 | exact (Gb.drew (Gb.refl _)).trans g1⟩
        · have hl : ¬ (9223372036854775808 : Int) < (v : Int) := by omega
          have hm : wrap64 (IntKind.u64.wrap (-(v : Int))) = -(v : Int) := by simp only [IntKind.wrap_u64, wrap64]; omega
          clear h5 h6 H4
          go_enter Try.func65, Try.ntmps65
          go_wp2_with (first | (go_at_call 68; refine (cp _).mono ?_; rintro e w1 ⟨rfl, g1⟩) | (go_at_call 69; refine (pow63 _).mono ?_; rintro e w1 ⟨rfl, rfl⟩))
          go_region
          all_goals go_wp2_with (first | (go_at_call 68; refine (cp _).mono ?_; rintro e w1 ⟨rfl, g1⟩) | (go_at_call 69; refine (pow63 _).mono ?_; rintro e w1 ⟨rfl, rfl⟩))
          all_goals go_ret2
          all_goals exact ⟨by simp, by first | exact g1 | exact (Gb.drew (Gb.refl _)).trans g1⟩
      · rw [hq] at cp ht
        clear hq
        by_cases z : 2 ≤ U.size
        · have c1 : ((U.extract 0 2).toList == px.toList) = false := by
            rcases pre_2 U px false rfl b1 with h | ⟨h, _⟩
            · exact h.2
            · omega
          have c2 : ((U.extract 0 2).toList == pb.toList) = false := by
            rcases pre_2 U pb false rfl b2 with h | ⟨h, _⟩
            · exact h.2
            · omega
          have c1' : ((U.extract 0 2).toList == [48, 120]) = false := by rw [← c1, show px.toList = [48, 120] from by rw [ByteArray.toList_eq]; rfl]
          have c2' : ((U.extract 0 2).toList == [48, 98]) = false := by rw [← c2, show pb.toList = [48, 98] from by rw [ByteArray.toList_eq]; rfl]
          clear H2 b1 b2 c1 c2
          rcases H4.out with ⟨hf, rfl, rfl⟩ | ⟨rfl, h5, rfl, rfl⟩ | ⟨rfl, h5, h6, rfl, rfl⟩
          · have hf' : (e == 0) = false := by simpa using hf
            clear hf H4
            go_enter Try.func65, Try.ntmps65
            go_wp2_with (first | (go_at_call 68; refine (cp _).mono ?_; rintro e w1 ⟨rfl, g1⟩) | (go_at_call 69; refine (pow63 _).mono ?_; rintro e w1 ⟨rfl, rfl⟩))
            all_goals go_ret2
            all_goals exact ⟨rfl, by first | exact g1 | exact (Gb.drew (Gb.refl _)).trans g1⟩
          · have hl : (9223372036854775808 : Int) < (v : Int) := by
              rcases h5 with h | ⟨_, h⟩
              · omega
              · cases h
            clear h5 H4
            go_enter Try.func65, Try.ntmps65
            go_wp2_with (first | (go_at_call 68; refine (cp _).mono ?_; rintro e w1 ⟨rfl, g1⟩) | (go_at_call 69; refine (pow63 _).mono ?_; rintro e w1 ⟨rfl, rfl⟩))
            all_goals go_ret2
            all_goals exact ⟨rfl, by first | exact g1 | exact (Gb.drew (Gb.refl _)).trans g1⟩
          · have hl : ¬ (9223372036854775808 : Int) < (v : Int) := by omega
            have hm : wrap64 (IntKind.u64.wrap (-(v : Int))) = -(v : Int) := by simp only [IntKind.wrap_u64, wrap64]; omega
            clear h5 h6 H4
            go_enter Try.func65, Try.ntmps65
            go_wp2_with (first | (go_at_call 68; refine (cp _).mono ?_; rintro e w1 ⟨rfl, g1⟩) | (go_at_call 69; refine (pow63 _).mono ?_; rintro e w1 ⟨rfl, rfl⟩))
            all_goals go_ret2
            all_goals exact ⟨by simp, by first | exact g1 | exact (Gb.drew (Gb.refl _)).trans g1⟩
        · clear H2 b1 b2
          rcases H4.out with ⟨hf, rfl, rfl⟩ | ⟨rfl, h5, rfl, rfl⟩ | ⟨rfl, h5, h6, rfl, rfl⟩
          · have hf' : (e == 0) = false := by simpa using hf
            clear hf H4
            go_enter Try.func65, Try.ntmps65
            go_wp2_with (first | (go_at_call 68; refine (cp _).mono ?_; rintro e w1 ⟨rfl, g1⟩) | (go_at_call 69; refine (pow63 _).mono ?_; rintro e w1 ⟨rfl, rfl⟩))
            all_goals go_ret2
            all_goals exact ⟨rfl, by first | exact g1 | exact (Gb.drew (Gb.refl _)).trans g1⟩
          · have hl : (9223372036854775808 : Int) < (v : Int) := by
              rcases h5 with h | ⟨_, h⟩
              · omega
              · cases h
            clear h5 H4
            go_enter Try.func65, Try.ntmps65
            go_wp2_with (first | (go_at_call 68; refine (cp _).mono ?_; rintro e w1 ⟨rfl, g1⟩) | (go_at_call 69; refine (pow63 _).mono ?_; rintro e w1 ⟨rfl, rfl⟩))
            all_goals go_ret2
            all_goals exact ⟨rfl, by first | exact g1 | exact (Gb.drew (Gb.refl _)).trans g1⟩
          · have hl : ¬ (9223372036854775808 : Int) < (v : Int) := by omega
            have hm : wrap64 (IntKind.u64.wrap (-(v : Int))) = -(v : Int) := by simp only [IntKind.wrap_u64, wrap64]; omega
            clear h5 h6 H4
            go_enter Try.func65, Try.ntmps65
            go_wp2_with (first | (go_at_call 68; refine (cp _).mono ?_; rintro e w1 ⟨rfl, g1⟩) | (go_at_call 69; refine (pow63 _).mono ?_; rintro e w1 ⟨rfl, rfl⟩))
            all_goals go_ret2
            all_goals exact ⟨by simp, by first | exact g1 | exact (Gb.drew (Gb.refl _)).trans g1⟩
  · have e1 := pre_m0 s hp
    obtain rfl : n = false := h1.symm.trans e1
    have hu : rest s pm false = s := rfl
    rw [hu] at H2 hr
    clear e1 h1 hu
    rcases H2.out with ⟨b1, rfl, rfl⟩ | ⟨b1, b2, rfl, rfl⟩ | ⟨b1, b2, hq, rfl⟩
    · obtain ⟨z, c1⟩ : 2 ≤ s.size ∧ ((s.extract 0 2).toList == px.toList) = true := by
        rcases pre_2 s px true rfl b1 with h | ⟨_, h⟩
        · exact h
        · cases h
      have c1' : ((s.extract 0 2).toList == [48, 120]) = true := by rw [← c1, show px.toList = [48, 120] from by rw [ByteArray.toList_eq]; rfl]
      have hx : rest s px true = s.extract 2 s.size := rfl
      rw [hx] at cp
      clear H2 b1 c1 hx
      exact absurd z (by omega)
    · obtain ⟨z, c2⟩ : 2 ≤ s.size ∧ ((s.extract 0 2).toList == pb.toList) = true := by
        rcases pre_2 s pb true rfl b2 with h | ⟨_, h⟩
        · exact h
        · cases h
      have c1 : ((s.extract 0 2).toList == px.toList) = false := by
        rcases pre_2 s px false rfl b1 with h | ⟨h, _⟩
        · exact h.2
        · omega
      have c1' : ((s.extract 0 2).toList == [48, 120]) = false := by rw [← c1, show px.toList = [48, 120] from by rw [ByteArray.toList_eq]; rfl]
      have c2' : ((s.extract 0 2).toList == [48, 98]) = true := by rw [← c2, show pb.toList = [48, 98] from by rw [ByteArray.toList_eq]; rfl]
      have hx : rest s pb true = s.extract 2 s.size := rfl
      rw [hx] at cp
      clear H2 b1 b2 c1 c2 hx
      exact absurd z (by omega)
    · rw [hq] at cp ht
      clear hq
      by_cases z : 2 ≤ s.size
      · have c1 : ((s.extract 0 2).toList == px.toList) = false := by
          rcases pre_2 s px false rfl b1 with h | ⟨h, _⟩
          · exact h.2
          · omega
        have c2 : ((s.extract 0 2).toList == pb.toList) = false := by
          rcases pre_2 s pb false rfl b2 with h | ⟨h, _⟩
          · exact h.2
          · omega
        have c1' : ((s.extract 0 2).toList == [48, 120]) = false := by rw [← c1, show px.toList = [48, 120] from by rw [ByteArray.toList_eq]; rfl]
        have c2' : ((s.extract 0 2).toList == [48, 98]) = false := by rw [← c2, show pb.toList = [48, 98] from by rw [ByteArray.toList_eq]; rfl]
        clear H2 b1 b2 c1 c2
        exact absurd z (by omega)
      · clear H2 b1 b2
        rcases H4.out with ⟨hf, rfl, rfl⟩ | ⟨rfl, h5, rfl, rfl⟩ | ⟨rfl, h5, h6, rfl, rfl⟩
        · have hf' : (e == 0) = false := by simpa using hf
          clear hf H4
          go_enter Try.func65, Try.ntmps65
          go_wp2_with (first | (go_at_call 68; refine (cp _).mono ?_; rintro e w1 ⟨rfl, g1⟩) | (go_at_call 69; refine (pow63 _).mono ?_; rintro e w1 ⟨rfl, rfl⟩))
          all_goals go_ret2
          all_goals exact ⟨rfl, by first | exact g1 | exact (Gb.drew (Gb.refl _)).trans g1⟩
        · have hl : (9223372036854775808 : Int) ≤ (v : Int) := by omega
          clear h5 H4
          go_enter Try.func65, Try.ntmps65
          go_wp2_with (first | (go_at_call 68; refine (cp _).mono ?_; rintro e w1 ⟨rfl, g1⟩) | (go_at_call 69; refine (pow63 _).mono ?_; rintro e w1 ⟨rfl, rfl⟩))
          all_goals go_ret2
          all_goals exact ⟨rfl, by first | exact g1 | exact (Gb.drew (Gb.refl _)).trans g1⟩
        · have hn2 : v ≠ 9223372036854775808 := fun h => by cases h6 h
          have hl : decide ((9223372036854775808 : Int) ≤ (v : Int)) = false := decide_eq_false (by omega)
          have hl2 : decide ((9223372036854775808 : Int) < (v : Int)) = false := decide_eq_false (by omega)
          have hw : wrap64 (v : Int) = (v : Int) := by unfold wrap64; omega
          clear h5 h6 H4 hn2 hv
          go_enter Try.func65, Try.ntmps65
          go_wp2_with (first | (go_at_call 68; refine (cp _).mono ?_; rintro e w1 ⟨rfl, g1⟩) | (go_at_call 69; refine (pow63 _).mono ?_; rintro e w1 ⟨rfl, rfl⟩))
          all_goals go_ret2
          all_goals exact ⟨rfl, by first | exact g1 | exact (Gb.drew (Gb.refl _)).trans g1⟩
end Go.Proofs.Ytpanodaecjlgaaa.digs
/- The document's reader: must; what has stopped stays; one thing alone. -/
namespace Go.Proofs.Ytpanodaecjlgaaa.ex
set_option linter.unusedVariables false
open Go.ChangeShapes Go.WideShapes Go.ChangeAt Go.RowKit
open mem lx

theorem must_yes (w : World) (P : Nat) (t : Tk) (ts : List Tk) (en : Nat) (p : Int) (h : Ey w P (t :: ts) en 0 p) :
    Calls Try.prog 18 #[.pointer (some ⟨P, 0, none⟩), .string (tx t.t)] w fun e w' => e = .returned (.tuple #[]) ∧ Ey w' P ts en 0 p ∧ Gp P w w' := by
  have cT := take_yes w P t ts en p h
  clear h
  generalize tx t.t = S at *
  go_enter Try.func18, Try.ntmps18
  go_wp2_with fail
  refine cT.mono ?_
  rintro e w2 ⟨rfl, hE, hg⟩
  go_wp2
  exact bodyPost_end (results_none rfl _ _ _) rfl ⟨rfl, hE, hg⟩
theorem must_no (w : World) (P : Nat) (ts : List Tk) (en : Nat) (p : Int) (s : List UInt8) (h : Ey w P ts en 0 p) (hs : (hd en ts).t ≠ s) :
    Calls Try.prog 18 #[.pointer (some ⟨P, 0, none⟩), .string (tx s)] w fun e w' => e = .returned (.tuple #[]) ∧ Ey w' P ts en 3 ((hd en ts).a : Int) ∧ Gp P w w' := by
  have cT := take_no w P ts en 0 p s h (by show (if (0 : Int) = 0 then (hd en ts).t else []) ≠ s; rw [if_pos rfl]; exact hs)
  have cP := fun wx (hb : Bl w wx) => place_at wx P ts en 0 p (h.step hb)
  have cW := fun wx (hb : Bl w wx) a b => wrong_yes wx P ts en p a b (h.step hb)
  clear h hs
  generalize tx s = S at *
  go_enter Try.func18, Try.ntmps18
  go_wp2_with fail
  refine cT.mono ?_
  rintro e w2 ⟨rfl, hb⟩
  go_wp2_with fail
  refine (cP _ hb).mono ?_
  rintro e w3 ⟨rfl, rfl⟩
  go_wp2_with fail
  refine (cW _ hb _ _).mono ?_
  rintro e w4 ⟨rfl, hE, hg⟩
  go_wp2
  exact bodyPost_end (results_none rfl _ _ _) rfl ⟨rfl, hE, (Gp.bl hb).trans hg⟩
theorem must_off (w : World) (P : Nat) (ts : List Tk) (en : Nat) (c p : Int) (s : List UInt8) (h : Ey w P ts en c p) (hc : c ≠ 0) (hs : s ≠ []) :
    Calls Try.prog 18 #[.pointer (some ⟨P, 0, none⟩), .string (tx s)] w fun e w' => e = .returned (.tuple #[]) ∧ Bl w w' := by
  have cT := take_no w P ts en c p s h (by show (if c = 0 then (hd en ts).t else []) ≠ s; rw [if_neg hc]; exact fun e => hs e.symm)
  have cP := fun wx (hb : Bl w wx) => place_at wx P ts en c p (h.step hb)
  have cW := fun wx (hb : Bl w wx) a b => wrong_no wx P ts en c p a b (h.step hb) hc
  clear h hs hc
  generalize tx s = S at *
  go_enter Try.func18, Try.ntmps18
  go_wp2_with fail
  refine cT.mono ?_
  rintro e w2 ⟨rfl, hb⟩
  go_wp2_with fail
  refine (cP _ hb).mono ?_
  rintro e w3 ⟨rfl, rfl⟩
  go_wp2_with fail
  refine (cW _ hb _ _).mono ?_
  rintro e w4 ⟨rfl, hb4⟩
  go_wp2
  exact bodyPost_end (results_none rfl _ _ _) rfl ⟨rfl, hb.trans hb4⟩
set_option maxRecDepth 10000 in
theorem single_off (w : World) (P : Nat) (ts : List Tk) (en : Nat) (c p d : Int) (h : Ey w P ts en c p) (hc : c ≠ 0) :
    Calls Try.prog 56 #[.pointer (some ⟨P, 0, none⟩), .int .i64 d] w fun e w' => e = .returned (.pointer none) ∧ Bl w w' := by
  have cP := place_at w P ts en c p h
  have cT := text_at w P ts en c p h
  have cS := fun wx (hb : Bl w wx) => stop_at wx P ts en c p (h.step hb)
  have hc' : (c == 0) = false := by rw [beq_eq_false_iff_ne]; exact hc
  rw [hc', show (!false) = true from rfl] at cS
  clear h hc hc'
  generalize tx (see c en ts) = S at *
  go_enter Try.func56, Try.ntmps56
  go_wp2_with fail
  refine cP.mono ?_
  rintro e w2 ⟨rfl, rfl⟩
  go_wp2_with fail
  refine cT.mono ?_
  rintro e w3 ⟨rfl, hb3⟩
  go_wp2_with fail
  refine (cS _ hb3).mono ?_
  rintro e w4 ⟨rfl, hb4⟩
  go_wp2
  go_ret
  exact ⟨rfl, hb3.trans hb4⟩
set_option maxRecDepth 10000 in
theorem expr_off (w : World) (P : Nat) (ts : List Tk) (en : Nat) (c p m d : Int) (h : Ey w P ts en c p) (hc : c ≠ 0) :
    Calls Try.prog 49 #[.pointer (some ⟨P, 0, none⟩), .int .i64 m, .int .i64 d] w fun e w' => e = .returned (.pointer none) ∧ Bl w w' := by
  have cP := single_off w P ts en c p d h hc
  have cS := fun wx (hb : Bl w wx) => stop_at wx P ts en c p (h.step hb)
  have hc' : (c == 0) = false := by rw [beq_eq_false_iff_ne]; exact hc
  rw [hc', show (!false) = true from rfl] at cS
  clear h hc hc'
  go_enter Try.func49, Try.ntmps49
  go_wp2_with fail
  refine cP.mono ?_
  rintro e w2 ⟨rfl, hb2⟩
  go_wp2
  go_loopw [7] (fun v7 wr => v7 = .pointer none ∧ Hid (Bl w wr)) (fun _ _ => 0)
  case atStart => exact ⟨rfl, hb2⟩
  case round =>
    obtain ⟨rfl, HB⟩ := hrel
    go_wp2_with fail
    refine (cS _ HB.out).mono ?_
    rintro e w3 ⟨rfl, hb3⟩
    go_wp2
    go_ret
    exact ⟨rfl, HB.out.trans hb3⟩
end Go.Proofs.Ytpanodaecjlgaaa.ex
/- The document's reader: one thing alone. -/
namespace Go.Proofs.Ytpanodaecjlgaaa.ex
set_option linter.unusedVariables false
open Go.ChangeShapes Go.WideShapes Go.ChangeAt Go.RowKit
open mem lx

/-- What the document's reader answers. -/
def Xans (P en : Nat) (ts : List Tk) (w : World) (q : Res) (e : Ending) (w' : World) : Prop :=
  Gp P w w' ∧ match q with
  | .ok (x, r) => ∃ v, e = .returned v ∧ IsX w' v x ∧ Ey w' P r en 0 (-1) ∧ r.length < ts.length
  | .error (c, p) => ∃ o ts', e = .returned (.pointer o) ∧ Ey w' P ts' en c (p : Int) ∧ ts'.length ≤ ts.length ∧ c ≠ 0
theorem sg_is {f d en : Nat} {ts : List Tk} {q : Res} (hq : sg nb en (f + 1) d ts = some q) :
    (isN (hd en ts).t = true → q = if 12 < (hd en ts).t.length then .error (4, (hd en ts).a) else .ok (.nam (hd en ts).a (hd en ts).t, ts.tail)) ∧
    (isN (hd en ts).t = false → isU (hd en ts).t = true → q = if (nb (hd en ts).t).2 = 0 then .ok (.num (hd en ts).a (nb (hd en ts).t).1, ts.tail) else .error ((nb (hd en ts).t).2, (hd en ts).a)) ∧
    (isN (hd en ts).t = false → isU (hd en ts).t = false → (hd en ts).t = [40] → ∃ q1, (d = 8 ∨ ce nb en f 1 (d + 1) ts.tail = some q1) ∧ q = brk en (hd en ts).a d q1) ∧
    (isN (hd en ts).t = false → isU (hd en ts).t = false → ¬ (hd en ts).t = [40] → q = .error (3, (hd en ts).a)) := by
  cases ts with
  | nil =>
    rw [sg] at hq
    injection hq with hq
    refine ⟨fun h => ?_, fun _ h => ?_, fun _ _ h => ?_, fun _ _ _ => hq.symm⟩
    · exact absurd h (by show ¬ isN [] = true; decide)
    · exact absurd h (by show ¬ isU [] = true; decide)
    · exact absurd h (by show ¬ ([] : List UInt8) = [40]; decide)
  | cons t r =>
    rw [show hd en (t :: r) = t from rfl, show (t :: r).tail = r from rfl]
    rw [sg] at hq
    refine ⟨fun h1 => ?_, fun h1 h2 => ?_, fun h1 h2 h3 => ?_, fun h1 h2 h3 => ?_⟩
    · rw [if_pos h1] at hq
      split at hq
      · rename_i h; rw [if_pos h]; injection hq with hq; exact hq.symm
      · rename_i h; rw [if_neg h]; injection hq with hq; exact hq.symm
    · rw [if_neg (by rw [h1]; decide), if_pos h2] at hq
      split at hq
      · rename_i h; rw [if_pos h]; injection hq with hq; exact hq.symm
      · rename_i h; rw [if_neg h]; injection hq with hq; exact hq.symm
    · rw [if_neg (by rw [h1]; decide), if_neg (by rw [h2]; decide), if_pos h3] at hq
      split at hq
      · rename_i h8
        injection hq with hq
        exact ⟨.error (0, 0), Or.inl h8, by unfold brk; rw [if_pos h8]; exact hq.symm⟩
      · rename_i h8
        split at hq
        · cases hq
        · rename_i e hr
          injection hq with hq
          exact ⟨_, Or.inr hr, by rw [brk_err h8]; exact hq.symm⟩
        · rename_i x r' hr
          split at hq
          · rename_i h5
            injection hq with hq
            exact ⟨_, Or.inr hr, by rw [brk_yes h8 h5]; exact hq.symm⟩
          · rename_i h5
            injection hq with hq
            exact ⟨_, Or.inr hr, by rw [brk_no h8 h5]; exact hq.symm⟩
    · rw [if_neg (by rw [h1]; decide), if_neg (by rw [h2]; decide), if_neg h3] at hq
      injection hq with hq
      exact hq.symm
theorem hd_cons_of {en : Nat} {ts : List Tk} (h : (hd en ts).t ≠ []) : ∃ r, ts = hd en ts :: r := by
  cases ts with
  | nil => exact absurd rfl h
  | cons t r => exact ⟨r, rfl⟩
/-- What a box of an expression is. -/
theorem box_new (w : World) (a b c : Int) (n o : List UInt8) (S U : ByteArray) (hS : S = tx n) (hU : U = tx o) (l r : Value) : (w.alloc (.cells #[.int .i64 a, .int .i64 b, .int .i64 c, .string S, .string U, l, r] 74)).heap[w.heap.size]? = some (cellsX a b c n o l r) := by
  rw [new_at, hS, hU]
  rfl
set_option maxRecDepth 10000 in
set_option maxHeartbeats 2000000 in
theorem single_at (f P en d : Nat) (ts : List Tk) (q : Res) (w : World) (hE : Ey w P ts en 0 (-1)) (h8 : d ≤ 8) (hq : sg nb en (f + 1) d ts = some q)
    (cE : ∀ (q1 : Res) (d : Nat) (ts : List Tk) wx, Ey wx P ts en 0 (-1) → d ≤ 8 → ce nb en f 1 d ts = some q1 → Calls Try.prog 49 #[.pointer (some ⟨P, 0, none⟩), .int .i64 1, .int .i64 (d : Int)] wx fun e w' => Xans P en ts wx q1 e w') :
    Calls Try.prog 56 #[.pointer (some ⟨P, 0, none⟩), .int .i64 (d : Int)] w fun e w' => Xans P en ts w q e w' := by
  have cP := place_at w P ts en 0 (-1) hE
  have cT := text_at w P ts en 0 (-1) hE
  have cS := fun wx (hb : Bl w wx) => stop_at wx P ts en 0 (-1) (hE.step hb)
  rw [show see 0 en ts = (hd en ts).t from if_pos rfl] at cT
  rw [show (!((0 : Int) == 0)) = false from rfl] at cS
  have HE : Hid (Ey w P ts en 0 (-1)) := hE
  clear hE
  obtain ⟨T, hT⟩ : ∃ T, T = hd en ts := ⟨_, rfl⟩
  rw [← hT] at cT cP
  have hone := sg_is hq
  rw [← hT] at hone
  obtain ⟨o1, o2, o3, o4⟩ := hone
  have hcons : T.t ≠ [] → ∃ r, ts = T :: r := by rw [hT]; exact hd_cons_of
  have hTz : T.t.length ≤ 3000 := by
    by_cases h : T.t = []
    · rw [h]; simp
    · obtain ⟨r, hr⟩ := hcons h
      exact (HE.out.tok T (by rw [hr]; simp)).2
  have cN := IsName_at (tx T.t)
  rw [L_tx, isN_nmb] at cN
  have htl := tl_tx T.t
  have hsz : (tx T.t).size = T.t.length := tx_size _
  have HT : Hid (T = hd en ts) := hT
  clear hq hT
  have HNB := nb_is T.t
  obtain ⟨S, hS⟩ : ∃ S, S = tx T.t := ⟨_, rfl⟩
  rw [← hS] at cT cN htl hsz HNB
  have HS : Hid (S = tx T.t) := hS
  clear hS
  have cW := fun wx (hb : Bl w wx) a b => wrong_yes wx P ts en (-1) a b (HE.out.step hb)
  go_enter Try.func56, Try.ntmps56
  go_wp2_with fail
  refine cP.mono ?_
  rintro e w1 ⟨rfl, hw1⟩
  obtain rfl := hw1.symm
  go_wp2_with fail
  refine cT.mono ?_
  rintro e w2 ⟨rfl, hb2⟩
  go_wp2_with fail
  refine (cS _ hb2).mono ?_
  rintro e w3 ⟨rfl, hb3⟩
  have HB : Hid (Bl w w3) := hb2.trans hb3
  clear hb2 hb3 cP cT cS
  by_cases h40 : T.t = [40]
  · have h1 : isN T.t = false := by rw [h40]; decide
    have h2 : isU T.t = false := by rw [h40]; decide
    obtain ⟨q1, hr1, hq'⟩ := o3 h1 h2 h40
    subst hq'
    rw [h40] at htl
    obtain ⟨r, hr⟩ := hcons (by rw [h40]; simp)
    clear o1 o2 o3 o4 hcons hsz HNB cN h1 h2
    by_cases hd8 : d = 8
    · subst hd8
      clear hr1
      have HB8 : Hid (brk en T.a 8 q1 = .error (4, T.a)) := by unfold brk; rw [if_pos rfl]; rfl
      have cX := fun wx c p (h : Ey wx P ts en c p) (hc : c ≠ 0) => take_no wx P ts en c p [40] h (by show (if c = 0 then (hd en ts).t else []) ≠ [40]; rw [if_neg hc]; simp)
      go_wp2_with fail
      refine (cW _ HB.out _ _).mono ?_
      rintro e w4 ⟨rfl, hE4, hg4⟩
      have HE4 : Hid (Ey w4 P ts en 4 (T.a : Int) ∧ Gp P w w4) := ⟨hE4, (Gp.bl HB.out).trans hg4⟩
      clear hE4 hg4
      go_wp2_with fail
      refine (cX _ _ _ HE4.out.1 (by decide)).mono ?_
      rintro e w5 ⟨rfl, hb5⟩
      go_wp2_with fail
      refine (expr_off w5 P ts en 4 (T.a : Int) _ _ (HE4.out.1.step hb5) (by decide)).mono ?_
      rintro e w6 ⟨rfl, hb6⟩
      go_wp2_with fail
      refine (must_off w6 P ts en 4 (T.a : Int) [41] (HE4.out.1.step (hb5.trans hb6)) (by decide) (by simp)).mono ?_
      rintro e w7 ⟨rfl, hb7⟩
      go_wp2
      go_ret
      rw [HB8.out]
      exact ⟨HE4.out.2.trans (Gp.bl ((hb5.trans hb6).trans hb7)), none, ts, rfl, HE4.out.1.step ((hb5.trans hb6).trans hb7), Nat.le_refl _, by decide⟩
    · have hne : ¬ (8 : Int) ≤ (d : Int) := by omega
      have hr1' : ce nb en f 1 (d + 1) ts.tail = some q1 := by
        rcases hr1 with h | h
        · exact absurd h hd8
        · exact h
      have htail : ts.tail = r := by rw [hr]; rfl
      rw [htail] at hr1'
      have cX := fun wx (hb : Bl w wx) => take_yes wx P T r en (-1) (by rw [← hr]; exact HE.out.step hb)
      rw [h40] at cX
      have cR := fun wx (h : Ey wx P r en 0 (-1)) => cE q1 (d + 1) r wx h (by omega) hr1'
      rw [show (((d + 1 : Nat) : Nat) : Int) = (d : Int) + 1 by omega] at cR
      have HR : Hid (ts = T :: r) := hr
      clear hr hr1 hr1' htail cE cW
      go_wp2_with fail
      refine (cX _ HB.out).mono ?_
      rintro e w4 ⟨rfl, hE4, hg4⟩
      have HE4 : Hid (Ey w4 P r en 0 (-1) ∧ Gp P w w4) := ⟨hE4, (Gp.bl HB.out).trans hg4⟩
      clear hE4 hg4 cX
      go_wp2_with fail
      refine (cR _ HE4.out.1).mono ?_
      rintro e w5 ⟨hg5, hans⟩
      cases q1 with
      | error cp =>
        obtain ⟨c, p⟩ := cp
        obtain ⟨o, ts', rfl, hE5, hl5, hc⟩ := hans
        have HB8 : Hid (brk en T.a d (.error (c, p)) = .error (c, p)) := brk_err hd8
        have HE5 : Hid (Ey w5 P ts' en c (p : Int) ∧ Gp P w w5 ∧ ts'.length ≤ r.length) := ⟨hE5, HE4.out.2.trans hg5, hl5⟩
        have cM := must_off w5 P ts' en c (p : Int) [41] hE5 hc (by simp)
        clear hE5 hg5 hl5 cR
        go_wp2_with fail
        refine cM.mono ?_
        rintro e w6 ⟨rfl, hb6⟩
        go_wp2
        go_ret
        rw [HB8.out]
        exact ⟨HE5.out.2.1.trans (Gp.bl hb6), o, ts', rfl, HE5.out.1.step hb6, by rw [HR.out]; have := HE5.out.2.2; simp; omega, hc⟩
      | ok xr =>
        obtain ⟨x, r'⟩ := xr
        obtain ⟨v, rfl, hx5, hE5, hl5⟩ := hans
        obtain ⟨vb, rfl, _⟩ := hx5.ptr
        have HE5 : Hid (Ey w5 P r' en 0 (-1) ∧ Gp P w w5 ∧ r'.length < r.length ∧ IsX w5 (.pointer (some ⟨vb, 0, none⟩)) x) := ⟨hE5, HE4.out.2.trans hg5, hl5, hx5⟩
        by_cases h41 : (hd en r').t = [41]
        · have HB8 : Hid (brk en T.a d (.ok (x, r')) = .ok (x, r'.tail)) := brk_yes hd8 h41
          obtain ⟨r2, hr2⟩ := hd_cons_of (en := en) (ts := r') (by rw [h41]; simp)
          have cM := must_yes w5 P (hd en r') r2 en (-1) (by rw [← hr2]; exact hE5)
          rw [h41] at cM
          have HR2 : Hid (r' = hd en r' :: r2) := hr2
          clear hE5 hg5 hl5 hx5 hr2 cR h41
          go_wp2_with fail
          refine cM.mono ?_
          rintro e w6 ⟨rfl, hE6, hg6⟩
          go_wp2
          go_ret
          rw [HB8.out]
          have ht : r'.tail = r2 := by rw [HR2.out]; rfl
          refine ⟨HE5.out.2.1.trans hg6, _, rfl, HE5.out.2.2.2.keep (hg6.kxE HE5.out.1), by rw [ht]; exact hE6, ?_⟩
          rw [HR.out, List.length_tail]
          have := HE5.out.2.2.1
          simp
          omega
        · have HB8 : Hid (brk en T.a d (.ok (x, r')) = .error (3, (hd en r').a)) := brk_no hd8 h41
          have cM := must_no w5 P r' en (-1) [41] hE5 h41
          clear hE5 hg5 hl5 hx5 cR h41
          go_wp2_with fail
          refine cM.mono ?_
          rintro e w6 ⟨rfl, hE6, hg6⟩
          go_wp2
          go_ret
          rw [HB8.out]
          exact ⟨HE5.out.2.1.trans hg6, _, r', rfl, hE6, by rw [HR.out]; have := HE5.out.2.2.1; simp; omega, by decide⟩
  · have h40' : (T.t == [40]) = false := by rw [beq_eq_false_iff_ne]; exact h40
    clear cE
    cases h1 : isN T.t with
    | true =>
      have hq' := o1 h1
      rw [h1] at cN
      obtain ⟨r, hr⟩ := hcons (fun e => by rw [e] at h1; exact absurd h1 (by decide))
      clear o1 o2 o3 o4 hcons HNB h40
      by_cases h12 : 12 < T.t.length
      · rw [if_pos h12] at hq'
        subst hq'
        rw [← hsz] at h12
        have h12' : (12 : Int) < ((S).size : Int) := by omega
        go_wp2_with fail
        refine (cN _).mono ?_
        rintro e w4 ⟨rfl, rfl⟩
        go_wp2_with fail
        refine (cW _ HB.out _ _).mono ?_
        rintro e w4 ⟨rfl, hE4, hg4⟩
        have HE4 : Hid (Ey w4 P ts en 4 (T.a : Int) ∧ Gp P w w4) := ⟨hE4, (Gp.bl HB.out).trans hg4⟩
        clear hE4 hg4
        go_wp2_with fail
        refine (pass_no w4 P ts en 4 (T.a : Int) HE4.out.1 (by decide)).mono ?_
        rintro e w5 ⟨rfl, hb5⟩
        go_wp2
        go_ret
        exact ⟨(HE4.out.2.trans (Gp.bl hb5)).alloc _, _, ts, rfl, (HE4.out.1.step hb5).step ((Bl.refl _).alloc _), Nat.le_refl _, by decide⟩
      · rw [if_neg h12] at hq'
        subst hq'
        rw [← hsz] at h12
        have h12' : ¬ (12 : Int) < ((S).size : Int) := by omega
        have cX := fun wx (hb : Bl w wx) => pass_yes wx P T r en (-1) (by rw [← hr]; exact HE.out.step hb)
        rw [← HS.out] at cX
        have HR : Hid (ts = T :: r) := hr
        clear hr cW hsz
        go_wp2_with fail
        refine (cN _).mono ?_
        rintro e w4 ⟨rfl, rfl⟩
        go_wp2_with fail
        refine (cX _ HB.out).mono ?_
        rintro e w4 ⟨rfl, hE4, hg4⟩
        go_wp2
        go_ret
        refine ⟨((Gp.bl HB.out).trans hg4).alloc _, _, rfl, ⟨_, rfl, box_new w4 2 _ 0 _ [] _ _ HS.out rfl _ _⟩, ?_, ?_⟩
        · rw [HR.out]; exact hE4.step ((Bl.refl _).alloc _)
        · rw [HR.out]; simp
    | false =>
      rw [h1] at cN
      cases h2 : isU T.t with
      | true =>
        have hq' := o2 h1 h2
        obtain ⟨r, hr⟩ := hcons (fun e => by rw [e] at h2; exact absurd h2 (by decide))
        have cM := fun w => digs.refNumber_at S (nb T.t).1 (nb T.t).2 w (by omega) HNB
        obtain ⟨c, rr, hcr⟩ : ∃ c rr, T.t = c :: rr := by
          cases h : T.t with
          | nil => rw [h] at h2; exact absurd h2 (by decide)
          | cons c rr => exact ⟨c, rr, rfl⟩
        have hs0 : 0 < S.size := by rw [hsz, hcr]; simp
        have e1 : (((S[0]'hs0).toNat : Nat) : Int) = (c.toNat : Int) := by
          have : S = tx (c :: rr) := by rw [HS.out, hcr]
          subst this
          rfl
        have cD := refDigit_at (c.toNat : Int)
        have hdg : dg (c.toNat : Int) = true := by
          have : isU (c :: rr) = dg (c.toNat : Int) := rfl
          rw [← this, ← hcr]
          exact h2
        rw [hdg] at cD
        have hem : S.toList.isEmpty = false := by rw [htl, hcr]; rfl
        have hem' : (S.toList == []) = false := by rw [htl, hcr]; rfl
        have hb0 : (S.toList == [40]) = false := by rw [htl]; exact h40'
        generalize (c.toNat : Int) = cc at *
        clear o1 o2 o3 o4 hcons HNB h40 hcr hdg htl
        by_cases h0 : (nb T.t).2 = 0
        · rw [if_pos h0] at hq'
          subst hq'
          rw [h0] at cM
          obtain ⟨k, hk⟩ : ∃ k, k = (nb T.t).1 := ⟨_, rfl⟩
          rw [← hk] at cM
          have HK : Hid (k = (nb T.t).1) := hk
          have cX := fun wx (hb : Bl w wx) => pass_yes wx P T r en (-1) (by rw [← hr]; exact HE.out.step hb)
          rw [← HS.out] at cX
          have HR : Hid (ts = T :: r) := hr
          clear hk h0 hr cW hsz
          go_wp2_with fail
          refine (cN _).mono ?_
          rintro e w4 ⟨rfl, rfl⟩
          go_wp2_with fail
          refine (cD _).mono ?_
          rintro e w4 ⟨rfl, rfl⟩
          go_wp2_with fail
          refine (cM _).mono ?_
          rintro e w4 ⟨rfl, hb4⟩
          go_wp2_with fail
          refine (cX _ (HB.out.trans hb4.bl)).mono ?_
          rintro e w5 ⟨rfl, hE5, hg5⟩
          go_wp2
          go_ret
          refine ⟨((Gp.bl (HB.out.trans hb4.bl)).trans hg5).alloc _, _, rfl, ⟨_, rfl, ?_⟩, ?_, ?_⟩
          · rw [← HK.out]; exact box_new w5 1 _ k [] [] _ _ rfl rfl _ _
          · rw [HR.out]; exact hE5.step ((Bl.refl _).alloc _)
          · rw [HR.out]; simp
        · rw [if_neg h0] at hq'
          subst hq'
          obtain ⟨k, hk⟩ : ∃ k, k = (nb T.t).2 := ⟨_, rfl⟩
          obtain ⟨k1, hk1⟩ : ∃ k1, k1 = (nb T.t).1 := ⟨_, rfl⟩
          rw [← hk, ← hk1] at cM
          rw [← hk] at h0
          have HK : Hid (k = (nb T.t).2) := hk
          have h0' : (k == 0) = false := by rw [beq_eq_false_iff_ne]; exact h0
          have cW' := fun wx (hb : Bl w wx) => cW wx hb k (T.a : Int)
          clear hk hk1 hr cW hsz
          go_wp2_with fail
          refine (cN _).mono ?_
          rintro e w4 ⟨rfl, rfl⟩
          go_wp2_with fail
          refine (cD _).mono ?_
          rintro e w4 ⟨rfl, rfl⟩
          go_wp2_with fail
          refine (cM _).mono ?_
          rintro e w4 ⟨rfl, hb4⟩
          go_wp2_with fail
          refine (cW' _ (HB.out.trans hb4.bl)).mono ?_
          rintro e w5 ⟨rfl, hE5, hg5⟩
          have HE5 : Hid (Ey w5 P ts en k (T.a : Int) ∧ Gp P w w5) := ⟨hE5, (Gp.bl (HB.out.trans hb4.bl)).trans hg5⟩
          clear hE5 hg5 hb4
          go_wp2_with fail
          refine (pass_no w5 P ts en k (T.a : Int) HE5.out.1 h0).mono ?_
          rintro e w6 ⟨rfl, hb6⟩
          go_wp2
          go_ret
          refine ⟨(HE5.out.2.trans (Gp.bl hb6)).alloc _, ?_⟩
          rw [← HK.out]
          exact ⟨_, ts, rfl, (HE5.out.1.step hb6).step ((Bl.refl _).alloc _), Nat.le_refl _, h0⟩
      | false =>
        have hq' := o4 h1 h2 h40
        subst hq'
        clear o1 o2 o3 o4 HNB h40
        cases hTt : T.t with
        | nil =>
          have hem : S.toList.isEmpty = true := by rw [htl, hTt]; rfl
          have hem' : (S.toList == []) = true := by rw [htl, hTt]; rfl
          have hb0 : (S.toList == [40]) = false := by rw [htl]; exact h40'
          clear hcons htl hsz
          go_wp2_with fail
          refine (cN _).mono ?_
          rintro e w4 ⟨rfl, rfl⟩
          go_wp2_with fail
          refine (cW _ HB.out _ _).mono ?_
          rintro e w4 ⟨rfl, hE4, hg4⟩
          go_wp2
          go_ret
          exact ⟨(Gp.bl HB.out).trans hg4, none, ts, rfl, hE4, Nat.le_refl _, by decide⟩
        | cons c rr =>
          have hs0 : 0 < S.size := by rw [hsz, hTt]; simp
          have e1 : (((S[0]'hs0).toNat : Nat) : Int) = (c.toNat : Int) := by
            have : S = tx (c :: rr) := by rw [HS.out, hTt]
            subst this
            rfl
          have cD := refDigit_at (c.toNat : Int)
          have hdg : dg (c.toNat : Int) = false := by
            have : isU (c :: rr) = dg (c.toNat : Int) := rfl
            rw [← this, ← hTt]
            exact h2
          rw [hdg] at cD
          have hem : S.toList.isEmpty = false := by rw [htl, hTt]; rfl
          have hem' : (S.toList == []) = false := by rw [htl, hTt]; rfl
          have hb0 : (S.toList == [40]) = false := by rw [htl]; exact h40'
          generalize (c.toNat : Int) = cc at *
          clear hcons htl hsz hTt hdg
          go_wp2_with fail
          refine (cN _).mono ?_
          rintro e w4 ⟨rfl, rfl⟩
          go_wp2_with fail
          refine (cD _).mono ?_
          rintro e w4 ⟨rfl, rfl⟩
          go_wp2_with fail
          refine (cW _ HB.out _ _).mono ?_
          rintro e w4 ⟨rfl, hE4, hg4⟩
          go_wp2
          go_ret
          exact ⟨(Gp.bl HB.out).trans hg4, none, ts, rfl, hE4, Nat.le_refl _, by decide⟩
end Go.Proofs.Ytpanodaecjlgaaa.ex
