/- What the document's own DigitsParse answers. -/
import Derived.Test.YtncmpjdapngmpaaDoorRefDig1
import Derived.Test.YtncmpjdapngmpaaDoorDigs2
import Derived.Laws.Bits64b
import Derived.Laws.Externs
namespace Go.Proofs.YtncmpjdapngmpaaDoor.digs
open Go.ChangeShapes Go.WideShapes Go.ChangeAt Go.RowKit
open mem dig

theorem hide {p : Prop} (h : p) : Hid p := h
theorem and32 (a : Nat) (ha : a < 18446744073709551616) : bits .and .u64 (a : Int) 4294967295 = ((a % 4294967296 : Nat) : Int) := by
  have h := bits_and_u64_nat a 4294967295 ha (by omega)
  rw [show a &&& 4294967295 = a % 4294967296 from Nat.and_two_pow_sub_one_eq_mod a 32] at h
  exact h
theorem u64N (a : Nat) (ha : a < 18446744073709551616) : IntKind.u64.wrap (a : Int) = (a : Int) := by rw [IntKind.wrap_u64]; omega
theorem mul64_at (x B H L : Nat) (w : World) (hx : x < 18446744073709551616) (hb : B ≤ 16) (hH : H = x * B / 18446744073709551616) (hL : L = x * B % 18446744073709551616) :
    Calls Tryd.prog 30 #[.int .u64 x, .int .u64 B] w fun e w' => e = .returned (.tuple #[.int .u64 H, .int .u64 L]) ∧ w' = w := by
  have a1 := and32 x hx
  have a2 := and32 B (by omega)
  rw [Nat.mod_eq_of_lt (show B < 4294967296 by omega)] at a2
  obtain ⟨X0, h0⟩ : ∃ X0, X0 = x % 4294967296 := ⟨_, rfl⟩
  obtain ⟨X1, h1⟩ : ∃ X1, X1 = x / 4294967296 := ⟨_, rfl⟩
  obtain ⟨P0, p0⟩ : ∃ P0, P0 = X0 * B := ⟨_, rfl⟩
  obtain ⟨P1, p1⟩ : ∃ P1, P1 = X1 * B := ⟨_, rfl⟩
  have l0 : P0 ≤ X0 * 16 := by rw [p0]; exact Nat.mul_le_mul_left _ hb
  have l1 : P1 ≤ X1 * 16 := by rw [p1]; exact Nat.mul_le_mul_left _ hb
  have hxx : x * B = P1 * 4294967296 + P0 := by
    have e : x = X1 * 4294967296 + X0 := by omega
    rw [e, Nat.add_mul, p0, p1, Nat.mul_right_comm]
  rw [hxx] at hH hL
  obtain ⟨Q0, q0⟩ : ∃ Q0, Q0 = P0 / 4294967296 := ⟨_, rfl⟩
  obtain ⟨T, t⟩ : ∃ T, T = P1 + Q0 := ⟨_, rfl⟩
  obtain ⟨T0, t0⟩ : ∃ T0, T0 = T % 4294967296 := ⟨_, rfl⟩
  rw [← h0] at a1
  have b1 : (x : Int) / 4294967296 = (X1 : Int) := by omega
  have b2 : (B : Int) / 4294967296 = 0 := by omega
  have b3 : IntKind.u64.wrap ((X1 : Int) * (B : Int)) = (P1 : Int) := by rw [← Int.natCast_mul, ← p1]; exact u64N _ (by omega)
  have b4 : IntKind.u64.wrap ((X0 : Int) * (B : Int)) = (P0 : Int) := by rw [← Int.natCast_mul, ← p0]; exact u64N _ (by omega)
  have b5 : (P0 : Int) / 4294967296 = (Q0 : Int) := by omega
  have b6 : IntKind.u64.wrap ((P1 : Int) + (Q0 : Int)) = (T : Int) := by rw [← Int.natCast_add, ← t]; exact u64N _ (by omega)
  have b7 : bits .and .u64 (T : Int) 4294967295 = (T0 : Int) := by rw [t0]; exact and32 T (by omega)
  have b8 : (T : Int) / 4294967296 = (H : Int) := by omega
  have b9 : IntKind.u64.wrap ((x : Int) * (B : Int)) = (L : Int) := by rw [← Int.natCast_mul, hxx, IntKind.wrap_u64]; omega
  have c0 : IntKind.u64.wrap (T0 : Int) = (T0 : Int) := u64N _ (by omega)
  have c1 : (T0 : Int) / 4294967296 = 0 := by omega
  have c2 : IntKind.u64.wrap (H : Int) = (H : Int) := u64N _ (by omega)
  clear hH hL h0 h1 p0 p1 l0 l1 hxx q0 t t0
  go_enter Tryd.func30, Tryd.ntmps30
  go_wp2
  go_ret2
  exact ⟨by simp [*], rfl⟩
theorem add64_run (x y S C : Nat) (hS : S = (x + y) % 18446744073709551616) (hC : C = (x + y) / 18446744073709551616) (w : World) :
    (callFunc 31 #[.int .u64 (x : Int), .int .u64 (y : Int), .int .u64 0]).run Tryd.prog w = .ok (.value (.tuple #[.int .u64 (S : Int), .int .u64 (C : Int)])) w := by
  rw [run_callFunc_extern Tryd.func31 (by kernel_rfl) (by kernel_rfl) (by kernel_rfl) (e := add64Entry) (by kernel_rfl), run_add64 x y 0 (by omega) (by omega) (by omega) (by omega)]
  simp only [Result.andThen]
  have e1 : ((x : Int) + (y : Int) + 0) % 18446744073709551616 = (S : Int) := by omega
  have e2 : ((x : Int) + (y : Int) + 0) / 18446744073709551616 = (C : Int) := by omega
  rw [e1, e2]
/-- What the document's own reader knows behind k digits. -/
def Kn (B : Nat) (s : ByteArray) (k N h : Nat) : Prop := (h = 0 ∧ N = pv B s k) ∨ (h = 1 ∧ 18446744073709551616 ≤ pv B s k)
theorem Kn.step {B : Nat} {s : ByteArray} {k N h D H L S C : Nat} (hb : 2 ≤ B) (h0 : Kn B s k N h) (hD : dv (sb s k) = (D : Int)) (hH : H = N * B / 18446744073709551616) (hL : L = N * B % 18446744073709551616)
    (hS : S = (L + D) % 18446744073709551616) (hC : C = (L + D) / 18446744073709551616) : Kn B s (k + 1) S (if 0 < H + C ∨ 0 < h then 1 else 0) := by
  have e : pv B s (k + 1) = pv B s k * B + D := by rw [pv, hD]; rfl
  rcases h0 with ⟨rfl, rfl⟩ | ⟨rfl, h0⟩
  · by_cases hc : 0 < H + C
    · rw [if_pos (Or.inl hc)]
      refine Or.inr ⟨rfl, ?_⟩
      rw [e]
      omega
    · rw [if_neg (by omega)]
      refine Or.inl ⟨rfl, ?_⟩
      rw [e]
      omega
  · rw [if_pos (Or.inr (by omega))]
    exact Or.inr ⟨rfl, Nat.le_trans h0 (pv_mono B s hb k (k + 1) (by omega))⟩
set_option maxHeartbeats 1000000 in
theorem refParse_good (B : Nat) (s : ByteArray) (w : World) (hs : s.size ≤ 140737488351232) (hb2 : 2 ≤ B) (hb16 : B ≤ 16) (h : okD B s) (v : Nat) (e : Int)
    (hv : (v = pv B s s.size ∧ v < 18446744073709551616 ∧ e = 0) ∨ (18446744073709551616 ≤ pv B s s.size ∧ v = 0 ∧ e = 2)) :
    Calls Tryd.prog 14 #[.string s, .int .i64 B] w fun e' w' => e' = .returned (.tuple #[.int .u64 v, .int .i64 e]) ∧ Gb w w' := by
  have HO : Hid (okD B s) := h
  have HV : Hid ((v = pv B s s.size ∧ v < 18446744073709551616 ∧ e = 0) ∨ (18446744073709551616 ≤ pv B s s.size ∧ v = 0 ∧ e = 2)) := hv
  have hp : 0 < s.size := h.1
  have he : s.toList.isEmpty = false := by rw [isEmpty_at]; exact decide_eq_false (by omega)
  have hw1 : IntKind.i64.wrap ((B : Int) - 1) = (B : Int) - 1 := by rw [IntKind.wrap_i64]; omega
  clear h hv
  go_enter Tryd.func14, Tryd.ntmps14
  go_wp2_with (go_at_call 27; refine (within_yes _ _ _ _ (by omega) (by omega)).mono ?_; rintro e w1 ⟨rfl, rfl⟩)
  go_loopw [6, 7, 8] (fun hi n i wr => ∃ k N h : Nat, k ≤ s.size ∧ i = .int .i64 (k : Int) ∧ n = .int .u64 (N : Int) ∧ hi = .int .u64 (h : Int) ∧ N < 18446744073709551616 ∧ Hid (Kn B s k N h) ∧ Gb w1 wr) (fun _ _ i _ => s.size - (intOf i).toNat)
  case atStart => exact ⟨0, 0, 0, Nat.zero_le _, rfl, rfl, rfl, by omega, Or.inl ⟨rfl, rfl⟩, Gb.refl _⟩
  case round =>
    obtain ⟨k, N, h, hk, rfl, rfl, rfl, hNl, HK, hgb⟩ := hrel
    by_cases hlt : k < s.size
    · have hgk : (((s[k]'hlt).toNat : Nat) : Int) = sb s k := (sb_get s k hlt).symm
      have hb := sb_bd s k
      have hd := HO.out.2 k hlt
      obtain ⟨D, hD⟩ := Int.eq_ofNat_of_zero_le hd.1
      obtain ⟨H, hH⟩ : ∃ H, H = N * B / 18446744073709551616 := ⟨_, rfl⟩
      obtain ⟨L, hL⟩ : ∃ L, L = N * B % 18446744073709551616 := ⟨_, rfl⟩
      obtain ⟨S, hS⟩ : ∃ S, S = (L + D) % 18446744073709551616 := ⟨_, rfl⟩
      obtain ⟨C, hC⟩ : ∃ C, C = (L + D) / 18446744073709551616 := ⟨_, rfl⟩
      have hst := HK.out.step hb2 hD hH hL hS hC
      have hH16 : H ≤ 16 := by
        have : N * B ≤ N * 16 := Nat.mul_le_mul_left _ hb16
        omega
      have hC1 : C ≤ 1 := by omega
      have hSl : S < 18446744073709551616 := by omega
      have hr := add64_run L D S C hS hC
      have hwd : IntKind.u64.wrap (D : Int) = (D : Int) := u64N _ (by omega)
      have hwc : IntKind.u64.wrap ((H : Int) + (C : Int)) = (H : Int) + (C : Int) := by rw [IntKind.wrap_u64]; omega
      have HH : Hid (H = N * B / 18446744073709551616) := hH
      have HL : Hid (L = N * B % 18446744073709551616) := hL
      have HST := hide hst
      have hl0 : (0 : Int) ≤ (D : Int) := by omega
      have hl1 : (D : Int) ≤ (B : Int) - 1 := by omega
      clear hH hL hS hC hst hd
      by_cases hc : 0 < H + C
      · have tc : (0 : Int) < (H : Int) + (C : Int) := by omega
        go_wp2_with (first | (go_at_call_of 27 (Value.int IntKind.i64 16); refine (within_yes _ _ _ _ (by omega) (by omega)).mono ?_; rintro e w1 ⟨rfl, rfl⟩) | (go_at_call 13; refine (refDigit_at _ _ (by omega) (by omega)).mono ?_; rintro e w2 ⟨rfl, g2⟩) | (go_at_call 27; refine (within_yes _ _ _ _ (by omega) (by omega)).mono ?_; rintro e w3 ⟨rfl, rfl⟩) | (go_at_call 30; refine (mul64_at N B H L _ hNl (by omega) HH.out HL.out).mono ?_; rintro e w4 ⟨rfl, rfl⟩))
        go_roundw
        case rel => exact ⟨k + 1, S, 1, by omega, by go_num, rfl, rfl, hSl, by have := HST.out; rwa [if_pos (Or.inl hc)] at this, hgb.trans g2⟩
        case measure => simp [intOf]; omega
      · have tc : ¬ (0 : Int) < (H : Int) + (C : Int) := by omega
        by_cases hh : 0 < h
        · have th : (0 : Int) < (h : Int) := by omega
          go_wp2_with (first | (go_at_call_of 27 (Value.int IntKind.i64 16); refine (within_yes _ _ _ _ (by omega) (by omega)).mono ?_; rintro e w1 ⟨rfl, rfl⟩) | (go_at_call 13; refine (refDigit_at _ _ (by omega) (by omega)).mono ?_; rintro e w2 ⟨rfl, g2⟩) | (go_at_call 27; refine (within_yes _ _ _ _ (by omega) (by omega)).mono ?_; rintro e w3 ⟨rfl, rfl⟩) | (go_at_call 30; refine (mul64_at N B H L _ hNl (by omega) HH.out HL.out).mono ?_; rintro e w4 ⟨rfl, rfl⟩))
          go_roundw
          case rel => exact ⟨k + 1, S, 1, by omega, by go_num, rfl, rfl, hSl, by have := HST.out; rwa [if_pos (Or.inr hh)] at this, hgb.trans g2⟩
          case measure => simp [intOf]; omega
        · obtain rfl : h = 0 := by omega
          go_wp2_with (first | (go_at_call_of 27 (Value.int IntKind.i64 16); refine (within_yes _ _ _ _ (by omega) (by omega)).mono ?_; rintro e w1 ⟨rfl, rfl⟩) | (go_at_call 13; refine (refDigit_at _ _ (by omega) (by omega)).mono ?_; rintro e w2 ⟨rfl, g2⟩) | (go_at_call 27; refine (within_yes _ _ _ _ (by omega) (by omega)).mono ?_; rintro e w3 ⟨rfl, rfl⟩) | (go_at_call 30; refine (mul64_at N B H L _ hNl (by omega) HH.out HL.out).mono ?_; rintro e w4 ⟨rfl, rfl⟩))
          go_roundw
          case rel => exact ⟨k + 1, S, 0, by omega, by go_num, rfl, rfl, hSl, by have := HST.out; rwa [if_neg (by omega)] at this, hgb.trans g2⟩
          case measure => simp [intOf]; omega
    · obtain rfl : k = s.size := by omega
      rcases HK.out with ⟨rfl, hN⟩ | ⟨rfl, hN⟩
      · obtain ⟨hv, _, rfl⟩ : v = pv B s s.size ∧ v < 18446744073709551616 ∧ e = 0 := by
          rcases HV.out with h | h
          · exact h
          · omega
        obtain rfl : N = v := by omega
        clear hN hv HK HV
        go_wp2
        go_ret2
        exact ⟨rfl, hgb⟩
      · obtain ⟨_, rfl, rfl⟩ : 18446744073709551616 ≤ pv B s s.size ∧ v = 0 ∧ e = 2 := by
          rcases HV.out with h | h
          · omega
          · exact h
        clear hN HK HV
        go_wp2
        go_ret2
        exact ⟨rfl, hgb⟩
set_option maxHeartbeats 1000000 in
theorem refParse_bad (B : Nat) (s : ByteArray) (w : World) (hs : s.size ≤ 140737488351232) (hb2 : 2 ≤ B) (hb16 : B ≤ 16) (h : ¬ okD B s) :
    Calls Tryd.prog 14 #[.string s, .int .i64 B] w fun e' w' => e' = .returned (.tuple #[.int .u64 0, .int .i64 3]) ∧ Gb w w' := by
  have HO : Hid (¬ okD B s) := h
  have hw1 : IntKind.i64.wrap ((B : Int) - 1) = (B : Int) - 1 := by rw [IntKind.wrap_i64]; omega
  clear h
  by_cases hp : s.size = 0
  · have he : s.toList.isEmpty = true := by rw [isEmpty_at]; exact decide_eq_true hp
    clear hp
    go_enter Tryd.func14, Tryd.ntmps14
    go_wp2_with (go_at_call 27; refine (within_yes _ _ _ _ (by omega) (by omega)).mono ?_; rintro e w1 ⟨rfl, rfl⟩)
    go_ret2
    exact ⟨rfl, Gb.refl _⟩
  · have he : s.toList.isEmpty = false := by rw [isEmpty_at]; exact decide_eq_false hp
    go_enter Tryd.func14, Tryd.ntmps14
    go_wp2_with (go_at_call 27; refine (within_yes _ _ _ _ (by omega) (by omega)).mono ?_; rintro e w1 ⟨rfl, rfl⟩)
    go_loopw [6, 7, 8] (fun hi n i wr => ∃ k N h : Nat, k ≤ s.size ∧ i = .int .i64 (k : Int) ∧ n = .int .u64 (N : Int) ∧ hi = .int .u64 (h : Int) ∧ N < 18446744073709551616 ∧ h ≤ 1 ∧ Hid (∀ j, j < k → 0 ≤ dv (sb s j) ∧ dv (sb s j) < B) ∧ Gb w1 wr) (fun _ _ i _ => s.size - (intOf i).toNat)
    case atStart => exact ⟨0, 0, 0, Nat.zero_le _, rfl, rfl, rfl, by omega, by omega, fun j hj => by omega, Gb.refl _⟩
    case round =>
      obtain ⟨k, N, h, hk, rfl, rfl, rfl, hNl, hh1, HP, hgb⟩ := hrel
      by_cases hlt : k < s.size
      · have hgk : (((s[k]'hlt).toNat : Nat) : Int) = sb s k := (sb_get s k hlt).symm
        have hb := sb_bd s k
        by_cases hd : 0 ≤ dv (sb s k) ∧ dv (sb s k) < B
        · obtain ⟨D, hD⟩ := Int.eq_ofNat_of_zero_le hd.1
          obtain ⟨H, hH⟩ : ∃ H, H = N * B / 18446744073709551616 := ⟨_, rfl⟩
          obtain ⟨L, hL⟩ : ∃ L, L = N * B % 18446744073709551616 := ⟨_, rfl⟩
          obtain ⟨S, hS⟩ : ∃ S, S = (L + D) % 18446744073709551616 := ⟨_, rfl⟩
          obtain ⟨C, hC⟩ : ∃ C, C = (L + D) / 18446744073709551616 := ⟨_, rfl⟩
          have hH16 : H ≤ 16 := by
            have : N * B ≤ N * 16 := Nat.mul_le_mul_left _ hb16
            omega
          have hC1 : C ≤ 1 := by omega
          have hSl : S < 18446744073709551616 := by omega
          have hr := add64_run L D S C hS hC
          have hwd : IntKind.u64.wrap (D : Int) = (D : Int) := u64N _ (by omega)
          have hwc : IntKind.u64.wrap ((H : Int) + (C : Int)) = (H : Int) + (C : Int) := by rw [IntKind.wrap_u64]; omega
          have HH : Hid (H = N * B / 18446744073709551616) := hH
          have HL : Hid (L = N * B % 18446744073709551616) := hL
          have HP' : Hid (∀ j, j < k + 1 → 0 ≤ dv (sb s j) ∧ dv (sb s j) < B) := fun j hj => by
            rcases Nat.lt_or_ge j k with h | h
            · exact HP.out j h
            · obtain rfl : j = k := by omega
              exact hd
          have hl0 : (0 : Int) ≤ (D : Int) := by omega
          have hl1 : (D : Int) ≤ (B : Int) - 1 := by omega
          clear hH hL hS hC hd
          by_cases hc : 0 < H + C
          · have tc : (0 : Int) < (H : Int) + (C : Int) := by omega
            go_wp2_with (first | (go_at_call_of 27 (Value.int IntKind.i64 16); refine (within_yes _ _ _ _ (by omega) (by omega)).mono ?_; rintro e w1 ⟨rfl, rfl⟩) | (go_at_call 13; refine (refDigit_at _ _ (by omega) (by omega)).mono ?_; rintro e w2 ⟨rfl, g2⟩) | (go_at_call 27; refine (within_yes _ _ _ _ (by omega) (by omega)).mono ?_; rintro e w3 ⟨rfl, rfl⟩) | (go_at_call 30; refine (mul64_at N B H L _ hNl (by omega) HH.out HL.out).mono ?_; rintro e w4 ⟨rfl, rfl⟩))
            go_roundw
            case rel => exact ⟨k + 1, S, 1, by omega, by go_num, rfl, rfl, hSl, by omega, HP', hgb.trans g2⟩
            case measure => simp [intOf]; omega
          · have tc : ¬ (0 : Int) < (H : Int) + (C : Int) := by omega
            by_cases hh : 0 < h
            · have th : (0 : Int) < (h : Int) := by omega
              go_wp2_with (first | (go_at_call_of 27 (Value.int IntKind.i64 16); refine (within_yes _ _ _ _ (by omega) (by omega)).mono ?_; rintro e w1 ⟨rfl, rfl⟩) | (go_at_call 13; refine (refDigit_at _ _ (by omega) (by omega)).mono ?_; rintro e w2 ⟨rfl, g2⟩) | (go_at_call 27; refine (within_yes _ _ _ _ (by omega) (by omega)).mono ?_; rintro e w3 ⟨rfl, rfl⟩) | (go_at_call 30; refine (mul64_at N B H L _ hNl (by omega) HH.out HL.out).mono ?_; rintro e w4 ⟨rfl, rfl⟩))
              go_roundw
              case rel => exact ⟨k + 1, S, 1, by omega, by go_num, rfl, rfl, hSl, by omega, HP', hgb.trans g2⟩
              case measure => simp [intOf]; omega
            · obtain rfl : h = 0 := by omega
              go_wp2_with (first | (go_at_call_of 27 (Value.int IntKind.i64 16); refine (within_yes _ _ _ _ (by omega) (by omega)).mono ?_; rintro e w1 ⟨rfl, rfl⟩) | (go_at_call 13; refine (refDigit_at _ _ (by omega) (by omega)).mono ?_; rintro e w2 ⟨rfl, g2⟩) | (go_at_call 27; refine (within_yes _ _ _ _ (by omega) (by omega)).mono ?_; rintro e w3 ⟨rfl, rfl⟩) | (go_at_call 30; refine (mul64_at N B H L _ hNl (by omega) HH.out HL.out).mono ?_; rintro e w4 ⟨rfl, rfl⟩))
              go_roundw
              case rel => exact ⟨k + 1, S, 0, by omega, by go_num, rfl, rfl, hSl, by omega, HP', hgb.trans g2⟩
              case measure => simp [intOf]; omega
        · have HB : Hid (dv (sb s k) < 0 ∨ (B : Int) - 1 < dv (sb s k)) := by show _ ∨ _; omega
          clear hd
          go_wp2_with (first | (go_at_call 13; refine (refDigit_at _ _ (by omega) (by omega)).mono ?_; rintro e w2 ⟨rfl, g2⟩) | (go_at_call 27; refine (within_no _ _ _ _ HB.out).mono ?_; rintro e w3 ⟨rfl, rfl⟩))
          go_ret2
          exact ⟨rfl, hgb.trans g2⟩
      · obtain rfl : k = s.size := by omega
        exact absurd ⟨by omega, HP.out⟩ HO.out
theorem refParse_at (b : Int) (s : ByteArray) (v : Nat) (e : Int) (w : World) (hs : s.size ≤ 140737488351232) (h : Parsed b s v e) :
    Calls Tryd.prog 14 #[.string s, .int .i64 b] w fun e' w' => e' = .returned (.tuple #[.int .u64 v, .int .i64 e]) ∧ Gb w w' := by
  rcases h with ⟨h1, rfl, rfl⟩ | ⟨h1, h2, rfl, rfl⟩ | ⟨h1, h2, h3, rfl, rfl⟩ | ⟨h1, h2, h3, hv, rfl⟩
  · have H : Hid (b < 2 ∨ 16 < b) := by show _ ∨ _; unfold okB at h1; omega
    clear h1
    go_enter Tryd.func14, Tryd.ntmps14
    go_wp2_with (go_at_call 27; refine (within_no _ _ _ _ H.out).mono ?_; rintro e w1 ⟨rfl, rfl⟩)
    go_ret2
    exact ⟨rfl, Gb.refl _⟩
  all_goals
    have hb2 : 2 ≤ b.toNat := by unfold okB at h1; omega
    have hb16 : b.toNat ≤ 16 := by unfold okB at h1; omega
    obtain ⟨B, rfl⟩ := Int.eq_ofNat_of_zero_le (show 0 ≤ b by unfold okB at h1; omega)
    rw [Int.toNat_natCast] at hb2 hb16 h2
  · exact refParse_bad B s w hs hb2 hb16 h2
  · rw [Int.toNat_natCast] at h3
    exact refParse_good B s w hs hb2 hb16 h2 0 2 (Or.inr ⟨h3, rfl, rfl⟩)
  · rw [Int.toNat_natCast] at h3 hv
    exact refParse_good B s w hs hb2 hb16 h2 v 0 (Or.inl ⟨hv, by omega, rfl⟩)
end Go.Proofs.YtncmpjdapngmpaaDoor.digs
