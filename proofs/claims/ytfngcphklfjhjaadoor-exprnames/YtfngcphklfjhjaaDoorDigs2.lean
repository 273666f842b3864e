/- What Parse of package digits answers. -/
import Derived.Test.YtfngcphklfjhjaaDoorDigs1
import Derived.WalkSpells
namespace Go.Proofs.YtfngcphklfjhjaaDoor.digs
open Go.ChangeShapes Go.WideShapes Go.ChangeAt Go.RowKit
open mem dig

theorem isEmpty_at (s : ByteArray) : s.toList.isEmpty = decide (s.size = 0) := by
  rw [ByteArray.toList_eq]
  have e : s.size = s.data.toList.length := rfl
  rw [e]
  cases s.data.toList <;> simp
theorem digitsOf_yes (B : Nat) (s : ByteArray) (w : World) (hs : s.size ≤ 140737488351232) (h : okD B s) :
    Calls Tryd.prog 88 #[.string s, .int .i64 B] w fun e w' => e = .returned (.bool true) ∧ w' = w := by
  have H : Hid (okD B s) := h
  have hp : 0 < s.size := h.1
  clear h
  go_enter Tryd.func88, Tryd.ntmps88
  go_wp2
  go_loop [9] (fun i => ∃ k : Nat, k ≤ s.size ∧ i = .int .i64 k) (fun i => s.size - (intOf i).toNat)
  case atStart => exact ⟨0, Nat.zero_le _, rfl⟩
  case round =>
    obtain ⟨k, hk, rfl⟩ := hrel
    by_cases hlt : k < s.size
    · have hgk : (((s[k]'hlt).toNat : Nat) : Int) = sb s k := (sb_get s k hlt).symm
      have hb := sb_bd s k
      have hd := H.out.2 k hlt
      go_wp2_with (go_at_call 94; refine (Digit_at _ _ (by omega) (by omega)).mono ?_; rintro e w2 ⟨rfl, rfl⟩)
      go_round
      case rel => exact ⟨k + 1, by omega, by go_num⟩
      case measure => simp [intOf]; omega
    · obtain rfl : k = s.size := by omega
      have he : s.toList.isEmpty = false := by rw [isEmpty_at]; exact decide_eq_false (by omega)
      go_wp2
      go_ret
      exact ⟨by simp, rfl⟩
theorem digitsOf_no (B : Nat) (s : ByteArray) (w : World) (hs : s.size ≤ 140737488351232) (h : ¬ okD B s) :
    Calls Tryd.prog 88 #[.string s, .int .i64 B] w fun e w' => e = .returned (.bool false) ∧ w' = w := by
  have H : Hid (¬ okD B s) := h
  clear h
  go_enter Tryd.func88, Tryd.ntmps88
  go_wp2
  go_loop [9] (fun i => ∃ k : Nat, k ≤ s.size ∧ i = .int .i64 k ∧ Hid (∀ j, j < k → 0 ≤ dv (sb s j) ∧ dv (sb s j) < B)) (fun i => s.size - (intOf i).toNat)
  case atStart => exact ⟨0, Nat.zero_le _, rfl, fun j hj => by omega⟩
  case round =>
    obtain ⟨k, hk, rfl, HP⟩ := hrel
    by_cases hlt : k < s.size
    · have hgk : (((s[k]'hlt).toNat : Nat) : Int) = sb s k := (sb_get s k hlt).symm
      have hb := sb_bd s k
      by_cases hd : 0 ≤ dv (sb s k) ∧ dv (sb s k) < B
      · go_wp2_with (go_at_call 94; refine (Digit_at _ _ (by omega) (by omega)).mono ?_; rintro e w2 ⟨rfl, rfl⟩)
        go_round
        case rel => exact ⟨k + 1, by omega, by go_num, fun j hj => by
          rcases Nat.lt_or_ge j k with h | h
          · exact HP.out j h
          · obtain rfl : j = k := by omega
            exact hd⟩
        case measure => simp [intOf]; omega
      · by_cases hd0 : dv (sb s k) < 0
        · clear hd
          go_wp2_with (go_at_call 94; refine (Digit_at _ _ (by omega) (by omega)).mono ?_; rintro e w2 ⟨rfl, rfl⟩)
          go_ret
          exact ⟨rfl, rfl⟩
        · have hd1 : (B : Int) ≤ dv (sb s k) := by omega
          clear hd
          go_wp2_with (go_at_call 94; refine (Digit_at _ _ (by omega) (by omega)).mono ?_; rintro e w2 ⟨rfl, rfl⟩)
          go_ret
          exact ⟨rfl, rfl⟩
    · obtain rfl : k = s.size := by omega
      have he : s.toList.isEmpty = true := by
        rw [isEmpty_at]
        rcases Nat.eq_zero_or_pos s.size with h | h
        · simpa using h
        · exact absurd ⟨h, HP.out⟩ H.out
      go_wp2
      go_ret
      exact ⟨by simp, rfl⟩
/-- An error, as it is told: none for 0. -/
def errI (e : Int) : Value := if e = 0 then .nilIface else .iface 24 (.int .i64 e)
theorem joined_yes (B : Nat) (s : ByteArray) (w : World) (hs : s.size ≤ 140737488351232) (hb2 : 2 ≤ B) (hb16 : B ≤ 16) (h : okD B s) (hv : pv B s s.size < 18446744073709551616) :
    Calls Tryd.prog 89 #[.string s, .int .u64 B] w fun e w' => e = .returned (.tuple #[.int .u64 (pv B s s.size), .nilIface]) ∧ w' = w := by
  have H : Hid (okD B s) := h
  have HV : Hid (pv B s s.size < 18446744073709551616) := hv
  clear h hv
  go_enter Tryd.func89, Tryd.ntmps89
  go_wp2
  go_loop [6, 11] (fun n i => ∃ k N : Nat, k ≤ s.size ∧ i = .int .i64 (k : Int) ∧ n = .int .u64 (N : Int) ∧ Hid (N = pv B s k)) (fun _ i => s.size - (intOf i).toNat)
  case atStart => exact ⟨0, 0, Nat.zero_le _, rfl, rfl, rfl⟩
  case round =>
    obtain ⟨k, N, hk, rfl, rfl, HN⟩ := hrel
    by_cases hlt : k < s.size
    · have hgk : (((s[k]'hlt).toNat : Nat) : Int) = sb s k := (sb_get s k hlt).symm
      have hb := sb_bd s k
      have hd := H.out.2 k hlt
      obtain ⟨D, hD⟩ := Int.eq_ofNat_of_zero_le hd.1
      have hDl : D < 16 := by omega
      obtain ⟨M, hM⟩ : ∃ M, M = N * B := ⟨_, rfl⟩
      obtain ⟨N', hN'⟩ : ∃ N', N' = M + D := ⟨_, rfl⟩
      have hnx : N' = pv B s (k + 1) := by rw [hN', hM, HN.out, pv, hD]; rfl
      have hml : N' ≤ pv B s s.size := by rw [hnx]; exact pv_mono B s hb2 _ _ (by omega)
      have hvl := HV.out
      have t1 : IntKind.u64.wrap ((N : Int) * (B : Int)) = (M : Int) := by
        have e : (N : Int) * (B : Int) = (M : Int) := by rw [hM]; simp
        rw [e, IntKind.wrap_u64]; omega
      have t2 : IntKind.u64.wrap ((M : Int) + (D : Int)) = (N' : Int) := by rw [IntKind.wrap_u64]; omega
      have t3 : (N : Int) ≤ (18446744073709551615 - (D : Int)) / (B : Int) := (Int.le_ediv_iff_mul_le (by omega)).2 (by
        have e : (N : Int) * (B : Int) = (M : Int) := by rw [hM]; simp
        omega)
      have HX : Hid (N' = pv B s (k + 1)) := hnx
      clear hM hN' hnx hml hvl
      go_wp2_with (go_at_call 94; refine (Digit_at _ _ (by omega) (by omega)).mono ?_; rintro e w2 ⟨rfl, rfl⟩)
      go_round
      case rel => exact ⟨k + 1, N', by omega, by go_num, rfl, HX⟩
      case measure => simp [intOf]; omega
    · obtain rfl : k = s.size := by omega
      have HN' := HN.out
      clear HN
      subst HN'
      go_wp2
      go_ret2
      exact ⟨rfl, rfl⟩
theorem joined_no (B : Nat) (s : ByteArray) (w : World) (hs : s.size ≤ 140737488351232) (hb2 : 2 ≤ B) (hb16 : B ≤ 16) (h : okD B s) (hv : 18446744073709551616 ≤ pv B s s.size) :
    Calls Tryd.prog 89 #[.string s, .int .u64 B] w fun e w' => e = .returned (.tuple #[.int .u64 0, .iface 24 (.int .i64 2)]) ∧ w' = w := by
  have H : Hid (okD B s) := h
  have HV : Hid (18446744073709551616 ≤ pv B s s.size) := hv
  clear h hv
  go_enter Tryd.func89, Tryd.ntmps89
  go_wp2
  go_loop [6, 11] (fun n i => ∃ k N : Nat, k ≤ s.size ∧ i = .int .i64 (k : Int) ∧ n = .int .u64 (N : Int) ∧ N < 18446744073709551616 ∧ Hid (N = pv B s k)) (fun _ i => s.size - (intOf i).toNat)
  case atStart => exact ⟨0, 0, Nat.zero_le _, rfl, rfl, by omega, rfl⟩
  case round =>
    obtain ⟨k, N, hk, rfl, rfl, hNl, HN⟩ := hrel
    by_cases hlt : k < s.size
    · have hgk : (((s[k]'hlt).toNat : Nat) : Int) = sb s k := (sb_get s k hlt).symm
      have hb := sb_bd s k
      have hd := H.out.2 k hlt
      obtain ⟨D, hD⟩ := Int.eq_ofNat_of_zero_le hd.1
      have hDl : D < 16 := by omega
      obtain ⟨M, hM⟩ : ∃ M, M = N * B := ⟨_, rfl⟩
      obtain ⟨N', hN'⟩ : ∃ N', N' = M + D := ⟨_, rfl⟩
      have hnx : N' = pv B s (k + 1) := by rw [hN', hM, HN.out, pv, hD]; rfl
      have e : (N : Int) * (B : Int) = (M : Int) := by rw [hM]; simp
      by_cases hfit : N' < 18446744073709551616
      · have t1 : IntKind.u64.wrap ((N : Int) * (B : Int)) = (M : Int) := by
          rw [e, IntKind.wrap_u64]; omega
        have t2 : IntKind.u64.wrap ((M : Int) + (D : Int)) = (N' : Int) := by rw [IntKind.wrap_u64]; omega
        have t3 : (N : Int) ≤ (18446744073709551615 - (D : Int)) / (B : Int) := (Int.le_ediv_iff_mul_le (by omega)).2 (by omega)
        have HX : Hid (N' = pv B s (k + 1)) := hnx
        clear hM hN' hnx e
        go_wp2_with (go_at_call 94; refine (Digit_at _ _ (by omega) (by omega)).mono ?_; rintro e w2 ⟨rfl, rfl⟩)
        go_round
        case rel => exact ⟨k + 1, N', by omega, by go_num, rfl, hfit, HX⟩
        case measure => simp [intOf]; omega
      · have t3 : (18446744073709551615 - (D : Int)) / (B : Int) < (N : Int) := (Int.ediv_lt_iff_lt_mul (by omega)).2 (by omega)
        clear hM hN' hnx e hfit
        go_wp2_with (go_at_call 94; refine (Digit_at _ _ (by omega) (by omega)).mono ?_; rintro e w2 ⟨rfl, rfl⟩)
        go_ret2
        exact ⟨rfl, rfl⟩
    · obtain rfl : k = s.size := by omega
      exact absurd HV.out (by rw [← HN.out]; omega)
/-- What Parse answers: the number, and which error. -/
def Parsed (b : Int) (s : ByteArray) (v : Nat) (e : Int) : Prop :=
  (¬ okB b ∧ v = 0 ∧ e = 1) ∨ (okB b ∧ ¬ okD b.toNat s ∧ v = 0 ∧ e = 3) ∨ (okB b ∧ okD b.toNat s ∧ 18446744073709551616 ≤ pv b.toNat s s.size ∧ v = 0 ∧ e = 2) ∨
    (okB b ∧ okD b.toNat s ∧ pv b.toNat s s.size < 18446744073709551616 ∧ v = pv b.toNat s s.size ∧ e = 0)
theorem parsed_some (b : Int) (s : ByteArray) : ∃ v e, Parsed b s v e := by
  by_cases h1 : okB b
  · by_cases h2 : okD b.toNat s
    · by_cases h3 : 18446744073709551616 ≤ pv b.toNat s s.size
      · exact ⟨0, 2, Or.inr (Or.inr (Or.inl ⟨h1, h2, h3, rfl, rfl⟩))⟩
      · exact ⟨_, 0, Or.inr (Or.inr (Or.inr ⟨h1, h2, by omega, rfl, rfl⟩))⟩
    · exact ⟨0, 3, Or.inr (Or.inl ⟨h1, h2, rfl, rfl⟩)⟩
  · exact ⟨0, 1, Or.inl ⟨h1, rfl, rfl⟩⟩
theorem Parsed.bd {b : Int} {s : ByteArray} {v : Nat} {e : Int} (h : Parsed b s v e) : v < 18446744073709551616 ∧ 0 ≤ e ∧ e ≤ 3 := by
  rcases h with ⟨_, rfl, rfl⟩ | ⟨_, _, rfl, rfl⟩ | ⟨_, _, _, rfl, rfl⟩ | ⟨_, _, h, rfl, rfl⟩ <;> omega
theorem parse_at (b : Int) (s : ByteArray) (v : Nat) (e : Int) (w : World) (hs : s.size ≤ 140737488351232) (h : Parsed b s v e) :
    Calls Tryd.prog 79 #[.string s, .int .i64 b] w fun e' w' => e' = .returned (.tuple #[.int .u64 v, errI e]) ∧ w' = w := by
  rcases h with ⟨h1, rfl, rfl⟩ | ⟨h1, h2, rfl, rfl⟩ | ⟨h1, h2, h3, rfl, rfl⟩ | ⟨h1, h2, h3, hv, rfl⟩
  · have H : Hid (¬ okB b) := h1
    clear h1
    go_enter Tryd.func79, Tryd.ntmps79
    go_wp2_with (go_at_call 87; refine (known_no _ _ H.out).mono ?_; rintro e w1 ⟨rfl, rfl⟩)
    go_ret2
    exact ⟨rfl, rfl⟩
  all_goals
    have hb2 : 2 ≤ b.toNat := by unfold okB at h1; omega
    have hb16 : b.toNat ≤ 16 := by unfold okB at h1; omega
    obtain ⟨B, rfl⟩ := Int.eq_ofNat_of_zero_le (show 0 ≤ b by unfold okB at h1; omega)
    rw [Int.toNat_natCast] at hb2 hb16 h2
    have HB : Hid (okB (B : Int)) := h1
    clear h1
  · have H : Hid (¬ okD B s) := h2
    clear h2
    go_enter Tryd.func79, Tryd.ntmps79
    go_wp2_with (first | (go_at_call 87; refine (known_yes _ _ HB.out).mono ?_; rintro e w1 ⟨rfl, rfl⟩) | (go_at_call 88; refine (digitsOf_no _ _ _ hs H.out).mono ?_; rintro e w2 ⟨rfl, rfl⟩))
    go_ret2
    exact ⟨rfl, rfl⟩
  · rw [Int.toNat_natCast] at h3
    have H : Hid (okD B s) := h2
    have H3 : Hid (18446744073709551616 ≤ pv B s s.size) := h3
    clear h2 h3
    go_enter Tryd.func79, Tryd.ntmps79
    go_wp2_with (first | (go_at_call 87; refine (known_yes _ _ HB.out).mono ?_; rintro e w1 ⟨rfl, rfl⟩) | (go_at_call 88; refine (digitsOf_yes _ _ _ hs H.out).mono ?_; rintro e w2 ⟨rfl, rfl⟩) | (go_at_call 89; refine (joined_no _ _ _ hs hb2 hb16 H.out H3.out).mono ?_; rintro e w3 ⟨rfl, rfl⟩))
    go_ret2
    exact ⟨rfl, rfl⟩
  · rw [Int.toNat_natCast] at h3 hv
    have H : Hid (okD B s) := h2
    have H3 : Hid (pv B s s.size < 18446744073709551616) := h3
    subst hv
    clear h2 h3
    go_enter Tryd.func79, Tryd.ntmps79
    go_wp2_with (first | (go_at_call 87; refine (known_yes _ _ HB.out).mono ?_; rintro e w1 ⟨rfl, rfl⟩) | (go_at_call 88; refine (digitsOf_yes _ _ _ hs H.out).mono ?_; rintro e w2 ⟨rfl, rfl⟩) | (go_at_call 89; refine (joined_yes _ _ _ hs hb2 hb16 H.out H3.out).mono ?_; rintro e w3 ⟨rfl, rfl⟩))
    go_ret2
    exact ⟨rfl, rfl⟩
end Go.Proofs.YtfngcphklfjhjaaDoor.digs
