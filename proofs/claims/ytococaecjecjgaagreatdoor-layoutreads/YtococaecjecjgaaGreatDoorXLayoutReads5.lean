/- Texts laid together: Digs1, Digs2, Digs3, AsAt, TellAt. -/
import Derived.Test.YtococaecjecjgaaGreatDoorRows
import Derived.Test.YtococaecjecjgaaGreatDoorXLayoutReads1
import Derived.Test.YtococaecjecjgaaGreatDoorXLayoutReads4
import Derived.WalkLawsBesides
import Derived.WalkSpells
/- What Digit and Print of package digits answer. -/
namespace Go.Proofs.YtococaecjecjgaaGreatDoor.digs
open Go.ChangeShapes Go.WideShapes Go.ChangeAt Go.RowKit
open mem dig

theorem ret_int {k : IntKind} {a b : Int} (h : a = b) : Ending.returned (.int k a) = .returned (.int k b) := by rw [h]
/-- Is it a base of digits? -/
def okB (b : Int) : Prop := 2 ≤ b ∧ b ≤ 16
theorem known_yes (b : Int) (w : World) (h : okB b) : Calls Tryz.prog 227 #[.int .i64 b] w fun e w' => e = .returned (.bool true) ∧ w' = w := by
  obtain ⟨h1, h2⟩ := h
  go_enter Tryz.func227, Tryz.ntmps227
  go_wp2
  go_ret
  exact ⟨by simp, rfl⟩
theorem known_no (b : Int) (w : World) (h : ¬ okB b) : Calls Tryz.prog 227 #[.int .i64 b] w fun e w' => e = .returned (.bool false) ∧ w' = w := by
  have h' : b < 2 ∨ 16 < b := by unfold okB at h; omega
  clear h
  rcases h' with h | h
  · go_enter Tryz.func227, Tryz.ntmps227
    go_wp2
    go_ret
    exact ⟨rfl, rfl⟩
  · have hd : decide (b ≤ 16) = false := by simp; omega
    go_enter Tryz.func227, Tryz.ntmps227
    go_wp2
    go_ret
    exact ⟨rfl, rfl⟩
theorem Digit_at (c : Int) (w : World) (h0 : 0 ≤ c) (h1 : c < 256) : Calls Tryz.prog 230 #[.int .u8 c] w fun e w' => e = .returned (.int .i64 (dv c)) ∧ w' = w := by
  go_enter Tryz.func230, Tryz.ntmps230
  go_wp2
  all_goals go_ret
  all_goals exact ⟨ret_int (by unfold dv; (repeat' split) <;> omega), rfl⟩
end Go.Proofs.YtococaecjecjgaaGreatDoor.digs
/- What Parse of package digits answers. -/
namespace Go.Proofs.YtococaecjecjgaaGreatDoor.digs
open Go.ChangeShapes Go.WideShapes Go.ChangeAt Go.RowKit
open mem dig

theorem isEmpty_at (s : ByteArray) : s.toList.isEmpty = decide (s.size = 0) := by
  rw [ByteArray.toList_eq]
  have e : s.size = s.data.toList.length := rfl
  rw [e]
  cases s.data.toList <;> simp
theorem digitsOf_yes (B : Nat) (s : ByteArray) (w : World) (hs : s.size ≤ 140737488351232) (h : okD B s) :
    Calls Tryz.prog 228 #[.string s, .int .i64 B] w fun e w' => e = .returned (.bool true) ∧ w' = w := by
  have H : Hid (okD B s) := h
  have hp : 0 < s.size := h.1
  clear h
  go_enter Tryz.func228, Tryz.ntmps228
  go_wp2
  go_loop [9] (fun i => ∃ k : Nat, k ≤ s.size ∧ i = .int .i64 k) (fun i => s.size - (intOf i).toNat)
  case atStart => exact ⟨0, Nat.zero_le _, rfl⟩
  case round =>
    obtain ⟨k, hk, rfl⟩ := hrel
    by_cases hlt : k < s.size
    · have hgk : (((s[k]'hlt).toNat : Nat) : Int) = sb s k := (sb_get s k hlt).symm
      have hb := sb_bd s k
      have hd := H.out.2 k hlt
      go_wp2_with (go_at_call 230; refine (Digit_at _ _ (by omega) (by omega)).mono ?_; rintro e w2 ⟨rfl, rfl⟩)
      go_round
      case rel => exact ⟨k + 1, by omega, by go_num⟩
      case measure => simp [intOf]; omega
    · obtain rfl : k = s.size := by omega
      have he : s.toList.isEmpty = false := by rw [isEmpty_at]; exact decide_eq_false (by omega)
      go_wp2
      go_ret
      exact ⟨by simp, rfl⟩
theorem digitsOf_no (B : Nat) (s : ByteArray) (w : World) (hs : s.size ≤ 140737488351232) (h : ¬ okD B s) :
    Calls Tryz.prog 228 #[.string s, .int .i64 B] w fun e w' => e = .returned (.bool false) ∧ w' = w := by
  have H : Hid (¬ okD B s) := h
  clear h
  go_enter Tryz.func228, Tryz.ntmps228
  go_wp2
  go_loop [9] (fun i => ∃ k : Nat, k ≤ s.size ∧ i = .int .i64 k ∧ Hid (∀ j, j < k → 0 ≤ dv (sb s j) ∧ dv (sb s j) < B)) (fun i => s.size - (intOf i).toNat)
  case atStart => exact ⟨0, Nat.zero_le _, rfl, fun j hj => by omega⟩
  case round =>
    obtain ⟨k, hk, rfl, HP⟩ := hrel
    by_cases hlt : k < s.size
    · have hgk : (((s[k]'hlt).toNat : Nat) : Int) = sb s k := (sb_get s k hlt).symm
      have hb := sb_bd s k
      by_cases hd : 0 ≤ dv (sb s k) ∧ dv (sb s k) < B
      · go_wp2_with (go_at_call 230; refine (Digit_at _ _ (by omega) (by omega)).mono ?_; rintro e w2 ⟨rfl, rfl⟩)
        go_round
        case rel => exact ⟨k + 1, by omega, by go_num, fun j hj => by
          rcases Nat.lt_or_ge j k with h | h
          · exact HP.out j h
          · obtain rfl : j = k := by omega
            exact hd⟩
        case measure => simp [intOf]; omega
      · by_cases hd0 : dv (sb s k) < 0
        · clear hd
          go_wp2_with (go_at_call 230; refine (Digit_at _ _ (by omega) (by omega)).mono ?_; rintro e w2 ⟨rfl, rfl⟩)
          go_ret
          exact ⟨rfl, rfl⟩
        · have hd1 : (B : Int) ≤ dv (sb s k) := by omega
          clear hd
          go_wp2_with (go_at_call 230; refine (Digit_at _ _ (by omega) (by omega)).mono ?_; rintro e w2 ⟨rfl, rfl⟩)
          go_ret
          exact ⟨rfl, rfl⟩
    · obtain rfl : k = s.size := by omega
      have he : s.toList.isEmpty = true := by
        rw [isEmpty_at]
        rcases Nat.eq_zero_or_pos s.size with h | h
        · simpa using h
        · exact absurd ⟨h, HP.out⟩ H.out
      go_wp2
      go_ret
      exact ⟨by simp, rfl⟩
/-- An error, as it is told: none for 0. -/
def errI (e : Int) : Value := if e = 0 then .nilIface else .iface 28 (.int .i64 e)
theorem joined_yes (B : Nat) (s : ByteArray) (w : World) (hs : s.size ≤ 140737488351232) (hb2 : 2 ≤ B) (hb16 : B ≤ 16) (h : okD B s) (hv : pv B s s.size < 18446744073709551616) :
    Calls Tryz.prog 229 #[.string s, .int .u64 B] w fun e w' => e = .returned (.tuple #[.int .u64 (pv B s s.size), .nilIface]) ∧ w' = w := by
  have H : Hid (okD B s) := h
  have HV : Hid (pv B s s.size < 18446744073709551616) := hv
  clear h hv
  go_enter Tryz.func229, Tryz.ntmps229
  go_wp2
  go_loop [6, 11] (fun n i => ∃ k N : Nat, k ≤ s.size ∧ i = .int .i64 (k : Int) ∧ n = .int .u64 (N : Int) ∧ Hid (N = pv B s k)) (fun _ i => s.size - (intOf i).toNat)
  case atStart => exact ⟨0, 0, Nat.zero_le _, rfl, rfl, rfl⟩
  case round =>
    obtain ⟨k, N, hk, rfl, rfl, HN⟩ := hrel
    by_cases hlt : k < s.size
    · have hgk : (((s[k]'hlt).toNat : Nat) : Int) = sb s k := (sb_get s k hlt).symm
      have hb := sb_bd s k
      have hd := H.out.2 k hlt
      obtain ⟨D, hD⟩ := Int.eq_ofNat_of_zero_le hd.1
      have hDl : D < 16 := by omega
      obtain ⟨M, hM⟩ : ∃ M, M = N * B := ⟨_, rfl⟩
      obtain ⟨N', hN'⟩ : ∃ N', N' = M + D := ⟨_, rfl⟩
      have hnx : N' = pv B s (k + 1) := by rw [hN', hM, HN.out, pv, hD]; rfl
      have hml : N' ≤ pv B s s.size := by rw [hnx]; exact pv_mono B s hb2 _ _ (by omega)
      have hvl := HV.out
      have t1 : IntKind.u64.wrap ((N : Int) * (B : Int)) = (M : Int) := by
        have e : (N : Int) * (B : Int) = (M : Int) := by rw [hM]; simp
        rw [e, IntKind.wrap_u64]; omega
      have t2 : IntKind.u64.wrap ((M : Int) + (D : Int)) = (N' : Int) := by rw [IntKind.wrap_u64]; omega
      have t3 : (N : Int) ≤ (18446744073709551615 - (D : Int)) / (B : Int) := (Int.le_ediv_iff_mul_le (by omega)).2 (by
        have e : (N : Int) * (B : Int) = (M : Int) := by rw [hM]; simp
        omega)
      have HX : Hid (N' = pv B s (k + 1)) := hnx
      clear hM hN' hnx hml hvl
      go_wp2_with (go_at_call 230; refine (Digit_at _ _ (by omega) (by omega)).mono ?_; rintro e w2 ⟨rfl, rfl⟩)
      go_round
      case rel => exact ⟨k + 1, N', by omega, by go_num, rfl, HX⟩
      case measure => simp [intOf]; omega
    · obtain rfl : k = s.size := by omega
      have HN' := HN.out
      clear HN
      subst HN'
      go_wp2
      go_ret2
      exact ⟨rfl, rfl⟩
theorem joined_no (B : Nat) (s : ByteArray) (w : World) (hs : s.size ≤ 140737488351232) (hb2 : 2 ≤ B) (hb16 : B ≤ 16) (h : okD B s) (hv : 18446744073709551616 ≤ pv B s s.size) :
    Calls Tryz.prog 229 #[.string s, .int .u64 B] w fun e w' => e = .returned (.tuple #[.int .u64 0, .iface 28 (.int .i64 2)]) ∧ w' = w := by
  have H : Hid (okD B s) := h
  have HV : Hid (18446744073709551616 ≤ pv B s s.size) := hv
  clear h hv
  go_enter Tryz.func229, Tryz.ntmps229
  go_wp2
  go_loop [6, 11] (fun n i => ∃ k N : Nat, k ≤ s.size ∧ i = .int .i64 (k : Int) ∧ n = .int .u64 (N : Int) ∧ N < 18446744073709551616 ∧ Hid (N = pv B s k)) (fun _ i => s.size - (intOf i).toNat)
  case atStart => exact ⟨0, 0, Nat.zero_le _, rfl, rfl, by omega, rfl⟩
  case round =>
    obtain ⟨k, N, hk, rfl, rfl, hNl, HN⟩ := hrel
    by_cases hlt : k < s.size
    · have hgk : (((s[k]'hlt).toNat : Nat) : Int) = sb s k := (sb_get s k hlt).symm
      have hb := sb_bd s k
      have hd := H.out.2 k hlt
      obtain ⟨D, hD⟩ := Int.eq_ofNat_of_zero_le hd.1
      have hDl : D < 16 := by omega
      obtain ⟨M, hM⟩ : ∃ M, M = N * B := ⟨_, rfl⟩
      obtain ⟨N', hN'⟩ : ∃ N', N' = M + D := ⟨_, rfl⟩
      have hnx : N' = pv B s (k + 1) := by rw [hN', hM, HN.out, pv, hD]; rfl
      have e : (N : Int) * (B : Int) = (M : Int) := by rw [hM]; simp
      by_cases hfit : N' < 18446744073709551616
      · have t1 : IntKind.u64.wrap ((N : Int) * (B : Int)) = (M : Int) := by
          rw [e, IntKind.wrap_u64]; omega
        have t2 : IntKind.u64.wrap ((M : Int) + (D : Int)) = (N' : Int) := by rw [IntKind.wrap_u64]; omega
        have t3 : (N : Int) ≤ (18446744073709551615 - (D : Int)) / (B : Int) := (Int.le_ediv_iff_mul_le (by omega)).2 (by omega)
        have HX : Hid (N' = pv B s (k + 1)) := hnx
        clear hM hN' hnx e
        go_wp2_with (go_at_call 230; refine (Digit_at _ _ (by omega) (by omega)).mono ?_; rintro e w2 ⟨rfl, rfl⟩)
        go_round
        case rel => exact ⟨k + 1, N', by omega, by go_num, rfl, hfit, HX⟩
        case measure => simp [intOf]; omega
      · have t3 : (18446744073709551615 - (D : Int)) / (B : Int) < (N : Int) := (Int.ediv_lt_iff_lt_mul (by omega)).2 (by omega)
        clear hM hN' hnx e hfit
        go_wp2_with (go_at_call 230; refine (Digit_at _ _ (by omega) (by omega)).mono ?_; rintro e w2 ⟨rfl, rfl⟩)
        go_ret2
        exact ⟨rfl, rfl⟩
    · obtain rfl : k = s.size := by omega
      exact absurd HV.out (by rw [← HN.out]; omega)
/-- What Parse answers: the number, and which error. -/
def Parsed (b : Int) (s : ByteArray) (v : Nat) (e : Int) : Prop :=
  (¬ okB b ∧ v = 0 ∧ e = 1) ∨ (okB b ∧ ¬ okD b.toNat s ∧ v = 0 ∧ e = 3) ∨ (okB b ∧ okD b.toNat s ∧ 18446744073709551616 ≤ pv b.toNat s s.size ∧ v = 0 ∧ e = 2) ∨
    (okB b ∧ okD b.toNat s ∧ pv b.toNat s s.size < 18446744073709551616 ∧ v = pv b.toNat s s.size ∧ e = 0)
theorem parsed_some (b : Int) (s : ByteArray) : ∃ v e, Parsed b s v e := by
  by_cases h1 : okB b
  · by_cases h2 : okD b.toNat s
    · by_cases h3 : 18446744073709551616 ≤ pv b.toNat s s.size
      · exact ⟨0, 2, Or.inr (Or.inr (Or.inl ⟨h1, h2, h3, rfl, rfl⟩))⟩
      · exact ⟨_, 0, Or.inr (Or.inr (Or.inr ⟨h1, h2, by omega, rfl, rfl⟩))⟩
    · exact ⟨0, 3, Or.inr (Or.inl ⟨h1, h2, rfl, rfl⟩)⟩
  · exact ⟨0, 1, Or.inl ⟨h1, rfl, rfl⟩⟩
theorem Parsed.bd {b : Int} {s : ByteArray} {v : Nat} {e : Int} (h : Parsed b s v e) : v < 18446744073709551616 ∧ 0 ≤ e ∧ e ≤ 3 := by
  rcases h with ⟨_, rfl, rfl⟩ | ⟨_, _, rfl, rfl⟩ | ⟨_, _, _, rfl, rfl⟩ | ⟨_, _, h, rfl, rfl⟩ <;> omega
theorem parse_at (b : Int) (s : ByteArray) (v : Nat) (e : Int) (w : World) (hs : s.size ≤ 140737488351232) (h : Parsed b s v e) :
    Calls Tryz.prog 222 #[.string s, .int .i64 b] w fun e' w' => e' = .returned (.tuple #[.int .u64 v, errI e]) ∧ w' = w := by
  rcases h with ⟨h1, rfl, rfl⟩ | ⟨h1, h2, rfl, rfl⟩ | ⟨h1, h2, h3, rfl, rfl⟩ | ⟨h1, h2, h3, hv, rfl⟩
  · have H : Hid (¬ okB b) := h1
    clear h1
    go_enter Tryz.func222, Tryz.ntmps222
    go_wp2_with (go_at_call 227; refine (known_no _ _ H.out).mono ?_; rintro e w1 ⟨rfl, rfl⟩)
    go_ret2
    exact ⟨rfl, rfl⟩
  all_goals
    have hb2 : 2 ≤ b.toNat := by unfold okB at h1; omega
    have hb16 : b.toNat ≤ 16 := by unfold okB at h1; omega
    obtain ⟨B, rfl⟩ := Int.eq_ofNat_of_zero_le (show 0 ≤ b by unfold okB at h1; omega)
    rw [Int.toNat_natCast] at hb2 hb16 h2
    have HB : Hid (okB (B : Int)) := h1
    clear h1
  · have H : Hid (¬ okD B s) := h2
    clear h2
    go_enter Tryz.func222, Tryz.ntmps222
    go_wp2_with (first | (go_at_call 227; refine (known_yes _ _ HB.out).mono ?_; rintro e w1 ⟨rfl, rfl⟩) | (go_at_call 228; refine (digitsOf_no _ _ _ hs H.out).mono ?_; rintro e w2 ⟨rfl, rfl⟩))
    go_ret2
    exact ⟨rfl, rfl⟩
  · rw [Int.toNat_natCast] at h3
    have H : Hid (okD B s) := h2
    have H3 : Hid (18446744073709551616 ≤ pv B s s.size) := h3
    clear h2 h3
    go_enter Tryz.func222, Tryz.ntmps222
    go_wp2_with (first | (go_at_call 227; refine (known_yes _ _ HB.out).mono ?_; rintro e w1 ⟨rfl, rfl⟩) | (go_at_call 228; refine (digitsOf_yes _ _ _ hs H.out).mono ?_; rintro e w2 ⟨rfl, rfl⟩) | (go_at_call 229; refine (joined_no _ _ _ hs hb2 hb16 H.out H3.out).mono ?_; rintro e w3 ⟨rfl, rfl⟩))
    go_ret2
    exact ⟨rfl, rfl⟩
  · rw [Int.toNat_natCast] at h3 hv
    have H : Hid (okD B s) := h2
    have H3 : Hid (pv B s s.size < 18446744073709551616) := h3
    subst hv
    clear h2 h3
    go_enter Tryz.func222, Tryz.ntmps222
    go_wp2_with (first | (go_at_call 227; refine (known_yes _ _ HB.out).mono ?_; rintro e w1 ⟨rfl, rfl⟩) | (go_at_call 228; refine (digitsOf_yes _ _ _ hs H.out).mono ?_; rintro e w2 ⟨rfl, rfl⟩) | (go_at_call 229; refine (joined_yes _ _ _ hs hb2 hb16 H.out H3.out).mono ?_; rintro e w3 ⟨rfl, rfl⟩))
    go_ret2
    exact ⟨rfl, rfl⟩
end Go.Proofs.YtococaecjecjgaaGreatDoor.digs
/- What Number of package digits answers. -/
namespace Go.Proofs.YtococaecjecjgaaGreatDoor.digs
open Go.ChangeShapes Go.WideShapes Go.ChangeAt Go.RowKit
open mem dig

/-- Does a text begin so? -/
def pre (s p : ByteArray) : Bool := decide (p.size ≤ s.size) && ((s.extract 0 p.size).toList == p.toList)
def rest (s p : ByteArray) (b : Bool) : ByteArray := if b then s.extract p.size s.size else s
theorem cut_at (s p : ByteArray) (b : Bool) (w : World) (_hs : s.size ≤ 140737488351232) (_hp : p.size ≤ 140737488351232) (h : pre s p = b) :
    Calls Tryz.prog 221 #[.string s, .string p] w fun e w' => e = .returned (.tuple #[.string (rest s p b), .bool b]) ∧ w' = w := by
  unfold pre at h
  by_cases h1 : p.size ≤ s.size
  · have h2 : ((s.extract 0 p.size).toList == p.toList) = b := by simpa [h1] using h
    clear h
    cases b
    · go_enter Tryz.func221, Tryz.ntmps221
      go_wp2
      go_ret2
      exact ⟨rfl, rfl⟩
    · go_enter Tryz.func221, Tryz.ntmps221
      go_wp2
      go_ret2
      exact ⟨rfl, rfl⟩
  · obtain rfl : b = false := by simpa [h1] using h.symm
    clear h
    go_enter Tryz.func221, Tryz.ntmps221
    go_wp2
    go_ret2
    exact ⟨rfl, rfl⟩
theorem rest_size (s p : ByteArray) (b : Bool) : (rest s p b).size ≤ s.size := by
  unfold rest
  cases b
  · simp
  · simp [ByteArray.size_extract]
def px : ByteArray := ⟨#[48, 120]⟩
def pb : ByteArray := ⟨#[48, 98]⟩
def pm : ByteArray := ⟨#[45]⟩
/-- What stands behind what tells a base, and that base. -/
def Based (s t : ByteArray) (b : Int) : Prop :=
  (pre s px = true ∧ t = rest s px true ∧ b = 16) ∨ (pre s px = false ∧ pre s pb = true ∧ t = rest s pb true ∧ b = 2) ∨ (pre s px = false ∧ pre s pb = false ∧ t = s ∧ b = 10)
theorem based_some (s : ByteArray) : ∃ t b, Based s t b := by
  cases h1 : pre s px
  · cases h2 : pre s pb
    · exact ⟨s, 10, Or.inr (Or.inr ⟨h1, h2, rfl, rfl⟩)⟩
    · exact ⟨_, 2, Or.inr (Or.inl ⟨h1, h2, rfl, rfl⟩)⟩
  · exact ⟨_, 16, Or.inl ⟨h1, rfl, rfl⟩⟩
theorem Based.size {s t : ByteArray} {b : Int} (h : Based s t b) : t.size ≤ s.size := by
  rcases h with ⟨_, rfl, _⟩ | ⟨_, _, rfl, _⟩ | ⟨_, _, rfl, _⟩
  · exact rest_size _ _ _
  · exact rest_size _ _ _
  · exact Nat.le_refl _
theorem based_at (s t : ByteArray) (b : Int) (w : World) (hs : s.size ≤ 140737488351232) (h : Based s t b) :
    Calls Tryz.prog 223 #[.string s] w fun e w' => e = .returned (.tuple #[.string t, .int .i64 b]) ∧ w' = w := by
  have zx : px.size = 2 := rfl
  have zb : pb.size = 2 := rfl
  have cx : ∀ b w, pre s px = b → Calls Tryz.prog 221 #[.string s, .string ⟨#[48, 120]⟩] w fun e w' => e = .returned (.tuple #[.string (rest s px b), .bool b]) ∧ w' = w := fun b w h => cut_at s px b w hs (by omega) h
  have cb : ∀ b w, pre s pb = b → Calls Tryz.prog 221 #[.string s, .string ⟨#[48, 98]⟩] w fun e w' => e = .returned (.tuple #[.string (rest s pb b), .bool b]) ∧ w' = w := fun b w h => cut_at s pb b w hs (by omega) h
  rcases h with ⟨h1, rfl, rfl⟩ | ⟨h1, h2, rfl, rfl⟩ | ⟨h1, h2, rfl, rfl⟩
  · go_enter Tryz.func223, Tryz.ntmps223
    go_wp2_with (go_at_call 221; refine (cx _ _ h1).mono ?_; rintro e w1 ⟨rfl, rfl⟩)
    go_ret2
    exact ⟨rfl, rfl⟩
  · go_enter Tryz.func223, Tryz.ntmps223
    go_wp2_with (first | (go_at_call_of 221 (Value.string (ByteArray.mk #[48, 98])); refine (cb _ _ h2).mono ?_; rintro e w1 ⟨rfl, rfl⟩) | (go_at_call 221; refine (cx _ _ h1).mono ?_; rintro e w1 ⟨rfl, rfl⟩))
    go_ret2
    exact ⟨rfl, rfl⟩
  · go_enter Tryz.func223, Tryz.ntmps223
    go_wp2_with (first | (go_at_call_of 221 (Value.string (ByteArray.mk #[48, 98])); refine (cb _ _ h2).mono ?_; rintro e w1 ⟨rfl, rfl⟩) | (go_at_call 221; refine (cx _ _ h1).mono ?_; rintro e w1 ⟨rfl, rfl⟩))
    go_ret2
    exact ⟨rfl, rfl⟩
/-- What Number answers: of the sign, the number, and Parse's error: the number, and which error. -/
def Told (n : Bool) (v : Nat) (f : Int) (m e : Int) : Prop :=
  (f ≠ 0 ∧ m = 0 ∧ e = f) ∨ (f = 0 ∧ (9223372036854775808 < v ∨ (v = 9223372036854775808 ∧ n = false)) ∧ m = 0 ∧ e = 2) ∨
    (f = 0 ∧ v ≤ 9223372036854775808 ∧ (v = 9223372036854775808 → n = true) ∧ m = (if n then -(v : Int) else (v : Int)) ∧ e = 0)
theorem told_some (n : Bool) (v : Nat) (f : Int) : ∃ m e, Told n v f m e := by
  by_cases h1 : f = 0
  · by_cases h2 : 9223372036854775808 < v ∨ (v = 9223372036854775808 ∧ n = false)
    · exact ⟨0, 2, Or.inr (Or.inl ⟨h1, h2, rfl, rfl⟩)⟩
    · refine ⟨_, 0, Or.inr (Or.inr ⟨h1, by omega, fun hv => ?_, rfl, rfl⟩)⟩
      cases n
      · exact absurd (Or.inr ⟨hv, rfl⟩) h2
      · rfl
  · exact ⟨0, f, Or.inl ⟨h1, rfl, rfl⟩⟩
def Numbered (s : ByteArray) (m e : Int) : Prop := ∃ n t b v f, pre s pm = n ∧ Based (rest s pm n) t b ∧ Parsed b t v f ∧ Told n v f m e
theorem numbered_some (s : ByteArray) : ∃ m e, Numbered s m e := by
  obtain ⟨t, b, hb⟩ := based_some (rest s pm (pre s pm))
  obtain ⟨v, f, hp⟩ := parsed_some b t
  obtain ⟨m, e, ht⟩ := told_some (pre s pm) v f
  exact ⟨m, e, _, t, b, v, f, rfl, hb, hp, ht⟩
theorem ret_pair {a b : Int} {x : Value} (h : a = b) : Ending.returned (.tuple #[.int .i64 a, x]) = .returned (.tuple #[.int .i64 b, x]) := by rw [h]
set_option maxHeartbeats 1000000 in
theorem number_at (s : ByteArray) (m e : Int) (w : World) (hs : s.size ≤ 140737488351232) (h : Numbered s m e) :
    Calls Tryz.prog 213 #[.string s] w fun e' w' => e' = .returned (.tuple #[.int .i64 m, errI e]) ∧ w' = w := by
  obtain ⟨n, t, b, v, f, h1, h2, h3, h4⟩ := h
  have hv := h3.bd
  have hr := rest_size s pm n
  have ht := h2.size
  have cm : ∀ w, Calls Tryz.prog 221 #[.string s, .string ⟨#[45]⟩] w fun e w' => e = .returned (.tuple #[.string (rest s pm n), .bool n]) ∧ w' = w := fun w => cut_at s pm n w hs (show pm.size ≤ _ by show 1 ≤ _; omega) h1
  have cb := fun w => based_at (rest s pm n) t b w (by omega) h2
  have cp := fun w => parse_at b t v f w (by omega) h3
  clear h1 h2 h3
  rcases h4 with ⟨hf, rfl, rfl⟩ | ⟨rfl, h5, rfl, rfl⟩ | ⟨rfl, h5, h6, rfl, rfl⟩
  · have ei : errI e = .iface 28 (.int .i64 e) := if_neg hf
    rw [ei] at cp ⊢
    clear hv hr ht
    go_enter Tryz.func213, Tryz.ntmps213
    go_wp2_with (first | (go_at_call 221; refine (cm _).mono ?_; rintro e w1 ⟨rfl, rfl⟩) | (go_at_call 223; refine (cb _).mono ?_; rintro e w1 ⟨rfl, rfl⟩) | (go_at_call 222; refine (cp _).mono ?_; rintro e w1 ⟨rfl, rfl⟩))
    go_ret2
    exact ⟨rfl, rfl⟩
  · have ei : errI 0 = .nilIface := rfl
    rw [ei] at cp
    have H5 : Hid (9223372036854775808 < v ∨ (v = 9223372036854775808 ∧ n = false)) := h5
    clear h5 hr ht
    by_cases hlt : 9223372036854775808 < v
    · have hl : (9223372036854775808 : Int) < (v : Int) := by omega
      go_enter Tryz.func213, Tryz.ntmps213
      go_wp2_with (first | (go_at_call 221; refine (cm _).mono ?_; rintro e w1 ⟨rfl, rfl⟩) | (go_at_call 223; refine (cb _).mono ?_; rintro e w1 ⟨rfl, rfl⟩) | (go_at_call 222; refine (cp _).mono ?_; rintro e w1 ⟨rfl, rfl⟩))
      go_ret2
      exact ⟨rfl, rfl⟩
    · obtain ⟨rfl, rfl⟩ : v = 9223372036854775808 ∧ n = false := by
        rcases H5.out with h | h
        · omega
        · exact h
      go_enter Tryz.func213, Tryz.ntmps213
      go_wp2_with (first | (go_at_call 221; refine (cm _).mono ?_; rintro e w1 ⟨rfl, rfl⟩) | (go_at_call 223; refine (cb _).mono ?_; rintro e w1 ⟨rfl, rfl⟩) | (go_at_call 222; refine (cp _).mono ?_; rintro e w1 ⟨rfl, rfl⟩))
      go_ret2
      exact ⟨rfl, rfl⟩
  · have ei : errI 0 = .nilIface := rfl
    rw [ei] at cp ⊢
    have hle : ¬ (9223372036854775808 : Int) < (v : Int) := by omega
    have H6 : Hid (v = 9223372036854775808 → n = true) := h6
    clear h6 hr ht
    cases n
    · have hn2 : v ≠ 9223372036854775808 := fun h => by cases H6.out h
      have hne : ((v : Int) == 9223372036854775808) = false := by simp; omega
      go_enter Tryz.func213, Tryz.ntmps213
      go_wp2_with (first | (go_at_call 221; refine (cm _).mono ?_; rintro e w1 ⟨rfl, rfl⟩) | (go_at_call 223; refine (cb _).mono ?_; rintro e w1 ⟨rfl, rfl⟩) | (go_at_call 222; refine (cp _).mono ?_; rintro e w1 ⟨rfl, rfl⟩))
      go_ret2
      exact ⟨rfl, rfl⟩
    · go_enter Tryz.func213, Tryz.ntmps213
      go_wp2_with (first | (go_at_call 221; refine (cm _).mono ?_; rintro e w1 ⟨rfl, rfl⟩) | (go_at_call 223; refine (cb _).mono ?_; rintro e w1 ⟨rfl, rfl⟩) | (go_at_call 222; refine (cp _).mono ?_; rintro e w1 ⟨rfl, rfl⟩))
      all_goals go_ret2
      all_goals exact ⟨ret_pair (by simp only [IntKind.wrap_u64, wrap64]; omega), rfl⟩
end Go.Proofs.YtococaecjecjgaaGreatDoor.digs
/- What errors.As, api.Tell, plain.Place and placed answer at an error with a place (*api.At). -/
namespace Go.Proofs.YtococaecjecjgaaGreatDoor.errs
open Go.RowKit Go.Extern.Stop Go.Stop Go.Extern
open mem
theorem typeOfA (v : Value) (w : World) : (ReflectliteType.typeOf #[.iface 113 v]).run Tryz.prog w = .ok (.iface 230 (.agg #[.pointer (some ⟨8, 113, none⟩)])) w := by kernel_rfl
theorem assignableA (w : World) : (ReflectliteType.relation "AssignableTo" ReflectliteType.assignableTo #[.agg #[.pointer (some ⟨8, 113, none⟩)], .iface 230 (.agg #[.pointer (some ⟨8, 28, none⟩)])]).run Tryz.prog w = .ok (.bool false) w := by kernel_rfl
theorem noAsA (v : Value) (w : World) : (Instr.typeAssert (.iface 113 v) 34 235 true).run Tryz.prog w = .ok (.tuple #[.nilIface, .bool false]) w :=
  run_typeAssert_lacksB Tryz.underlying235 (by kernel_rfl) (by kernel_rfl) v 34 w
theorem unwrapA (v : Value) (w : World) : (Instr.typeAssert (.iface 113 v) 34 117 true).run Tryz.prog w = .ok (.tuple #[.iface 113 v, .bool true]) w :=
  run_typeAssert_hasB Tryz.underlying117 (by kernel_rfl) v 34 w
theorem methodUnwrapA (p : Addr) (w : World) : (Go.method 426 113 (.pointer (some p)) "Unwrap").run Tryz.prog w = .ok (251, .pointer (some p)) w := by kernel_rfl
set_option maxHeartbeats 4000000 in
theorem as_at (n : Int) (b : Nat) (t : Addr) (old : Value) (w : World) (hg : Laid w) (ht0 : w.cell? t = some old) (hf0 : w.frozen? t = false) (hp0 : w.cell? ⟨b, 0, none⟩ = some (.int .i64 n)) :
    Calls Tryz.prog 92 #[.iface 113 (.pointer (some ⟨b, 0, none⟩)), .iface 171 (.pointer (some t))] w fun ev w' => ev = .returned (.bool true) ∧ w' = asW w t n := by
  unfold Laid at hg
  have h6 := @run_callFunc_extern Tryz.prog 121 _ (fun args => ReflectliteValue.unpack (args.getD 0 (.tuple #[]))) Tryz.func121 (by kernel_rfl) (by kernel_rfl) (by kernel_rfl) (by kernel_rfl)
  have h7 := @run_callFunc_extern Tryz.prog 122 _ (ReflectliteValue.methodAny (ReflectliteValue.valueError "reflectlite.Value.Type" 0) (fun t _ _ _ => ReflectliteType.toType t)) Tryz.func122 (by kernel_rfl) (by kernel_rfl) (by kernel_rfl) (by kernel_rfl)
  have h8 := @run_callFunc_extern Tryz.prog 123 _ (ReflectliteValue.method (ReflectliteValue.valueError "reflectlite.Value.IsNil" 0) ReflectliteValue.isNil) Tryz.func123 (by kernel_rfl) (by kernel_rfl) (by kernel_rfl) (by kernel_rfl)
  have h27 := @run_callFunc_extern Tryz.prog 245 _ (ReflectliteType.abiMethod fun t => do pure (.int .u8 (← Rtype.kind t))) Tryz.func245 (by kernel_rfl) (by kernel_rfl) (by kernel_rfl) (by kernel_rfl)
  have h37 := @run_callFunc_extern Tryz.prog 258 _ (ReflectliteType.method ReflectliteType.elem) Tryz.func258 (by kernel_rfl) (by kernel_rfl) (by kernel_rfl) (by kernel_rfl)
  have h38 := @run_callFunc_extern Tryz.prog 259 _ (ReflectliteType.relation "Implements" ReflectliteType.implements_) Tryz.func259 (by kernel_rfl) (by kernel_rfl) (by kernel_rfl) (by kernel_rfl)
  have h10 := @run_callFunc_extern Tryz.prog 151 _ ReflectliteType.typeOf Tryz.func151 (by kernel_rfl) (by kernel_rfl) (by kernel_rfl) (by kernel_rfl)
  have h35 := @run_callFunc_extern Tryz.prog 256 _ (ReflectliteType.relation "AssignableTo" ReflectliteType.assignableTo) Tryz.func256 (by kernel_rfl) (by kernel_rfl) (by kernel_rfl) (by kernel_rfl)
  have h11 := @run_callFunc_extern Tryz.prog 152 _ (ReflectliteValue.method (ReflectliteValue.valueError "reflectlite.Value.Elem" 0) ReflectliteValue.elem) Tryz.func152 (by kernel_rfl) (by kernel_rfl) (by kernel_rfl) (by kernel_rfl)
  have h12 := @run_callFunc_extern Tryz.prog 153 _ ReflectliteValue.set Tryz.func153 (by kernel_rfl) (by kernel_rfl) (by kernel_rfl) (by kernel_rfl)
  have tO := typeOfE
  have mA := methodAssignableTo
  have aE := assignableE
  have vE := valueOfE
  have f6 := valueOfP
  have f7 := typeP
  have mK := methodKind
  have mE := methodElem
  have mI := methodImplements
  have kP := kindP
  have kE := kindE
  have eP := elemP
  have iE := implementsE
  have n8 := isNilP ⟨w.heap.size, 0, none⟩ t ((w.alloc (.cells #[.pointer (some t)] 171)).alloc (.cells #[.pointer (some ⟨8, 171, none⟩), .pointer (some ⟨w.heap.size, 0, none⟩), .int .u64 150] 207)) (by simp)
  have hlt : 1 < w.heap.size := by
    rcases Nat.lt_or_ge 1 w.heap.size with h | h
    · exact h
    · simp [World.cell?, Array.getElem?_eq_none h] at hg
  have hg2 : ((w.alloc (.cells #[.pointer (some t)] 171)).alloc (.cells #[.pointer (some ⟨8, 171, none⟩), .pointer (some ⟨w.heap.size, 0, none⟩), .int .u64 150] 207)).cell? ⟨1, 0, none⟩ = some (.iface 230 (.agg #[.pointer (some ⟨8, 34, none⟩)])) := by
    rw [World.cell?_alloc_lt _ _ ⟨1, 0, none⟩ (by simp <;> omega), World.cell?_alloc_lt _ _ ⟨1, 0, none⟩ hlt]; exact hg
  have htl : t.block < w.heap.size := by
    rcases Nat.lt_or_ge t.block w.heap.size with h | h
    · exact h
    · simp [World.cell?, Array.getElem?_eq_none h] at ht0
  have el := elemVP ⟨w.heap.size, 0, none⟩ t (((w.alloc (.cells #[.pointer (some t)] 171)).alloc (.cells #[.pointer (some ⟨8, 171, none⟩), .pointer (some ⟨w.heap.size, 0, none⟩), .int .u64 150] 207)).alloc (.cells #[.pointer (some ⟨8, 171, none⟩), .pointer (some ⟨w.heap.size, 0, none⟩), .int .u64 150] 207)) (by rw [World.cell?_alloc_lt _ _ ⟨w.heap.size, 0, none⟩ (by simp <;> omega)]; simp)
  have st := setE t ⟨w.heap.size + 1 + 1 + 1, 0, none⟩ n old ((((w.alloc (.cells #[.pointer (some t)] 171)).alloc (.cells #[.pointer (some ⟨8, 171, none⟩), .pointer (some ⟨w.heap.size, 0, none⟩), .int .u64 150] 207)).alloc (.cells #[.pointer (some ⟨8, 171, none⟩), .pointer (some ⟨w.heap.size, 0, none⟩), .int .u64 150] 207)).alloc (.cells #[.int .i64 n] 28))
    (by rw [World.cell?_alloc_at _ _ _ _ (by simp)]; rfl)
    (by rw [World.cell?_alloc_lt _ _ t (by simp <;> omega), World.cell?_alloc_lt _ _ t (by simp <;> omega), World.cell?_alloc_lt _ _ t (by simp <;> omega), World.cell?_alloc_lt _ _ t htl]; exact ht0)
    (by rw [World.frozen?_alloc_old _ _ t (by simp <;> omega), World.frozen?_alloc_old _ _ t (by simp <;> omega), World.frozen?_alloc_old _ _ t (by simp <;> omega), World.frozen?_alloc_old _ _ t (Nat.ne_of_lt htl)]; exact hf0)
  have tA := typeOfA
  have aA := assignableA
  have nA := noAsA
  have uA := unwrapA
  have mU := methodUnwrapA
  have hbl : b < w.heap.size := by
    rcases Nat.lt_or_ge b w.heap.size with h | h
    · exact h
    · simp [World.cell?, Array.getElem?_eq_none h] at hp0
  have hpc : (((w.alloc (.cells #[.pointer (some t)] 171)).alloc (.cells #[.pointer (some ⟨8, 171, none⟩), .pointer (some ⟨w.heap.size, 0, none⟩), .int .u64 150] 207)).alloc (.cells #[.pointer (some ⟨8, 171, none⟩), .pointer (some ⟨w.heap.size, 0, none⟩), .int .u64 150] 207)).cell? ⟨b, 0, none⟩ = some (.int .i64 n) := by
    rw [World.cell?_alloc_lt _ _ ⟨b, 0, none⟩ (by simp <;> omega), World.cell?_alloc_lt _ _ ⟨b, 0, none⟩ (by simp <;> omega), World.cell?_alloc_lt _ _ ⟨b, 0, none⟩ hbl]; exact hp0
  go_enter Tryz.func92, Tryz.ntmps92
  go_wp2
  refine wp_loop_rounds 2 ?_
  rw [rounds_succ]
  go_wp2
  rw [rounds_succ]
  go_wp2
  go_ret
  exact ⟨rfl, rfl⟩
end Go.Proofs.YtococaecjecjgaaGreatDoor.errs
/- What api.Tell, plain.Place and placed answer at an error with a place, and at none. -/
namespace Go.Proofs.YtococaecjecjgaaGreatDoor.errs
open Go.RowKit Go.Extern.Stop Go.Stop Go.Extern
open mem
theorem cell_lt {w : World} {a : Addr} {v : Value} (h : w.cell? a = some v) : a.block < w.heap.size := by
  rcases Nat.lt_or_ge a.block w.heap.size with h1 | h1
  · exact h1
  · simp [World.cell?, Array.getElem?_eq_none h1] at h
theorem cell_gb {w w' : World} (g : Gb w w') {a : Addr} {v : Value} (h : w.cell? a = some v) : w'.cell? a = some v := by
  rw [g.b.cell (p := a) (cell_lt h)]; exact h
theorem as_newAt (n : Int) (b : Nat) (w : World) (hg : Laid w) (hp : w.cell? ⟨b, 0, none⟩ = some (.int .i64 n)) :
    Calls Tryz.prog 92 #[.iface 113 (.pointer (some ⟨b, 0, none⟩)), .iface 171 (.pointer (some ⟨w.heap.size, 0, none⟩))] (w.alloc (.cells #[.int .i64 0] 28)) fun ev w' => ev = .returned (.bool true) ∧ w'.cell? ⟨w.heap.size, 0, none⟩ = some (.int .i64 n) ∧ Gb w w' := by
  refine (as_at n b ⟨w.heap.size, 0, none⟩ (.int .i64 0) (w.alloc (.cells #[.int .i64 0] 28)) (hg.gb ((Gb.refl w).alloc _ _)) (by simp) (by simp) (cell_gb ((Gb.refl w).alloc _ _) hp)).mono ?_
  rintro e w' ⟨rfl, rfl⟩
  refine ⟨rfl, ?_, ?_⟩
  · unfold asW
    refine World.cell?_setCell_same (u := .int .i64 0) _ _ _ ?_
    · rw [World.cell?_alloc_lt _ _ _ (by simp; omega), World.cell?_alloc_lt _ _ _ (by simp; omega), World.cell?_alloc_lt _ _ _ (by simp; omega), World.cell?_alloc_lt _ _ _ (by simp)]
      simp
  · unfold asW
    exact (((((((Gb.refl w).alloc _ _).alloc _ _).alloc _ _).alloc _ _).alloc _ _)).setCell (Nat.le_refl _) _
theorem tell_at (n : Int) (b : Nat) (w : World) (hg : Laid w) (hp : w.cell? ⟨b, 0, none⟩ = some (.int .i64 n)) : Calls Tryz.prog 55 #[.iface 113 (.pointer (some ⟨b, 0, none⟩))] w fun e w' => e = .returned (.int .i64 n) ∧ Gb w w' := by
  have H := hg
  have HP : Hid (w.cell? ⟨b, 0, none⟩ = some (.int .i64 n)) := hp
  clear hg hp
  go_enter Tryz.func55, Tryz.ntmps55
  go_wp2_with (go_at_call 92; refine (as_newAt n b w H HP.out).mono ?_; rintro e w1 ⟨rfl, hc, hgb⟩)
  go_ret
  exact ⟨rfl, hgb⟩
theorem isAt (v : Value) (w : World) : (Instr.typeAssert (.iface 113 v) 34 113 true).run Tryz.prog w = .ok (.tuple #[v, .bool true]) w := by kernel_rfl
theorem place_at (n p : Int) (b : Nat) (w : World) (hg : Laid w) (h0 : w.cell? ⟨b, 0, none⟩ = some (.int .i64 n)) (h1 : w.cell? ⟨b, 1, none⟩ = some (.int .i64 p)) :
    Calls Tryz.prog 28 #[.iface 113 (.pointer (some ⟨b, 0, none⟩))] w fun e w' => e = .returned (.tuple #[.int .i64 n, .int .i64 p]) ∧ Gb w w' := by
  have H := hg
  have iA := isAt
  have H0 : Hid (w.cell? ⟨b, 0, none⟩ = some (.int .i64 n)) := h0
  have H1 : Hid (w.cell? ⟨b, 1, none⟩ = some (.int .i64 p)) := h1
  clear hg h0 h1
  go_enter Tryz.func28, Tryz.ntmps28
  go_wp2_with (go_at_call 55; refine (tell_at n b _ H H0.out).mono ?_; rintro e w1 ⟨rfl, hgb⟩; have c1 := cell_gb hgb H1.out)
  refine wp_loop_rounds 1 ?_
  rw [rounds_succ]
  go_wp2
  go_region
  all_goals go_wp2
  all_goals go_ret2
  all_goals exact ⟨rfl, hgb.drew⟩
/-- An error at a place is told just so. -/
theorem placed_at (n p : Int) (b : Nat) (w : World) (hg : Laid w) (h0 : w.cell? ⟨b, 0, none⟩ = some (.int .i64 n)) (h1 : w.cell? ⟨b, 1, none⟩ = some (.int .i64 p)) :
    Calls Tryz.prog 9 #[.iface 113 (.pointer (some ⟨b, 0, none⟩)), .agg #[.int .i64 n, .int .i64 p]] w fun e w' => e = .returned (.bool true) ∧ Gb w w' := by
  have ga : Gb w (w.alloc (.cells #[.int .i64 n, .int .i64 p] 30)) := (Gb.refl w).alloc _ _
  have H := hg.gb ga
  have H0 : Hid ((w.alloc (.cells #[.int .i64 n, .int .i64 p] 30)).cell? ⟨b, 0, none⟩ = some (.int .i64 n)) := cell_gb ga h0
  have H1 : Hid ((w.alloc (.cells #[.int .i64 n, .int .i64 p] 30)).cell? ⟨b, 1, none⟩ = some (.int .i64 p)) := cell_gb ga h1
  clear hg h0 h1
  go_enter Tryz.func9, Tryz.ntmps9
  go_wp2_with (go_at_call 28; refine (place_at n p b _ H H0.out H1.out).mono ?_; rintro e w1 ⟨rfl, hgb⟩; have c0 := cell_gb hgb (a := ⟨w.heap.size, 0, none⟩) (v := .int .i64 n) (by simp); have c1 := cell_gb hgb (a := ⟨w.heap.size, 1, none⟩) (v := .int .i64 p) (by simp))
  go_ret
  exact ⟨by simp, ga.trans hgb⟩
theorem placed_nil (w : World) : Calls Tryz.prog 9 #[.nilIface, .agg #[.int .i64 0, .int .i64 (-1)]] w fun e w' => e = .returned (.bool true) ∧ Gb w w' := by
  go_enter Tryz.func9, Tryz.ntmps9
  go_wp2_with (go_at_call 28; refine (place_nil _).mono ?_; rintro e w1 ⟨rfl, rfl⟩)
  go_ret
  exact ⟨by simp, (Gb.refl _).alloc _ _⟩
end Go.Proofs.YtococaecjecjgaaGreatDoor.errs
