/- What Get and Put of package bits answer where something is wrong, and what the document's own bitsThere and BitsGet answer. -/
import Derived.Test.YtfebfnjmehaeiabDoorRefBits
namespace Go.Proofs.YtfebfnjmehaeiabDoor.bitw
open Go.ChangeShapes Go.WideShapes Go.ChangeAt Go.RowKit
open mem bit

def okO (O : Int) : Prop := O = 0 ∨ O = 1
/-- Are there n bits from bit A on? -/
def okR (s : ByteArray) (A n : Int) : Prop := 0 ≤ n ∧ n ≤ 64 ∧ 0 ≤ A ∧ A + n ≤ 8 * (s.size : Int)

theorem wrong_arg (s : ByteArray) (A n O : Int) (w : World) (h : ¬ okO O) : Calls Tryd.prog 12 #[.string s, .int .i64 A, .int .i64 n, .int .i64 O] w fun e w' => e = .returned (.iface 23 (.int .i64 1)) ∧ w' = w := by
  have h1 : (O != 0) = true := by rw [bne_iff_ne]; intro e; exact h (Or.inl e)
  have h2 : (O != 1) = true := by rw [bne_iff_ne]; intro e; exact h (Or.inr e)
  clear h
  go_enter Tryd.func12, Tryd.ntmps12
  go_wp2
  go_ret
  exact ⟨rfl, rfl⟩
theorem wrong_range (s : ByteArray) (A n O : Int) (w : World) (hs : s.size ≤ 140737488351232) (hO : okO O) (h : ¬ okR s A n) : Calls Tryd.prog 12 #[.string s, .int .i64 A, .int .i64 n, .int .i64 O] w fun e w' => e = .returned (.iface 23 (.int .i64 2)) ∧ w' = w := by
  unfold okR at h
  have hc : n < 0 ∨ 64 < n ∨ (0 ≤ n ∧ n ≤ 64 ∧ A < 0) ∨ (0 ≤ n ∧ n ≤ 64 ∧ 0 ≤ A ∧ 8 * (s.size : Int) - n < A) := by omega
  clear h
  rcases hO with rfl | rfl
  all_goals
    rcases hc with h | h | ⟨h, h2, h3⟩ | ⟨h, h2, h3, h4⟩
    · go_enter Tryd.func12, Tryd.ntmps12
      go_wp2
      go_ret
      exact ⟨rfl, rfl⟩
    · go_enter Tryd.func12, Tryd.ntmps12
      go_wp2
      go_ret
      exact ⟨rfl, rfl⟩
    · go_enter Tryd.func12, Tryd.ntmps12
      go_wp2
      go_ret
      exact ⟨rfl, rfl⟩
    · go_enter Tryd.func12, Tryd.ntmps12
      go_wp2
      go_ret
      exact ⟨rfl, rfl⟩
theorem get_bad (s : ByteArray) (A n O c : Int) (w : World) (h : ∀ w, Calls Tryd.prog 12 #[.string s, .int .i64 A, .int .i64 n, .int .i64 O] w fun e w' => e = .returned (.iface 23 (.int .i64 c)) ∧ w' = w) :
    Calls Tryd.prog 6 #[.string s, .int .i64 A, .int .i64 n, .int .i64 O] w fun e w' => e = .returned (.tuple #[.int .u64 0, .iface 23 (.int .i64 c)]) ∧ w' = w := by
  have H : Hid (∀ w, Calls Tryd.prog 12 #[.string s, .int .i64 A, .int .i64 n, .int .i64 O] w fun e w' => e = .returned (.iface 23 (.int .i64 c)) ∧ w' = w) := h
  clear h
  go_enter Tryd.func6, Tryd.ntmps6
  go_wp2_with (go_at_call 12; refine (H.out _).mono ?_; rintro e w1 ⟨rfl, rfl⟩)
  go_ret2
  exact ⟨rfl, rfl⟩
theorem put_bad (s : ByteArray) (A n O v c : Int) (w : World) (h : ∀ w, Calls Tryd.prog 12 #[.string s, .int .i64 A, .int .i64 n, .int .i64 O] w fun e w' => e = .returned (.iface 23 (.int .i64 c)) ∧ w' = w) :
    Calls Tryd.prog 9 #[.string s, .int .i64 A, .int .i64 n, .int .i64 O, .int .u64 v] w fun e w' => e = .returned (.tuple #[.string ⟨#[]⟩, .iface 23 (.int .i64 c)]) ∧ w' = w := by
  have H : Hid (∀ w, Calls Tryd.prog 12 #[.string s, .int .i64 A, .int .i64 n, .int .i64 O] w fun e w' => e = .returned (.iface 23 (.int .i64 c)) ∧ w' = w) := h
  clear h
  go_enter Tryd.func9, Tryd.ntmps9
  go_wp2_with (go_at_call 12; refine (H.out _).mono ?_; rintro e w1 ⟨rfl, rfl⟩)
  go_ret2
  exact ⟨rfl, rfl⟩
theorem within_any (x a b : Int) (w : World) : Calls Tryd.prog 16 #[.int .i64 x, .int .i64 a, .int .i64 b] w fun e w' => e = .returned (.bool (decide (a ≤ x ∧ x ≤ b))) ∧ w' = w := by
  by_cases h1 : a ≤ x
  · by_cases h2 : x ≤ b
    · have hd : decide (x ≤ b) = true := by simpa using h2
      go_enter Tryd.func16, Tryd.ntmps16
      go_wp2
      go_ret
      exact ⟨ret_bool (by simp [h1, h2]), rfl⟩
    · have hd : decide (x ≤ b) = false := by simpa using h2
      go_enter Tryd.func16, Tryd.ntmps16
      go_wp2
      go_ret
      exact ⟨ret_bool (by first | rfl | (simp; omega)), rfl⟩
  · go_enter Tryd.func16, Tryd.ntmps16
    go_wp2
    go_ret
    exact ⟨ret_bool (by first | rfl | (simp; omega)), rfl⟩
theorem within_yes (x a b : Int) (w : World) (h : a ≤ x ∧ x ≤ b) : Calls Tryd.prog 16 #[.int .i64 x, .int .i64 a, .int .i64 b] w fun e w' => e = .returned (.bool true) ∧ w' = w := by
  have hw := within_any x a b w
  rw [decide_eq_true h] at hw
  exact hw
theorem within_no (x a b : Int) (w : World) (h : ¬ (a ≤ x ∧ x ≤ b)) : Calls Tryd.prog 16 #[.int .i64 x, .int .i64 a, .int .i64 b] w fun e w' => e = .returned (.bool false) ∧ w' = w := by
  have hw := within_any x a b w
  rw [decide_eq_false h] at hw
  exact hw
theorem there_arg (s : ByteArray) (A n O : Int) (w : World) (h : ¬ okO O) : Calls Tryd.prog 10 #[.string s, .int .i64 A, .int .i64 n, .int .i64 O] w fun e w' => e = .returned (.int .i64 1) ∧ w' = w := by
  have H : Hid (¬ (0 ≤ O ∧ O ≤ 1)) := by
    intro hc
    apply h
    unfold okO
    omega
  clear h
  go_enter Tryd.func10, Tryd.ntmps10
  go_wp2_with (go_at_call 16; refine (within_no _ _ _ _ H.out).mono ?_; rintro e w1 ⟨rfl, rfl⟩)
  go_ret
  exact ⟨rfl, rfl⟩
theorem there_range (s : ByteArray) (A n O : Int) (w : World) (hs : s.size ≤ 140737488351232) (hO : okO O) (h : ¬ okR s A n) : Calls Tryd.prog 10 #[.string s, .int .i64 A, .int .i64 n, .int .i64 O] w fun e w' => e = .returned (.int .i64 2) ∧ w' = w := by
  unfold okR at h
  have HO : Hid (0 ≤ O ∧ O ≤ 1) := by unfold okO at hO; show 0 ≤ O ∧ O ≤ 1; omega
  clear hO
  by_cases h1 : A < 0
  · clear h
    go_enter Tryd.func10, Tryd.ntmps10
    go_wp2_with (go_at_call 16; refine (within_yes _ _ _ _ HO.out).mono ?_; rintro e w1 ⟨rfl, rfl⟩)
    go_ret
    exact ⟨rfl, rfl⟩
  have h1' : 0 ≤ A := by omega
  clear h1
  by_cases h2 : 0 ≤ n ∧ n ≤ 64
  · have H2 : Hid (0 ≤ n ∧ n ≤ 64) := h2
    by_cases h3 : 8 * (s.size : Int) < A
    · clear h h2
      go_enter Tryd.func10, Tryd.ntmps10
      go_wp2_with (first | (go_at_call_of 16 (Value.int IntKind.i64 O); refine (within_yes _ _ _ _ HO.out).mono ?_; rintro e w1 ⟨rfl, rfl⟩) | (go_at_call 16; refine (within_yes _ _ _ _ H2.out).mono ?_; rintro e w1 ⟨rfl, rfl⟩))
      go_ret
      exact ⟨rfl, rfl⟩
    · have h4 : 8 * (s.size : Int) - A < n := by omega
      obtain ⟨h21, h22⟩ := h2
      clear h
      go_enter Tryd.func10, Tryd.ntmps10
      go_wp2_with (first | (go_at_call_of 16 (Value.int IntKind.i64 O); refine (within_yes _ _ _ _ HO.out).mono ?_; rintro e w1 ⟨rfl, rfl⟩) | (go_at_call 16; refine (within_yes _ _ _ _ H2.out).mono ?_; rintro e w1 ⟨rfl, rfl⟩))
      go_ret
      exact ⟨rfl, rfl⟩
  · have H2 : Hid (¬ (0 ≤ n ∧ n ≤ 64)) := h2
    clear h h2
    go_enter Tryd.func10, Tryd.ntmps10
    go_wp2_with (first | (go_at_call_of 16 (Value.int IntKind.i64 O); refine (within_yes _ _ _ _ HO.out).mono ?_; rintro e w1 ⟨rfl, rfl⟩) | (go_at_call 16; refine (within_no _ _ _ _ H2.out).mono ?_; rintro e w1 ⟨rfl, rfl⟩))
    go_ret
    exact ⟨rfl, rfl⟩
theorem there_ok (s : ByteArray) (A n O : Int) (w : World) (hs : s.size ≤ 140737488351232) (hO : okO O) (h : okR s A n) : Calls Tryd.prog 10 #[.string s, .int .i64 A, .int .i64 n, .int .i64 O] w fun e w' => e = .returned (.int .i64 0) ∧ w' = w := by
  obtain ⟨h1, h2, h3, h4⟩ := h
  have HO : Hid (0 ≤ O ∧ O ≤ 1) := by unfold okO at hO; show 0 ≤ O ∧ O ≤ 1; omega
  clear hO
  have hd : decide (8 * (s.size : Int) - A < n) = false := by simp; omega
  go_enter Tryd.func10, Tryd.ntmps10
  go_wp2_with (first | (go_at_call_of 16 (Value.int IntKind.i64 O); refine (within_yes _ _ _ _ HO.out).mono ?_; rintro e w1 ⟨rfl, rfl⟩) | (go_at_call 16; refine (within_yes _ _ _ _ ⟨h1, h2⟩).mono ?_; rintro e w1 ⟨rfl, rfl⟩))
  go_ret
  exact ⟨rfl, rfl⟩
theorem refGet_bad (s : ByteArray) (A n O c : Int) (w : World) (hc : (c != 0) = true) (h : ∀ w, Calls Tryd.prog 10 #[.string s, .int .i64 A, .int .i64 n, .int .i64 O] w fun e w' => e = .returned (.int .i64 c) ∧ w' = w) :
    Calls Tryd.prog 5 #[.string s, .int .i64 A, .int .i64 n, .int .i64 O] w fun e w' => e = .returned (.tuple #[.int .u64 0, .int .i64 c]) ∧ w' = w := by
  have H : Hid (∀ w, Calls Tryd.prog 10 #[.string s, .int .i64 A, .int .i64 n, .int .i64 O] w fun e w' => e = .returned (.int .i64 c) ∧ w' = w) := h
  clear h
  go_enter Tryd.func5, Tryd.ntmps5
  go_wp2_with (go_at_call 10; refine (H.out _).mono ?_; rintro e w1 ⟨rfl, rfl⟩)
  go_ret2
  exact ⟨rfl, rfl⟩
theorem refPut_bad (s : ByteArray) (A n O v c : Int) (w : World) (hc : (c != 0) = true) (h : ∀ w, Calls Tryd.prog 10 #[.string s, .int .i64 A, .int .i64 n, .int .i64 O] w fun e w' => e = .returned (.int .i64 c) ∧ w' = w) :
    Calls Tryd.prog 8 #[.string s, .int .i64 A, .int .i64 n, .int .i64 O, .int .u64 v] w fun e w' => e = .returned (.tuple #[.string ⟨#[]⟩, .int .i64 c]) ∧ w' = w := by
  have H : Hid (∀ w, Calls Tryd.prog 10 #[.string s, .int .i64 A, .int .i64 n, .int .i64 O] w fun e w' => e = .returned (.int .i64 c) ∧ w' = w) := h
  clear h
  go_enter Tryd.func8, Tryd.ntmps8
  go_wp2_with (go_at_call 10; refine (H.out _).mono ?_; rintro e w1 ⟨rfl, rfl⟩)
  go_ret2
  exact ⟨rfl, rfl⟩
theorem hb_gN (t : Nat → Bool) (n : Nat) (o : Bool) : hb (fun k => t (pl n (!o) k)) n = gN t n o := by
  rw [hb_nb]
  unfold gN
  apply nb_congr
  intro i hi
  show t (pl n (!o) (n - 1 - i)) = t (pl n o i)
  congr 1
  unfold pl
  cases o <;> simp <;> omega
theorem push64 (h b : Nat) (h1 : h < 9223372036854775808) (h2 : b ≤ 1) : IntKind.u64.wrap (IntKind.u64.wrap ((h : Int) * 2) + (b : Int)) = ((h * 2 + b : Nat) : Int) := by
  simp only [IntKind.wrap_u64]
  omega
theorem refGet_any (s : ByteArray) (A n : Nat) (o : Bool) (O : Int) (w : World) (hO : (if o then (1 : Int) else 0) = O) (hs : s.size ≤ 140737488351232) (hn : n ≤ 64) (hA : A + n ≤ 8 * s.size) :
    Calls Tryd.prog 5 #[.string s, .int .i64 A, .int .i64 n, .int .i64 O] w fun e w' => e = .returned (.tuple #[.int .u64 (gN (fun i => tbit s o (A + i)) n o : Nat), .int .i64 0]) ∧ w' = w := by
  have HO : Hid ((if o then (1 : Int) else 0) = O) := hO
  have HK : Hid (okO O) := by cases o <;> simp at hO <;> show _ ∨ _ <;> omega
  have HR : Hid (okR s A n) := ⟨by omega, by omega, by omega, by omega⟩
  rw [← hb_gN]
  have hOb : (O == 0) = !o := by cases o <;> simp at hO <;> simp <;> omega
  clear hO
  go_enter Tryd.func5, Tryd.ntmps5
  go_wp2_with (go_at_call 10; refine (there_ok _ _ _ _ _ (by omega) HK.out HR.out).mono ?_; rintro e w1 ⟨rfl, rfl⟩)
  go_loop [11, 12] (fun v i => ∃ k : Nat, k ≤ n ∧ i = .int .i64 k ∧ v = .int .u64 (hb (fun k => tbit s o (A + pl n (!o) k)) k : Nat)) (fun _ i => n - (intOf i).toNat)
  case atStart => exact ⟨0, Nat.zero_le _, rfl, rfl⟩
  case round =>
    obtain ⟨k, hk, rfl, rfl⟩ := hrel
    by_cases hlt : k < n
    · have hl := hb_lt (fun k => tbit s o (A + pl n (!o) k)) k
      have h63 : 2 ^ k ≤ 2 ^ 63 := Nat.pow_le_pow_right (by decide) (by omega)
      have e63 : (2 : Nat) ^ 63 = 9223372036854775808 := by decide
      have hl2 : hb (fun k => tbit s o (A + pl n (!o) k)) k < 9223372036854775808 := by omega
      have hb1 : (tbit s o (A + pl n (!o) k)).toNat ≤ 1 := Bool.toNat_le _
      clear hl h63 e63
      cases o
      · go_wp2_with (go_at_call 11; refine (bitAt_at _ ((A : Int) + (n : Int) - 1 - (k : Int)) (A + pl n true k) false _ _ (by unfold pl; simp; omega) (by omega) (by unfold pl; simp; omega) HO.out).mono ?_; rintro e w2 ⟨rfl, rfl⟩)
        go_round
        case rel => exact ⟨k + 1, by omega, by go_num, by show _ = Value.int .u64 ((hb (fun k => tbit s false (A + pl n (!false) k)) k * 2 + (tbit s false (A + pl n (!false) k)).toNat : Nat) : Int); congr 1; exact push64 _ _ hl2 hb1⟩
        case measure => simp [intOf]; omega
      · go_wp2_with (go_at_call 11; refine (bitAt_at _ ((A : Int) + (k : Int)) (A + pl n false k) true _ _ (by unfold pl; simp) (by omega) (by unfold pl; simp; omega) HO.out).mono ?_; rintro e w2 ⟨rfl, rfl⟩)
        go_round
        case rel => exact ⟨k + 1, by omega, by go_num, by show _ = Value.int .u64 ((hb (fun k => tbit s true (A + pl n (!true) k)) k * 2 + (tbit s true (A + pl n (!true) k)).toNat : Nat) : Int); congr 1; exact push64 _ _ hl2 hb1⟩
        case measure => simp [intOf]; omega
    · obtain rfl : k = n := by omega
      go_wp2
      go_ret2
      exact ⟨rfl, rfl⟩
end Go.Proofs.YtfebfnjmehaeiabDoor.bitw
