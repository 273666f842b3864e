/- Numbers that are few and small enough. -/
import Derived.Test.YtkldnapbeebdkaaHf4
namespace Go.Proofs.Ytkldnapbeebdkaa.hg
set_option linter.unusedVariables false
open Go.ChangeShapes Go.WideShapes Go.ChangeAt Go.RowKit
open mem rows hf
def bad (z : Int) : Bool := decide (z < 0 ∨ 1099511627776 < z)
theorem bad_at (z : Int) (w : World) : Calls Try.prog 17 #[.int .i64 z] w fun e w' => e = .returned (.bool (bad z)) ∧ w' = w := by
  go_enter Try.func17, Try.ntmps17
  by_cases h1 : z < 0
  · go_wp2
    go_ret
    exact ⟨ret_bool (by unfold bad; simp [h1]), rfl⟩
  · by_cases h2 : 1099511627776 < z
    · go_wp2
      go_ret
      exact ⟨ret_bool (by unfold bad; simp [h2]), rfl⟩
    · go_wp2
      go_ret
      exact ⟨ret_bool (by unfold bad; simp [h1, h2]), rfl⟩
theorem index_at (p : Option Addr) (n c : Nat) (l : List Int) (w : World) (hin : In w p l) (hn : n = l.length) (hn2 : n ≤ 256) :
    Calls Try.prog 28 #[.slice p n c, .func (.func 17) #[] #[]] w fun e w' => (∃ r : Int, e = .returned (.int .i64 r) ∧ ((okL l n ∧ r = -1) ∨ (¬ okL l n ∧ 0 ≤ r))) ∧ w' = w := by
  have HIN : Hid (In w p l) := hin
  have HN : Hid (n = l.length) := hn
  have cB := bad_at
  clear hin hn
  go_enter Try.func28, Try.ntmps28
  go_wp2
  go_loopw [5, 8] (fun _ i wr => ∃ k : Nat, k ≤ n ∧ i = .int .i64 (k : Int) ∧ wr = w ∧ Hid (okL l k)) (fun _ i _ => n - (intOf i).toNat)
  case atStart => exact ⟨0, Nat.zero_le _, rfl, rfl, fun i hi => absurd hi (Nat.not_lt_zero _)⟩
  case round =>
    obtain ⟨k, hk, rfl, hwr, H⟩ := hrel
    subst hwr
    by_cases hlt : k < n
    · have hltz : (k : Int) < n := by omega
      obtain ⟨x, rfl, hcell⟩ := HIN.out.at k (by rw [← HN.out]; exact hlt)
      obtain ⟨z, hz⟩ : ∃ z, z = l.getD k 0 := ⟨_, rfl⟩
      rw [← hz] at hcell
      have HZ : Hid (z = l.getD k 0) := hz
      clear hz
      by_cases hb : z < 0 ∨ 1099511627776 < z
      · have hbd : bad z = true := decide_eq_true hb
        go_wp2_with (go_at_call 17; refine (cB _ _).mono ?_; rintro e w1 ⟨rfl, rfl⟩)
        go_ret
        exact ⟨⟨(k : Int), rfl, Or.inr ⟨fun h => by have := h k hlt; rw [← HZ.out] at this; omega, by omega⟩⟩, rfl⟩
      · have hbd : bad z = false := decide_eq_false hb
        have HK : Hid (okL l (k + 1)) := fun i hi => by
          by_cases h : i < k
          · exact H.out i h
          · obtain rfl : i = k := by omega
            rw [← HZ.out]
            omega
        clear hb
        go_wp2_with (go_at_call 17; refine (cB _ _).mono ?_; rintro e w1 ⟨rfl, rfl⟩)
        go_roundw
        case rel => exact ⟨k + 1, hlt, by go_num, by trivial, HK⟩
        case measure => simp [intOf]; omega
    · have hltz : ¬ (k : Int) < n := by omega
      obtain rfl : k = n := by omega
      go_wp2
      go_ret
      exact ⟨⟨-1, rfl, Or.inl ⟨H.out, rfl⟩⟩, by trivial⟩
theorem contains_at (p : Option Addr) (n c : Nat) (l : List Int) (w : World) (hin : In w p l) (hn : n = l.length) (hn2 : n ≤ 256) :
    Calls Try.prog 16 #[.slice p n c, .func (.func 17) #[] #[]] w fun e w' => ((okL l n ∧ e = .returned (.bool false)) ∨ (¬ okL l n ∧ e = .returned (.bool true))) ∧ w' = w := by
  have c1 := index_at p n c l w hin hn hn2
  clear hin hn
  go_enter Try.func16, Try.ntmps16
  go_wp2_with fail
  refine Calls.mono c1 ?_
  rintro e w1 ⟨⟨r, rfl, h⟩, rfl⟩
  rcases h with ⟨h1, rfl⟩ | ⟨h1, h2⟩
  · have H1 : Hid _ := h1
    clear h1 c1
    go_wp2
    go_ret
    exact ⟨Or.inl ⟨H1.out, rfl⟩, rfl⟩
  · have H1 : Hid _ := h1
    clear h1 c1
    go_wp2
    go_ret
    exact ⟨Or.inr ⟨H1.out, rfl⟩, rfl⟩
theorem counted_at (p : Option Addr) (n c : Nat) (l : List Int) (w : World) (hin : In w p l) (hn : n = l.length) (hn63 : n ≤ 9223372036854775807) :
    Calls Try.prog 8 #[.slice p n c] w fun e w' => ((n ≤ 256 ∧ okL l n ∧ e = .returned (.bool true)) ∨ (¬ (n ≤ 256 ∧ okL l n) ∧ e = .returned (.bool false))) ∧ w' = w := by
  by_cases h : n ≤ 256
  · have c1 := contains_at p n c l w hin hn h
    have hz : (n : Int) ≤ 256 := by omega
    clear hin hn
    go_enter Try.func8, Try.ntmps8
    go_wp2_with fail
    refine Calls.mono c1 ?_
    rintro e w1 ⟨h1 | h1, rfl⟩
    · obtain ⟨h1, rfl⟩ := h1
      have H1 : Hid _ := h1
      clear h1 c1
      go_wp2
      go_ret
      exact ⟨Or.inl ⟨h, H1.out, rfl⟩, rfl⟩
    · obtain ⟨h1, rfl⟩ := h1
      have H1 : Hid _ := h1
      clear h1 c1
      go_wp2
      go_ret
      exact ⟨Or.inr ⟨fun hc => H1.out hc.2, rfl⟩, rfl⟩
  · have hz : ¬ (n : Int) ≤ 256 := by omega
    clear hin hn
    go_enter Try.func8, Try.ntmps8
    go_wp2
    go_ret
    first | exact ⟨Or.inr ⟨fun hc => h hc.1, rfl⟩, rfl⟩ | exact ⟨rfl, rfl⟩
end Go.Proofs.Ytkldnapbeebdkaa.hg
