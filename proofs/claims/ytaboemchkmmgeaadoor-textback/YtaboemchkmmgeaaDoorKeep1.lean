/- What slices.Equal answers of two rows that are alike; and pick of the laws. -/
import Derived.Test.YtaboemchkmmgeaaDoorEnc1
import Derived.Deep.QuietTactic
namespace Go.Proofs.YtaboemchkmmgeaaDoor.keep
set_option linter.unusedVariables false
open Go.ChangeShapes Go.WideShapes Go.ChangeAt Go.RowKit
open mem rows enc

/-- A slice that reads so. -/
def View (w : World) (v : Value) (l : List Int) : Prop := ∃ p c, v = .slice p l.length c ∧ In w p l
theorem View.step {w w' : World} {v : Value} {l : List Int} (h : View w v l) (hb : Bl w w') : View w' v l := by
  obtain ⟨p, c, h1, h2⟩ := h
  exact ⟨p, c, h1, h2.step hb⟩
theorem view_own {w : World} {base : Nat} {v : Value} {l : List Int} (h : Own w base v l) : View w v l := by
  rcases h.shape with ⟨rfl, rfl⟩ | ⟨g, cap, rfl, _, _, _, _, hc⟩
  · exact ⟨none, 0, rfl, Or.inl rfl⟩
  · exact ⟨_, cap, rfl, Or.inr ⟨_, rfl, fun k hk => by rw [Addr.add_lit, Nat.zero_add]; exact hc k hk⟩⟩
theorem view_in {w : World} {p : Option Addr} {c : Nat} {l : List Int} (h : In w p l) : View w (.slice p l.length c) l := ⟨p, c, rfl, h⟩
theorem ret_int {x y : Int} {k : IntKind} (h : x = y) : Ending.returned (.int k x) = .returned (.int k y) := by rw [h]
theorem equal_at (a b : Value) (l : List Int) (w : World) (ha : View w a l) (hb : View w b l) (hl : l.length ≤ 5000) :
    Calls Tryd.prog 23 #[a, b] w fun e w' => e = .returned (.bool true) ∧ Bl w w' := by
  obtain ⟨p, c, rfl, hp⟩ := ha
  obtain ⟨p', c', rfl, hp'⟩ := hb
  obtain ⟨m, hm⟩ : ∃ m, m = l.length := ⟨_, rfl⟩
  rw [← hm] at hl ⊢
  have HM : Hid (m = l.length) := hm
  have HP : Hid (In w p l) := hp
  have HQ : Hid (In w p' l) := hp'
  clear hm hp hp'
  go_enter Tryd.func23, Tryd.ntmps23
  go_wp2
  go_loopw [13] (fun i wr => ∃ k : Nat, k ≤ m ∧ i = .int .i64 (k : Int) ∧ Dr w wr) (fun i _ => m - (intOf i).toNat)
  case atStart => exact ⟨0, Nat.zero_le _, rfl, Dr.refl _⟩
  case round =>
    obtain ⟨k, hk, rfl, hd⟩ := hrel
    by_cases hlt : k < m
    · obtain ⟨q, rfl⟩ := hd
      obtain ⟨x, rfl, hc1⟩ := (HP.out.step ((Dr.drewN q (Dr.refl w)).bl)).at k (by rw [← HM.out]; exact hlt)
      obtain ⟨x', rfl, hc2⟩ := (HQ.out.step ((Dr.drewN q (Dr.refl w)).bl)).at k (by rw [← HM.out]; exact hlt)
      generalize l.getD k 0 = z at hc1 hc2
      generalize hwq : w.drewN q = wq at hc1 hc2 ⊢
      have hlz : (k : Int) < (m : Int) := by omega
      have HW : Hid (w.drewN q = wq) := hwq
      clear hwq
      go_wp2
      go_quiet (fail)
      go_wp2
      go_roundw
      case rel => exact ⟨k + 1, by omega, by go_num, by rw [← HW.out]; exact Dr.drewN _ ⟨q, rfl⟩⟩
      case measure => simp [intOf]; omega
    · obtain rfl : k = m := by omega
      go_wp2
      go_ret
      exact ⟨rfl, hd.bl⟩
/-- Which one is picked. -/
def pk (a : Int) (n : Nat) : Nat := ((a % 18446744073709551616) % (n : Int)).toNat
theorem pk_lt (a : Int) (n : Nat) (hn : 0 < n) : pk a n < n := by
  unfold pk
  have h2 := Int.emod_lt_of_pos (a % 18446744073709551616) (show (0 : Int) < (n : Int) by omega)
  have h3 := Int.emod_nonneg (a % 18446744073709551616) (show (n : Int) ≠ 0 by omega)
  omega
theorem pick_at (a : Int) (n : Nat) (w : World) (hn : 0 < n) (hn' : n ≤ 1000000) : Calls Tryd.prog 21 #[.int .i64 a, .int .i64 n] w fun e w' => e = .returned (.int .i64 (pk a n)) ∧ w' = w := by
  go_enter Tryd.func21, Tryd.ntmps21
  go_wp2
  go_ret
  refine ⟨ret_int ?_, rfl⟩
  have h0 : 0 ≤ a % 18446744073709551616 := by omega
  have h1 := pk_lt a n hn
  have h2 := Int.emod_nonneg (a % 18446744073709551616) (show (n : Int) ≠ 0 by omega)
  rw [IntKind.wrap_u64, Int.tmod_eq_emod_of_nonneg h0]
  unfold pk at h1 ⊢
  unfold wrap64
  omega
end Go.Proofs.YtaboemchkmmgeaaDoor.keep
