/- How many bytes two texts go on alike with: same of package diff. -/
import Derived.Test.YtoiiphkcpdphbaaDoorDfV
namespace Go.Proofs.YtoiiphkcpdphbaaDoor.df
set_option linter.unusedVariables false
open Go.ChangeShapes Go.WideShapes Go.ChangeAt Go.RowKit
open mem

theorem eqb_iff (a b : ByteArray) (i j : Nat) (hi : i < a.size) (hj : j < b.size) : Eqb (L a) (L b) i j ↔ sb a i = sb b j := by
  have h1 := sb_get a i hi
  have h2 := sb_get b j hj
  have e1 : (L a)[i]'(by rw [L_len]; exact hi) = a[i]'hi := rfl
  have e2 : (L b)[j]'(by rw [L_len]; exact hj) = b[j]'hj := rfl
  constructor
  · rintro ⟨h3, h4, h5⟩
    rw [e1, e2] at h5
    rw [h1, h2, h5]
  · intro h
    refine ⟨by rw [L_len]; exact hi, by rw [L_len]; exact hj, ?_⟩
    rw [e1, e2]
    rw [h1, h2] at h
    exact UInt8.toNat_inj.1 (by omega)
theorem eqb_bd {a b : ByteArray} {i j : Nat} (h : Eqb (L a) (L b) i j) : i < a.size ∧ j < b.size := by
  obtain ⟨h1, h2, _⟩ := h
  rw [L_len] at h1 h2
  exact ⟨h1, h2⟩
set_option maxRecDepth 10000 in
theorem same_at (a b : ByteArray) (I J : Nat) (w : World) (ha : a.size ≤ 4000) (hb : b.size ≤ 4000) (hI : I ≤ 10000) (hJ : J ≤ 10000) :
    Calls Tryd.prog 19 #[.string a, .string b, .int .i64 (I : Int), .int .i64 (J : Int)] w fun e w' => ∃ k : Nat, e = .returned (.int .i64 (k : Int)) ∧ (k = 0 ∨ I + k ≤ a.size ∧ J + k ≤ b.size) ∧ (∀ t, t < k → Eqb (L a) (L b) (I + t) (J + t)) ∧ ¬ Eqb (L a) (L b) (I + k) (J + k) ∧ Dr w w' := by
  go_enter Tryd.func19, Tryd.ntmps19
  go_wp2
  go_loopw [9] (fun i wr => ∃ k : Nat, (k = 0 ∨ I + k ≤ a.size ∧ J + k ≤ b.size) ∧ k ≤ a.size ∧ i = .int .i64 (k : Int) ∧ Hid (∀ t, t < k → Eqb (L a) (L b) (I + t) (J + t)) ∧ Dr w wr) (fun i _ => a.size - (intOf i).toNat)
  case atStart => exact ⟨0, Or.inl rfl, Nat.zero_le _, rfl, fun t ht => absurd ht (Nat.not_lt_zero _), Dr.refl _⟩
  case round =>
    obtain ⟨k, hk, hka, rfl, HT, hd⟩ := hrel
    obtain ⟨q, rfl⟩ := hd
    have HK : Hid (k = 0 ∨ I + k ≤ a.size ∧ J + k ≤ b.size) := hk
    clear hk
    generalize hwq : w.drewN q = wq
    have HW : Hid (w.drewN q = wq) := hwq
    clear hwq
    obtain ⟨x, hx⟩ : ∃ x, x = I + k := ⟨_, rfl⟩
    obtain ⟨y, hy⟩ : ∃ y, y = J + k := ⟨_, rfl⟩
    have ex : (I : Int) + (k : Int) = (x : Int) := by omega
    have ey : (J : Int) + (k : Int) = (y : Int) := by omega
    have HX : Hid (x = I + k ∧ y = J + k) := ⟨hx, hy⟩
    clear hx hy
    by_cases h1 : x < a.size
    · have d1 : decide ((x : Int) < (a.size : Int)) = true := decide_eq_true (by omega)
      by_cases h2 : y < b.size
      · have d2 : decide ((y : Int) < (b.size : Int)) = true := decide_eq_true (by omega)
        have e1 : (((a[x]'h1).toNat : Nat) : Int) = sb a x := (sb_get a x h1).symm
        have e2 : (((b[y]'h2).toNat : Nat) : Int) = sb b y := (sb_get b y h2).symm
        by_cases h3 : sb a x = sb b y
        · have d3 : (sb a x == sb b y) = true := by rw [beq_iff_eq]; exact h3
          have HT2 : Hid (∀ t, t < k + 1 → Eqb (L a) (L b) (I + t) (J + t)) := fun t ht => by
            rcases Nat.lt_or_ge t k with h | h
            · exact HT.out t h
            · obtain rfl : t = k := by omega
              rw [← HX.out.1, ← HX.out.2]
              exact (eqb_iff a b x y h1 h2).2 h3
          clear h3
          go_wp2
          go_quiet (fail)
          go_wp2
          go_roundw
          case rel => exact ⟨k + 1, Or.inr (by have := HX.out; omega), by have := HX.out; omega, by go_num, HT2, by rw [← HW.out]; exact Dr.drewN _ ⟨q, rfl⟩⟩
          case measure => have := HX.out; simp [intOf]; omega
        · have d3 : (sb a x == sb b y) = false := by rw [beq_eq_false_iff_ne]; exact h3
          have H3 : Hid (¬ Eqb (L a) (L b) (I + k) (J + k)) := by
            rw [← HX.out.1, ← HX.out.2]
            exact fun h => h3 ((eqb_iff a b x y h1 h2).1 h)
          clear h3
          go_wp2
          go_quiet (fail)
          go_wp2
          go_ret
          exact ⟨k, rfl, HK.out, HT.out, H3.out, by rw [← HW.out]; exact Dr.drewN _ ⟨q, rfl⟩⟩
      · have d2 : decide ((y : Int) < (b.size : Int)) = false := decide_eq_false (by omega)
        have H3 : Hid (¬ Eqb (L a) (L b) (I + k) (J + k)) := by
          rw [← HX.out.1, ← HX.out.2]
          exact fun h => h2 (eqb_bd h).2
        go_wp2
        go_quiet (fail)
        go_wp2
        go_ret
        exact ⟨k, rfl, HK.out, HT.out, H3.out, by rw [← HW.out]; exact Dr.drewN _ ⟨q, rfl⟩⟩
    · have d1 : decide ((x : Int) < (a.size : Int)) = false := decide_eq_false (by omega)
      have H3 : Hid (¬ Eqb (L a) (L b) (I + k) (J + k)) := by
        rw [← HX.out.1, ← HX.out.2]
        exact fun h => h1 (eqb_bd h).1
      go_wp2
      go_quiet (fail)
      go_wp2
      go_ret
      exact ⟨k, rfl, HK.out, HT.out, H3.out, by rw [← HW.out]; exact Dr.drewN _ ⟨q, rfl⟩⟩
end Go.Proofs.YtoiiphkcpdphbaaDoor.df
