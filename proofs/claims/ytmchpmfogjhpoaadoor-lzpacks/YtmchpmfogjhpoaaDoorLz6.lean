/- What whole and tell of package lz answer. -/
import Derived.Test.YtmchpmfogjhpoaaDoorLzP
import Derived.Test.YtmchpmfogjhpoaaDoorByRow
import Derived.StillTailTactics
namespace Go.Proofs.YtmchpmfogjhpoaaDoor.lz
set_option linter.unusedVariables false
open Go.ChangeShapes Go.WideShapes Go.ChangeAt Go.RowKit
open mem rows

theorem or_two (a b : Nat) (ha : a < 256) (hb : b < 256) : bits .or .i64 ((a : Int) * 256) (b : Int) = (a : Int) * 256 + (b : Int) := by
  have h1 : bits .or .i64 ((a : Int) * 256) (b : Int) = ((a * 256 ||| b : Nat) : Int) := by
    have e : (a : Int) * 256 = ((a * 256 : Nat) : Int) := by omega
    have h2 : a * 256 ||| b < 2 ^ 16 := Nat.or_lt_two_pow (by omega) (by omega)
    have k1 : (BitVec.ofInt 64 ((a * 256 : Nat) : Int)).toNat = a * 256 := by rw [BitVec.ofInt_natCast, BitVec.toNat_ofNat]; exact Nat.mod_eq_of_lt (by omega)
    have k2 : (BitVec.ofInt 64 ((b : Nat) : Int)).toNat = b := by rw [BitVec.ofInt_natCast, BitVec.toNat_ofNat]; exact Nat.mod_eq_of_lt (by omega)
    rw [e]
    show IntKind.i64.wrap ((BitVec.ofInt 64 ((a * 256 : Nat) : Int) ||| BitVec.ofInt 64 (b : Int)).toNat : Nat) = _
    rw [BitVec.toNat_or, k1, k2, IntKind.wrap_i64]
    omega
  have h3 : a * 256 ||| b = a * 256 + b := by
    rw [show a * 256 = 2 ^ 8 * a by omega, ← Nat.two_pow_add_eq_or_of_lt (by omega : b < 2 ^ 8)]
  rw [h1, h3]
  omega
theorem back_at (p : ByteArray) (w : World) (hp : 3 ≤ p.size) (hp2 : p.size ≤ 140737488351232) :
    Calls Tryd.prog 49 #[.string p] w fun e w' => e = .returned (.int .i64 (sb p 1 * 256 + sb p 2)) ∧ Dr w w' := by
  have b1 := sb_bd p 1
  have b2 := sb_bd p 2
  have e1 := (sb_get p 1 (by omega)).symm
  have e2 := (sb_get p 2 (by omega)).symm
  obtain ⟨a, ha⟩ : ∃ a : Nat, sb p 1 = (a : Int) := ⟨(sb p 1).toNat, by omega⟩
  obtain ⟨b, hb⟩ : ∃ b : Nat, sb p 2 = (b : Int) := ⟨(sb p 2).toNat, by omega⟩
  have hor := or_two a b (by omega) (by omega)
  have HW : Hid (wrap64 (a : Int) = (a : Int) ∧ wrap64 (b : Int) = (b : Int) ∧ wrap64 ((a : Int) * 256) = (a : Int) * 256) := ⟨by unfold wrap64; omega, by unfold wrap64; omega, by unfold wrap64; omega⟩
  rw [ha, hb]
  rw [ha] at e1
  rw [hb] at e2
  have d1 : (1 : Int) < p.size := by omega
  have d2 : (2 : Int) < p.size := by omega
  have d3 : 1 < p.size := by omega
  have d4 : 2 < p.size := by omega
  clear ha hb b1 b2
  go_enter Tryd.func49, Tryd.ntmps49
  go_wp2
  go_quiet (fail)
  go_wp2
  go_ret
  exact ⟨ret_int (by rw [HW.out.1, HW.out.2.1, HW.out.2.2, hor]), Dr.drewN _ (Dr.refl _)⟩
/-- How many bytes the piece has that a text begins with; 0, if it may not be. -/
def wh (p : ByteArray) (t : Nat) : Nat :=
  if sb p 0 < 128 then (if p.size < (sb p 0).toNat + 2 then 0 else (sb p 0).toNat + 2)
  else if p.size < 3 then 0
  else if sb p 1 * 256 + sb p 2 < 1 ∨ 1023 < sb p 1 * 256 + sb p 2 ∨ (t : Int) < sb p 1 * 256 + sb p 2 then 0 else 3
set_option maxRecDepth 10000 in
theorem whole_at (p : ByteArray) (t : Nat) (w : World) (hp : 1 ≤ p.size) (hp2 : p.size ≤ 140737488351232) (ht : t ≤ 10000) :
    Calls Tryd.prog 25 #[.string p, .int .i64 (t : Int)] w fun e w' => e = .returned (.int .i64 ((wh p t : Nat) : Int)) ∧ Dr w w' := by
  have b0 := sb_bd p 0
  have b1 := sb_bd p 1
  have b2 := sb_bd p 2
  have e0 := (sb_get p 0 (by omega)).symm
  obtain ⟨c, hc⟩ : ∃ c : Nat, sb p 0 = (c : Int) := ⟨(sb p 0).toNat, by omega⟩
  obtain ⟨r, hr⟩ : ∃ r, wh p t = r := ⟨_, rfl⟩
  rw [hr]
  unfold wh at hr
  have HW : Hid (_ = r) := hr
  clear hr
  rw [hc] at HW e0 b0
  rw [Int.toNat_natCast] at HW
  have d0 : (0 : Int) < p.size := by omega
  by_cases h1 : c < 128
  · have h1z : (c : Int) < 128 := by omega
    rw [if_pos h1z] at HW
    by_cases h2 : p.size < c + 2
    · have h2z : (p.size : Int) < (c : Int) + 2 := by omega
      rw [if_pos h2] at HW
      clear hc
      go_enter Tryd.func25, Tryd.ntmps25
      go_wp2
      go_ret
      exact ⟨ret_int (by rw [← HW.out]; rfl), Dr.refl _⟩
    · have h2z : ¬ (p.size : Int) < (c : Int) + 2 := by omega
      rw [if_neg h2] at HW
      have h3 : ¬ (128 : Int) ≤ (c : Int) := by omega
      clear hc
      go_enter Tryd.func25, Tryd.ntmps25
      go_wp2
      go_ret
      exact ⟨ret_int (by rw [← HW.out]; rfl), Dr.refl _⟩
  · have h1z : ¬ (c : Int) < 128 := by omega
    have h1y : (128 : Int) ≤ (c : Int) := by omega
    rw [if_neg h1z] at HW
    by_cases h2 : p.size < 3
    · have h2z : (p.size : Int) < 3 := by omega
      rw [if_pos h2] at HW
      clear hc
      go_enter Tryd.func25, Tryd.ntmps25
      go_wp2
      go_ret
      exact ⟨ret_int (by rw [← HW.out]; rfl), Dr.refl _⟩
    · have h2z : ¬ (p.size : Int) < 3 := by omega
      rw [if_neg h2] at HW
      have cB := fun w => back_at p w (by omega) hp2
      obtain ⟨f, hf⟩ : ∃ f : Nat, sb p 1 * 256 + sb p 2 = (f : Int) := ⟨(sb p 1 * 256 + sb p 2).toNat, by omega⟩
      rw [hf] at cB HW
      have hfb : f < 65536 := by omega
      clear hc hf b1 b2
      obtain ⟨M, hM⟩ : ∃ M : Nat, M = min 1023 t := ⟨_, rfl⟩
      have hmin : (if (t : Int) < 1023 then (t : Int) else 1023) = (M : Int) := by split <;> omega
      by_cases h3 : f < 1
      · rw [if_pos (Or.inl (by omega))] at HW
        have h3z : (f : Int) < 1 := by omega
        clear hmin hM
        go_enter Tryd.func25, Tryd.ntmps25
        go_wp2_with (go_at_call 49; refine (cB _).mono ?_; rintro e w2 ⟨rfl, hd⟩)
        go_ret
        exact ⟨ret_int (by rw [← HW.out]; rfl), hd⟩
      · have h3z : ¬ (f : Int) < 1 := by omega
        by_cases h4 : M < f
        · rw [if_pos (by omega)] at HW
          have h4z : (M : Int) < (f : Int) := by omega
          clear hM
          go_enter Tryd.func25, Tryd.ntmps25
          go_wp2_with (go_at_call 49; refine (cB _).mono ?_; rintro e w2 ⟨rfl, hd⟩)
          go_ret
          exact ⟨ret_int (by rw [← HW.out]; rfl), hd⟩
        · rw [if_neg (by omega)] at HW
          have h4z : ¬ (M : Int) < (f : Int) := by omega
          clear hM
          go_enter Tryd.func25, Tryd.ntmps25
          go_wp2_with (go_at_call 49; refine (cB _).mono ?_; rintro e w2 ⟨rfl, hd⟩)
          go_ret
          exact ⟨ret_int (by rw [← HW.out]; rfl), hd⟩
end Go.Proofs.YtmchpmfogjhpoaaDoor.lz
