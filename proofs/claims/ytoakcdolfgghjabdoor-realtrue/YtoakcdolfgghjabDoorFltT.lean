/- What is widened is the very real: in numbers, and as the model converts. -/
import Derived.Test.YtoakcdolfgghjabDoorReal6
import Derived.Test.YtoakcdolfgghjabDoorReal8
import Derived.Laws.FloatArith
namespace Go.Proofs.YtoakcdolfgghjabDoor.rl
open Go.RowKit
open mem flt
theorem wid_val (m : Nat) (hm : m < 255 * 2 ^ 23) : val 52 (wid m) = val 23 m * 2 ^ U := by
  by_cases h1 : 2 ^ 23 ≤ m
  · obtain ⟨x, f, hx, hf, rfl⟩ : ∃ x f, 0 < x ∧ f < 2 ^ 23 ∧ m = x * 2 ^ 23 + f := ⟨m / 2 ^ 23, m % 2 ^ 23, by omega, by omega, by omega⟩
    obtain ⟨G, hG⟩ : ∃ G, G = f * 2 ^ 29 := ⟨_, rfl⟩
    have hw := wid_mid x f hx (by omega) hf
    rw [← hG] at hw
    have v1 : val 52 (wid (x * 2 ^ 23 + f)) = (2 ^ 52 + G) * 2 ^ (x + 895) := val_at (x + 895) G (by omega) (by omega)
    have v2 : val 23 (x * 2 ^ 23 + f) = (2 ^ 23 + f) * 2 ^ (x - 1) := val_at (x - 1) f hf (by omega)
    rw [v1, v2, hG]
    obtain ⟨V, hV⟩ : ∃ V, V = 896 := ⟨_, rfl⟩
    have e : 2 ^ (x + 895) = 2 ^ (x - 1) * 2 ^ V := pow_split _ _ _ (by omega)
    have e2 : 2 ^ U = 2 ^ 29 * 2 ^ V := pow_split _ _ _ (by rw [U_eq, hV])
    have e3 : 2 ^ 52 + f * 2 ^ 29 = (2 ^ 23 + f) * 2 ^ 29 := by omega
    rw [e, e2, e3]
    generalize 2 ^ V = A
    generalize 2 ^ (x - 1) = B
    generalize 2 ^ 29 = C
    rw [Nat.mul_assoc, Nat.mul_assoc, Nat.mul_left_comm C B A]
  · by_cases h0 : m = 0
    · subst h0
      have : wid 0 = 0 := wid_zero 0 0 rfl rfl
      rw [this, val_zero, val_zero, Nat.zero_mul]
    · obtain ⟨j, hj⟩ : ∃ j, j = 23 - m.log2 := ⟨_, rfl⟩
      obtain ⟨z, hz⟩ : ∃ z, z = m * 2 ^ j - 2 ^ 23 := ⟨_, rfl⟩
      obtain ⟨j1, j2, j3, j4⟩ := tiny_log m j (by omega) (by omega) hj
      have hw := wid_tiny 0 m j z rfl (by omega) (by omega) hj hz
      rw [Nat.zero_mul, Nat.zero_add] at hw
      rw [hw, val_at (F := 52) (896 - j) (z * 2 ^ 29) (by omega) (by omega), val_low (F := 23) (by omega)]
      have e3 : 2 ^ 52 + z * 2 ^ 29 = m * 2 ^ j * 2 ^ 29 := by omega
      rw [e3, U_eq, Nat.mul_assoc, Nat.mul_assoc, ← Nat.pow_add, ← Nat.pow_add]
      congr 2
      omega
/-- What is widened, narrowed again. -/
theorem nar_wid (m : Nat) (hm : m < 255 * 2 ^ 23) : nar (wid m) = m := nar_exact (wid_val m hm)
theorem wid_lt (m : Nat) (hm : m < 255 * 2 ^ 23) : wid m < 2047 * 2 ^ 52 := by
  by_cases h1 : 2 ^ 23 ≤ m
  · obtain ⟨x, f, hx, hf, rfl⟩ : ∃ x f, 0 < x ∧ f < 2 ^ 23 ∧ m = x * 2 ^ 23 + f := ⟨m / 2 ^ 23, m % 2 ^ 23, by omega, by omega, by omega⟩
    have := wid_mid x f hx (by omega) hf
    omega
  · by_cases h0 : m = 0
    · subst h0
      have : wid 0 = 0 := wid_zero 0 0 rfl rfl
      omega
    · obtain ⟨j, hj⟩ : ∃ j, j = 23 - m.log2 := ⟨_, rfl⟩
      obtain ⟨z, hz⟩ : ∃ z, z = m * 2 ^ j - 2 ^ 23 := ⟨_, rfl⟩
      obtain ⟨j1, j2, j3, j4⟩ := tiny_log m j (by omega) (by omega) hj
      have hw := wid_tiny 0 m j z rfl (by omega) (by omega) hj hz
      rw [Nat.zero_mul, Nat.zero_add] at hw
      rw [hw]
      omega
theorem wid_top' (m : Nat) (hm : 255 * 2 ^ 23 ≤ m) : wid m = 2047 * 2 ^ 52 + (m - 255 * 2 ^ 23) * 2 ^ 29 := by
  unfold wid; rw [if_pos hm]
/-- The bits of the widened: sign and magnitude. -/
theorem widW_parts (b : Nat) : widW b / 2 ^ 63 % 2 = b / 2 ^ 31 % 2 ∧ widW b % 2 ^ 63 = wid (b % 2 ^ 31) ∧ widW b < 2 ^ 64 := by
  have hw : wid (b % 2 ^ 31) < 2 ^ 63 := by
    rcases Nat.lt_or_ge (b % 2 ^ 31) (255 * 2 ^ 23) with h | h
    · have := wid_lt _ h; omega
    · rw [wid_top' _ h]; omega
  unfold widW
  generalize wid (b % 2 ^ 31) = m at *
  by_cases hs : b / 2 ^ 31 % 2 = 1
  · simp only [hs, beq_self_eq_true, if_true]; omega
  · have e : (b / 2 ^ 31 % 2 == 1) = false := by simp; omega
    rw [e]; simp only [Bool.false_eq_true, if_false]; omega
theorem narW_widW (b : Nat) (hb : b < 2 ^ 32) (hn : b % 2 ^ 31 ≤ 255 * 2 ^ 23) : narW (widW b) = b := by
  obtain ⟨s, m, _⟩ := widW_parts b
  have hm : min (nar (wid (b % 2 ^ 31))) (255 * 2 ^ 23) = b % 2 ^ 31 ∧ wid (b % 2 ^ 31) ≤ 2047 * 2 ^ 52 := by
    rcases Nat.lt_or_ge (b % 2 ^ 31) (255 * 2 ^ 23) with h | h
    · rw [nar_wid _ h]
      have := wid_lt _ h
      omega
    · have e : b % 2 ^ 31 = 255 * 2 ^ 23 := by omega
      rw [e, wid_top' _ (by omega)]
      have : 255 * 2 ^ 23 ≤ nar (2047 * 2 ^ 52 + (255 * 2 ^ 23 - 255 * 2 ^ 23) * 2 ^ 29) := by
        unfold nar
        rw [if_neg (by omega)]
        omega
      omega
  unfold narW
  rw [m, if_neg (by omega : ¬ 2047 * 2 ^ 52 < wid (b % 2 ^ 31)), hm.1, s]
  by_cases hs : b / 2 ^ 31 % 2 = 1
  · simp only [hs, beq_self_eq_true, if_true]; omega
  · have e : (b / 2 ^ 31 % 2 == 1) = false := by simp; omega
    rw [e]; simp only [Bool.false_eq_true, if_false]; omega
theorem read32 (b : Nat) : Ieee.single.read b = if b % 2 ^ 31 < 2 ^ 23 then .number (b / 2 ^ 31 % 2 == 1) (b % 2 ^ 31) (-149) else if b % 2 ^ 31 < 255 * 2 ^ 23 then .number (b / 2 ^ 31 % 2 == 1) (2 ^ 23 + b % 2 ^ 31 % 2 ^ 23) (-149 + (b % 2 ^ 31 / 2 ^ 23 - 1 : Nat)) else if b % 2 ^ 31 = 255 * 2 ^ 23 then .infinity (b / 2 ^ 31 % 2 == 1) else .nan (b / 2 ^ 31 % 2 == 1) (b % 2 ^ 31 - 255 * 2 ^ 23) := rfl
/-- A number of few bits is written as it is. -/
theorem near64 (s : Bool) (m : Nat) (p : Int) (L : Nat) (hm : m ≠ 0) (hL : m.log2 = L) (hl : L ≤ 52) (hp : -1074 ≤ p + L - 52) :
    Ieee.double.nearest s m p = Ieee.double.word s (min ((p + L - 52 + 1074).toNat * 2 ^ 52 + m * 2 ^ (52 - L)) (2047 * 2 ^ 52)) := by
  unfold Ieee.Format.nearest
  rw [if_neg hm, hL]
  have e1 : max (p + (L : Int) - (Ieee.double.fractionBits : Int)) Ieee.double.leastPlace = p + L - 52 := by
    show max (p + (L : Int) - 52) (-1074) = _
    omega
  simp only [e1]
  have e2 : (p + (L : Int) - 52 - p).toNat = 0 := by omega
  have e3 : (p - (p + (L : Int) - 52)).toNat = 52 - L := by omega
  have e4 : ∀ n, Ieee.Toward.even.cut s n 0 = n := by
    intro n
    unfold Ieee.Toward.cut
    simp [Nat.mod_one]
  rw [e2, e3, e4, Nat.shiftLeft_eq]
  rfl
theorem word64 (s : Bool) (r : Nat) : Ieee.double.word s r = (if s then 2 ^ 63 else 0) + r := by
  cases s
  · show r = _
    simp
  · rfl
theorem fin64 (s : Bool) (r : Nat) (h : r < 2047 * 2 ^ 52) : (Ieee.double.read (Ieee.double.word s r)).isInfinity = false := by
  have hm : Ieee.double.word s r % 2 ^ 63 = r := by
    rw [word64]
    cases s <;> simp <;> omega
  obtain ⟨m, e, he, _⟩ := read_fin Ieee.double (Ieee.double.word s r) (by show _ % 2 ^ 63 < 2047 * 2 ^ 52; omega)
  rw [he]
  rfl
/-- The conversion of the model is the widening. -/
theorem conv64 (b : Nat) (hn : b % 2 ^ 31 ≤ 255 * 2 ^ 23) : floatToFloatBits .f32 b .f64 = some (widW b) := by
  have hw : widW b = Ieee.double.word (b / 2 ^ 31 % 2 == 1) (wid (b % 2 ^ 31)) := by rw [word64]; rfl
  have main : ∀ s m (p : Int), Ieee.single.read b = .number s m p → Ieee.double.nearest s m p = widW b → wid (b % 2 ^ 31) < 2047 * 2 ^ 52 → s = (b / 2 ^ 31 % 2 == 1) → floatToFloatBits .f32 b .f64 = some (widW b) := by
    intro s m p hr hne hlt hs
    have e1 : FloatKind.f32.decode b = .number s m p := hr
    have e2 : FloatKind.f64.encode (.number s m p) = widW b := hne
    unfold floatToFloatBits
    rw [if_neg (by decide), e1]
    simp only [e2]
    have : (FloatKind.f64.decode (widW b)).isInfinity = false := by rw [hw]; exact fin64 _ _ hlt
    rw [this]
    rfl
  have hr := read32 b
  generalize hmm : b % 2 ^ 31 = m at *
  generalize (b / 2 ^ 31 % 2 == 1) = s at *
  by_cases h1 : m < 2 ^ 23
  · rw [if_pos h1] at hr
    by_cases h0 : m = 0
    · subst h0
      have hz : wid 0 = 0 := wid_zero 0 0 rfl rfl
      refine main _ _ _ hr ?_ (by omega) rfl
      rw [hw, hz]
      rfl
    · obtain ⟨j, hj⟩ : ∃ j, j = 23 - m.log2 := ⟨_, rfl⟩
      obtain ⟨z, hz⟩ : ∃ z, z = m * 2 ^ j - 2 ^ 23 := ⟨_, rfl⟩
      obtain ⟨L, hL⟩ : ∃ L, L = m.log2 := ⟨_, rfl⟩
      obtain ⟨j1, j2, j3, j4⟩ := tiny_log m j (by omega) h1 hj
      have hL23 : L < 23 := by rw [hL]; exact (Nat.log2_lt h0).2 h1
      have hwt := wid_tiny 0 m j z rfl (by omega) h1 hj hz
      rw [Nat.zero_mul, Nat.zero_add] at hwt
      have hlt := wid_lt m (by omega)
      refine main _ _ _ hr ?_ hlt rfl
      rw [near64 s m (-149) L h0 hL.symm (by omega) (by omega), hw]
      refine congrArg (Ieee.double.word s) ?_
      have e1 : (-149 + (L : Int) - 52 + 1074).toNat = 873 + L := by omega
      have e2 : 2 ^ (52 - L) = 2 ^ j * 2 ^ 29 := pow_split _ _ _ (by omega)
      rw [e1, e2, ← Nat.mul_assoc]
      have e3 : (873 + L) * 2 ^ 52 + m * 2 ^ j * 2 ^ 29 = wid m := by
        rw [hwt, hz]
        generalize m * 2 ^ j = y at *
        have : 897 - j = 874 + L := by omega
        rw [this]
        omega
      rw [e3]
      omega
  · rw [if_neg h1] at hr
    by_cases h2 : m < 255 * 2 ^ 23
    · rw [if_pos h2] at hr
      obtain ⟨x, f, hx, hf, rfl⟩ : ∃ x f, 0 < x ∧ f < 2 ^ 23 ∧ m = x * 2 ^ 23 + f := ⟨m / 2 ^ 23, m % 2 ^ 23, by omega, by omega, by omega⟩
      have hwt := wid_mid x f hx (by omega) hf
      have hlt := wid_lt (x * 2 ^ 23 + f) h2
      have e0 : (x * 2 ^ 23 + f) % 2 ^ 23 = f := by omega
      have e0' : (x * 2 ^ 23 + f) / 2 ^ 23 - 1 = x - 1 := by omega
      rw [e0, e0'] at hr
      have hlog : (2 ^ 23 + f).log2 = 23 := (Nat.log2_eq_iff (by omega)).2 ⟨by omega, by omega⟩
      refine main _ _ _ hr ?_ hlt rfl
      rw [near64 s (2 ^ 23 + f) _ 23 (by omega) hlog (by omega) (by omega), hw]
      refine congrArg (Ieee.double.word s) ?_
      have e1 : (-149 + ((x - 1 : Nat) : Int) + ((23 : Nat) : Int) - 52 + 1074).toNat = x + 895 := by omega
      have e2 : 2 ^ (52 - 23) = 536870912 := rfl
      have e3 : (x + 895) * 2 ^ 52 + (2 ^ 23 + f) * 536870912 = wid (x * 2 ^ 23 + f) := by rw [hwt]; omega
      rw [e1, e2, e3]
      exact Nat.min_eq_left (Nat.le_of_lt hlt)
    · have e : m = 255 * 2 ^ 23 := by omega
      rw [if_neg h2, if_pos e] at hr
      have e1 : FloatKind.f32.decode b = .infinity s := hr
      unfold floatToFloatBits
      rw [if_neg (by decide), e1]
      simp only
      rw [hw, e, wid_top' _ (by omega)]
      rfl
end Go.Proofs.YtoakcdolfgghjabDoor.rl
