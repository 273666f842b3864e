/- Texts laid together: Hg1, HgP. -/
import Derived.Test.YtkldnapbeebdkaaDoorZ3
/- Why there are no signs of some lengths. -/
namespace Go.Proofs.YtkldnapbeebdkaaDoor.hg
set_option linter.unusedVariables false
open Go.ChangeShapes Go.WideShapes Go.ChangeAt Go.RowKit
open mem rows
/-- The room that a sign takes. -/
def rm (z : Int) : Int := 2 ^ (24 - z.toNat)
def tk (l : List Int) : Nat → Int
  | 0 => 0
  | k + 1 => tk l k + (if 0 < l.getD k 0 then rm (l.getD k 0) else 0)
def okS (l : List Int) (k : Nat) : Prop := ∀ i, i < k → 0 ≤ l.getD i 0 ∧ l.getD i 0 ≤ 24
theorem rm_bd (z : Int) : 0 < rm z ∧ rm z ≤ 16777216 := by
  unfold rm
  refine ⟨Int.pow_pos (by decide), ?_⟩
  have h : (2 : Nat) ^ (24 - z.toNat) ≤ 2 ^ 24 := Nat.pow_le_pow_right (by decide) (Nat.sub_le _ _)
  have h2 : ((2 ^ (24 - z.toNat) : Nat) : Int) ≤ ((2 ^ 24 : Nat) : Int) := by exact_mod_cast h
  simpa using h2
theorem tk_bd (l : List Int) : ∀ k, 0 ≤ tk l k ∧ tk l k ≤ 16777216 * (k : Int)
  | 0 => by simp [tk]
  | k + 1 => by
    have := tk_bd l k
    have := rm_bd (l.getD k 0)
    unfold tk
    split <;> omega
theorem sh_is (z : Int) (h : 0 ≤ z) : wrap64 (2 ^ (24 - z).toNat) = rm z := by
  have e : (24 - z).toNat = 24 - z.toNat := by omega
  rw [e]
  show wrap64 (rm z) = rm z
  have := rm_bd z
  unfold wrap64
  omega
/-- What noSigns answers. -/
def NoS (l : List Int) (n : Nat) (e : Ending) : Prop :=
  (256 < n ∧ e = .returned (.iface 23 (.int .i64 4))) ∨ (n ≤ 256 ∧ ¬ okS l n ∧ e = .returned (.iface 23 (.int .i64 2))) ∨
  (n ≤ 256 ∧ okS l n ∧ 16777216 < tk l n ∧ e = .returned (.iface 23 (.int .i64 12))) ∨ (n ≤ 256 ∧ okS l n ∧ tk l n ≤ 16777216 ∧ e = .returned .nilIface)
set_option maxHeartbeats 1000000 in
theorem noSigns_at (p : Option Addr) (n c : Nat) (l : List Int) (w : World) (hin : In w p l) (hn : n = l.length) (hn63 : n ≤ 9223372036854775807) :
    Calls Tryd.prog 27 #[.slice p n c] w fun e w' => NoS l n e ∧ w' = w := by
  have HIN : Hid (In w p l) := hin
  have HN : Hid (n = l.length) := hn
  clear hin hn
  by_cases hbig : 256 < n
  · have hbz : (256 : Int) < n := by omega
    go_enter Tryd.func27, Tryd.ntmps27
    go_wp2
    go_ret
    exact ⟨Or.inl ⟨hbig, rfl⟩, rfl⟩
  have hbz : ¬ (256 : Int) < n := by omega
  go_enter Tryd.func27, Tryd.ntmps27
  go_wp2
  go_loopw [3, 5, 12] (fun v _ i wr => ∃ (k : Nat) (s : Int), k ≤ n ∧ i = .int .i64 (k : Int) ∧ v = .int .i64 s ∧ 0 ≤ s ∧ s ≤ 4294967296 ∧ wr = w ∧ Hid (s = tk l k ∧ okS l k)) (fun _ _ i _ => n - (intOf i).toNat)
  case atStart => exact ⟨0, 0, Nat.zero_le _, rfl, rfl, by omega, by omega, rfl, ⟨rfl, fun i hi => absurd hi (Nat.not_lt_zero _)⟩⟩
  case round =>
    obtain ⟨k, s, hk, rfl, rfl, hs0, hs1, hwr, H⟩ := hrel
    subst hwr
    by_cases hlt : k < n
    · have hltz : (k : Int) < n := by omega
      obtain ⟨x, rfl, hcell⟩ := HIN.out.at k (by rw [← HN.out]; exact hlt)
      obtain ⟨z, hz⟩ : ∃ z, z = l.getD k 0 := ⟨_, rfl⟩
      rw [← hz] at hcell
      have HZ : Hid (z = l.getD k 0) := hz
      clear hz
      by_cases hneg : z < 0
      · go_wp2
        go_ret
        exact ⟨Or.inr (Or.inl ⟨by omega, fun h => by have := h k hlt; rw [← HZ.out] at this; omega, rfl⟩), by trivial⟩
      · by_cases hgt : 24 < z
        · go_wp2
          go_ret
          exact ⟨Or.inr (Or.inl ⟨by omega, fun h => by have := h k hlt; rw [← HZ.out] at this; omega, rfl⟩), by trivial⟩
        · have HOK : Hid (okS l (k + 1)) := fun i hi => by
            by_cases h : i < k
            · exact H.out.2 i h
            · obtain rfl : i = k := by omega
              rw [← HZ.out]
              omega
          have hb := tk_bd l (k + 1)
          by_cases hpos : 0 < z
          · have hrm := rm_bd z
            have HT : Hid (s + rm z = tk l (k + 1)) := by
              show s + rm z = tk l k + (if 0 < l.getD k 0 then rm (l.getD k 0) else 0)
              rw [← HZ.out, if_pos hpos, H.out.1]
            have hsh : wrap64 (2 ^ (24 - z).toNat) = rm z := sh_is z (by omega)
            rw [← HT.out] at hb
            have hsw : wrap64 (s + rm z) = s + rm z := by unfold wrap64; omega
            generalize rm z = r at hsh hsw hrm hb HT
            go_wp2
            go_roundw
            case rel => exact ⟨k + 1, s + r, hlt, by go_num, rfl, by omega, by omega, by trivial, ⟨HT.out, HOK.out⟩⟩
            case measure => simp [intOf]; omega
          · have HT : Hid (s = tk l (k + 1)) := by
              show s = tk l k + (if 0 < l.getD k 0 then rm (l.getD k 0) else 0)
              rw [← HZ.out, if_neg hpos, H.out.1]
              omega
            go_wp2
            go_roundw
            case rel => exact ⟨k + 1, s, hlt, by go_num, rfl, hs0, hs1, by trivial, ⟨HT.out, HOK.out⟩⟩
            case measure => simp [intOf]; omega
    · have hltz : ¬ (k : Int) < n := by omega
      obtain rfl : k = n := by omega
      by_cases hfull : 16777216 < s
      · go_wp2
        go_ret
        exact ⟨Or.inr (Or.inr (Or.inl ⟨by omega, H.out.2, by rw [← H.out.1]; exact hfull, rfl⟩)), by trivial⟩
      · go_wp2
        go_ret
        exact ⟨Or.inr (Or.inr (Or.inr ⟨by omega, H.out.2, by rw [← H.out.1]; omega, rfl⟩)), by trivial⟩
end Go.Proofs.YtkldnapbeebdkaaDoor.hg
/- Signs by rising lengths, then by rising numbers, in plain numbers: none begins another one. -/
namespace Go.Proofs.YtkldnapbeebdkaaDoor.hg
set_option linter.unusedVariables false
/-- How many of the first k have just m bits. -/
def cnt (l : List Int) (m : Nat) : Nat → Nat
  | 0 => 0
  | k + 1 => cnt l m k + (if l.getD k 0 = (m : Int) then 1 else 0)
/-- The sign behind all of up to m bits. -/
def E (l : List Int) (n : Nat) : Nat → Nat
  | 0 => 0
  | m + 1 => 2 * E l n m + cnt l (m + 1) n
/-- The sign of thing i. -/
def sgn (l : List Int) (n i : Nat) : Int := if 0 < l.getD i 0 then ((2 * E l n ((l.getD i 0).toNat - 1) + cnt l (l.getD i 0).toNat i : Nat) : Int) else 0
theorem cnt_le (l : List Int) (m : Nat) : ∀ k, cnt l m k ≤ k
  | 0 => Nat.le_refl _
  | k + 1 => by have := cnt_le l m k; unfold cnt; split <;> omega
theorem cnt_mono (l : List Int) (m i : Nat) : ∀ k, cnt l m i ≤ cnt l m (i + k)
  | 0 => Nat.le_refl _
  | k + 1 => by have := cnt_mono l m i k; rw [← Nat.add_assoc]; rw [cnt]; omega
theorem cnt_lt {l : List Int} {m i j : Nat} (hij : i < j) (h : l.getD i 0 = (m : Int)) : cnt l m i + 1 ≤ cnt l m j := by
  have h1 : cnt l m (i + 1) = cnt l m i + 1 := by rw [cnt, if_pos h]
  have := cnt_mono l m (i + 1) (j - (i + 1))
  rw [show i + 1 + (j - (i + 1)) = j by omega] at this
  omega
theorem E_bd (l : List Int) (n : Nat) (hn : n ≤ 256) : ∀ m, E l n m + 256 ≤ 256 * 2 ^ (m + 1)
  | 0 => by simp [E]
  | m + 1 => by
    have := E_bd l n hn m
    have := cnt_le l (m + 1) n
    rw [E, Nat.pow_succ]
    omega
theorem E_small {l : List Int} {n m : Nat} (hn : n ≤ 256) (hm : m ≤ 25) : E l n m ≤ 17179869184 := by
  have := E_bd l n hn m
  have h : (2 : Nat) ^ (m + 1) ≤ 2 ^ 26 := Nat.pow_le_pow_right (by decide) (by omega)
  omega
/-- The room of all of up to m bits. -/
def rmU (l : List Int) (m : Nat) : Nat → Nat
  | 0 => 0
  | k + 1 => rmU l m k + (if 0 < l.getD k 0 ∧ l.getD k 0 ≤ (m : Int) then 2 ^ (24 - (l.getD k 0).toNat) else 0)
theorem rmU_succ (l : List Int) (m : Nat) : ∀ k, rmU l (m + 1) k = rmU l m k + cnt l (m + 1) k * 2 ^ (24 - (m + 1))
  | 0 => by simp [rmU, cnt]
  | k + 1 => by
    rw [rmU, rmU, cnt, rmU_succ l m k, Nat.add_mul]
    by_cases h : l.getD k 0 = ((m + 1 : Nat) : Int)
    · rw [if_pos ⟨by omega, by omega⟩, if_neg (by omega), if_pos h, h]
      simp
      omega
    · rw [if_neg h]
      by_cases h2 : 0 < l.getD k 0 ∧ l.getD k 0 ≤ (m : Int)
      · rw [if_pos ⟨h2.1, by omega⟩, if_pos h2]; omega
      · rw [if_neg (by omega), if_neg h2]; omega
theorem E_room (l : List Int) (n : Nat) : ∀ m, m ≤ 24 → E l n m * 2 ^ (24 - m) = rmU l m n
  | 0, _ => by
    have : ∀ k, rmU l 0 k = 0 := fun k => by
      induction k with
      | zero => rfl
      | succ k ih => rw [rmU, ih, if_neg (by omega)]
    simp [E, this]
  | m + 1, h => by
    have ih := E_room l n m (by omega)
    rw [rmU_succ, ← ih, E, Nat.add_mul, show 24 - m = 24 - (m + 1) + 1 by omega, Nat.pow_succ]
    congr 1
    rw [Nat.mul_comm (2 ^ (24 - (m + 1))) 2, ← Nat.mul_assoc, Nat.mul_comm (E l n m) 2]
theorem rmU_tk (l : List Int) (m : Nat) : ∀ k, (rmU l m k : Int) ≤ tk l k
  | 0 => by simp [rmU, tk]
  | k + 1 => by
    have ih := rmU_tk l m k
    have hr := rm_bd (l.getD k 0)
    rw [rmU, tk]
    by_cases h2 : 0 < l.getD k 0 ∧ l.getD k 0 ≤ (m : Int)
    · rw [if_pos h2, if_pos h2.1]
      have e : ((2 ^ (24 - (l.getD k 0).toNat) : Nat) : Int) = rm (l.getD k 0) := by unfold rm; simp
      rw [Int.natCast_add, e]
      omega
    · rw [if_neg h2]
      split <;> omega
theorem E_le {l : List Int} {n m : Nat} (hm : m ≤ 24) (ht : tk l n ≤ 16777216) : E l n m ≤ 2 ^ m := by
  have h1 := E_room l n m hm
  have h2 := rmU_tk l m n
  have h3 : E l n m * 2 ^ (24 - m) ≤ 2 ^ m * 2 ^ (24 - m) := by
    rw [h1, ← Nat.pow_add, show m + (24 - m) = 24 by omega]
    have : (2 : Nat) ^ 24 = 16777216 := by decide
    omega
  exact Nat.le_of_mul_le_mul_right h3 (Nat.pow_pos (by decide))
theorem E_up (l : List Int) (n a : Nat) : ∀ d, E l n a * 2 ^ d ≤ E l n (a + d)
  | 0 => by simp
  | d + 1 => by
    have := E_up l n a d
    rw [← Nat.add_assoc, E, Nat.pow_succ, ← Nat.mul_assoc]
    omega
/-- What signs of some lengths have to do with one another. -/
theorem sgn_apart {l : List Int} {n x y : Nat} (hok : okS l n) (ht : tk l n ≤ 16777216) (hx : x < n) (hy : y < n) (hxy : x ≠ y) (ha : 0 < l.getD x 0) (hab : l.getD x 0 ≤ l.getD y 0) :
    0 ≤ sgn l n x ∧ sgn l n x < 2 ^ (l.getD x 0).toNat ∧ sgn l n y / 2 ^ ((l.getD y 0).toNat - (l.getD x 0).toNat) ≠ sgn l n x ∧ 0 ≤ sgn l n y := by
  obtain ⟨a, hA⟩ : ∃ a : Nat, l.getD x 0 = ((a + 1 : Nat) : Int) := ⟨(l.getD x 0).toNat - 1, by omega⟩
  obtain ⟨b, hB⟩ : ∃ b : Nat, l.getD y 0 = ((b + 1 : Nat) : Int) := ⟨(l.getD y 0).toNat - 1, by omega⟩
  have hxo := hok x hx
  have hyo := hok y hy
  have ex : sgn l n x = ((2 * E l n a + cnt l (a + 1) x : Nat) : Int) := by unfold sgn; rw [if_pos ha, hA]; rfl
  have ey : sgn l n y = ((2 * E l n b + cnt l (b + 1) y : Nat) : Int) := by unfold sgn; rw [if_pos (by omega), hB]; rfl
  have hE := E_le (l := l) (n := n) (m := a + 1) (by omega) ht
  have h1 : 2 * E l n a + cnt l (a + 1) x + 1 ≤ E l n (a + 1) := by
    rw [E]
    have := cnt_lt (l := l) (m := a + 1) hx hA
    omega
  rw [ex, ey, hA, hB]
  simp only [Int.toNat_natCast]
  have e2 : ((2 : Int) ^ (a + 1)) = ((2 ^ (a + 1) : Nat) : Int) := by simp
  have e3 : ((2 : Int) ^ (b + 1 - (a + 1))) = ((2 ^ (b + 1 - (a + 1)) : Nat) : Int) := by simp
  rw [e2, e3]
  refine ⟨Int.natCast_nonneg _, by exact_mod_cast (by omega : 2 * E l n a + cnt l (a + 1) x < 2 ^ (a + 1)), ?_, Int.natCast_nonneg _⟩
  rw [← Int.natCast_ediv]
  intro hc
  have hc : (2 * E l n b + cnt l (b + 1) y) / 2 ^ (b + 1 - (a + 1)) = 2 * E l n a + cnt l (a + 1) x := by exact_mod_cast hc
  rcases Nat.lt_or_ge a b with h | h
  · have h2 := E_up l n (a + 1) (b - (a + 1))
    have h3 : (2 * E l n a + cnt l (a + 1) x + 1) * 2 ^ (b + 1 - (a + 1)) ≤ 2 * E l n b + cnt l (b + 1) y := by
      rw [show b + 1 - (a + 1) = b - (a + 1) + 1 by omega, Nat.pow_succ, ← Nat.mul_assoc]
      rw [show a + 1 + (b - (a + 1)) = b by omega] at h2
      have := Nat.mul_le_mul_right (2 ^ (b - (a + 1))) h1
      omega
    have := (Nat.le_div_iff_mul_le (Nat.pow_pos (by decide))).2 h3
    omega
  · obtain rfl : a = b := by omega
    rw [show a + 1 - (a + 1) = 0 by omega, Nat.pow_zero, Nat.div_one] at hc
    rcases Nat.lt_or_ge x y with h2 | h2
    · have := cnt_lt (l := l) (m := a + 1) h2 hA
      omega
    · have := cnt_lt (l := l) (m := a + 1) (show y < x by omega) hB
      omega
end Go.Proofs.YtkldnapbeebdkaaDoor.hg
