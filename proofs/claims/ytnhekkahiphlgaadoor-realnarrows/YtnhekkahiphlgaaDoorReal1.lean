/- Package real's own functions, one form of reals each: the greatest exponent and fraction, taken apart, put together. -/
import Derived.Test.YtnhekkahiphlgaaDoorChecked
import Derived.Test.YtnhekkahiphlgaaDoorMem
import Derived.Laws.BitsAllLaws
import Derived.Deep.RegionHeld3
namespace Go.Proofs.YtnhekkahiphlgaaDoor.rl
open Go.RowKit
open mem

theorem lt_block {w : World} {a : Addr} {v : Value} (hc : w.cell? a = some v) : a.block < w.heap.size := by
  rcases Nat.lt_or_ge a.block w.heap.size with h | h
  · exact h
  · simp [World.cell?, Array.getElem?_eq_none h] at hc
theorem at_gb {w w' : World} (h : Gb w w') {a : Addr} {v : Value} (hc : w.cell? a = some v) : w'.cell? a = some v := by
  rw [h.b.cell (lt_block hc)]; exact hc

theorem and_mask64 (a k : Nat) (ha : a < 18446744073709551616) (hk : k ≤ 64) : bits .and .u64 (a : Int) ((2 ^ k - 1 : Nat) : Int) = ((a % 2 ^ k : Nat) : Int) := by
  have h2 : 2 ^ k ≤ 2 ^ 64 := Nat.pow_le_pow_right (by omega) hk
  have h3 : 0 < 2 ^ k := Nat.two_pow_pos k
  rw [u64_and_nat a (2 ^ k - 1) ha (by omega), Nat.and_two_pow_sub_one_eq_mod]
theorem wrap_i64 (n : Int) (h0 : -9223372036854775808 ≤ n) (h1 : n < 9223372036854775808) : IntKind.i64.wrap n = n := by
  simp [IntKind.wrap, IntKind.bits, IntKind.signed]
  split <;> omega
theorem wrap_u64 (n : Int) (h0 : 0 ≤ n) (h1 : n < 18446744073709551616) : IntKind.u64.wrap n = n := by
  simp [IntKind.wrap, IntKind.bits, IntKind.signed]
  omega
theorem wrap_u32 (n : Int) (h0 : 0 ≤ n) (h1 : n < 4294967296) : IntKind.u32.wrap n = n := by
  simp [IntKind.wrap, IntKind.bits, IntKind.signed]
  omega
theorem and_i64 (a b : Nat) (ha : a < 9223372036854775808) (hb : b < 9223372036854775808) : bits .and .i64 (a : Int) (b : Int) = ((a &&& b : Nat) : Int) := by
  have h1 : a &&& b ≤ a := Nat.and_le_left
  have e : bits .and .i64 (a : Int) (b : Int) = IntKind.i64.wrap ((BitVec.ofInt 64 (a : Int) &&& BitVec.ofInt 64 (b : Int)).toNat : Int) := rfl
  have e2 : (BitVec.ofInt 64 (a : Int) &&& BitVec.ofInt 64 (b : Int)).toNat = a &&& b := by
    rw [BitVec.toNat_and]
    simp
    rw [Nat.mod_eq_of_lt (by omega), Nat.mod_eq_of_lt (by omega)]
  rw [e, e2, wrap_i64 _ (by omega) (by omega)]
theorem and_maski (a k : Nat) (ha : a < 9223372036854775808) (hk : k ≤ 62) : bits .and .i64 (a : Int) ((2 ^ k - 1 : Nat) : Int) = ((a % 2 ^ k : Nat) : Int) := by
  have h2 : 2 ^ k ≤ 2 ^ 62 := Nat.pow_le_pow_right (by omega) hk
  have h3 : 0 < 2 ^ k := Nat.two_pow_pos k
  rw [and_i64 a (2 ^ k - 1) ha (by omega), Nat.and_two_pow_sub_one_eq_mod]
theorem or_add (x k f : Nat) (hf : f < 2 ^ k) (hx : x * 2 ^ k + f < 18446744073709551616) : bits .or .u64 ((x * 2 ^ k : Nat) : Int) (f : Int) = ((x * 2 ^ k + f : Nat) : Int) := by
  rw [u64_or_nat _ _ (by omega) (by omega), Nat.mul_comm x, Nat.two_pow_add_eq_or_of_lt hf]
theorem or_add' (x k f : Nat) (hf : f < 2 ^ k) (hx : x * 2 ^ k + f < 18446744073709551616) : bits .or .u64 (f : Int) ((x * 2 ^ k : Nat) : Int) = ((x * 2 ^ k + f : Nat) : Int) := by
  rw [u64_or_nat _ _ (by omega) (by omega), Nat.or_comm, Nat.mul_comm x, Nat.two_pow_add_eq_or_of_lt hf]

/-- Which kind of a real it is, by its exponent and fraction. -/
def cls (L x f : Nat) : Nat := if x = L then (if f = 0 then 3 else 4) else if x = 0 then (if f = 0 then 0 else 1) else 2

theorem lastExp32 (w : World) : Calls Tryd.prog 27 #[.agg #[.int .i64 32, .int .i64 8, .int .i64 23]] w fun e w' => e = .returned (.int .i64 255) ∧ w' = w.alloc (.cells #[.int .i64 32, .int .i64 8, .int .i64 23] 55) := by
  go_enter Tryd.func27, Tryd.ntmps27
  go_wp2
  go_ret
  exact ⟨rfl, rfl⟩
theorem lastFrac32 (w : World) : Calls Tryd.prog 28 #[.agg #[.int .i64 32, .int .i64 8, .int .i64 23]] w fun e w' => e = .returned (.int .u64 8388607) ∧ w' = w.alloc (.cells #[.int .i64 32, .int .i64 8, .int .i64 23] 55) := by
  go_enter Tryd.func28, Tryd.ntmps28
  go_wp2
  go_ret
  exact ⟨rfl, rfl⟩
theorem middle32 (w : World) : Calls Tryd.prog 37 #[.agg #[.int .i64 32, .int .i64 8, .int .i64 23]] w fun e w' => e = .returned (.int .i64 127) ∧ w' = (w.alloc (.cells #[.int .i64 32, .int .i64 8, .int .i64 23] 55)).alloc (.cells #[.int .i64 32, .int .i64 8, .int .i64 23] 55) := by
  go_enter Tryd.func37, Tryd.ntmps37
  go_wp2_with (go_at_call 27; refine (lastExp32 _).mono ?_; rintro e w1 ⟨rfl, rfl⟩)
  go_ret
  exact ⟨rfl, rfl⟩
theorem apart32 (b x f : Nat) (n : Bool) (hb : b < 2 ^ 64) (hn : (b / 2 ^ 31 % 2 == 1) = n) (hx : b / 2 ^ 23 % 256 = x) (hf : b % 2 ^ 23 = f) (w : World) :
    Calls Tryd.prog 35 #[.agg #[.int .i64 32, .int .i64 8, .int .i64 23], .int .u64 b] w fun e w' => e = .returned (.agg #[.bool n, .int .i64 x, .int .u64 f]) ∧ Gb w w' := by
  have e31 : IntKind.i64.wrap 31 = 31 := rfl
  have a1 : bits .and .u64 ((b : Int) / 2147483648) 1 = (b : Int) / 2147483648 % 2 := (and_mask64 (b / 2147483648) 1 (by omega) (by omega)).trans (by omega)
  have a2 : bits .and .u64 (b : Int) 8388607 = (f : Int) := by subst hf; exact and_mask64 b 23 (by omega) (by omega)
  have a3 : IntKind.i64.wrap ((b : Int) / 8388608) = (b : Int) / 8388608 := wrap_i64 _ (by omega) (by omega)
  have a4 : bits .and .i64 ((b : Int) / 8388608) 255 = (x : Int) := by subst hx; exact (and_maski (b / 8388608) 8 (by omega) (by omega))
  have a5 : ((b : Int) / 2147483648 % 2 == 1) = n := by
    rw [← hn, Bool.eq_iff_iff]; simp; omega
  clear hn hx hf
  go_enter Tryd.func35, Tryd.ntmps35
  go_wp2
  go_region_held3 (fun w' => w'.cell? ⟨w.heap.size, 0, none⟩ = some (.int .i64 32) ∧ w'.cell? ⟨w.heap.size, 1, none⟩ = some (.int .i64 8) ∧ w'.cell? ⟨w.heap.size, 2, none⟩ = some (.int .i64 23)) (go_keep) (first | (go_at_call 27; refine (lastExp32 _).mono ?_; rintro e w1 ⟨rfl, rfl⟩) | (go_at_call 28; refine (lastFrac32 _).mono ?_; rintro e w1 ⟨rfl, rfl⟩))
  go_wp2
  refine bodyPost_ret (v := .agg #[.bool n, .int .i64 x, .int .u64 f]) (by simp [results, Tryd.f35, go_sem]) rfl ⟨rfl, ?_⟩
  exact Gb.drew (Gb.alloc (Gb.alloc (Gb.alloc (Gb.alloc (Gb.refl w) _ _) _ _) _ _) _ _)
theorem join32 (n : Bool) (x f r : Nat) (hx : x < 256) (hf : f < 2 ^ 23) (hr : (if n then 2 ^ 31 else 0) + x * 2 ^ 23 + f = r) (w : World) :
    Calls Tryd.prog 29 #[.agg #[.int .i64 32, .int .i64 8, .int .i64 23], .agg #[.bool n, .int .i64 x, .int .u64 f]] w fun e w' => e = .returned (.int .u64 r) ∧ Gb w w' := by
  have a1 : IntKind.u64.wrap (x : Int) = (x : Int) := wrap_u64 _ (by omega) (by omega)
  have a2 : IntKind.u64.wrap ((x : Int) * 8388608) = (x : Int) * 8388608 := wrap_u64 _ (by omega) (by omega)
  have a3 : bits .or .u64 ((x : Int) * 8388608) (f : Int) = ((x * 8388608 + f : Nat) : Int) := or_add x 23 f hf (by omega)
  have a4 : bits .or .u64 ((x * 8388608 + f : Nat) : Int) 2147483648 = ((2147483648 + (x * 8388608 + f) : Nat) : Int) := (or_add' 1 31 (x * 8388608 + f) (by omega) (by omega)).trans (by omega)
  generalize hy : x * 8388608 + f = y at a3 a4
  cases n with
  | false =>
    obtain rfl : y = r := by simp at hr; omega
    clear hr a4
    go_enter Tryd.func29, Tryd.ntmps29
    go_wp2
    go_region_held3 (fun w' => w'.cell? ⟨w.heap.size, 0, none⟩ = some (.int .i64 32) ∧ w'.cell? ⟨w.heap.size, 1, none⟩ = some (.int .i64 8) ∧ w'.cell? ⟨w.heap.size, 2, none⟩ = some (.int .i64 23) ∧ w'.cell? ⟨w.heap.size + 1, 0, none⟩ = some (.bool false) ∧ w'.cell? ⟨w.heap.size + 1, 1, none⟩ = some (.int .i64 x) ∧ w'.cell? ⟨w.heap.size + 1, 2, none⟩ = some (.int .u64 f)) (go_keep) (fail)
    go_wp2
    go_ret
    exact ⟨rfl, Gb.drew (Gb.alloc (Gb.alloc (Gb.refl w) _ _) _ _)⟩
  | true =>
    obtain rfl : 2147483648 + y = r := by simp at hr; omega
    clear hr
    generalize 2147483648 + y = r at a4
    go_enter Tryd.func29, Tryd.ntmps29
    go_wp2
    go_region_held3 (fun w' => w'.cell? ⟨w.heap.size, 0, none⟩ = some (.int .i64 32) ∧ w'.cell? ⟨w.heap.size, 1, none⟩ = some (.int .i64 8) ∧ w'.cell? ⟨w.heap.size, 2, none⟩ = some (.int .i64 23) ∧ w'.cell? ⟨w.heap.size + 1, 0, none⟩ = some (.bool true) ∧ w'.cell? ⟨w.heap.size + 1, 1, none⟩ = some (.int .i64 x) ∧ w'.cell? ⟨w.heap.size + 1, 2, none⟩ = some (.int .u64 f)) (go_keep) (fail)
    go_wp2
    go_ret
    exact ⟨rfl, Gb.drew (Gb.alloc (Gb.alloc (Gb.refl w) _ _) _ _)⟩
theorem lastExp64 (w : World) : Calls Tryd.prog 27 #[.agg #[.int .i64 64, .int .i64 11, .int .i64 52]] w fun e w' => e = .returned (.int .i64 2047) ∧ w' = w.alloc (.cells #[.int .i64 64, .int .i64 11, .int .i64 52] 55) := by
  go_enter Tryd.func27, Tryd.ntmps27
  go_wp2
  go_ret
  exact ⟨rfl, rfl⟩
theorem lastFrac64 (w : World) : Calls Tryd.prog 28 #[.agg #[.int .i64 64, .int .i64 11, .int .i64 52]] w fun e w' => e = .returned (.int .u64 4503599627370495) ∧ w' = w.alloc (.cells #[.int .i64 64, .int .i64 11, .int .i64 52] 55) := by
  go_enter Tryd.func28, Tryd.ntmps28
  go_wp2
  go_ret
  exact ⟨rfl, rfl⟩
theorem middle64 (w : World) : Calls Tryd.prog 37 #[.agg #[.int .i64 64, .int .i64 11, .int .i64 52]] w fun e w' => e = .returned (.int .i64 1023) ∧ w' = (w.alloc (.cells #[.int .i64 64, .int .i64 11, .int .i64 52] 55)).alloc (.cells #[.int .i64 64, .int .i64 11, .int .i64 52] 55) := by
  go_enter Tryd.func37, Tryd.ntmps37
  go_wp2_with (go_at_call 27; refine (lastExp64 _).mono ?_; rintro e w1 ⟨rfl, rfl⟩)
  go_ret
  exact ⟨rfl, rfl⟩
theorem apart64 (b x f : Nat) (n : Bool) (hb : b < 2 ^ 64) (hn : (b / 2 ^ 63 % 2 == 1) = n) (hx : b / 2 ^ 52 % 2048 = x) (hf : b % 2 ^ 52 = f) (w : World) :
    Calls Tryd.prog 35 #[.agg #[.int .i64 64, .int .i64 11, .int .i64 52], .int .u64 b] w fun e w' => e = .returned (.agg #[.bool n, .int .i64 x, .int .u64 f]) ∧ Gb w w' := by
  have e31 : IntKind.i64.wrap 63 = 63 := rfl
  have a1 : bits .and .u64 ((b : Int) / 9223372036854775808) 1 = (b : Int) / 9223372036854775808 % 2 := (and_mask64 (b / 9223372036854775808) 1 (by omega) (by omega)).trans (by omega)
  have a2 : bits .and .u64 (b : Int) 4503599627370495 = (f : Int) := by subst hf; exact and_mask64 b 52 (by omega) (by omega)
  have a3 : IntKind.i64.wrap ((b : Int) / 4503599627370496) = (b : Int) / 4503599627370496 := wrap_i64 _ (by omega) (by omega)
  have a4 : bits .and .i64 ((b : Int) / 4503599627370496) 2047 = (x : Int) := by subst hx; exact (and_maski (b / 4503599627370496) 11 (by omega) (by omega))
  have a5 : ((b : Int) / 9223372036854775808 % 2 == 1) = n := by
    rw [← hn, Bool.eq_iff_iff]; simp; omega
  clear hn hx hf
  go_enter Tryd.func35, Tryd.ntmps35
  go_wp2
  go_region_held3 (fun w' => w'.cell? ⟨w.heap.size, 0, none⟩ = some (.int .i64 64) ∧ w'.cell? ⟨w.heap.size, 1, none⟩ = some (.int .i64 11) ∧ w'.cell? ⟨w.heap.size, 2, none⟩ = some (.int .i64 52)) (go_keep) (first | (go_at_call 27; refine (lastExp64 _).mono ?_; rintro e w1 ⟨rfl, rfl⟩) | (go_at_call 28; refine (lastFrac64 _).mono ?_; rintro e w1 ⟨rfl, rfl⟩))
  go_wp2
  refine bodyPost_ret (v := .agg #[.bool n, .int .i64 x, .int .u64 f]) (by simp [results, Tryd.f35, go_sem]) rfl ⟨rfl, ?_⟩
  exact Gb.drew (Gb.alloc (Gb.alloc (Gb.alloc (Gb.alloc (Gb.refl w) _ _) _ _) _ _) _ _)
theorem join64 (n : Bool) (x f r : Nat) (hx : x < 2048) (hf : f < 2 ^ 52) (hr : (if n then 2 ^ 63 else 0) + x * 2 ^ 52 + f = r) (w : World) :
    Calls Tryd.prog 29 #[.agg #[.int .i64 64, .int .i64 11, .int .i64 52], .agg #[.bool n, .int .i64 x, .int .u64 f]] w fun e w' => e = .returned (.int .u64 r) ∧ Gb w w' := by
  have a1 : IntKind.u64.wrap (x : Int) = (x : Int) := wrap_u64 _ (by omega) (by omega)
  have a2 : IntKind.u64.wrap ((x : Int) * 4503599627370496) = (x : Int) * 4503599627370496 := wrap_u64 _ (by omega) (by omega)
  have a3 : bits .or .u64 ((x : Int) * 4503599627370496) (f : Int) = ((x * 4503599627370496 + f : Nat) : Int) := or_add x 52 f hf (by omega)
  have a4 : bits .or .u64 ((x * 4503599627370496 + f : Nat) : Int) 9223372036854775808 = ((9223372036854775808 + (x * 4503599627370496 + f) : Nat) : Int) := (or_add' 1 63 (x * 4503599627370496 + f) (by omega) (by omega)).trans (by omega)
  generalize hy : x * 4503599627370496 + f = y at a3 a4
  cases n with
  | false =>
    obtain rfl : y = r := by simp at hr; omega
    clear hr a4
    go_enter Tryd.func29, Tryd.ntmps29
    go_wp2
    go_region_held3 (fun w' => w'.cell? ⟨w.heap.size, 0, none⟩ = some (.int .i64 64) ∧ w'.cell? ⟨w.heap.size, 1, none⟩ = some (.int .i64 11) ∧ w'.cell? ⟨w.heap.size, 2, none⟩ = some (.int .i64 52) ∧ w'.cell? ⟨w.heap.size + 1, 0, none⟩ = some (.bool false) ∧ w'.cell? ⟨w.heap.size + 1, 1, none⟩ = some (.int .i64 x) ∧ w'.cell? ⟨w.heap.size + 1, 2, none⟩ = some (.int .u64 f)) (go_keep) (fail)
    go_wp2
    go_ret
    exact ⟨rfl, Gb.drew (Gb.alloc (Gb.alloc (Gb.refl w) _ _) _ _)⟩
  | true =>
    obtain rfl : 9223372036854775808 + y = r := by simp at hr; omega
    clear hr
    generalize 9223372036854775808 + y = r at a4
    go_enter Tryd.func29, Tryd.ntmps29
    go_wp2
    go_region_held3 (fun w' => w'.cell? ⟨w.heap.size, 0, none⟩ = some (.int .i64 64) ∧ w'.cell? ⟨w.heap.size, 1, none⟩ = some (.int .i64 11) ∧ w'.cell? ⟨w.heap.size, 2, none⟩ = some (.int .i64 52) ∧ w'.cell? ⟨w.heap.size + 1, 0, none⟩ = some (.bool true) ∧ w'.cell? ⟨w.heap.size + 1, 1, none⟩ = some (.int .i64 x) ∧ w'.cell? ⟨w.heap.size + 1, 2, none⟩ = some (.int .u64 f)) (go_keep) (fail)
    go_wp2
    go_ret
    exact ⟨rfl, Gb.drew (Gb.alloc (Gb.alloc (Gb.refl w) _ _) _ _)⟩
end Go.Proofs.YtnhekkahiphlgaaDoor.rl
