/- The document's own: where bits stand in the order of reals, and the bits of parts. -/
import Derived.Test.YtnhekkahiphlgaaDoorRefReal2
namespace Go.Proofs.YtnhekkahiphlgaaDoor.rl
open Go.RowKit
open mem
attribute [local go_sem] World.cell?_alloc_some
theorem refKeyNo (b : Nat) (d : Int) (hd : d ≠ 32 ∧ d ≠ 64) (w : World) :
    Calls Tryd.prog 11 #[.int .u64 b, .int .i64 d] w fun e w' => e = .returned (.tuple #[.int .i64 0, .int .i64 1]) ∧ Gb w w' := by
  go_enter Tryd.func11, Tryd.ntmps11
  go_wp2_with (go_at_call 31; refine (refApartNo b d hd _).mono ?_; rintro e w1 ⟨rfl, g1⟩)
  go_ret2
  exact ⟨rfl, g1.trans (Gb.alloc (Gb.refl w1) _ _)⟩
theorem refNextNo (b : Nat) (d y : Int) (hd : d ≠ 32 ∧ d ≠ 64) (w : World) :
    Calls Tryd.prog 13 #[.int .u64 b, .int .i64 d, .int .i64 y] w fun e w' => e = .returned (.tuple #[.int .u64 0, .int .i64 1]) ∧ Gb w w' := by
  go_enter Tryd.func13, Tryd.ntmps13
  go_wp2_with (go_at_call 33; refine (refClassNo b d hd _).mono ?_; rintro e w1 ⟨rfl, g1⟩)
  go_ret2
  exact ⟨rfl, g1⟩
theorem refKey32 (b : Nat) (k : Int) (hb : b < 2 ^ 64) (hk : keyN (2 ^ 31) b = k) (w : World) :
    Calls Tryd.prog 11 #[.int .u64 b, .int .i64 32] w fun e w' => e = .returned (.tuple #[.int .i64 k, .int .i64 0]) ∧ Gb w w' := by
  have pF : ∀ w, Calls Tryd.prog 24 #[.int .i64 23] w fun e w' => e = .returned (.int .u64 8388608) ∧ w' = w := fun w => pow2_at 23 8388608 (by omega) rfl w
  unfold keyN at hk
  have hj : (b / 2 ^ 23 % 256) * 2 ^ 23 + b % 2 ^ 23 = b % 2 ^ 31 := by omega
  have hm : b % 2 ^ 31 < 2 ^ 31 := Nat.mod_lt _ (by omega)
  obtain ⟨x, hx⟩ : ∃ x, b / 2 ^ 23 % 256 = x := ⟨_, rfl⟩
  obtain ⟨f, hf⟩ : ∃ f, b % 2 ^ 23 = f := ⟨_, rfl⟩
  obtain ⟨n, hn⟩ : ∃ n, (b / 2 ^ 31 % 2 == 1) = n := ⟨_, rfl⟩
  rw [hx, hf] at hj
  have a0 : b / 2 ^ 31 % 2 = 1 ↔ n = true := by rw [← hn]; simp
  simp only [a0] at hk
  obtain ⟨m, hmm⟩ : ∃ m, b % 2 ^ 31 = m := ⟨_, rfl⟩
  rw [hmm] at hj hk hm
  obtain ⟨P, hP⟩ : ∃ P, x * 2 ^ 23 = P := ⟨_, rfl⟩
  rw [hP] at hj
  have t1 : IntKind.i64.wrap 8388608 = 8388608 := wrap_i64 _ (by omega) (by omega)
  have t2 : IntKind.i64.wrap ((x : Int) * 8388608) = (P : Int) := (wrap_i64 _ (by omega) (by omega)).trans (by omega)
  have t3 : IntKind.i64.wrap (f : Int) = (f : Int) := wrap_i64 _ (by omega) (by omega)
  have t4 : IntKind.i64.wrap ((P : Int) + (f : Int)) = (m : Int) := (wrap_i64 _ (by omega) (by omega)).trans (by omega)
  have t5 : IntKind.i64.wrap (-1 - (m : Int)) = -1 - (m : Int) := wrap_i64 _ (by omega) (by omega)
  have HN : Hid _ := hn
  have HX : Hid _ := hx
  have HF : Hid _ := hf
  clear hn hx hf hmm hP hj a0 hm
  cases n
  · have hk' : (m : Int) = k := by simpa using hk
    subst hk'
    clear hk
    go_enter Tryd.func11, Tryd.ntmps11
    go_wp2_with (first | (go_at_call 31; refine (refApart32 b x f false hb HN.out HX.out HF.out _).mono ?_; rintro e w1 ⟨rfl, g1⟩) | (go_at_call 23; refine (form32 _).mono ?_; rintro e w2 ⟨rfl, rfl⟩))
    go_region_held3 (fun w' => w'.cell? ⟨w1.heap.size, 0, none⟩ = some (.bool false) ∧ w'.cell? ⟨w1.heap.size, 1, none⟩ = some (.int .i64 x) ∧ w'.cell? ⟨w1.heap.size, 2, none⟩ = some (.int .u64 f)) (go_keep) (first | (go_at_call 24; refine (pF _).mono ?_; rintro e w2 ⟨rfl, rfl⟩))
    go_wp2
    go_ret2
    exact ⟨rfl, g1.trans (Gb.drew (Gb.alloc (Gb.refl w1) _ _))⟩
  · have hk' : -1 - (m : Int) = k := by simpa using hk
    subst hk'
    clear hk
    go_enter Tryd.func11, Tryd.ntmps11
    go_wp2_with (first | (go_at_call 31; refine (refApart32 b x f true hb HN.out HX.out HF.out _).mono ?_; rintro e w1 ⟨rfl, g1⟩) | (go_at_call 23; refine (form32 _).mono ?_; rintro e w2 ⟨rfl, rfl⟩))
    go_region_held3 (fun w' => w'.cell? ⟨w1.heap.size, 0, none⟩ = some (.bool true) ∧ w'.cell? ⟨w1.heap.size, 1, none⟩ = some (.int .i64 x) ∧ w'.cell? ⟨w1.heap.size, 2, none⟩ = some (.int .u64 f)) (go_keep) (first | (go_at_call 24; refine (pF _).mono ?_; rintro e w2 ⟨rfl, rfl⟩))
    go_wp2
    go_ret2
    exact ⟨rfl, g1.trans (Gb.drew (Gb.alloc (Gb.refl w1) _ _))⟩
theorem refKey64 (b : Nat) (k : Int) (hb : b < 2 ^ 64) (hk : keyN (2 ^ 63) b = k) (w : World) :
    Calls Tryd.prog 11 #[.int .u64 b, .int .i64 64] w fun e w' => e = .returned (.tuple #[.int .i64 k, .int .i64 0]) ∧ Gb w w' := by
  have pF : ∀ w, Calls Tryd.prog 24 #[.int .i64 52] w fun e w' => e = .returned (.int .u64 4503599627370496) ∧ w' = w := fun w => pow2_at 52 4503599627370496 (by omega) rfl w
  unfold keyN at hk
  have hj : (b / 2 ^ 52 % 2048) * 2 ^ 52 + b % 2 ^ 52 = b % 2 ^ 63 := by omega
  have hm : b % 2 ^ 63 < 2 ^ 63 := Nat.mod_lt _ (by omega)
  obtain ⟨x, hx⟩ : ∃ x, b / 2 ^ 52 % 2048 = x := ⟨_, rfl⟩
  obtain ⟨f, hf⟩ : ∃ f, b % 2 ^ 52 = f := ⟨_, rfl⟩
  obtain ⟨n, hn⟩ : ∃ n, (b / 2 ^ 63 % 2 == 1) = n := ⟨_, rfl⟩
  rw [hx, hf] at hj
  have a0 : b / 2 ^ 63 % 2 = 1 ↔ n = true := by rw [← hn]; simp
  simp only [a0] at hk
  obtain ⟨m, hmm⟩ : ∃ m, b % 2 ^ 63 = m := ⟨_, rfl⟩
  rw [hmm] at hj hk hm
  obtain ⟨P, hP⟩ : ∃ P, x * 2 ^ 52 = P := ⟨_, rfl⟩
  rw [hP] at hj
  have t1 : IntKind.i64.wrap 4503599627370496 = 4503599627370496 := wrap_i64 _ (by omega) (by omega)
  have t2 : IntKind.i64.wrap ((x : Int) * 4503599627370496) = (P : Int) := (wrap_i64 _ (by omega) (by omega)).trans (by omega)
  have t3 : IntKind.i64.wrap (f : Int) = (f : Int) := wrap_i64 _ (by omega) (by omega)
  have t4 : IntKind.i64.wrap ((P : Int) + (f : Int)) = (m : Int) := (wrap_i64 _ (by omega) (by omega)).trans (by omega)
  have t5 : IntKind.i64.wrap (-1 - (m : Int)) = -1 - (m : Int) := wrap_i64 _ (by omega) (by omega)
  have HN : Hid _ := hn
  have HX : Hid _ := hx
  have HF : Hid _ := hf
  clear hn hx hf hmm hP hj a0 hm
  cases n
  · have hk' : (m : Int) = k := by simpa using hk
    subst hk'
    clear hk
    go_enter Tryd.func11, Tryd.ntmps11
    go_wp2_with (first | (go_at_call 31; refine (refApart64 b x f false hb HN.out HX.out HF.out _).mono ?_; rintro e w1 ⟨rfl, g1⟩) | (go_at_call 23; refine (form64 _).mono ?_; rintro e w2 ⟨rfl, rfl⟩))
    go_region_held3 (fun w' => w'.cell? ⟨w1.heap.size, 0, none⟩ = some (.bool false) ∧ w'.cell? ⟨w1.heap.size, 1, none⟩ = some (.int .i64 x) ∧ w'.cell? ⟨w1.heap.size, 2, none⟩ = some (.int .u64 f)) (go_keep) (first | (go_at_call 24; refine (pF _).mono ?_; rintro e w2 ⟨rfl, rfl⟩))
    go_wp2
    go_ret2
    exact ⟨rfl, g1.trans (Gb.drew (Gb.alloc (Gb.refl w1) _ _))⟩
  · have hk' : -1 - (m : Int) = k := by simpa using hk
    subst hk'
    clear hk
    go_enter Tryd.func11, Tryd.ntmps11
    go_wp2_with (first | (go_at_call 31; refine (refApart64 b x f true hb HN.out HX.out HF.out _).mono ?_; rintro e w1 ⟨rfl, g1⟩) | (go_at_call 23; refine (form64 _).mono ?_; rintro e w2 ⟨rfl, rfl⟩))
    go_region_held3 (fun w' => w'.cell? ⟨w1.heap.size, 0, none⟩ = some (.bool true) ∧ w'.cell? ⟨w1.heap.size, 1, none⟩ = some (.int .i64 x) ∧ w'.cell? ⟨w1.heap.size, 2, none⟩ = some (.int .u64 f)) (go_keep) (first | (go_at_call 24; refine (pF _).mono ?_; rintro e w2 ⟨rfl, rfl⟩))
    go_wp2
    go_ret2
    exact ⟨rfl, g1.trans (Gb.drew (Gb.alloc (Gb.refl w1) _ _))⟩
end Go.Proofs.YtnhekkahiphlgaaDoor.rl
