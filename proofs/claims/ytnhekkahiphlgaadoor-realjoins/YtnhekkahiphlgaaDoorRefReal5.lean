/- The document's own: the next real, up and down. -/
import Derived.Test.YtnhekkahiphlgaaDoorRefReal4
import Derived.Test.YtnhekkahiphlgaaDoorReal9
namespace Go.Proofs.YtnhekkahiphlgaaDoor.rl
open Go.RowKit
open mem
attribute [local go_sem] World.cell?_alloc_some
theorem cls_ne4 (L x f c : Nat) (d n : Bool) (hok : x = L → f = 0 ∧ n ≠ d) (hc : cls L x f = c) : c ≠ 4 ∧ (c = 3 → n ≠ d) := by
  unfold cls at hc
  split at hc
  · rename_i hx
    have := hok hx
    rw [if_pos this.1] at hc
    exact ⟨by omega, fun _ => this.2⟩
  · split at hc
    · split at hc <;> exact ⟨by omega, fun _ => by omega⟩
    · exact ⟨by omega, fun _ => by omega⟩
set_option maxHeartbeats 2000000 in
theorem refNextUfaway32 (b x f m m' X Y r c : Nat) (hb : b < 2 ^ 64) (hn : (b / 2 ^ 31 % 2 == 1) = false) (hx : b / 2 ^ 23 % 256 = x) (hf : b % 2 ^ 23 = f) (hm : b % 2 ^ 31 = m) (hc : cls 255 x f = c)
    (hc4 : c ≠ 4) (hc3 : c ≠ 3) (hm' : m + 1 = m') (hX' : m' / 2 ^ 23 = X) (hY' : m' % 2 ^ 23 = Y) (hX : X < 256) (hr : (if false then 2 ^ 31 else 0) + X * 2 ^ 23 + Y = r) (w : World) :
    Calls Tryd.prog 13 #[.int .u64 b, .int .i64 32, .int .i64 1] w fun e w' => e = .returned (.tuple #[.int .u64 r, .int .i64 0]) ∧ Gb w w' := by
  have pF : ∀ w, Calls Tryd.prog 24 #[.int .i64 23] w fun e w' => e = .returned (.int .u64 8388608) ∧ w' = w := fun w => pow2_at 23 8388608 (by omega) rfl w
  have hmx : x * 2 ^ 23 + f = m := by omega
  have hY : Y < 2 ^ 23 := by rw [← hY']; exact Nat.mod_lt _ (by omega)
  obtain ⟨P, hP⟩ : ∃ P, x * 2 ^ 23 = P := ⟨_, rfl⟩
  rw [hP] at hmx
  have t1 : IntKind.u64.wrap (x : Int) = (x : Int) := wrap_u64 _ (by omega) (by omega)
  have t2 : IntKind.u64.wrap ((x : Int) * 8388608) = (P : Int) := (wrap_u64 _ (by omega) (by omega)).trans (by omega)
  have t3 : IntKind.u64.wrap ((P : Int) + (f : Int)) = (m : Int) := (wrap_u64 _ (by omega) (by omega)).trans (by omega)
  have t4 : ((c : Int) == 4) = false := by simp; omega
  have t5 : ((c : Int) == 3) = false := by simp; omega
  have t6 : IntKind.u64.wrap ((m : Int) + 1) = (m' : Int) := (wrap_u64 _ (by omega) (by omega)).trans (by omega)
  have q1 : (m' : Int).tdiv 8388608 = (X : Int) := by rw [Int.tdiv_eq_ediv_of_nonneg (by omega)]; omega
  have q2 : (m' : Int).tmod 8388608 = (Y : Int) := by rw [Int.tmod_eq_emod_of_nonneg (by omega)]; omega
  have q3 : IntKind.u64.wrap (X : Int) = (X : Int) := wrap_u64 _ (by omega) (by omega)
  have q4 : IntKind.i64.wrap (X : Int) = (X : Int) := wrap_i64 _ (by omega) (by omega)
  have HN : Hid _ := hn
  have HX : Hid _ := hx
  have HF : Hid _ := hf
  have HC : Hid _ := hc
  clear hn hx hf hc hm hmx hP hX' hY' hc4 hc3 hm'
  go_enter Tryd.func13, Tryd.ntmps13
  go_wp2_with (first | (go_at_call 33; refine (refClass32 b x f c hb HX.out HF.out HC.out _).mono ?_; rintro e w1 ⟨rfl, g1⟩) | (go_at_call 31; refine (refApart32 b x f false hb HN.out HX.out HF.out _).mono ?_; rintro e w2 ⟨rfl, g2⟩) | (go_at_call 23; refine (form32 _).mono ?_; rintro e w3 ⟨rfl, rfl⟩))
  go_region_held3 (fun w' => w'.cell? ⟨w2.heap.size, 0, none⟩ = some (.bool false) ∧ w'.cell? ⟨w2.heap.size, 1, none⟩ = some (.int .i64 x) ∧ w'.cell? ⟨w2.heap.size, 2, none⟩ = some (.int .u64 f)) (go_keep) (first | (go_at_call 24; refine (pF _).mono ?_; rintro e w3 ⟨rfl, rfl⟩))
  go_wp2
  go_region_held3 (fun w' => w'.cell? ⟨w2.heap.size, 0, none⟩ = some (.bool false) ∧ w'.cell? ⟨w2.heap.size, 1, none⟩ = some (.int .i64 x) ∧ w'.cell? ⟨w2.heap.size, 2, none⟩ = some (.int .u64 f)) (go_keep) (first | (go_at_call 24; refine (pF _).mono ?_; rintro e w3 ⟨rfl, rfl⟩) | (go_at_call 8; refine (refJoin32 false X Y r hX hY hr _).mono ?_; rintro e w5 ⟨rfl, g5⟩; have c0 := at_gb g5 (a := ⟨w2.heap.size, 0, none⟩) (v := .bool false) (by go_simp); have c1 := at_gb g5 (a := ⟨w2.heap.size, 1, none⟩) (v := .int .i64 x) (by go_simp); have c2 := at_gb g5 (a := ⟨w2.heap.size, 2, none⟩) (v := .int .u64 f) (by go_simp)))
  go_wp2
  go_ret2
  exact ⟨rfl, g1.trans (g2.trans ((Gb.drew (Gb.drew (Gb.alloc (Gb.refl w2) _ _))).trans g5))⟩
set_option maxHeartbeats 2000000 in
theorem refNextUtzero32 (b x f m m' X Y r c : Nat) (hb : b < 2 ^ 64) (hn : (b / 2 ^ 31 % 2 == 1) = true) (hx : b / 2 ^ 23 % 256 = x) (hf : b % 2 ^ 23 = f) (hm : b % 2 ^ 31 = m) (hc : cls 255 x f = c)
    (hc4 : c ≠ 4) (h0 : m = 0) (hm' : 0 = m') (hX' : m' / 2 ^ 23 = X) (hY' : m' % 2 ^ 23 = Y) (hX : X < 256) (hr : (if false then 2 ^ 31 else 0) + X * 2 ^ 23 + Y = r) (w : World) :
    Calls Tryd.prog 13 #[.int .u64 b, .int .i64 32, .int .i64 1] w fun e w' => e = .returned (.tuple #[.int .u64 r, .int .i64 0]) ∧ Gb w w' := by
  have pF : ∀ w, Calls Tryd.prog 24 #[.int .i64 23] w fun e w' => e = .returned (.int .u64 8388608) ∧ w' = w := fun w => pow2_at 23 8388608 (by omega) rfl w
  have hmx : x * 2 ^ 23 + f = m := by omega
  have hY : Y < 2 ^ 23 := by rw [← hY']; exact Nat.mod_lt _ (by omega)
  obtain ⟨P, hP⟩ : ∃ P, x * 2 ^ 23 = P := ⟨_, rfl⟩
  rw [hP] at hmx
  have t1 : IntKind.u64.wrap (x : Int) = (x : Int) := wrap_u64 _ (by omega) (by omega)
  have t2 : IntKind.u64.wrap ((x : Int) * 8388608) = (P : Int) := (wrap_u64 _ (by omega) (by omega)).trans (by omega)
  have t3 : IntKind.u64.wrap ((P : Int) + (f : Int)) = (m : Int) := (wrap_u64 _ (by omega) (by omega)).trans (by omega)
  have t4 : ((c : Int) == 4) = false := by simp; omega
  have t5 : ((c : Int) == 3) = false := by
    have : c ≠ 3 := fun e => by
      rw [← hc] at e; unfold cls at e
      split at e
      · omega
      · split at e <;> (try split at e) <;> omega
    simp; omega
  have t6 : ((m : Int) == 0) = true := by simp; omega
  have q0 : X = 0 ∧ Y = 0 := by rw [← hX', ← hY', ← hm']; simp
  have q1 : (m : Int).tdiv 8388608 = (X : Int) := by rw [Int.tdiv_eq_ediv_of_nonneg (by omega)]; omega
  have q2 : (m : Int).tmod 8388608 = (Y : Int) := by rw [Int.tmod_eq_emod_of_nonneg (by omega)]; omega
  have q3 : IntKind.u64.wrap (X : Int) = (X : Int) := wrap_u64 _ (by omega) (by omega)
  have q4 : IntKind.i64.wrap (X : Int) = (X : Int) := wrap_i64 _ (by omega) (by omega)
  have HN : Hid _ := hn
  have HX : Hid _ := hx
  have HF : Hid _ := hf
  have HC : Hid _ := hc
  clear hn hx hf hc hm hmx hP hX' hY' hc4 h0 hm' q0
  go_enter Tryd.func13, Tryd.ntmps13
  go_wp2_with (first | (go_at_call 33; refine (refClass32 b x f c hb HX.out HF.out HC.out _).mono ?_; rintro e w1 ⟨rfl, g1⟩) | (go_at_call 31; refine (refApart32 b x f true hb HN.out HX.out HF.out _).mono ?_; rintro e w2 ⟨rfl, g2⟩) | (go_at_call 23; refine (form32 _).mono ?_; rintro e w3 ⟨rfl, rfl⟩))
  go_region_held3 (fun w' => w'.cell? ⟨w2.heap.size, 0, none⟩ = some (.bool true) ∧ w'.cell? ⟨w2.heap.size, 1, none⟩ = some (.int .i64 x) ∧ w'.cell? ⟨w2.heap.size, 2, none⟩ = some (.int .u64 f)) (go_keep) (first | (go_at_call 24; refine (pF _).mono ?_; rintro e w3 ⟨rfl, rfl⟩))
  go_wp2
  go_region_held3 (fun w' => w'.cell? ⟨w2.heap.size, 0, none⟩ = some (.bool false) ∧ w'.cell? ⟨w2.heap.size, 1, none⟩ = some (.int .i64 x) ∧ w'.cell? ⟨w2.heap.size, 2, none⟩ = some (.int .u64 f)) (go_keep) (first | (go_at_call 24; refine (pF _).mono ?_; rintro e w3 ⟨rfl, rfl⟩) | (go_at_call 8; refine (refJoin32 false X Y r hX hY hr _).mono ?_; rintro e w5 ⟨rfl, g5⟩; have c0 := at_gb g5 (a := ⟨w2.heap.size, 0, none⟩) (v := .bool false) (by go_simp); have c1 := at_gb g5 (a := ⟨w2.heap.size, 1, none⟩) (v := .int .i64 x) (by go_simp); have c2 := at_gb g5 (a := ⟨w2.heap.size, 2, none⟩) (v := .int .u64 f) (by go_simp)))
  go_wp2
  go_ret2
  exact ⟨rfl, g1.trans (g2.trans ((Gb.drew (Gb.drew (Gb.alloc (Gb.refl w2) _ _))).trans g5))⟩
set_option maxHeartbeats 2000000 in
theorem refNextUtdec32 (b x f m m' X Y r c : Nat) (hb : b < 2 ^ 64) (hn : (b / 2 ^ 31 % 2 == 1) = true) (hx : b / 2 ^ 23 % 256 = x) (hf : b % 2 ^ 23 = f) (hm : b % 2 ^ 31 = m) (hc : cls 255 x f = c)
    (hc4 : c ≠ 4) (h0 : m ≠ 0) (hm' : m - 1 = m') (hX' : m' / 2 ^ 23 = X) (hY' : m' % 2 ^ 23 = Y) (hX : X < 256) (hr : (if true then 2 ^ 31 else 0) + X * 2 ^ 23 + Y = r) (w : World) :
    Calls Tryd.prog 13 #[.int .u64 b, .int .i64 32, .int .i64 1] w fun e w' => e = .returned (.tuple #[.int .u64 r, .int .i64 0]) ∧ Gb w w' := by
  have pF : ∀ w, Calls Tryd.prog 24 #[.int .i64 23] w fun e w' => e = .returned (.int .u64 8388608) ∧ w' = w := fun w => pow2_at 23 8388608 (by omega) rfl w
  have hmx : x * 2 ^ 23 + f = m := by omega
  have hY : Y < 2 ^ 23 := by rw [← hY']; exact Nat.mod_lt _ (by omega)
  obtain ⟨P, hP⟩ : ∃ P, x * 2 ^ 23 = P := ⟨_, rfl⟩
  rw [hP] at hmx
  have t1 : IntKind.u64.wrap (x : Int) = (x : Int) := wrap_u64 _ (by omega) (by omega)
  have t2 : IntKind.u64.wrap ((x : Int) * 8388608) = (P : Int) := (wrap_u64 _ (by omega) (by omega)).trans (by omega)
  have t3 : IntKind.u64.wrap ((P : Int) + (f : Int)) = (m : Int) := (wrap_u64 _ (by omega) (by omega)).trans (by omega)
  have t4 : ((c : Int) == 4) = false := by simp; omega
  have t6 : ((m : Int) == 0) = false := by simp; omega
  have t7 : IntKind.u64.wrap ((m : Int) - 1) = (m' : Int) := (wrap_u64 _ (by omega) (by omega)).trans (by omega)
  have q1 : (m' : Int).tdiv 8388608 = (X : Int) := by rw [Int.tdiv_eq_ediv_of_nonneg (by omega)]; omega
  have q2 : (m' : Int).tmod 8388608 = (Y : Int) := by rw [Int.tmod_eq_emod_of_nonneg (by omega)]; omega
  have q3 : IntKind.u64.wrap (X : Int) = (X : Int) := wrap_u64 _ (by omega) (by omega)
  have q4 : IntKind.i64.wrap (X : Int) = (X : Int) := wrap_i64 _ (by omega) (by omega)
  have HN : Hid _ := hn
  have HX : Hid _ := hx
  have HF : Hid _ := hf
  have HC : Hid _ := hc
  clear hn hx hf hc hm hmx hP hX' hY' hc4 h0 hm'
  by_cases e3 : c = 3
  · have t5 : ((c : Int) == 3) = true := by simp; omega
    clear e3
    go_enter Tryd.func13, Tryd.ntmps13
    go_wp2_with (first | (go_at_call 33; refine (refClass32 b x f c hb HX.out HF.out HC.out _).mono ?_; rintro e w1 ⟨rfl, g1⟩) | (go_at_call 31; refine (refApart32 b x f true hb HN.out HX.out HF.out _).mono ?_; rintro e w2 ⟨rfl, g2⟩) | (go_at_call 23; refine (form32 _).mono ?_; rintro e w3 ⟨rfl, rfl⟩))
    go_region_held3 (fun w' => w'.cell? ⟨w2.heap.size, 0, none⟩ = some (.bool true) ∧ w'.cell? ⟨w2.heap.size, 1, none⟩ = some (.int .i64 x) ∧ w'.cell? ⟨w2.heap.size, 2, none⟩ = some (.int .u64 f)) (go_keep) (first | (go_at_call 24; refine (pF _).mono ?_; rintro e w3 ⟨rfl, rfl⟩))
    go_wp2
    go_region_held3 (fun w' => w'.cell? ⟨w2.heap.size, 0, none⟩ = some (.bool true) ∧ w'.cell? ⟨w2.heap.size, 1, none⟩ = some (.int .i64 x) ∧ w'.cell? ⟨w2.heap.size, 2, none⟩ = some (.int .u64 f)) (go_keep) (first | (go_at_call 24; refine (pF _).mono ?_; rintro e w3 ⟨rfl, rfl⟩) | (go_at_call 8; refine (refJoin32 true X Y r hX hY hr _).mono ?_; rintro e w5 ⟨rfl, g5⟩; have c0 := at_gb g5 (a := ⟨w2.heap.size, 0, none⟩) (v := .bool true) (by go_simp); have c1 := at_gb g5 (a := ⟨w2.heap.size, 1, none⟩) (v := .int .i64 x) (by go_simp); have c2 := at_gb g5 (a := ⟨w2.heap.size, 2, none⟩) (v := .int .u64 f) (by go_simp)))
    go_wp2
    go_ret2
    exact ⟨rfl, g1.trans (g2.trans ((Gb.drew (Gb.drew (Gb.alloc (Gb.refl w2) _ _))).trans g5))⟩
  · have t5 : ((c : Int) == 3) = false := by simp; omega
    clear e3
    go_enter Tryd.func13, Tryd.ntmps13
    go_wp2_with (first | (go_at_call 33; refine (refClass32 b x f c hb HX.out HF.out HC.out _).mono ?_; rintro e w1 ⟨rfl, g1⟩) | (go_at_call 31; refine (refApart32 b x f true hb HN.out HX.out HF.out _).mono ?_; rintro e w2 ⟨rfl, g2⟩) | (go_at_call 23; refine (form32 _).mono ?_; rintro e w3 ⟨rfl, rfl⟩))
    go_region_held3 (fun w' => w'.cell? ⟨w2.heap.size, 0, none⟩ = some (.bool true) ∧ w'.cell? ⟨w2.heap.size, 1, none⟩ = some (.int .i64 x) ∧ w'.cell? ⟨w2.heap.size, 2, none⟩ = some (.int .u64 f)) (go_keep) (first | (go_at_call 24; refine (pF _).mono ?_; rintro e w3 ⟨rfl, rfl⟩))
    go_wp2
    go_region_held3 (fun w' => w'.cell? ⟨w2.heap.size, 0, none⟩ = some (.bool true) ∧ w'.cell? ⟨w2.heap.size, 1, none⟩ = some (.int .i64 x) ∧ w'.cell? ⟨w2.heap.size, 2, none⟩ = some (.int .u64 f)) (go_keep) (first | (go_at_call 24; refine (pF _).mono ?_; rintro e w3 ⟨rfl, rfl⟩) | (go_at_call 8; refine (refJoin32 true X Y r hX hY hr _).mono ?_; rintro e w5 ⟨rfl, g5⟩; have c0 := at_gb g5 (a := ⟨w2.heap.size, 0, none⟩) (v := .bool true) (by go_simp); have c1 := at_gb g5 (a := ⟨w2.heap.size, 1, none⟩) (v := .int .i64 x) (by go_simp); have c2 := at_gb g5 (a := ⟨w2.heap.size, 2, none⟩) (v := .int .u64 f) (by go_simp)))
    go_wp2
    go_ret2
    exact ⟨rfl, g1.trans (g2.trans ((Gb.drew (Gb.drew (Gb.alloc (Gb.refl w2) _ _))).trans g5))⟩
set_option maxHeartbeats 2000000 in
theorem refNextDfzero32 (b x f m m' X Y r c : Nat) (hb : b < 2 ^ 64) (hn : (b / 2 ^ 31 % 2 == 1) = false) (hx : b / 2 ^ 23 % 256 = x) (hf : b % 2 ^ 23 = f) (hm : b % 2 ^ 31 = m) (hc : cls 255 x f = c)
    (hc4 : c ≠ 4) (h0 : m = 0) (hm' : 0 = m') (hX' : m' / 2 ^ 23 = X) (hY' : m' % 2 ^ 23 = Y) (hX : X < 256) (hr : (if true then 2 ^ 31 else 0) + X * 2 ^ 23 + Y = r) (w : World) :
    Calls Tryd.prog 13 #[.int .u64 b, .int .i64 32, .int .i64 (-1)] w fun e w' => e = .returned (.tuple #[.int .u64 r, .int .i64 0]) ∧ Gb w w' := by
  have pF : ∀ w, Calls Tryd.prog 24 #[.int .i64 23] w fun e w' => e = .returned (.int .u64 8388608) ∧ w' = w := fun w => pow2_at 23 8388608 (by omega) rfl w
  have hmx : x * 2 ^ 23 + f = m := by omega
  have hY : Y < 2 ^ 23 := by rw [← hY']; exact Nat.mod_lt _ (by omega)
  obtain ⟨P, hP⟩ : ∃ P, x * 2 ^ 23 = P := ⟨_, rfl⟩
  rw [hP] at hmx
  have t1 : IntKind.u64.wrap (x : Int) = (x : Int) := wrap_u64 _ (by omega) (by omega)
  have t2 : IntKind.u64.wrap ((x : Int) * 8388608) = (P : Int) := (wrap_u64 _ (by omega) (by omega)).trans (by omega)
  have t3 : IntKind.u64.wrap ((P : Int) + (f : Int)) = (m : Int) := (wrap_u64 _ (by omega) (by omega)).trans (by omega)
  have t4 : ((c : Int) == 4) = false := by simp; omega
  have t5 : ((c : Int) == 3) = false := by
    have : c ≠ 3 := fun e => by
      rw [← hc] at e; unfold cls at e
      split at e
      · omega
      · split at e <;> (try split at e) <;> omega
    simp; omega
  have t6 : ((m : Int) == 0) = true := by simp; omega
  have q0 : X = 0 ∧ Y = 0 := by rw [← hX', ← hY', ← hm']; simp
  have q1 : (m : Int).tdiv 8388608 = (X : Int) := by rw [Int.tdiv_eq_ediv_of_nonneg (by omega)]; omega
  have q2 : (m : Int).tmod 8388608 = (Y : Int) := by rw [Int.tmod_eq_emod_of_nonneg (by omega)]; omega
  have q3 : IntKind.u64.wrap (X : Int) = (X : Int) := wrap_u64 _ (by omega) (by omega)
  have q4 : IntKind.i64.wrap (X : Int) = (X : Int) := wrap_i64 _ (by omega) (by omega)
  have HN : Hid _ := hn
  have HX : Hid _ := hx
  have HF : Hid _ := hf
  have HC : Hid _ := hc
  clear hn hx hf hc hm hmx hP hX' hY' hc4 h0 hm' q0
  go_enter Tryd.func13, Tryd.ntmps13
  go_wp2_with (first | (go_at_call 33; refine (refClass32 b x f c hb HX.out HF.out HC.out _).mono ?_; rintro e w1 ⟨rfl, g1⟩) | (go_at_call 31; refine (refApart32 b x f false hb HN.out HX.out HF.out _).mono ?_; rintro e w2 ⟨rfl, g2⟩) | (go_at_call 23; refine (form32 _).mono ?_; rintro e w3 ⟨rfl, rfl⟩))
  go_region_held3 (fun w' => w'.cell? ⟨w2.heap.size, 0, none⟩ = some (.bool false) ∧ w'.cell? ⟨w2.heap.size, 1, none⟩ = some (.int .i64 x) ∧ w'.cell? ⟨w2.heap.size, 2, none⟩ = some (.int .u64 f)) (go_keep) (first | (go_at_call 24; refine (pF _).mono ?_; rintro e w3 ⟨rfl, rfl⟩))
  go_wp2
  go_region_held3 (fun w' => w'.cell? ⟨w2.heap.size, 0, none⟩ = some (.bool true) ∧ w'.cell? ⟨w2.heap.size, 1, none⟩ = some (.int .i64 x) ∧ w'.cell? ⟨w2.heap.size, 2, none⟩ = some (.int .u64 f)) (go_keep) (first | (go_at_call 24; refine (pF _).mono ?_; rintro e w3 ⟨rfl, rfl⟩) | (go_at_call 8; refine (refJoin32 true X Y r hX hY hr _).mono ?_; rintro e w5 ⟨rfl, g5⟩; have c0 := at_gb g5 (a := ⟨w2.heap.size, 0, none⟩) (v := .bool true) (by go_simp); have c1 := at_gb g5 (a := ⟨w2.heap.size, 1, none⟩) (v := .int .i64 x) (by go_simp); have c2 := at_gb g5 (a := ⟨w2.heap.size, 2, none⟩) (v := .int .u64 f) (by go_simp)))
  go_wp2
  go_ret2
  exact ⟨rfl, g1.trans (g2.trans ((Gb.drew (Gb.drew (Gb.alloc (Gb.refl w2) _ _))).trans g5))⟩
set_option maxHeartbeats 2000000 in
theorem refNextDfdec32 (b x f m m' X Y r c : Nat) (hb : b < 2 ^ 64) (hn : (b / 2 ^ 31 % 2 == 1) = false) (hx : b / 2 ^ 23 % 256 = x) (hf : b % 2 ^ 23 = f) (hm : b % 2 ^ 31 = m) (hc : cls 255 x f = c)
    (hc4 : c ≠ 4) (h0 : m ≠ 0) (hm' : m - 1 = m') (hX' : m' / 2 ^ 23 = X) (hY' : m' % 2 ^ 23 = Y) (hX : X < 256) (hr : (if false then 2 ^ 31 else 0) + X * 2 ^ 23 + Y = r) (w : World) :
    Calls Tryd.prog 13 #[.int .u64 b, .int .i64 32, .int .i64 (-1)] w fun e w' => e = .returned (.tuple #[.int .u64 r, .int .i64 0]) ∧ Gb w w' := by
  have pF : ∀ w, Calls Tryd.prog 24 #[.int .i64 23] w fun e w' => e = .returned (.int .u64 8388608) ∧ w' = w := fun w => pow2_at 23 8388608 (by omega) rfl w
  have hmx : x * 2 ^ 23 + f = m := by omega
  have hY : Y < 2 ^ 23 := by rw [← hY']; exact Nat.mod_lt _ (by omega)
  obtain ⟨P, hP⟩ : ∃ P, x * 2 ^ 23 = P := ⟨_, rfl⟩
  rw [hP] at hmx
  have t1 : IntKind.u64.wrap (x : Int) = (x : Int) := wrap_u64 _ (by omega) (by omega)
  have t2 : IntKind.u64.wrap ((x : Int) * 8388608) = (P : Int) := (wrap_u64 _ (by omega) (by omega)).trans (by omega)
  have t3 : IntKind.u64.wrap ((P : Int) + (f : Int)) = (m : Int) := (wrap_u64 _ (by omega) (by omega)).trans (by omega)
  have t4 : ((c : Int) == 4) = false := by simp; omega
  have t6 : ((m : Int) == 0) = false := by simp; omega
  have t7 : IntKind.u64.wrap ((m : Int) - 1) = (m' : Int) := (wrap_u64 _ (by omega) (by omega)).trans (by omega)
  have q1 : (m' : Int).tdiv 8388608 = (X : Int) := by rw [Int.tdiv_eq_ediv_of_nonneg (by omega)]; omega
  have q2 : (m' : Int).tmod 8388608 = (Y : Int) := by rw [Int.tmod_eq_emod_of_nonneg (by omega)]; omega
  have q3 : IntKind.u64.wrap (X : Int) = (X : Int) := wrap_u64 _ (by omega) (by omega)
  have q4 : IntKind.i64.wrap (X : Int) = (X : Int) := wrap_i64 _ (by omega) (by omega)
  have HN : Hid _ := hn
  have HX : Hid _ := hx
  have HF : Hid _ := hf
  have HC : Hid _ := hc
  clear hn hx hf hc hm hmx hP hX' hY' hc4 h0 hm'
  by_cases e3 : c = 3
  · have t5 : ((c : Int) == 3) = true := by simp; omega
    clear e3
    go_enter Tryd.func13, Tryd.ntmps13
    go_wp2_with (first | (go_at_call 33; refine (refClass32 b x f c hb HX.out HF.out HC.out _).mono ?_; rintro e w1 ⟨rfl, g1⟩) | (go_at_call 31; refine (refApart32 b x f false hb HN.out HX.out HF.out _).mono ?_; rintro e w2 ⟨rfl, g2⟩) | (go_at_call 23; refine (form32 _).mono ?_; rintro e w3 ⟨rfl, rfl⟩))
    go_region_held3 (fun w' => w'.cell? ⟨w2.heap.size, 0, none⟩ = some (.bool false) ∧ w'.cell? ⟨w2.heap.size, 1, none⟩ = some (.int .i64 x) ∧ w'.cell? ⟨w2.heap.size, 2, none⟩ = some (.int .u64 f)) (go_keep) (first | (go_at_call 24; refine (pF _).mono ?_; rintro e w3 ⟨rfl, rfl⟩))
    go_wp2
    go_region_held3 (fun w' => w'.cell? ⟨w2.heap.size, 0, none⟩ = some (.bool false) ∧ w'.cell? ⟨w2.heap.size, 1, none⟩ = some (.int .i64 x) ∧ w'.cell? ⟨w2.heap.size, 2, none⟩ = some (.int .u64 f)) (go_keep) (first | (go_at_call 24; refine (pF _).mono ?_; rintro e w3 ⟨rfl, rfl⟩) | (go_at_call 8; refine (refJoin32 false X Y r hX hY hr _).mono ?_; rintro e w5 ⟨rfl, g5⟩; have c0 := at_gb g5 (a := ⟨w2.heap.size, 0, none⟩) (v := .bool false) (by go_simp); have c1 := at_gb g5 (a := ⟨w2.heap.size, 1, none⟩) (v := .int .i64 x) (by go_simp); have c2 := at_gb g5 (a := ⟨w2.heap.size, 2, none⟩) (v := .int .u64 f) (by go_simp)))
    go_wp2
    go_ret2
    exact ⟨rfl, g1.trans (g2.trans ((Gb.drew (Gb.drew (Gb.alloc (Gb.refl w2) _ _))).trans g5))⟩
  · have t5 : ((c : Int) == 3) = false := by simp; omega
    clear e3
    go_enter Tryd.func13, Tryd.ntmps13
    go_wp2_with (first | (go_at_call 33; refine (refClass32 b x f c hb HX.out HF.out HC.out _).mono ?_; rintro e w1 ⟨rfl, g1⟩) | (go_at_call 31; refine (refApart32 b x f false hb HN.out HX.out HF.out _).mono ?_; rintro e w2 ⟨rfl, g2⟩) | (go_at_call 23; refine (form32 _).mono ?_; rintro e w3 ⟨rfl, rfl⟩))
    go_region_held3 (fun w' => w'.cell? ⟨w2.heap.size, 0, none⟩ = some (.bool false) ∧ w'.cell? ⟨w2.heap.size, 1, none⟩ = some (.int .i64 x) ∧ w'.cell? ⟨w2.heap.size, 2, none⟩ = some (.int .u64 f)) (go_keep) (first | (go_at_call 24; refine (pF _).mono ?_; rintro e w3 ⟨rfl, rfl⟩))
    go_wp2
    go_region_held3 (fun w' => w'.cell? ⟨w2.heap.size, 0, none⟩ = some (.bool false) ∧ w'.cell? ⟨w2.heap.size, 1, none⟩ = some (.int .i64 x) ∧ w'.cell? ⟨w2.heap.size, 2, none⟩ = some (.int .u64 f)) (go_keep) (first | (go_at_call 24; refine (pF _).mono ?_; rintro e w3 ⟨rfl, rfl⟩) | (go_at_call 8; refine (refJoin32 false X Y r hX hY hr _).mono ?_; rintro e w5 ⟨rfl, g5⟩; have c0 := at_gb g5 (a := ⟨w2.heap.size, 0, none⟩) (v := .bool false) (by go_simp); have c1 := at_gb g5 (a := ⟨w2.heap.size, 1, none⟩) (v := .int .i64 x) (by go_simp); have c2 := at_gb g5 (a := ⟨w2.heap.size, 2, none⟩) (v := .int .u64 f) (by go_simp)))
    go_wp2
    go_ret2
    exact ⟨rfl, g1.trans (g2.trans ((Gb.drew (Gb.drew (Gb.alloc (Gb.refl w2) _ _))).trans g5))⟩
set_option maxHeartbeats 2000000 in
theorem refNextDtaway32 (b x f m m' X Y r c : Nat) (hb : b < 2 ^ 64) (hn : (b / 2 ^ 31 % 2 == 1) = true) (hx : b / 2 ^ 23 % 256 = x) (hf : b % 2 ^ 23 = f) (hm : b % 2 ^ 31 = m) (hc : cls 255 x f = c)
    (hc4 : c ≠ 4) (hc3 : c ≠ 3) (hm' : m + 1 = m') (hX' : m' / 2 ^ 23 = X) (hY' : m' % 2 ^ 23 = Y) (hX : X < 256) (hr : (if true then 2 ^ 31 else 0) + X * 2 ^ 23 + Y = r) (w : World) :
    Calls Tryd.prog 13 #[.int .u64 b, .int .i64 32, .int .i64 (-1)] w fun e w' => e = .returned (.tuple #[.int .u64 r, .int .i64 0]) ∧ Gb w w' := by
  have pF : ∀ w, Calls Tryd.prog 24 #[.int .i64 23] w fun e w' => e = .returned (.int .u64 8388608) ∧ w' = w := fun w => pow2_at 23 8388608 (by omega) rfl w
  have hmx : x * 2 ^ 23 + f = m := by omega
  have hY : Y < 2 ^ 23 := by rw [← hY']; exact Nat.mod_lt _ (by omega)
  obtain ⟨P, hP⟩ : ∃ P, x * 2 ^ 23 = P := ⟨_, rfl⟩
  rw [hP] at hmx
  have t1 : IntKind.u64.wrap (x : Int) = (x : Int) := wrap_u64 _ (by omega) (by omega)
  have t2 : IntKind.u64.wrap ((x : Int) * 8388608) = (P : Int) := (wrap_u64 _ (by omega) (by omega)).trans (by omega)
  have t3 : IntKind.u64.wrap ((P : Int) + (f : Int)) = (m : Int) := (wrap_u64 _ (by omega) (by omega)).trans (by omega)
  have t4 : ((c : Int) == 4) = false := by simp; omega
  have t5 : ((c : Int) == 3) = false := by simp; omega
  have t6 : IntKind.u64.wrap ((m : Int) + 1) = (m' : Int) := (wrap_u64 _ (by omega) (by omega)).trans (by omega)
  have q1 : (m' : Int).tdiv 8388608 = (X : Int) := by rw [Int.tdiv_eq_ediv_of_nonneg (by omega)]; omega
  have q2 : (m' : Int).tmod 8388608 = (Y : Int) := by rw [Int.tmod_eq_emod_of_nonneg (by omega)]; omega
  have q3 : IntKind.u64.wrap (X : Int) = (X : Int) := wrap_u64 _ (by omega) (by omega)
  have q4 : IntKind.i64.wrap (X : Int) = (X : Int) := wrap_i64 _ (by omega) (by omega)
  have HN : Hid _ := hn
  have HX : Hid _ := hx
  have HF : Hid _ := hf
  have HC : Hid _ := hc
  clear hn hx hf hc hm hmx hP hX' hY' hc4 hc3 hm'
  go_enter Tryd.func13, Tryd.ntmps13
  go_wp2_with (first | (go_at_call 33; refine (refClass32 b x f c hb HX.out HF.out HC.out _).mono ?_; rintro e w1 ⟨rfl, g1⟩) | (go_at_call 31; refine (refApart32 b x f true hb HN.out HX.out HF.out _).mono ?_; rintro e w2 ⟨rfl, g2⟩) | (go_at_call 23; refine (form32 _).mono ?_; rintro e w3 ⟨rfl, rfl⟩))
  go_region_held3 (fun w' => w'.cell? ⟨w2.heap.size, 0, none⟩ = some (.bool true) ∧ w'.cell? ⟨w2.heap.size, 1, none⟩ = some (.int .i64 x) ∧ w'.cell? ⟨w2.heap.size, 2, none⟩ = some (.int .u64 f)) (go_keep) (first | (go_at_call 24; refine (pF _).mono ?_; rintro e w3 ⟨rfl, rfl⟩))
  go_wp2
  go_region_held3 (fun w' => w'.cell? ⟨w2.heap.size, 0, none⟩ = some (.bool true) ∧ w'.cell? ⟨w2.heap.size, 1, none⟩ = some (.int .i64 x) ∧ w'.cell? ⟨w2.heap.size, 2, none⟩ = some (.int .u64 f)) (go_keep) (first | (go_at_call 24; refine (pF _).mono ?_; rintro e w3 ⟨rfl, rfl⟩) | (go_at_call 8; refine (refJoin32 true X Y r hX hY hr _).mono ?_; rintro e w5 ⟨rfl, g5⟩; have c0 := at_gb g5 (a := ⟨w2.heap.size, 0, none⟩) (v := .bool true) (by go_simp); have c1 := at_gb g5 (a := ⟨w2.heap.size, 1, none⟩) (v := .int .i64 x) (by go_simp); have c2 := at_gb g5 (a := ⟨w2.heap.size, 2, none⟩) (v := .int .u64 f) (by go_simp)))
  go_wp2
  go_ret2
  exact ⟨rfl, g1.trans (g2.trans ((Gb.drew (Gb.drew (Gb.alloc (Gb.refl w2) _ _))).trans g5))⟩
set_option maxHeartbeats 2000000 in
theorem refNextUfaway64 (b x f m m' X Y r c : Nat) (hb : b < 2 ^ 64) (hn : (b / 2 ^ 63 % 2 == 1) = false) (hx : b / 2 ^ 52 % 2048 = x) (hf : b % 2 ^ 52 = f) (hm : b % 2 ^ 63 = m) (hc : cls 2047 x f = c)
    (hc4 : c ≠ 4) (hc3 : c ≠ 3) (hm' : m + 1 = m') (hX' : m' / 2 ^ 52 = X) (hY' : m' % 2 ^ 52 = Y) (hX : X < 2048) (hr : (if false then 2 ^ 63 else 0) + X * 2 ^ 52 + Y = r) (w : World) :
    Calls Tryd.prog 13 #[.int .u64 b, .int .i64 64, .int .i64 1] w fun e w' => e = .returned (.tuple #[.int .u64 r, .int .i64 0]) ∧ Gb w w' := by
  have pF : ∀ w, Calls Tryd.prog 24 #[.int .i64 52] w fun e w' => e = .returned (.int .u64 4503599627370496) ∧ w' = w := fun w => pow2_at 52 4503599627370496 (by omega) rfl w
  have hmx : x * 2 ^ 52 + f = m := by omega
  have hY : Y < 2 ^ 52 := by rw [← hY']; exact Nat.mod_lt _ (by omega)
  obtain ⟨P, hP⟩ : ∃ P, x * 2 ^ 52 = P := ⟨_, rfl⟩
  rw [hP] at hmx
  have t1 : IntKind.u64.wrap (x : Int) = (x : Int) := wrap_u64 _ (by omega) (by omega)
  have t2 : IntKind.u64.wrap ((x : Int) * 4503599627370496) = (P : Int) := (wrap_u64 _ (by omega) (by omega)).trans (by omega)
  have t3 : IntKind.u64.wrap ((P : Int) + (f : Int)) = (m : Int) := (wrap_u64 _ (by omega) (by omega)).trans (by omega)
  have t4 : ((c : Int) == 4) = false := by simp; omega
  have t5 : ((c : Int) == 3) = false := by simp; omega
  have t6 : IntKind.u64.wrap ((m : Int) + 1) = (m' : Int) := (wrap_u64 _ (by omega) (by omega)).trans (by omega)
  have q1 : (m' : Int).tdiv 4503599627370496 = (X : Int) := by rw [Int.tdiv_eq_ediv_of_nonneg (by omega)]; omega
  have q2 : (m' : Int).tmod 4503599627370496 = (Y : Int) := by rw [Int.tmod_eq_emod_of_nonneg (by omega)]; omega
  have q3 : IntKind.u64.wrap (X : Int) = (X : Int) := wrap_u64 _ (by omega) (by omega)
  have q4 : IntKind.i64.wrap (X : Int) = (X : Int) := wrap_i64 _ (by omega) (by omega)
  have HN : Hid _ := hn
  have HX : Hid _ := hx
  have HF : Hid _ := hf
  have HC : Hid _ := hc
  clear hn hx hf hc hm hmx hP hX' hY' hc4 hc3 hm'
  go_enter Tryd.func13, Tryd.ntmps13
  go_wp2_with (first | (go_at_call 33; refine (refClass64 b x f c hb HX.out HF.out HC.out _).mono ?_; rintro e w1 ⟨rfl, g1⟩) | (go_at_call 31; refine (refApart64 b x f false hb HN.out HX.out HF.out _).mono ?_; rintro e w2 ⟨rfl, g2⟩) | (go_at_call 23; refine (form64 _).mono ?_; rintro e w3 ⟨rfl, rfl⟩))
  go_region_held3 (fun w' => w'.cell? ⟨w2.heap.size, 0, none⟩ = some (.bool false) ∧ w'.cell? ⟨w2.heap.size, 1, none⟩ = some (.int .i64 x) ∧ w'.cell? ⟨w2.heap.size, 2, none⟩ = some (.int .u64 f)) (go_keep) (first | (go_at_call 24; refine (pF _).mono ?_; rintro e w3 ⟨rfl, rfl⟩))
  go_wp2
  go_region_held3 (fun w' => w'.cell? ⟨w2.heap.size, 0, none⟩ = some (.bool false) ∧ w'.cell? ⟨w2.heap.size, 1, none⟩ = some (.int .i64 x) ∧ w'.cell? ⟨w2.heap.size, 2, none⟩ = some (.int .u64 f)) (go_keep) (first | (go_at_call 24; refine (pF _).mono ?_; rintro e w3 ⟨rfl, rfl⟩) | (go_at_call 8; refine (refJoin64 false X Y r hX hY hr _).mono ?_; rintro e w5 ⟨rfl, g5⟩; have c0 := at_gb g5 (a := ⟨w2.heap.size, 0, none⟩) (v := .bool false) (by go_simp); have c1 := at_gb g5 (a := ⟨w2.heap.size, 1, none⟩) (v := .int .i64 x) (by go_simp); have c2 := at_gb g5 (a := ⟨w2.heap.size, 2, none⟩) (v := .int .u64 f) (by go_simp)))
  go_wp2
  go_ret2
  exact ⟨rfl, g1.trans (g2.trans ((Gb.drew (Gb.drew (Gb.alloc (Gb.refl w2) _ _))).trans g5))⟩
set_option maxHeartbeats 2000000 in
theorem refNextUtzero64 (b x f m m' X Y r c : Nat) (hb : b < 2 ^ 64) (hn : (b / 2 ^ 63 % 2 == 1) = true) (hx : b / 2 ^ 52 % 2048 = x) (hf : b % 2 ^ 52 = f) (hm : b % 2 ^ 63 = m) (hc : cls 2047 x f = c)
    (hc4 : c ≠ 4) (h0 : m = 0) (hm' : 0 = m') (hX' : m' / 2 ^ 52 = X) (hY' : m' % 2 ^ 52 = Y) (hX : X < 2048) (hr : (if false then 2 ^ 63 else 0) + X * 2 ^ 52 + Y = r) (w : World) :
    Calls Tryd.prog 13 #[.int .u64 b, .int .i64 64, .int .i64 1] w fun e w' => e = .returned (.tuple #[.int .u64 r, .int .i64 0]) ∧ Gb w w' := by
  have pF : ∀ w, Calls Tryd.prog 24 #[.int .i64 52] w fun e w' => e = .returned (.int .u64 4503599627370496) ∧ w' = w := fun w => pow2_at 52 4503599627370496 (by omega) rfl w
  have hmx : x * 2 ^ 52 + f = m := by omega
  have hY : Y < 2 ^ 52 := by rw [← hY']; exact Nat.mod_lt _ (by omega)
  obtain ⟨P, hP⟩ : ∃ P, x * 2 ^ 52 = P := ⟨_, rfl⟩
  rw [hP] at hmx
  have t1 : IntKind.u64.wrap (x : Int) = (x : Int) := wrap_u64 _ (by omega) (by omega)
  have t2 : IntKind.u64.wrap ((x : Int) * 4503599627370496) = (P : Int) := (wrap_u64 _ (by omega) (by omega)).trans (by omega)
  have t3 : IntKind.u64.wrap ((P : Int) + (f : Int)) = (m : Int) := (wrap_u64 _ (by omega) (by omega)).trans (by omega)
  have t4 : ((c : Int) == 4) = false := by simp; omega
  have t5 : ((c : Int) == 3) = false := by
    have : c ≠ 3 := fun e => by
      rw [← hc] at e; unfold cls at e
      split at e
      · omega
      · split at e <;> (try split at e) <;> omega
    simp; omega
  have t6 : ((m : Int) == 0) = true := by simp; omega
  have q0 : X = 0 ∧ Y = 0 := by rw [← hX', ← hY', ← hm']; simp
  have q1 : (m : Int).tdiv 4503599627370496 = (X : Int) := by rw [Int.tdiv_eq_ediv_of_nonneg (by omega)]; omega
  have q2 : (m : Int).tmod 4503599627370496 = (Y : Int) := by rw [Int.tmod_eq_emod_of_nonneg (by omega)]; omega
  have q3 : IntKind.u64.wrap (X : Int) = (X : Int) := wrap_u64 _ (by omega) (by omega)
  have q4 : IntKind.i64.wrap (X : Int) = (X : Int) := wrap_i64 _ (by omega) (by omega)
  have HN : Hid _ := hn
  have HX : Hid _ := hx
  have HF : Hid _ := hf
  have HC : Hid _ := hc
  clear hn hx hf hc hm hmx hP hX' hY' hc4 h0 hm' q0
  go_enter Tryd.func13, Tryd.ntmps13
  go_wp2_with (first | (go_at_call 33; refine (refClass64 b x f c hb HX.out HF.out HC.out _).mono ?_; rintro e w1 ⟨rfl, g1⟩) | (go_at_call 31; refine (refApart64 b x f true hb HN.out HX.out HF.out _).mono ?_; rintro e w2 ⟨rfl, g2⟩) | (go_at_call 23; refine (form64 _).mono ?_; rintro e w3 ⟨rfl, rfl⟩))
  go_region_held3 (fun w' => w'.cell? ⟨w2.heap.size, 0, none⟩ = some (.bool true) ∧ w'.cell? ⟨w2.heap.size, 1, none⟩ = some (.int .i64 x) ∧ w'.cell? ⟨w2.heap.size, 2, none⟩ = some (.int .u64 f)) (go_keep) (first | (go_at_call 24; refine (pF _).mono ?_; rintro e w3 ⟨rfl, rfl⟩))
  go_wp2
  go_region_held3 (fun w' => w'.cell? ⟨w2.heap.size, 0, none⟩ = some (.bool false) ∧ w'.cell? ⟨w2.heap.size, 1, none⟩ = some (.int .i64 x) ∧ w'.cell? ⟨w2.heap.size, 2, none⟩ = some (.int .u64 f)) (go_keep) (first | (go_at_call 24; refine (pF _).mono ?_; rintro e w3 ⟨rfl, rfl⟩) | (go_at_call 8; refine (refJoin64 false X Y r hX hY hr _).mono ?_; rintro e w5 ⟨rfl, g5⟩; have c0 := at_gb g5 (a := ⟨w2.heap.size, 0, none⟩) (v := .bool false) (by go_simp); have c1 := at_gb g5 (a := ⟨w2.heap.size, 1, none⟩) (v := .int .i64 x) (by go_simp); have c2 := at_gb g5 (a := ⟨w2.heap.size, 2, none⟩) (v := .int .u64 f) (by go_simp)))
  go_wp2
  go_ret2
  exact ⟨rfl, g1.trans (g2.trans ((Gb.drew (Gb.drew (Gb.alloc (Gb.refl w2) _ _))).trans g5))⟩
set_option maxHeartbeats 2000000 in
theorem refNextUtdec64 (b x f m m' X Y r c : Nat) (hb : b < 2 ^ 64) (hn : (b / 2 ^ 63 % 2 == 1) = true) (hx : b / 2 ^ 52 % 2048 = x) (hf : b % 2 ^ 52 = f) (hm : b % 2 ^ 63 = m) (hc : cls 2047 x f = c)
    (hc4 : c ≠ 4) (h0 : m ≠ 0) (hm' : m - 1 = m') (hX' : m' / 2 ^ 52 = X) (hY' : m' % 2 ^ 52 = Y) (hX : X < 2048) (hr : (if true then 2 ^ 63 else 0) + X * 2 ^ 52 + Y = r) (w : World) :
    Calls Tryd.prog 13 #[.int .u64 b, .int .i64 64, .int .i64 1] w fun e w' => e = .returned (.tuple #[.int .u64 r, .int .i64 0]) ∧ Gb w w' := by
  have pF : ∀ w, Calls Tryd.prog 24 #[.int .i64 52] w fun e w' => e = .returned (.int .u64 4503599627370496) ∧ w' = w := fun w => pow2_at 52 4503599627370496 (by omega) rfl w
  have hmx : x * 2 ^ 52 + f = m := by omega
  have hY : Y < 2 ^ 52 := by rw [← hY']; exact Nat.mod_lt _ (by omega)
  obtain ⟨P, hP⟩ : ∃ P, x * 2 ^ 52 = P := ⟨_, rfl⟩
  rw [hP] at hmx
  have t1 : IntKind.u64.wrap (x : Int) = (x : Int) := wrap_u64 _ (by omega) (by omega)
  have t2 : IntKind.u64.wrap ((x : Int) * 4503599627370496) = (P : Int) := (wrap_u64 _ (by omega) (by omega)).trans (by omega)
  have t3 : IntKind.u64.wrap ((P : Int) + (f : Int)) = (m : Int) := (wrap_u64 _ (by omega) (by omega)).trans (by omega)
  have t4 : ((c : Int) == 4) = false := by simp; omega
  have t6 : ((m : Int) == 0) = false := by simp; omega
  have t7 : IntKind.u64.wrap ((m : Int) - 1) = (m' : Int) := (wrap_u64 _ (by omega) (by omega)).trans (by omega)
  have q1 : (m' : Int).tdiv 4503599627370496 = (X : Int) := by rw [Int.tdiv_eq_ediv_of_nonneg (by omega)]; omega
  have q2 : (m' : Int).tmod 4503599627370496 = (Y : Int) := by rw [Int.tmod_eq_emod_of_nonneg (by omega)]; omega
  have q3 : IntKind.u64.wrap (X : Int) = (X : Int) := wrap_u64 _ (by omega) (by omega)
  have q4 : IntKind.i64.wrap (X : Int) = (X : Int) := wrap_i64 _ (by omega) (by omega)
  have HN : Hid _ := hn
  have HX : Hid _ := hx
  have HF : Hid _ := hf
  have HC : Hid _ := hc
  clear hn hx hf hc hm hmx hP hX' hY' hc4 h0 hm'
  by_cases e3 : c = 3
  · have t5 : ((c : Int) == 3) = true := by simp; omega
    clear e3
    go_enter Tryd.func13, Tryd.ntmps13
    go_wp2_with (first | (go_at_call 33; refine (refClass64 b x f c hb HX.out HF.out HC.out _).mono ?_; rintro e w1 ⟨rfl, g1⟩) | (go_at_call 31; refine (refApart64 b x f true hb HN.out HX.out HF.out _).mono ?_; rintro e w2 ⟨rfl, g2⟩) | (go_at_call 23; refine (form64 _).mono ?_; rintro e w3 ⟨rfl, rfl⟩))
    go_region_held3 (fun w' => w'.cell? ⟨w2.heap.size, 0, none⟩ = some (.bool true) ∧ w'.cell? ⟨w2.heap.size, 1, none⟩ = some (.int .i64 x) ∧ w'.cell? ⟨w2.heap.size, 2, none⟩ = some (.int .u64 f)) (go_keep) (first | (go_at_call 24; refine (pF _).mono ?_; rintro e w3 ⟨rfl, rfl⟩))
    go_wp2
    go_region_held3 (fun w' => w'.cell? ⟨w2.heap.size, 0, none⟩ = some (.bool true) ∧ w'.cell? ⟨w2.heap.size, 1, none⟩ = some (.int .i64 x) ∧ w'.cell? ⟨w2.heap.size, 2, none⟩ = some (.int .u64 f)) (go_keep) (first | (go_at_call 24; refine (pF _).mono ?_; rintro e w3 ⟨rfl, rfl⟩) | (go_at_call 8; refine (refJoin64 true X Y r hX hY hr _).mono ?_; rintro e w5 ⟨rfl, g5⟩; have c0 := at_gb g5 (a := ⟨w2.heap.size, 0, none⟩) (v := .bool true) (by go_simp); have c1 := at_gb g5 (a := ⟨w2.heap.size, 1, none⟩) (v := .int .i64 x) (by go_simp); have c2 := at_gb g5 (a := ⟨w2.heap.size, 2, none⟩) (v := .int .u64 f) (by go_simp)))
    go_wp2
    go_ret2
    exact ⟨rfl, g1.trans (g2.trans ((Gb.drew (Gb.drew (Gb.alloc (Gb.refl w2) _ _))).trans g5))⟩
  · have t5 : ((c : Int) == 3) = false := by simp; omega
    clear e3
    go_enter Tryd.func13, Tryd.ntmps13
    go_wp2_with (first | (go_at_call 33; refine (refClass64 b x f c hb HX.out HF.out HC.out _).mono ?_; rintro e w1 ⟨rfl, g1⟩) | (go_at_call 31; refine (refApart64 b x f true hb HN.out HX.out HF.out _).mono ?_; rintro e w2 ⟨rfl, g2⟩) | (go_at_call 23; refine (form64 _).mono ?_; rintro e w3 ⟨rfl, rfl⟩))
    go_region_held3 (fun w' => w'.cell? ⟨w2.heap.size, 0, none⟩ = some (.bool true) ∧ w'.cell? ⟨w2.heap.size, 1, none⟩ = some (.int .i64 x) ∧ w'.cell? ⟨w2.heap.size, 2, none⟩ = some (.int .u64 f)) (go_keep) (first | (go_at_call 24; refine (pF _).mono ?_; rintro e w3 ⟨rfl, rfl⟩))
    go_wp2
    go_region_held3 (fun w' => w'.cell? ⟨w2.heap.size, 0, none⟩ = some (.bool true) ∧ w'.cell? ⟨w2.heap.size, 1, none⟩ = some (.int .i64 x) ∧ w'.cell? ⟨w2.heap.size, 2, none⟩ = some (.int .u64 f)) (go_keep) (first | (go_at_call 24; refine (pF _).mono ?_; rintro e w3 ⟨rfl, rfl⟩) | (go_at_call 8; refine (refJoin64 true X Y r hX hY hr _).mono ?_; rintro e w5 ⟨rfl, g5⟩; have c0 := at_gb g5 (a := ⟨w2.heap.size, 0, none⟩) (v := .bool true) (by go_simp); have c1 := at_gb g5 (a := ⟨w2.heap.size, 1, none⟩) (v := .int .i64 x) (by go_simp); have c2 := at_gb g5 (a := ⟨w2.heap.size, 2, none⟩) (v := .int .u64 f) (by go_simp)))
    go_wp2
    go_ret2
    exact ⟨rfl, g1.trans (g2.trans ((Gb.drew (Gb.drew (Gb.alloc (Gb.refl w2) _ _))).trans g5))⟩
set_option maxHeartbeats 2000000 in
theorem refNextDfzero64 (b x f m m' X Y r c : Nat) (hb : b < 2 ^ 64) (hn : (b / 2 ^ 63 % 2 == 1) = false) (hx : b / 2 ^ 52 % 2048 = x) (hf : b % 2 ^ 52 = f) (hm : b % 2 ^ 63 = m) (hc : cls 2047 x f = c)
    (hc4 : c ≠ 4) (h0 : m = 0) (hm' : 0 = m') (hX' : m' / 2 ^ 52 = X) (hY' : m' % 2 ^ 52 = Y) (hX : X < 2048) (hr : (if true then 2 ^ 63 else 0) + X * 2 ^ 52 + Y = r) (w : World) :
    Calls Tryd.prog 13 #[.int .u64 b, .int .i64 64, .int .i64 (-1)] w fun e w' => e = .returned (.tuple #[.int .u64 r, .int .i64 0]) ∧ Gb w w' := by
  have pF : ∀ w, Calls Tryd.prog 24 #[.int .i64 52] w fun e w' => e = .returned (.int .u64 4503599627370496) ∧ w' = w := fun w => pow2_at 52 4503599627370496 (by omega) rfl w
  have hmx : x * 2 ^ 52 + f = m := by omega
  have hY : Y < 2 ^ 52 := by rw [← hY']; exact Nat.mod_lt _ (by omega)
  obtain ⟨P, hP⟩ : ∃ P, x * 2 ^ 52 = P := ⟨_, rfl⟩
  rw [hP] at hmx
  have t1 : IntKind.u64.wrap (x : Int) = (x : Int) := wrap_u64 _ (by omega) (by omega)
  have t2 : IntKind.u64.wrap ((x : Int) * 4503599627370496) = (P : Int) := (wrap_u64 _ (by omega) (by omega)).trans (by omega)
  have t3 : IntKind.u64.wrap ((P : Int) + (f : Int)) = (m : Int) := (wrap_u64 _ (by omega) (by omega)).trans (by omega)
  have t4 : ((c : Int) == 4) = false := by simp; omega
  have t5 : ((c : Int) == 3) = false := by
    have : c ≠ 3 := fun e => by
      rw [← hc] at e; unfold cls at e
      split at e
      · omega
      · split at e <;> (try split at e) <;> omega
    simp; omega
  have t6 : ((m : Int) == 0) = true := by simp; omega
  have q0 : X = 0 ∧ Y = 0 := by rw [← hX', ← hY', ← hm']; simp
  have q1 : (m : Int).tdiv 4503599627370496 = (X : Int) := by rw [Int.tdiv_eq_ediv_of_nonneg (by omega)]; omega
  have q2 : (m : Int).tmod 4503599627370496 = (Y : Int) := by rw [Int.tmod_eq_emod_of_nonneg (by omega)]; omega
  have q3 : IntKind.u64.wrap (X : Int) = (X : Int) := wrap_u64 _ (by omega) (by omega)
  have q4 : IntKind.i64.wrap (X : Int) = (X : Int) := wrap_i64 _ (by omega) (by omega)
  have HN : Hid _ := hn
  have HX : Hid _ := hx
  have HF : Hid _ := hf
  have HC : Hid _ := hc
  clear hn hx hf hc hm hmx hP hX' hY' hc4 h0 hm' q0
  go_enter Tryd.func13, Tryd.ntmps13
  go_wp2_with (first | (go_at_call 33; refine (refClass64 b x f c hb HX.out HF.out HC.out _).mono ?_; rintro e w1 ⟨rfl, g1⟩) | (go_at_call 31; refine (refApart64 b x f false hb HN.out HX.out HF.out _).mono ?_; rintro e w2 ⟨rfl, g2⟩) | (go_at_call 23; refine (form64 _).mono ?_; rintro e w3 ⟨rfl, rfl⟩))
  go_region_held3 (fun w' => w'.cell? ⟨w2.heap.size, 0, none⟩ = some (.bool false) ∧ w'.cell? ⟨w2.heap.size, 1, none⟩ = some (.int .i64 x) ∧ w'.cell? ⟨w2.heap.size, 2, none⟩ = some (.int .u64 f)) (go_keep) (first | (go_at_call 24; refine (pF _).mono ?_; rintro e w3 ⟨rfl, rfl⟩))
  go_wp2
  go_region_held3 (fun w' => w'.cell? ⟨w2.heap.size, 0, none⟩ = some (.bool true) ∧ w'.cell? ⟨w2.heap.size, 1, none⟩ = some (.int .i64 x) ∧ w'.cell? ⟨w2.heap.size, 2, none⟩ = some (.int .u64 f)) (go_keep) (first | (go_at_call 24; refine (pF _).mono ?_; rintro e w3 ⟨rfl, rfl⟩) | (go_at_call 8; refine (refJoin64 true X Y r hX hY hr _).mono ?_; rintro e w5 ⟨rfl, g5⟩; have c0 := at_gb g5 (a := ⟨w2.heap.size, 0, none⟩) (v := .bool true) (by go_simp); have c1 := at_gb g5 (a := ⟨w2.heap.size, 1, none⟩) (v := .int .i64 x) (by go_simp); have c2 := at_gb g5 (a := ⟨w2.heap.size, 2, none⟩) (v := .int .u64 f) (by go_simp)))
  go_wp2
  go_ret2
  exact ⟨rfl, g1.trans (g2.trans ((Gb.drew (Gb.drew (Gb.alloc (Gb.refl w2) _ _))).trans g5))⟩
set_option maxHeartbeats 2000000 in
theorem refNextDfdec64 (b x f m m' X Y r c : Nat) (hb : b < 2 ^ 64) (hn : (b / 2 ^ 63 % 2 == 1) = false) (hx : b / 2 ^ 52 % 2048 = x) (hf : b % 2 ^ 52 = f) (hm : b % 2 ^ 63 = m) (hc : cls 2047 x f = c)
    (hc4 : c ≠ 4) (h0 : m ≠ 0) (hm' : m - 1 = m') (hX' : m' / 2 ^ 52 = X) (hY' : m' % 2 ^ 52 = Y) (hX : X < 2048) (hr : (if false then 2 ^ 63 else 0) + X * 2 ^ 52 + Y = r) (w : World) :
    Calls Tryd.prog 13 #[.int .u64 b, .int .i64 64, .int .i64 (-1)] w fun e w' => e = .returned (.tuple #[.int .u64 r, .int .i64 0]) ∧ Gb w w' := by
  have pF : ∀ w, Calls Tryd.prog 24 #[.int .i64 52] w fun e w' => e = .returned (.int .u64 4503599627370496) ∧ w' = w := fun w => pow2_at 52 4503599627370496 (by omega) rfl w
  have hmx : x * 2 ^ 52 + f = m := by omega
  have hY : Y < 2 ^ 52 := by rw [← hY']; exact Nat.mod_lt _ (by omega)
  obtain ⟨P, hP⟩ : ∃ P, x * 2 ^ 52 = P := ⟨_, rfl⟩
  rw [hP] at hmx
  have t1 : IntKind.u64.wrap (x : Int) = (x : Int) := wrap_u64 _ (by omega) (by omega)
  have t2 : IntKind.u64.wrap ((x : Int) * 4503599627370496) = (P : Int) := (wrap_u64 _ (by omega) (by omega)).trans (by omega)
  have t3 : IntKind.u64.wrap ((P : Int) + (f : Int)) = (m : Int) := (wrap_u64 _ (by omega) (by omega)).trans (by omega)
  have t4 : ((c : Int) == 4) = false := by simp; omega
  have t6 : ((m : Int) == 0) = false := by simp; omega
  have t7 : IntKind.u64.wrap ((m : Int) - 1) = (m' : Int) := (wrap_u64 _ (by omega) (by omega)).trans (by omega)
  have q1 : (m' : Int).tdiv 4503599627370496 = (X : Int) := by rw [Int.tdiv_eq_ediv_of_nonneg (by omega)]; omega
  have q2 : (m' : Int).tmod 4503599627370496 = (Y : Int) := by rw [Int.tmod_eq_emod_of_nonneg (by omega)]; omega
  have q3 : IntKind.u64.wrap (X : Int) = (X : Int) := wrap_u64 _ (by omega) (by omega)
  have q4 : IntKind.i64.wrap (X : Int) = (X : Int) := wrap_i64 _ (by omega) (by omega)
  have HN : Hid _ := hn
  have HX : Hid _ := hx
  have HF : Hid _ := hf
  have HC : Hid _ := hc
  clear hn hx hf hc hm hmx hP hX' hY' hc4 h0 hm'
  by_cases e3 : c = 3
  · have t5 : ((c : Int) == 3) = true := by simp; omega
    clear e3
    go_enter Tryd.func13, Tryd.ntmps13
    go_wp2_with (first | (go_at_call 33; refine (refClass64 b x f c hb HX.out HF.out HC.out _).mono ?_; rintro e w1 ⟨rfl, g1⟩) | (go_at_call 31; refine (refApart64 b x f false hb HN.out HX.out HF.out _).mono ?_; rintro e w2 ⟨rfl, g2⟩) | (go_at_call 23; refine (form64 _).mono ?_; rintro e w3 ⟨rfl, rfl⟩))
    go_region_held3 (fun w' => w'.cell? ⟨w2.heap.size, 0, none⟩ = some (.bool false) ∧ w'.cell? ⟨w2.heap.size, 1, none⟩ = some (.int .i64 x) ∧ w'.cell? ⟨w2.heap.size, 2, none⟩ = some (.int .u64 f)) (go_keep) (first | (go_at_call 24; refine (pF _).mono ?_; rintro e w3 ⟨rfl, rfl⟩))
    go_wp2
    go_region_held3 (fun w' => w'.cell? ⟨w2.heap.size, 0, none⟩ = some (.bool false) ∧ w'.cell? ⟨w2.heap.size, 1, none⟩ = some (.int .i64 x) ∧ w'.cell? ⟨w2.heap.size, 2, none⟩ = some (.int .u64 f)) (go_keep) (first | (go_at_call 24; refine (pF _).mono ?_; rintro e w3 ⟨rfl, rfl⟩) | (go_at_call 8; refine (refJoin64 false X Y r hX hY hr _).mono ?_; rintro e w5 ⟨rfl, g5⟩; have c0 := at_gb g5 (a := ⟨w2.heap.size, 0, none⟩) (v := .bool false) (by go_simp); have c1 := at_gb g5 (a := ⟨w2.heap.size, 1, none⟩) (v := .int .i64 x) (by go_simp); have c2 := at_gb g5 (a := ⟨w2.heap.size, 2, none⟩) (v := .int .u64 f) (by go_simp)))
    go_wp2
    go_ret2
    exact ⟨rfl, g1.trans (g2.trans ((Gb.drew (Gb.drew (Gb.alloc (Gb.refl w2) _ _))).trans g5))⟩
  · have t5 : ((c : Int) == 3) = false := by simp; omega
    clear e3
    go_enter Tryd.func13, Tryd.ntmps13
    go_wp2_with (first | (go_at_call 33; refine (refClass64 b x f c hb HX.out HF.out HC.out _).mono ?_; rintro e w1 ⟨rfl, g1⟩) | (go_at_call 31; refine (refApart64 b x f false hb HN.out HX.out HF.out _).mono ?_; rintro e w2 ⟨rfl, g2⟩) | (go_at_call 23; refine (form64 _).mono ?_; rintro e w3 ⟨rfl, rfl⟩))
    go_region_held3 (fun w' => w'.cell? ⟨w2.heap.size, 0, none⟩ = some (.bool false) ∧ w'.cell? ⟨w2.heap.size, 1, none⟩ = some (.int .i64 x) ∧ w'.cell? ⟨w2.heap.size, 2, none⟩ = some (.int .u64 f)) (go_keep) (first | (go_at_call 24; refine (pF _).mono ?_; rintro e w3 ⟨rfl, rfl⟩))
    go_wp2
    go_region_held3 (fun w' => w'.cell? ⟨w2.heap.size, 0, none⟩ = some (.bool false) ∧ w'.cell? ⟨w2.heap.size, 1, none⟩ = some (.int .i64 x) ∧ w'.cell? ⟨w2.heap.size, 2, none⟩ = some (.int .u64 f)) (go_keep) (first | (go_at_call 24; refine (pF _).mono ?_; rintro e w3 ⟨rfl, rfl⟩) | (go_at_call 8; refine (refJoin64 false X Y r hX hY hr _).mono ?_; rintro e w5 ⟨rfl, g5⟩; have c0 := at_gb g5 (a := ⟨w2.heap.size, 0, none⟩) (v := .bool false) (by go_simp); have c1 := at_gb g5 (a := ⟨w2.heap.size, 1, none⟩) (v := .int .i64 x) (by go_simp); have c2 := at_gb g5 (a := ⟨w2.heap.size, 2, none⟩) (v := .int .u64 f) (by go_simp)))
    go_wp2
    go_ret2
    exact ⟨rfl, g1.trans (g2.trans ((Gb.drew (Gb.drew (Gb.alloc (Gb.refl w2) _ _))).trans g5))⟩
set_option maxHeartbeats 2000000 in
theorem refNextDtaway64 (b x f m m' X Y r c : Nat) (hb : b < 2 ^ 64) (hn : (b / 2 ^ 63 % 2 == 1) = true) (hx : b / 2 ^ 52 % 2048 = x) (hf : b % 2 ^ 52 = f) (hm : b % 2 ^ 63 = m) (hc : cls 2047 x f = c)
    (hc4 : c ≠ 4) (hc3 : c ≠ 3) (hm' : m + 1 = m') (hX' : m' / 2 ^ 52 = X) (hY' : m' % 2 ^ 52 = Y) (hX : X < 2048) (hr : (if true then 2 ^ 63 else 0) + X * 2 ^ 52 + Y = r) (w : World) :
    Calls Tryd.prog 13 #[.int .u64 b, .int .i64 64, .int .i64 (-1)] w fun e w' => e = .returned (.tuple #[.int .u64 r, .int .i64 0]) ∧ Gb w w' := by
  have pF : ∀ w, Calls Tryd.prog 24 #[.int .i64 52] w fun e w' => e = .returned (.int .u64 4503599627370496) ∧ w' = w := fun w => pow2_at 52 4503599627370496 (by omega) rfl w
  have hmx : x * 2 ^ 52 + f = m := by omega
  have hY : Y < 2 ^ 52 := by rw [← hY']; exact Nat.mod_lt _ (by omega)
  obtain ⟨P, hP⟩ : ∃ P, x * 2 ^ 52 = P := ⟨_, rfl⟩
  rw [hP] at hmx
  have t1 : IntKind.u64.wrap (x : Int) = (x : Int) := wrap_u64 _ (by omega) (by omega)
  have t2 : IntKind.u64.wrap ((x : Int) * 4503599627370496) = (P : Int) := (wrap_u64 _ (by omega) (by omega)).trans (by omega)
  have t3 : IntKind.u64.wrap ((P : Int) + (f : Int)) = (m : Int) := (wrap_u64 _ (by omega) (by omega)).trans (by omega)
  have t4 : ((c : Int) == 4) = false := by simp; omega
  have t5 : ((c : Int) == 3) = false := by simp; omega
  have t6 : IntKind.u64.wrap ((m : Int) + 1) = (m' : Int) := (wrap_u64 _ (by omega) (by omega)).trans (by omega)
  have q1 : (m' : Int).tdiv 4503599627370496 = (X : Int) := by rw [Int.tdiv_eq_ediv_of_nonneg (by omega)]; omega
  have q2 : (m' : Int).tmod 4503599627370496 = (Y : Int) := by rw [Int.tmod_eq_emod_of_nonneg (by omega)]; omega
  have q3 : IntKind.u64.wrap (X : Int) = (X : Int) := wrap_u64 _ (by omega) (by omega)
  have q4 : IntKind.i64.wrap (X : Int) = (X : Int) := wrap_i64 _ (by omega) (by omega)
  have HN : Hid _ := hn
  have HX : Hid _ := hx
  have HF : Hid _ := hf
  have HC : Hid _ := hc
  clear hn hx hf hc hm hmx hP hX' hY' hc4 hc3 hm'
  go_enter Tryd.func13, Tryd.ntmps13
  go_wp2_with (first | (go_at_call 33; refine (refClass64 b x f c hb HX.out HF.out HC.out _).mono ?_; rintro e w1 ⟨rfl, g1⟩) | (go_at_call 31; refine (refApart64 b x f true hb HN.out HX.out HF.out _).mono ?_; rintro e w2 ⟨rfl, g2⟩) | (go_at_call 23; refine (form64 _).mono ?_; rintro e w3 ⟨rfl, rfl⟩))
  go_region_held3 (fun w' => w'.cell? ⟨w2.heap.size, 0, none⟩ = some (.bool true) ∧ w'.cell? ⟨w2.heap.size, 1, none⟩ = some (.int .i64 x) ∧ w'.cell? ⟨w2.heap.size, 2, none⟩ = some (.int .u64 f)) (go_keep) (first | (go_at_call 24; refine (pF _).mono ?_; rintro e w3 ⟨rfl, rfl⟩))
  go_wp2
  go_region_held3 (fun w' => w'.cell? ⟨w2.heap.size, 0, none⟩ = some (.bool true) ∧ w'.cell? ⟨w2.heap.size, 1, none⟩ = some (.int .i64 x) ∧ w'.cell? ⟨w2.heap.size, 2, none⟩ = some (.int .u64 f)) (go_keep) (first | (go_at_call 24; refine (pF _).mono ?_; rintro e w3 ⟨rfl, rfl⟩) | (go_at_call 8; refine (refJoin64 true X Y r hX hY hr _).mono ?_; rintro e w5 ⟨rfl, g5⟩; have c0 := at_gb g5 (a := ⟨w2.heap.size, 0, none⟩) (v := .bool true) (by go_simp); have c1 := at_gb g5 (a := ⟨w2.heap.size, 1, none⟩) (v := .int .i64 x) (by go_simp); have c2 := at_gb g5 (a := ⟨w2.heap.size, 2, none⟩) (v := .int .u64 f) (by go_simp)))
  go_wp2
  go_ret2
  exact ⟨rfl, g1.trans (g2.trans ((Gb.drew (Gb.drew (Gb.alloc (Gb.refl w2) _ _))).trans g5))⟩
end Go.Proofs.YtnhekkahiphlgaaDoor.rl
