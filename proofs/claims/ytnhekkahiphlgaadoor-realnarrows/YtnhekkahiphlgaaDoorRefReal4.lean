/- The document's own: the bits of parts. -/
import Derived.Test.YtnhekkahiphlgaaDoorRefReal3
namespace Go.Proofs.YtnhekkahiphlgaaDoor.rl
open Go.RowKit
open mem
attribute [local go_sem] World.cell?_alloc_some
theorem refJoinNo (n : Bool) (x : Int) (f : Nat) (d : Int) (hd : d ≠ 32 ∧ d ≠ 64) (w : World) :
    Calls Tryd.prog 8 #[.agg #[.bool n, .int .i64 x, .int .u64 f], .int .i64 d] w fun e w' => e = .returned (.tuple #[.int .u64 0, .int .i64 1]) ∧ Gb w w' := by
  go_enter Tryd.func8, Tryd.ntmps8
  go_wp2_with (go_at_call 23; refine (form_no d hd _).mono ?_; rintro e w1 ⟨rfl, rfl⟩)
  go_ret2
  exact ⟨rfl, Gb.alloc (Gb.refl _) _ _⟩
set_option maxHeartbeats 1000000 in
theorem refJoin32 (n : Bool) (x f r : Nat) (hx : x < 256) (hf : f < 2 ^ 23) (hr : (if n then 2 ^ 31 else 0) + x * 2 ^ 23 + f = r) (w : World) :
    Calls Tryd.prog 8 #[.agg #[.bool n, .int .i64 x, .int .u64 f], .int .i64 32] w fun e w' => e = .returned (.tuple #[.int .u64 r, .int .i64 0]) ∧ Gb w w' := by
  have pF : ∀ w, Calls Tryd.prog 24 #[.int .i64 23] w fun e w' => e = .returned (.int .u64 8388608) ∧ w' = w := fun w => pow2_at 23 8388608 (by omega) rfl w
  have pE : ∀ w, Calls Tryd.prog 24 #[.int .i64 8] w fun e w' => e = .returned (.int .u64 256) ∧ w' = w := fun w => pow2_at 8 256 (by omega) rfl w
  have pW : ∀ w, Calls Tryd.prog 24 #[.int .i64 31] w fun e w' => e = .returned (.int .u64 2147483648) ∧ w' = w := fun w => pow2_at 31 2147483648 (by omega) rfl w
  have t0 : IntKind.i64.wrap 31 = 31 := rfl
  have e1 : decide ((x : Int) < 0) = false := by simp
  have e2 : decide ((256 : Int) ≤ (x : Int)) = false := by simp; omega
  have e3 : decide ((8388608 : Int) ≤ (f : Int)) = false := by simp; omega
  have w1' : IntKind.u64.wrap (x : Int) = (x : Int) := wrap_u64 _ (by omega) (by omega)
  obtain ⟨P, hP⟩ : ∃ P, P = x * 2 ^ 23 := ⟨_, rfl⟩
  rw [← hP] at hr
  have w2' : IntKind.u64.wrap ((x : Int) * 8388608) = (P : Int) := (wrap_u64 _ (by omega) (by omega)).trans (by omega)
  have hPl : P ≤ 2 ^ 31 - 2 ^ 23 := by omega
  cases n
  · have o1 : ∀ w, Calls Tryd.prog 25 #[.bool false] w fun e w' => e = .returned (.int .i64 0) ∧ w' = w := fun w => one_at false w
    have hr' : P + f = r := by simpa using hr
    have w4' : IntKind.u64.wrap (P : Int) = (P : Int) := wrap_u64 _ (by omega) (by omega)
    have w5' : IntKind.u64.wrap ((P : Int) + (f : Int)) = (r : Int) := (wrap_u64 _ (by omega) (by omega)).trans (by omega)
    have w6' : IntKind.u64.wrap (0 : Int) = 0 := rfl
    clear hr hP hr' hPl
    go_enter Tryd.func8, Tryd.ntmps8
    go_wp2_with (first | (go_at_call 23; refine (form32 _).mono ?_; rintro e w2 ⟨rfl, rfl⟩))
    go_region_held3 (fun w' => w'.cell? ⟨w.heap.size, 0, none⟩ = some (.bool false) ∧ w'.cell? ⟨w.heap.size, 1, none⟩ = some (.int .i64 x) ∧ w'.cell? ⟨w.heap.size, 2, none⟩ = some (.int .u64 f)) (go_keep) (first | (go_at_call_of 24 (Value.int IntKind.i64 23); refine (pF _).mono ?_; rintro e w3 ⟨rfl, rfl⟩) | (go_at_call_of 24 (Value.int IntKind.i64 8); refine (pE _).mono ?_; rintro e w3 ⟨rfl, rfl⟩))
    go_wp2
    go_region_held3 (fun w' => w'.cell? ⟨w.heap.size, 0, none⟩ = some (.bool false) ∧ w'.cell? ⟨w.heap.size, 1, none⟩ = some (.int .i64 x) ∧ w'.cell? ⟨w.heap.size, 2, none⟩ = some (.int .u64 f)) (go_keep) (first | (go_at_call_of 24 (Value.int IntKind.i64 23); refine (pF _).mono ?_; rintro e w3 ⟨rfl, rfl⟩) | (go_at_call_of 24 (Value.int IntKind.i64 31); refine (pW _).mono ?_; rintro e w3 ⟨rfl, rfl⟩) | (go_at_call 25; refine (o1 _).mono ?_; rintro e w3 ⟨rfl, rfl⟩))
    go_wp2
    go_ret2
    exact ⟨rfl, Gb.drew (Gb.drew (Gb.alloc (Gb.refl w) _ _))⟩
  · have o1 : ∀ w, Calls Tryd.prog 25 #[.bool true] w fun e w' => e = .returned (.int .i64 1) ∧ w' = w := fun w => one_at true w
    have hr' : 2 ^ 31 + P + f = r := by simpa using hr
    obtain ⟨Q, hQ⟩ : ∃ Q, Q = 2 ^ 31 + P := ⟨_, rfl⟩
    have w4' : IntKind.u64.wrap (2147483648 + (P : Int)) = (Q : Int) := (wrap_u64 _ (by omega) (by omega)).trans (by omega)
    have w5' : IntKind.u64.wrap ((Q : Int) + (f : Int)) = (r : Int) := (wrap_u64 _ (by omega) (by omega)).trans (by omega)
    have w6' : IntKind.u64.wrap (1 : Int) = 1 := rfl
    have w7' : IntKind.u64.wrap (2147483648 : Int) = 2147483648 := rfl
    clear hr hP hr' hPl hQ
    go_enter Tryd.func8, Tryd.ntmps8
    go_wp2_with (first | (go_at_call 23; refine (form32 _).mono ?_; rintro e w2 ⟨rfl, rfl⟩))
    go_region_held3 (fun w' => w'.cell? ⟨w.heap.size, 0, none⟩ = some (.bool true) ∧ w'.cell? ⟨w.heap.size, 1, none⟩ = some (.int .i64 x) ∧ w'.cell? ⟨w.heap.size, 2, none⟩ = some (.int .u64 f)) (go_keep) (first | (go_at_call_of 24 (Value.int IntKind.i64 23); refine (pF _).mono ?_; rintro e w3 ⟨rfl, rfl⟩) | (go_at_call_of 24 (Value.int IntKind.i64 8); refine (pE _).mono ?_; rintro e w3 ⟨rfl, rfl⟩))
    go_wp2
    go_region_held3 (fun w' => w'.cell? ⟨w.heap.size, 0, none⟩ = some (.bool true) ∧ w'.cell? ⟨w.heap.size, 1, none⟩ = some (.int .i64 x) ∧ w'.cell? ⟨w.heap.size, 2, none⟩ = some (.int .u64 f)) (go_keep) (first | (go_at_call_of 24 (Value.int IntKind.i64 23); refine (pF _).mono ?_; rintro e w3 ⟨rfl, rfl⟩) | (go_at_call_of 24 (Value.int IntKind.i64 31); refine (pW _).mono ?_; rintro e w3 ⟨rfl, rfl⟩) | (go_at_call 25; refine (o1 _).mono ?_; rintro e w3 ⟨rfl, rfl⟩))
    go_wp2
    go_ret2
    exact ⟨rfl, Gb.drew (Gb.drew (Gb.alloc (Gb.refl w) _ _))⟩
set_option maxHeartbeats 1000000 in
theorem refJoin64 (n : Bool) (x f r : Nat) (hx : x < 2048) (hf : f < 2 ^ 52) (hr : (if n then 2 ^ 63 else 0) + x * 2 ^ 52 + f = r) (w : World) :
    Calls Tryd.prog 8 #[.agg #[.bool n, .int .i64 x, .int .u64 f], .int .i64 64] w fun e w' => e = .returned (.tuple #[.int .u64 r, .int .i64 0]) ∧ Gb w w' := by
  have pF : ∀ w, Calls Tryd.prog 24 #[.int .i64 52] w fun e w' => e = .returned (.int .u64 4503599627370496) ∧ w' = w := fun w => pow2_at 52 4503599627370496 (by omega) rfl w
  have pE : ∀ w, Calls Tryd.prog 24 #[.int .i64 11] w fun e w' => e = .returned (.int .u64 2048) ∧ w' = w := fun w => pow2_at 11 2048 (by omega) rfl w
  have pW : ∀ w, Calls Tryd.prog 24 #[.int .i64 63] w fun e w' => e = .returned (.int .u64 9223372036854775808) ∧ w' = w := fun w => pow2_at 63 9223372036854775808 (by omega) rfl w
  have t0 : IntKind.i64.wrap 63 = 63 := rfl
  have e1 : decide ((x : Int) < 0) = false := by simp
  have e2 : decide ((2048 : Int) ≤ (x : Int)) = false := by simp; omega
  have e3 : decide ((4503599627370496 : Int) ≤ (f : Int)) = false := by simp; omega
  have w1' : IntKind.u64.wrap (x : Int) = (x : Int) := wrap_u64 _ (by omega) (by omega)
  obtain ⟨P, hP⟩ : ∃ P, P = x * 2 ^ 52 := ⟨_, rfl⟩
  rw [← hP] at hr
  have w2' : IntKind.u64.wrap ((x : Int) * 4503599627370496) = (P : Int) := (wrap_u64 _ (by omega) (by omega)).trans (by omega)
  have hPl : P ≤ 2 ^ 63 - 2 ^ 52 := by omega
  cases n
  · have o1 : ∀ w, Calls Tryd.prog 25 #[.bool false] w fun e w' => e = .returned (.int .i64 0) ∧ w' = w := fun w => one_at false w
    have hr' : P + f = r := by simpa using hr
    have w4' : IntKind.u64.wrap (P : Int) = (P : Int) := wrap_u64 _ (by omega) (by omega)
    have w5' : IntKind.u64.wrap ((P : Int) + (f : Int)) = (r : Int) := (wrap_u64 _ (by omega) (by omega)).trans (by omega)
    have w6' : IntKind.u64.wrap (0 : Int) = 0 := rfl
    clear hr hP hr' hPl
    go_enter Tryd.func8, Tryd.ntmps8
    go_wp2_with (first | (go_at_call 23; refine (form64 _).mono ?_; rintro e w2 ⟨rfl, rfl⟩))
    go_region_held3 (fun w' => w'.cell? ⟨w.heap.size, 0, none⟩ = some (.bool false) ∧ w'.cell? ⟨w.heap.size, 1, none⟩ = some (.int .i64 x) ∧ w'.cell? ⟨w.heap.size, 2, none⟩ = some (.int .u64 f)) (go_keep) (first | (go_at_call_of 24 (Value.int IntKind.i64 52); refine (pF _).mono ?_; rintro e w3 ⟨rfl, rfl⟩) | (go_at_call_of 24 (Value.int IntKind.i64 11); refine (pE _).mono ?_; rintro e w3 ⟨rfl, rfl⟩))
    go_wp2
    go_region_held3 (fun w' => w'.cell? ⟨w.heap.size, 0, none⟩ = some (.bool false) ∧ w'.cell? ⟨w.heap.size, 1, none⟩ = some (.int .i64 x) ∧ w'.cell? ⟨w.heap.size, 2, none⟩ = some (.int .u64 f)) (go_keep) (first | (go_at_call_of 24 (Value.int IntKind.i64 52); refine (pF _).mono ?_; rintro e w3 ⟨rfl, rfl⟩) | (go_at_call_of 24 (Value.int IntKind.i64 63); refine (pW _).mono ?_; rintro e w3 ⟨rfl, rfl⟩) | (go_at_call 25; refine (o1 _).mono ?_; rintro e w3 ⟨rfl, rfl⟩))
    go_wp2
    go_ret2
    exact ⟨rfl, Gb.drew (Gb.drew (Gb.alloc (Gb.refl w) _ _))⟩
  · have o1 : ∀ w, Calls Tryd.prog 25 #[.bool true] w fun e w' => e = .returned (.int .i64 1) ∧ w' = w := fun w => one_at true w
    have hr' : 2 ^ 63 + P + f = r := by simpa using hr
    obtain ⟨Q, hQ⟩ : ∃ Q, Q = 2 ^ 63 + P := ⟨_, rfl⟩
    have w4' : IntKind.u64.wrap (9223372036854775808 + (P : Int)) = (Q : Int) := (wrap_u64 _ (by omega) (by omega)).trans (by omega)
    have w5' : IntKind.u64.wrap ((Q : Int) + (f : Int)) = (r : Int) := (wrap_u64 _ (by omega) (by omega)).trans (by omega)
    have w6' : IntKind.u64.wrap (1 : Int) = 1 := rfl
    have w7' : IntKind.u64.wrap (9223372036854775808 : Int) = 9223372036854775808 := rfl
    clear hr hP hr' hPl hQ
    go_enter Tryd.func8, Tryd.ntmps8
    go_wp2_with (first | (go_at_call 23; refine (form64 _).mono ?_; rintro e w2 ⟨rfl, rfl⟩))
    go_region_held3 (fun w' => w'.cell? ⟨w.heap.size, 0, none⟩ = some (.bool true) ∧ w'.cell? ⟨w.heap.size, 1, none⟩ = some (.int .i64 x) ∧ w'.cell? ⟨w.heap.size, 2, none⟩ = some (.int .u64 f)) (go_keep) (first | (go_at_call_of 24 (Value.int IntKind.i64 52); refine (pF _).mono ?_; rintro e w3 ⟨rfl, rfl⟩) | (go_at_call_of 24 (Value.int IntKind.i64 11); refine (pE _).mono ?_; rintro e w3 ⟨rfl, rfl⟩))
    go_wp2
    go_region_held3 (fun w' => w'.cell? ⟨w.heap.size, 0, none⟩ = some (.bool true) ∧ w'.cell? ⟨w.heap.size, 1, none⟩ = some (.int .i64 x) ∧ w'.cell? ⟨w.heap.size, 2, none⟩ = some (.int .u64 f)) (go_keep) (first | (go_at_call_of 24 (Value.int IntKind.i64 52); refine (pF _).mono ?_; rintro e w3 ⟨rfl, rfl⟩) | (go_at_call_of 24 (Value.int IntKind.i64 63); refine (pW _).mono ?_; rintro e w3 ⟨rfl, rfl⟩) | (go_at_call 25; refine (o1 _).mono ?_; rintro e w3 ⟨rfl, rfl⟩))
    go_wp2
    go_ret2
    exact ⟨rfl, Gb.drew (Gb.drew (Gb.alloc (Gb.refl w) _ _))⟩
end Go.Proofs.YtnhekkahiphlgaaDoor.rl
