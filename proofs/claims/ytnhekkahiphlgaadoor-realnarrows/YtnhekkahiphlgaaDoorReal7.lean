/- Widen: the very real of 64 bits, as package real has it. -/
import Derived.Test.YtnhekkahiphlgaaDoorReal5
namespace Go.Proofs.YtnhekkahiphlgaaDoor.rl
open Go.RowKit
open mem flt
attribute [local go_sem] World.cell?_alloc_some
/-- The exponent in a cell, counted from -30. -/
def expAt (w : World) (B : Nat) : Nat := match w.cell? ⟨B, 1, none⟩ with
  | some (.int _ e) => (e + 30).toNat
  | _ => 0
theorem expAt_of {w : World} {B : Nat} {k : IntKind} {e : Int} (h : w.cell? ⟨B, 1, none⟩ = some (.int k e)) : expAt w B = (e + 30).toNat := by
  unfold expAt; rw [h]
theorem lastFrac32g (w : World) : Calls Tryd.prog 28 #[.agg #[.int .i64 32, .int .i64 8, .int .i64 23]] w fun e w' => e = .returned (.int .u64 8388607) ∧ Gb w w' :=
  (lastFrac32 w).mono fun e w' h => ⟨h.1, by rw [h.2]; exact Gb.alloc (Gb.refl w) _ _⟩
theorem raised_at (n : Bool) (x f j z : Nat) (hj : j ≤ 23) (hlo : 2 ^ 23 ≤ f * 2 ^ j) (hhi : f * 2 ^ j < 2 ^ 24) (hz : Hid (f * 2 ^ j - 2 ^ 23 = z)) (w : World) :
    Calls Tryd.prog 38 #[.agg #[.int .i64 32, .int .i64 8, .int .i64 23], .agg #[.bool n, .int .i64 x, .int .u64 f]] w fun e w' => e = .returned (.agg #[.bool n, .int .i64 (1 - (j : Int)), .int .u64 z]) ∧ Gb w w' := by
  go_enter Tryd.func38, Tryd.ntmps38
  go_wp2
  go_loopw [] (fun wr => ∃ k y : Nat, k ≤ j ∧ Hid (y = f * 2 ^ k) ∧ wr.cell? ⟨w.heap.size, 0, none⟩ = some (.int .i64 32) ∧ wr.cell? ⟨w.heap.size, 1, none⟩ = some (.int .i64 8) ∧ wr.cell? ⟨w.heap.size, 2, none⟩ = some (.int .i64 23) ∧ wr.cell? ⟨w.heap.size + 1, 0, none⟩ = some (.bool n) ∧ wr.cell? ⟨w.heap.size + 1, 1, none⟩ = some (.int .i64 (1 - (k : Int))) ∧ wr.cell? ⟨w.heap.size + 1, 2, none⟩ = some (.int .u64 y) ∧ wr.cell? ⟨w.heap.size + 1 + 1, 0, none⟩ = some (.bool false) ∧ wr.cell? ⟨w.heap.size + 1 + 1, 1, none⟩ = some (.int .i64 0) ∧ wr.cell? ⟨w.heap.size + 1 + 1, 2, none⟩ = some (.int .u64 0) ∧ (∀ i, wr.frozen? ⟨w.heap.size + 1, i, none⟩ = false) ∧ (∀ i, wr.frozen? ⟨w.heap.size + 1 + 1, i, none⟩ = false) ∧ Gb w wr) (fun wr => expAt wr (w.heap.size + 1))
  case atStart =>
    exact ⟨0, f, by omega, by simp [Hid], by go_simp, by go_simp, by go_simp, by go_simp, by go_simp, by go_simp, by go_simp, by go_simp, by go_simp, fun i => by go_simp, fun i => by go_simp, Gb.alloc (Gb.alloc (Gb.alloc (Gb.refl w) _ _) _ _) _ _⟩
  case round =>
    obtain ⟨k, y, hk, HY, a0, a1, a2, b0, b1, b2, c0, c1, c2, f0, f1, g⟩ := hrel
    have s0 : w.heap.size + 1 + 1 < wr.heap.size := lt_block c0
    have b0l : w.heap.size + 1 < wr.heap.size := lt_block b0
    have f2 : ∀ o i, (wr.alloc o).frozen? ⟨w.heap.size + 1, i, none⟩ = false := fun o i => (World.frozen?_of_block (w := wr) (Below.heap_alloc wr o (w.heap.size + 1) b0l)).trans (f0 i)
    have f3 : ∀ o i, (wr.alloc o).frozen? ⟨w.heap.size + 1 + 1, i, none⟩ = false := fun o i => (World.frozen?_of_block (w := wr) (Below.heap_alloc wr o (w.heap.size + 1 + 1) s0)).trans (f1 i)
    by_cases hlt : k < j
    · have hy : y < 2 ^ 23 := by
        have h1 : 2 ^ j = 2 ^ k * 2 ^ (j - k) := pow_split _ _ _ (by omega)
        have h2 : 2 ≤ 2 ^ (j - k) := by
          have := Nat.pow_le_pow_right (n := 2) (by omega) (show 1 ≤ j - k by omega)
          simpa using this
        rw [h1, ← Nat.mul_assoc, ← HY.out] at hhi
        have := Nat.mul_le_mul_left y h2
        omega
      have t1 : (y : Int) ≤ 8388607 := by omega
      obtain ⟨y', hy'⟩ : ∃ y', y' = y * 2 := ⟨_, rfl⟩
      obtain ⟨k', hk'⟩ : ∃ k', k' = k + 1 := ⟨_, rfl⟩
      have t2 : IntKind.u64.wrap ((y : Int) * 2) = (y' : Int) := (wrap_u64 _ (by omega) (by omega)).trans (by omega)
      have t3 : IntKind.i64.wrap (1 - (k : Int) - 1) = 1 - (k' : Int) := (wrap_i64 _ (by omega) (by omega)).trans (by omega)
      have HY' : Hid (y' = f * 2 ^ k') := by
        rw [hy', hk', Nat.pow_succ, ← Nat.mul_assoc, ← HY.out]; rfl
      have HK' : Hid (k' = k + 1) := hk'
      have f4 : ∀ o v v' i, (((wr.setCell ⟨w.heap.size + 1, 2, none⟩ v).setCell ⟨w.heap.size + 1, 1, none⟩ v').alloc o).frozen? ⟨w.heap.size + 1, i, none⟩ = false := fun o v v' i => by
        refine (World.frozen?_of_block (Below.heap_alloc _ o (w.heap.size + 1) (by simpa using b0l))).trans ?_
        simp [f0]
      have f5 : ∀ o v v' i, (((wr.setCell ⟨w.heap.size + 1, 2, none⟩ v).setCell ⟨w.heap.size + 1, 1, none⟩ v').alloc o).frozen? ⟨w.heap.size + 1 + 1, i, none⟩ = false := fun o v v' i => by
        refine (World.frozen?_of_block (Below.heap_alloc _ o (w.heap.size + 1 + 1) (by simpa using s0))).trans ?_
        simp [f1]
      clear hy' hk'
      go_wp2
      go_region_held3 (fun w' => w'.cell? ⟨w.heap.size, 0, none⟩ = some (.int .i64 32) ∧ w'.cell? ⟨w.heap.size, 1, none⟩ = some (.int .i64 8) ∧ w'.cell? ⟨w.heap.size, 2, none⟩ = some (.int .i64 23) ∧ w'.cell? ⟨w.heap.size + 1, 2, none⟩ = some (.int .u64 y)) (go_keep) (first | (go_at_call 28; refine (lastFrac32 _).mono ?_; rintro e w1 ⟨rfl, rfl⟩))
      go_wp2
      go_roundw
      case rel =>
        refine ⟨k', y', by rw [HK'.out]; omega, HY', by go_simp, by go_simp, by go_simp, by go_simp, by go_simp, by go_simp, by go_simp, by go_simp, by go_simp, fun i => f4 _ _ _ i, fun i => f5 _ _ _ i, Gb.drew (Gb.alloc (Gb.setCell (Gb.setCell g (by simp) _) (by simp) _) _ _)⟩
      case measure =>
        rw [expAt_of (k := .i64) (e := 1 - (k' : Int)) (by go_simp), expAt_of b1, HK'.out]
        omega
    · obtain rfl : k = j := by omega
      have hzz : z = y - 2 ^ 23 := by rw [← hz.out, HY.out]
      have hy1 : 2 ^ 23 ≤ y ∧ y < 2 ^ 24 := by rw [HY.out]; exact ⟨hlo, hhi⟩
      have t1 : ¬ (y : Int) ≤ 8388607 := by omega
      have t2 : bits .and .u64 (y : Int) 8388607 = (z : Int) := (and_mask64 y 23 (by omega) (by omega)).trans (by omega)
      clear hzz hy1 hlo hhi hlt hz
      go_wp2
      go_region_held3 (fun w' => w'.cell? ⟨w.heap.size, 0, none⟩ = some (.int .i64 32) ∧ w'.cell? ⟨w.heap.size, 1, none⟩ = some (.int .i64 8) ∧ w'.cell? ⟨w.heap.size, 2, none⟩ = some (.int .i64 23) ∧ w'.cell? ⟨w.heap.size + 1, 2, none⟩ = some (.int .u64 y)) (go_keep) (first | (go_at_call 28; refine (lastFrac32 _).mono ?_; rintro e w1 ⟨rfl, rfl⟩))
      go_wp2
      first
        | (go_region_with (first
            | (go_at_call 28; refine (lastFrac32g _).mono ?_; rintro e w1 ⟨rfl, g1⟩
               have p0 := at_gb g1 (a := ⟨w.heap.size + 1, 0, none⟩) (v := .bool n) (by go_simp)
               have p1 := at_gb g1 (a := ⟨w.heap.size + 1, 1, none⟩) (v := .int .i64 (1 - (k : Int))) (by go_simp)
               have p2 := at_gb g1 (a := ⟨w.heap.size + 1, 2, none⟩) (v := .int .u64 y) (by go_simp)
               have q0 := at_gb g1 (a := ⟨w.heap.size + 1 + 1, 0, none⟩) (v := .bool false) (by go_simp)
               have q1 := at_gb g1 (a := ⟨w.heap.size + 1 + 1, 1, none⟩) (v := .int .i64 0) (by go_simp)
               have q2 := at_gb g1 (a := ⟨w.heap.size + 1 + 1, 2, none⟩) (v := .int .u64 0) (by go_simp)
               have f6 : ∀ i, w1.frozen? ⟨w.heap.size + 1, i, none⟩ = false := fun i => (g1.b.frozen (by simp; omega)).trans (f2 _ i)
               have f7 : ∀ i, w1.frozen? ⟨w.heap.size + 1 + 1, i, none⟩ = false := fun i => (g1.b.frozen (by simp; omega)).trans (f3 _ i))))
        | fail
      all_goals go_wp2
      all_goals refine bodyPost_ret (v := .agg #[.bool n, .int .i64 (1 - (k : Int)), .int .u64 z]) (by simp [results, Tryd.f38, go_sem, q0, q1, q2]) rfl ⟨rfl, ?_⟩
      all_goals exact Gb.setCell (Gb.setCell (Gb.setCell (Gb.setCell ((g.trans ((Gb.alloc (Gb.refl wr) _ _).drew.drew.trans g1))) (by dsimp only; omega) _) (by dsimp only; omega) _) (by dsimp only; omega) _) (by dsimp only; omega) _
end Go.Proofs.YtnhekkahiphlgaaDoor.rl
