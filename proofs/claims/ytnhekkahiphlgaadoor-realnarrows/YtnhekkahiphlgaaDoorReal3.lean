/- Package real's own functions, one form of reals each: the place in the order, and back; the form of so many bits. -/
import Derived.Test.YtnhekkahiphlgaaDoorReal1
import Derived.Handy
namespace Go.Proofs.YtnhekkahiphlgaaDoor.rl
open Go.RowKit
open mem
attribute [local go_sem] World.cell?_alloc_some
/-- Where bits of so many but one stand in the order: s: what the sign weighs. -/
def keyN (s b : Nat) : Int := if b / s % 2 = 1 then -1 - ((b % s : Nat) : Int) else ((b % s : Nat) : Int)
theorem key32 (b : Nat) (k : Int) (hb : b < 2 ^ 64) (hk : keyN (2 ^ 31) b = k) (w : World) :
    Calls Tryd.prog 32 #[.agg #[.int .i64 32, .int .i64 8, .int .i64 23], .int .u64 b] w fun e w' => e = .returned (.int .i64 k) ∧ Gb w w' := by
  unfold keyN at hk
  have hj : (b / 2 ^ 23 % 256) * 2 ^ 23 + b % 2 ^ 23 = b % 2 ^ 31 := by omega
  have hm : b % 2 ^ 31 < 2 ^ 31 := Nat.mod_lt _ (by omega)
  generalize hx : b / 2 ^ 23 % 256 = x at hj
  generalize hf : b % 2 ^ 23 = f at hj
  generalize hn : (b / 2 ^ 31 % 2 == 1) = n
  have a0 : b / 2 ^ 31 % 2 = 1 ↔ n = true := by rw [← hn]; simp
  simp only [a0] at hk
  generalize b % 2 ^ 31 = m at hj hk hm
  have a1 : IntKind.i64.wrap (m : Int) = (m : Int) := wrap_i64 _ (by omega) (by omega)
  have a2 : IntKind.i64.wrap (-1 - (m : Int)) = -1 - (m : Int) := wrap_i64 _ (by omega) (by omega)
  have hxl : x < 256 := by omega
  have hfl : f < 2 ^ 23 := by omega
  go_enter Tryd.func32, Tryd.ntmps32
  go_wp2_with (first
    | (go_at_call 35; refine (apart32 b x f n hb hn hx hf _).mono ?_; rintro e w1 ⟨rfl, g1⟩
       have c0 := at_gb g1 (a := ⟨w.heap.size, 0, none⟩) (v := .int .i64 32) (by go_simp)
       have c1 := at_gb g1 (a := ⟨w.heap.size, 1, none⟩) (v := .int .i64 8) (by go_simp)
       have c2 := at_gb g1 (a := ⟨w.heap.size, 2, none⟩) (v := .int .i64 23) (by go_simp)
       have s1 : w.heap.size + 1 ≤ w1.heap.size := by have := g1.size; simpa using this)
    | (go_at_call 29; refine (join32 false x f m hxl hfl (by simpa using hj) _).mono ?_; rintro e w2 ⟨rfl, g2⟩))
  · go_ret
    exact ⟨by simp_all, (Gb.alloc (Gb.refl w) _ _).trans (g1.trans ((Gb.alloc (Gb.refl w1) _ _).trans g2))⟩
  · go_ret
    exact ⟨by simp_all, (Gb.alloc (Gb.refl w) _ _).trans (g1.trans ((Gb.alloc (Gb.refl w1) _ _).trans g2))⟩
theorem atKey32 (k : Int) (m r : Nat) (hm : m < 2 ^ 31) (h : (k = (m : Int) ∧ r = m) ∨ (k = -1 - (m : Int) ∧ r = 2 ^ 31 + m)) (w : World) :
    Calls Tryd.prog 47 #[.agg #[.int .i64 32, .int .i64 8, .int .i64 23], .int .i64 k] w fun e w' => e = .returned (.int .u64 r) ∧ Gb w w' := by
  rcases h with ⟨rfl, rfl⟩ | ⟨rfl, hr⟩
  · have a1 : IntKind.u64.wrap (r : Int) = (r : Int) := wrap_u64 _ (by omega) (by omega)
    have a2 : ¬ (r : Int) < 0 := by omega
    go_enter Tryd.func47, Tryd.ntmps47
    go_wp2
    go_ret
    exact ⟨rfl, Gb.alloc (Gb.refl w) _ _⟩
  · have a1 : IntKind.u64.wrap (m : Int) = (m : Int) := wrap_u64 _ (by omega) (by omega)
    have a2 : (-1 - (m : Int)) < 0 := by omega
    have a3 : IntKind.i64.wrap (-1 - (-1 - (m : Int))) = (m : Int) := (wrap_i64 _ (by omega) (by omega)).trans (by omega)
    have a4 : bits .or .u64 2147483648 (m : Int) = (r : Int) := by
      rw [hr]; exact (or_add 1 31 m hm (by omega)).trans (by omega)
    generalize hkk : -1 - (m : Int) = k at a2 a3
    clear hr hkk
    go_enter Tryd.func47, Tryd.ntmps47
    go_wp2_with (first | (go_at_call 29; refine (join32 true 0 0 2147483648 (by omega) (by omega) (by simp) _).mono ?_; rintro e w2 ⟨rfl, g2⟩))
    go_ret
    exact ⟨by simp_all, (Gb.alloc (Gb.refl w) _ _).trans g2⟩
theorem key64 (b : Nat) (k : Int) (hb : b < 2 ^ 64) (hk : keyN (2 ^ 63) b = k) (w : World) :
    Calls Tryd.prog 32 #[.agg #[.int .i64 64, .int .i64 11, .int .i64 52], .int .u64 b] w fun e w' => e = .returned (.int .i64 k) ∧ Gb w w' := by
  unfold keyN at hk
  have hj : (b / 2 ^ 52 % 2048) * 2 ^ 52 + b % 2 ^ 52 = b % 2 ^ 63 := by omega
  have hm : b % 2 ^ 63 < 2 ^ 63 := Nat.mod_lt _ (by omega)
  generalize hx : b / 2 ^ 52 % 2048 = x at hj
  generalize hf : b % 2 ^ 52 = f at hj
  generalize hn : (b / 2 ^ 63 % 2 == 1) = n
  have a0 : b / 2 ^ 63 % 2 = 1 ↔ n = true := by rw [← hn]; simp
  simp only [a0] at hk
  generalize b % 2 ^ 63 = m at hj hk hm
  have a1 : IntKind.i64.wrap (m : Int) = (m : Int) := wrap_i64 _ (by omega) (by omega)
  have a2 : IntKind.i64.wrap (-1 - (m : Int)) = -1 - (m : Int) := wrap_i64 _ (by omega) (by omega)
  have hxl : x < 2048 := by omega
  have hfl : f < 2 ^ 52 := by omega
  go_enter Tryd.func32, Tryd.ntmps32
  go_wp2_with (first
    | (go_at_call 35; refine (apart64 b x f n hb hn hx hf _).mono ?_; rintro e w1 ⟨rfl, g1⟩
       have c0 := at_gb g1 (a := ⟨w.heap.size, 0, none⟩) (v := .int .i64 64) (by go_simp)
       have c1 := at_gb g1 (a := ⟨w.heap.size, 1, none⟩) (v := .int .i64 11) (by go_simp)
       have c2 := at_gb g1 (a := ⟨w.heap.size, 2, none⟩) (v := .int .i64 52) (by go_simp)
       have s1 : w.heap.size + 1 ≤ w1.heap.size := by have := g1.size; simpa using this)
    | (go_at_call 29; refine (join64 false x f m hxl hfl (by simpa using hj) _).mono ?_; rintro e w2 ⟨rfl, g2⟩))
  · go_ret
    exact ⟨by simp_all, (Gb.alloc (Gb.refl w) _ _).trans (g1.trans ((Gb.alloc (Gb.refl w1) _ _).trans g2))⟩
  · go_ret
    exact ⟨by simp_all, (Gb.alloc (Gb.refl w) _ _).trans (g1.trans ((Gb.alloc (Gb.refl w1) _ _).trans g2))⟩
theorem atKey64 (k : Int) (m r : Nat) (hm : m < 2 ^ 63) (h : (k = (m : Int) ∧ r = m) ∨ (k = -1 - (m : Int) ∧ r = 2 ^ 63 + m)) (w : World) :
    Calls Tryd.prog 47 #[.agg #[.int .i64 64, .int .i64 11, .int .i64 52], .int .i64 k] w fun e w' => e = .returned (.int .u64 r) ∧ Gb w w' := by
  rcases h with ⟨rfl, rfl⟩ | ⟨rfl, hr⟩
  · have a1 : IntKind.u64.wrap (r : Int) = (r : Int) := wrap_u64 _ (by omega) (by omega)
    have a2 : ¬ (r : Int) < 0 := by omega
    go_enter Tryd.func47, Tryd.ntmps47
    go_wp2
    go_ret
    exact ⟨rfl, Gb.alloc (Gb.refl w) _ _⟩
  · have a1 : IntKind.u64.wrap (m : Int) = (m : Int) := wrap_u64 _ (by omega) (by omega)
    have a2 : (-1 - (m : Int)) < 0 := by omega
    have a3 : IntKind.i64.wrap (-1 - (-1 - (m : Int))) = (m : Int) := (wrap_i64 _ (by omega) (by omega)).trans (by omega)
    have a4 : bits .or .u64 9223372036854775808 (m : Int) = (r : Int) := by
      rw [hr]; exact (or_add 1 63 m hm (by omega)).trans (by omega)
    generalize hkk : -1 - (m : Int) = k at a2 a3
    clear hr hkk
    go_enter Tryd.func47, Tryd.ntmps47
    go_wp2_with (first | (go_at_call 29; refine (join64 true 0 0 9223372036854775808 (by omega) (by omega) (by simp) _).mono ?_; rintro e w2 ⟨rfl, g2⟩))
    go_ret
    exact ⟨by simp_all, (Gb.alloc (Gb.refl w) _ _).trans g2⟩

/-- The variable forms lies as the program's text lays it. -/
def FL (w : World) : Prop := w.cell? ⟨0, 0, none⟩ = some (.int .i64 32) ∧ w.cell? ⟨0, 1, none⟩ = some (.int .i64 8) ∧ w.cell? ⟨0, 2, none⟩ = some (.int .i64 23) ∧ w.cell? ⟨0, 3, none⟩ = some (.int .i64 64) ∧ w.cell? ⟨0, 4, none⟩ = some (.int .i64 11) ∧ w.cell? ⟨0, 5, none⟩ = some (.int .i64 52)
theorem FL.gb {w w' : World} (h : FL w) (g : Gb w w') : FL w' := by
  obtain ⟨h0, h1, h2, h3, h4, h5⟩ := h
  exact ⟨at_gb g h0, at_gb g h1, at_gb g h2, at_gb g h3, at_gb g h4, at_gb g h5⟩
theorem index0 (w : World) : (Instr.index 67 (.agg #[.int .i64 32, .int .i64 8, .int .i64 23, .int .i64 64, .int .i64 11, .int .i64 52]) (.int .i64 0)).run Tryd.prog w = .ok (.agg #[.int .i64 32, .int .i64 8, .int .i64 23]) w := by
  simp [Instr.index, asIntOf, part, go_sem]
theorem index1 (w : World) : (Instr.index 67 (.agg #[.int .i64 32, .int .i64 8, .int .i64 23, .int .i64 64, .int .i64 11, .int .i64 52]) (.int .i64 1)).run Tryd.prog w = .ok (.agg #[.int .i64 64, .int .i64 11, .int .i64 52]) w := by
  simp [Instr.index, asIntOf, part, go_sem]
set_option maxRecDepth 4000 in
theorem formOf32 (w : World) (hl : FL w) : Calls Tryd.prog 26 #[.int .i64 32] w fun e w' => e = .returned (.tuple #[.agg #[.int .i64 32, .int .i64 8, .int .i64 23], .nilIface]) ∧ Gb w w' := by
  obtain ⟨h0, h1, h2, h3, h4, h5⟩ := hl
  have i0 := index0
  have i1 := index1
  go_enter Tryd.func26, Tryd.ntmps26
  go_wp2
  refine wp_loop_rounds 3 ?_
  rw [rounds_succ]
  go_wp2
  refine bodyPost_ret (v := .tuple #[.agg #[.int .i64 32, .int .i64 8, .int .i64 23], .nilIface]) (by simp [results, Tryd.f26, go_sem]) rfl ⟨rfl, ?_⟩
  exact Gb.alloc (Gb.alloc (Gb.refl w) _ _) _ _
set_option maxRecDepth 4000 in
theorem formOf64 (w : World) (hl : FL w) : Calls Tryd.prog 26 #[.int .i64 64] w fun e w' => e = .returned (.tuple #[.agg #[.int .i64 64, .int .i64 11, .int .i64 52], .nilIface]) ∧ Gb w w' := by
  obtain ⟨h0, h1, h2, h3, h4, h5⟩ := hl
  have i0 := index0
  have i1 := index1
  go_enter Tryd.func26, Tryd.ntmps26
  go_wp2
  refine wp_loop_rounds 3 ?_
  rw [rounds_succ]
  go_wp2
  rw [rounds_succ]
  go_wp2
  refine bodyPost_ret (v := .tuple #[.agg #[.int .i64 64, .int .i64 11, .int .i64 52], .nilIface]) (by simp [results, Tryd.f26, go_sem]) rfl ⟨rfl, ?_⟩
  exact Gb.alloc (Gb.alloc (Gb.alloc (Gb.refl w) _ _) _ _) _ _
set_option maxRecDepth 4000 in
theorem formOf_no (d : Int) (hd : d ≠ 32 ∧ d ≠ 64) (w : World) (hl : FL w) : Calls Tryd.prog 26 #[.int .i64 d] w fun e w' => e = .returned (.tuple #[.agg #[.int .i64 0, .int .i64 0, .int .i64 0], .iface 25 (.int .i64 1)]) ∧ Gb w w' := by
  obtain ⟨h0, h1, h2, h3, h4, h5⟩ := hl
  have i0 := index0
  have i1 := index1
  have e1 : ((32 : Int) == d) = false := by simp; omega
  have e2 : ((64 : Int) == d) = false := by simp; omega
  clear hd
  go_enter Tryd.func26, Tryd.ntmps26
  go_wp2
  refine wp_loop_rounds 3 ?_
  rw [rounds_succ]
  go_wp2
  rw [rounds_succ]
  go_wp2
  rw [rounds_succ]
  go_wp2
  refine bodyPost_ret (v := .tuple #[.agg #[.int .i64 0, .int .i64 0, .int .i64 0], .iface 25 (.int .i64 1)]) (by simp [results, Tryd.f26, go_sem]) rfl ⟨rfl, ?_⟩
  exact Gb.alloc (Gb.alloc (Gb.alloc (Gb.refl w) _ _) _ _) _ _
end Go.Proofs.YtnhekkahiphlgaaDoor.rl
