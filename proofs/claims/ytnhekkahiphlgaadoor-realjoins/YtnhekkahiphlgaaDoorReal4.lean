/- Package real's functions, one form of reals each, and of any other width. -/
import Derived.Test.YtnhekkahiphlgaaDoorReal2
import Derived.Test.YtnhekkahiphlgaaDoorReal3
namespace Go.Proofs.YtnhekkahiphlgaaDoor.rl
open Go.RowKit
open mem
attribute [local go_sem] World.cell?_alloc_some
theorem fz_gb {w1 w2 : World} {o : Obj} (g : Gb (w1.alloc o) w2) {a : Addr} (ha : a.block < w1.heap.size) (h : w1.frozen? a = false) : w2.frozen? a = false := by
  rw [g.b.frozen (by simp; omega)]
  have e : (w1.alloc o).frozen? a = w1.frozen? a := World.frozen?_of_block (w := w1) (Below.heap_alloc w1 o a.block ha)
  rw [e]; exact h
/-- ErrArg, ErrRange as errors. -/
def errV (n : Int) : Value := .iface 25 (.int .i64 n)
theorem Apart32 (b x f : Nat) (n : Bool) (hb : b < 2 ^ 64) (hn : (b / 2 ^ 31 % 2 == 1) = n) (hx : b / 2 ^ 23 % 256 = x) (hf : b % 2 ^ 23 = f) (w : World) (hl : FL w) :
    Calls Tryd.prog 44 #[.int .u64 b, .int .i64 32] w fun e w' => e = .returned (.tuple #[.agg #[.bool n, .int .i64 x, .int .u64 f], .nilIface]) ∧ Gb w w' := by
  go_enter Tryd.func44, Tryd.ntmps44
  go_wp2_with (first
    | (go_at_call 26; refine (formOf32 _ (hl.gb (Gb.alloc (Gb.refl w) _ _))).mono ?_; rintro e w1 ⟨rfl, g1⟩
       have c0 := at_gb g1 (a := ⟨w.heap.size, 0, none⟩) (v := .bool false) (by go_simp)
       have c1 := at_gb g1 (a := ⟨w.heap.size, 1, none⟩) (v := .int .i64 0) (by go_simp)
       have c2 := at_gb g1 (a := ⟨w.heap.size, 2, none⟩) (v := .int .u64 0) (by go_simp)
       have f0 : ∀ j, w1.frozen? ⟨w.heap.size, j, none⟩ = false := fun j => (g1.b.frozen (by simp)).trans (by go_simp)
       have s1 : w.heap.size + 1 ≤ w1.heap.size := by have := g1.size; simpa using this)
    | (go_at_call 35; refine (apart32 b x f n hb hn hx hf _).mono ?_; rintro e w2 ⟨rfl, g2⟩
       have c3 := at_gb g2 (a := ⟨w.heap.size, 0, none⟩) (v := .bool false) (by go_simp)
       have c4 := at_gb g2 (a := ⟨w.heap.size, 1, none⟩) (v := .int .i64 0) (by go_simp)
       have c5 := at_gb g2 (a := ⟨w.heap.size, 2, none⟩) (v := .int .u64 0) (by go_simp)
       have f1 : ∀ j, w2.frozen? ⟨w.heap.size, j, none⟩ = false := fun j => fz_gb g2 (by simp; omega) (f0 j)))
  refine bodyPost_ret (v := .tuple #[.agg #[.bool n, .int .i64 x, .int .u64 f], .nilIface]) (by simp [results, Tryd.f44, go_sem, c3, c4, c5]) rfl ⟨rfl, ?_⟩
  exact Gb.setCell (Gb.setCell (Gb.setCell ((Gb.alloc (Gb.refl w) _ _).trans (g1.trans ((Gb.alloc (Gb.refl w1) _ _).trans g2))) (by simp) _) (by simp) _) (by simp) _
theorem Class32 (b x f c : Nat) (hb : b < 2 ^ 64) (hx : b / 2 ^ 23 % 256 = x) (hf : b % 2 ^ 23 = f) (hc : cls 255 x f = c) (w : World) (hl : FL w) :
    Calls Tryd.prog 45 #[.int .u64 b, .int .i64 32] w fun e w' => e = .returned (.tuple #[.int .i64 c, .nilIface]) ∧ Gb w w' := by
  generalize hn : (b / 2 ^ 31 % 2 == 1) = n
  go_enter Tryd.func45, Tryd.ntmps45
  go_wp2_with (go_at_call 26; refine (formOf32 _ hl).mono ?_; rintro e w1 ⟨rfl, g1⟩)
  go_region_held3 (fun w' => w'.cell? ⟨w1.heap.size, 0, none⟩ = some (.int .i64 32) ∧ w'.cell? ⟨w1.heap.size, 1, none⟩ = some (.int .i64 8) ∧ w'.cell? ⟨w1.heap.size, 2, none⟩ = some (.int .i64 23)) (go_keep) (first
    | (go_at_call 35; refine (apart32 b x f n hb hn hx hf _).mono ?_; rintro e w2 ⟨rfl, g2⟩
       have c0 := at_gb g2 (a := ⟨w1.heap.size, 0, none⟩) (v := .int .i64 32) (by go_simp)
       have c1 := at_gb g2 (a := ⟨w1.heap.size, 1, none⟩) (v := .int .i64 8) (by go_simp)
       have c2 := at_gb g2 (a := ⟨w1.heap.size, 2, none⟩) (v := .int .i64 23) (by go_simp))
    | (go_at_call 36; refine (class32 n x f c hc _).mono ?_; rintro e w3 ⟨rfl, g3⟩
       have d0 := at_gb g3 c0
       have d1 := at_gb g3 c1
       have d2 := at_gb g3 c2))
  go_wp2
  go_ret2
  exact ⟨rfl, g1.trans ((Gb.drew (Gb.alloc (Gb.refl w1) _ _)).trans (g2.trans g3))⟩
theorem Key32 (b : Nat) (k : Int) (hb : b < 2 ^ 64) (hk : keyN (2 ^ 31) b = k) (w : World) (hl : FL w) :
    Calls Tryd.prog 12 #[.int .u64 b, .int .i64 32] w fun e w' => e = .returned (.tuple #[.int .i64 k, .nilIface]) ∧ Gb w w' := by
  go_enter Tryd.func12, Tryd.ntmps12
  go_wp2_with (first
    | (go_at_call 26; refine (formOf32 _ hl).mono ?_; rintro e w1 ⟨rfl, g1⟩)
    | (go_at_call 32; refine (key32 b k hb hk _).mono ?_; rintro e w2 ⟨rfl, g2⟩))
  go_ret2
  exact ⟨rfl, g1.trans ((Gb.alloc (Gb.refl w1) _ _).trans g2)⟩
theorem Apart64 (b x f : Nat) (n : Bool) (hb : b < 2 ^ 64) (hn : (b / 2 ^ 63 % 2 == 1) = n) (hx : b / 2 ^ 52 % 2048 = x) (hf : b % 2 ^ 52 = f) (w : World) (hl : FL w) :
    Calls Tryd.prog 44 #[.int .u64 b, .int .i64 64] w fun e w' => e = .returned (.tuple #[.agg #[.bool n, .int .i64 x, .int .u64 f], .nilIface]) ∧ Gb w w' := by
  go_enter Tryd.func44, Tryd.ntmps44
  go_wp2_with (first
    | (go_at_call 26; refine (formOf64 _ (hl.gb (Gb.alloc (Gb.refl w) _ _))).mono ?_; rintro e w1 ⟨rfl, g1⟩
       have c0 := at_gb g1 (a := ⟨w.heap.size, 0, none⟩) (v := .bool false) (by go_simp)
       have c1 := at_gb g1 (a := ⟨w.heap.size, 1, none⟩) (v := .int .i64 0) (by go_simp)
       have c2 := at_gb g1 (a := ⟨w.heap.size, 2, none⟩) (v := .int .u64 0) (by go_simp)
       have f0 : ∀ j, w1.frozen? ⟨w.heap.size, j, none⟩ = false := fun j => (g1.b.frozen (by simp)).trans (by go_simp)
       have s1 : w.heap.size + 1 ≤ w1.heap.size := by have := g1.size; simpa using this)
    | (go_at_call 35; refine (apart64 b x f n hb hn hx hf _).mono ?_; rintro e w2 ⟨rfl, g2⟩
       have c3 := at_gb g2 (a := ⟨w.heap.size, 0, none⟩) (v := .bool false) (by go_simp)
       have c4 := at_gb g2 (a := ⟨w.heap.size, 1, none⟩) (v := .int .i64 0) (by go_simp)
       have c5 := at_gb g2 (a := ⟨w.heap.size, 2, none⟩) (v := .int .u64 0) (by go_simp)
       have f1 : ∀ j, w2.frozen? ⟨w.heap.size, j, none⟩ = false := fun j => fz_gb g2 (by simp; omega) (f0 j)))
  refine bodyPost_ret (v := .tuple #[.agg #[.bool n, .int .i64 x, .int .u64 f], .nilIface]) (by simp [results, Tryd.f44, go_sem, c3, c4, c5]) rfl ⟨rfl, ?_⟩
  exact Gb.setCell (Gb.setCell (Gb.setCell ((Gb.alloc (Gb.refl w) _ _).trans (g1.trans ((Gb.alloc (Gb.refl w1) _ _).trans g2))) (by simp) _) (by simp) _) (by simp) _
theorem Class64 (b x f c : Nat) (hb : b < 2 ^ 64) (hx : b / 2 ^ 52 % 2048 = x) (hf : b % 2 ^ 52 = f) (hc : cls 2047 x f = c) (w : World) (hl : FL w) :
    Calls Tryd.prog 45 #[.int .u64 b, .int .i64 64] w fun e w' => e = .returned (.tuple #[.int .i64 c, .nilIface]) ∧ Gb w w' := by
  generalize hn : (b / 2 ^ 63 % 2 == 1) = n
  go_enter Tryd.func45, Tryd.ntmps45
  go_wp2_with (go_at_call 26; refine (formOf64 _ hl).mono ?_; rintro e w1 ⟨rfl, g1⟩)
  go_region_held3 (fun w' => w'.cell? ⟨w1.heap.size, 0, none⟩ = some (.int .i64 64) ∧ w'.cell? ⟨w1.heap.size, 1, none⟩ = some (.int .i64 11) ∧ w'.cell? ⟨w1.heap.size, 2, none⟩ = some (.int .i64 52)) (go_keep) (first
    | (go_at_call 35; refine (apart64 b x f n hb hn hx hf _).mono ?_; rintro e w2 ⟨rfl, g2⟩
       have c0 := at_gb g2 (a := ⟨w1.heap.size, 0, none⟩) (v := .int .i64 64) (by go_simp)
       have c1 := at_gb g2 (a := ⟨w1.heap.size, 1, none⟩) (v := .int .i64 11) (by go_simp)
       have c2 := at_gb g2 (a := ⟨w1.heap.size, 2, none⟩) (v := .int .i64 52) (by go_simp))
    | (go_at_call 36; refine (class64 n x f c hc _).mono ?_; rintro e w3 ⟨rfl, g3⟩
       have d0 := at_gb g3 c0
       have d1 := at_gb g3 c1
       have d2 := at_gb g3 c2))
  go_wp2
  go_ret2
  exact ⟨rfl, g1.trans ((Gb.drew (Gb.alloc (Gb.refl w1) _ _)).trans (g2.trans g3))⟩
theorem Key64 (b : Nat) (k : Int) (hb : b < 2 ^ 64) (hk : keyN (2 ^ 63) b = k) (w : World) (hl : FL w) :
    Calls Tryd.prog 12 #[.int .u64 b, .int .i64 64] w fun e w' => e = .returned (.tuple #[.int .i64 k, .nilIface]) ∧ Gb w w' := by
  go_enter Tryd.func12, Tryd.ntmps12
  go_wp2_with (first
    | (go_at_call 26; refine (formOf64 _ hl).mono ?_; rintro e w1 ⟨rfl, g1⟩)
    | (go_at_call 32; refine (key64 b k hb hk _).mono ?_; rintro e w2 ⟨rfl, g2⟩))
  go_ret2
  exact ⟨rfl, g1.trans ((Gb.alloc (Gb.refl w1) _ _).trans g2)⟩

theorem ApartNo (b : Nat) (d : Int) (hd : d ≠ 32 ∧ d ≠ 64) (w : World) (hl : FL w) :
    Calls Tryd.prog 44 #[.int .u64 b, .int .i64 d] w fun e w' => e = .returned (.tuple #[.agg #[.bool false, .int .i64 0, .int .u64 0], .iface 25 (.int .i64 1)]) ∧ Gb w w' := by
  go_enter Tryd.func44, Tryd.ntmps44
  go_wp2_with (go_at_call 26; refine (formOf_no d hd _ (hl.gb (Gb.alloc (Gb.refl w) _ _))).mono ?_; rintro e w1 ⟨rfl, g1⟩
               have c0 := at_gb g1 (a := ⟨w.heap.size, 0, none⟩) (v := .bool false) (by go_simp)
               have c1 := at_gb g1 (a := ⟨w.heap.size, 1, none⟩) (v := .int .i64 0) (by go_simp)
               have c2 := at_gb g1 (a := ⟨w.heap.size, 2, none⟩) (v := .int .u64 0) (by go_simp)
               have s1 : w.heap.size + 1 ≤ w1.heap.size := by have := g1.size; simpa using this
               have f0 : ∀ j, w1.frozen? ⟨w.heap.size, j, none⟩ = false := fun j => (g1.b.frozen (by simp)).trans (by go_simp)
               have f1 : ∀ (o : Obj) j, (w1.alloc o).frozen? ⟨w.heap.size, j, none⟩ = false := fun o j => fz_gb (w1 := w1) (o := o) (Gb.refl _) (by simp; omega) (f0 j))
  refine bodyPost_ret (v := .tuple #[.agg #[.bool false, .int .i64 0, .int .u64 0], .iface 25 (.int .i64 1)]) (by simp [results, Tryd.f44, go_sem, c0, c1, c2]) rfl ⟨rfl, ?_⟩
  exact Gb.setCell (Gb.setCell (Gb.setCell ((Gb.alloc (Gb.refl w) _ _).trans (g1.trans (Gb.alloc (Gb.refl w1) _ _))) (by simp) _) (by simp) _) (by simp) _
theorem ClassNo (b : Nat) (d : Int) (hd : d ≠ 32 ∧ d ≠ 64) (w : World) (hl : FL w) :
    Calls Tryd.prog 45 #[.int .u64 b, .int .i64 d] w fun e w' => e = .returned (.tuple #[.int .i64 0, .iface 25 (.int .i64 1)]) ∧ Gb w w' := by
  go_enter Tryd.func45, Tryd.ntmps45
  go_wp2_with (go_at_call 26; refine (formOf_no d hd _ hl).mono ?_; rintro e w1 ⟨rfl, g1⟩)
  go_ret2
  exact ⟨rfl, g1.trans (Gb.alloc (Gb.refl w1) _ _)⟩
theorem KeyNo (b : Nat) (d : Int) (hd : d ≠ 32 ∧ d ≠ 64) (w : World) (hl : FL w) :
    Calls Tryd.prog 12 #[.int .u64 b, .int .i64 d] w fun e w' => e = .returned (.tuple #[.int .i64 0, .iface 25 (.int .i64 1)]) ∧ Gb w w' := by
  go_enter Tryd.func12, Tryd.ntmps12
  go_wp2_with (go_at_call 26; refine (formOf_no d hd _ hl).mono ?_; rintro e w1 ⟨rfl, g1⟩)
  go_ret2
  exact ⟨rfl, g1.trans (Gb.alloc (Gb.refl w1) _ _)⟩
theorem besideNo (b : Nat) (d y : Int) (hd : d ≠ 32 ∧ d ≠ 64) (w : World) (hl : FL w) :
    Calls Tryd.prog 34 #[.int .u64 b, .int .i64 d, .int .i64 y] w fun e w' => e = .returned (.tuple #[.int .u64 0, .iface 25 (.int .i64 1)]) ∧ Gb w w' := by
  go_enter Tryd.func34, Tryd.ntmps34
  go_wp2_with (go_at_call 26; refine (formOf_no d hd _ hl).mono ?_; rintro e w1 ⟨rfl, g1⟩)
  go_ret2
  exact ⟨rfl, g1.trans (Gb.alloc (Gb.refl w1) _ _)⟩
end Go.Proofs.YtnhekkahiphlgaaDoor.rl
