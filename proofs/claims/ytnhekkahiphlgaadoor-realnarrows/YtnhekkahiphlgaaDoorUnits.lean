/- Numbers of very many bits, as the document's own lays them: 34 words. -/
import Derived.Test.YtnhekkahiphlgaaDoorRefWid
import Derived.Deep.MidRow
import Derived.Deep.WholeRow
import Derived.Shelf.Spec.BitsCarry
namespace Go.Proofs.YtnhekkahiphlgaaDoor.rl
open Go.RowKit
open mem flt
/-- The i-th word. -/
def wd (V i : Nat) : Nat := V / 2 ^ (64 * i) % 18446744073709551616
def ulf (f : Nat → Nat) : List Value := (List.range 34).map fun i => .int .u64 (f i : Int)
def ul (V : Nat) : Array Value := (ulf (wd V)).toArray
theorem ulf_len (f : Nat → Nat) : (ulf f).length = 34 := by simp [ulf]
theorem ulf_one (f : Nat → Nat) : (ulf f).toArray.all (·.oneCell') = true := all_oneCell_toArray fun v hv => by
  simp only [ulf, List.mem_map] at hv
  obtain ⟨i, _, rfl⟩ := hv
  rfl
theorem ulf_congr {f g : Nat → Nat} (h : ∀ j, j < 34 → f j = g j) : ulf f = ulf g := by
  unfold ulf
  apply List.map_congr_left
  intro i hi
  rw [h i (List.mem_range.1 hi)]
/-- 34 words in a block of their own. -/
def Un (w : World) (g : Nat) (f : Nat → Nat) : Prop := ∀ j, j < 34 → w.cell? ⟨g, j, none⟩ = some (.int .u64 (f j : Int)) ∧ w.frozen? ⟨g, j, none⟩ = false
theorem Un.gb {w w' : World} {g : Nat} {f : Nat → Nat} (h : Un w g f) (k : Gb w w') : Un w' g f := fun j hj =>
  ⟨at_gb k (h j hj).1, (k.b.frozen (p := ⟨g, j, none⟩) (lt_block (a := ⟨g, j, none⟩) (h j hj).1)).trans (h j hj).2⟩
theorem Un.range {w : World} {g : Nat} {f : Nat → Nat} (h : Un w g f) : w.rangeAt g 0 (ulf f) := fun j v hv => by
  simp only [ulf, List.getElem?_map, Option.map_eq_some_iff] at hv
  obtain ⟨i, hi, rfl⟩ := hv
  obtain ⟨h1, h2⟩ := List.getElem?_eq_some_iff.1 hi
  simp at h1 h2
  subst h2
  rw [Nat.zero_add]
  exact (h j h1).1
theorem Un.there {w : World} {g : Nat} {f : Nat → Nat} (h : Un w g f) : w.there g 0 34 := fun j hj => by
  rw [Nat.zero_add]
  exact ⟨by rw [(h j hj).1]; rfl, (h j hj).2⟩
theorem Un.new (w : World) (f : Nat → Nat) (t : TypeId) : Un (w.alloc (.cells (ulf f).toArray t)) w.heap.size f := fun j hj => by
  constructor
  · have : (ulf f)[j]? = some (.int .u64 (f j : Int)) := by simp [ulf, List.getElem?_range hj]
    rw [cell_of_row _ _ j _ t (0, 0) (heap_alloc_last w _)]
    simpa using this
  · simp
theorem Un.alloc {w : World} {g : Nat} {f : Nat → Nat} (h : Un w g f) (c : Array Value) (t : TypeId) : Un (w.alloc (.cells c t)) g f := h.gb ((Gb.refl w).alloc c t)
theorem Un.drew {w : World} {g : Nat} {f : Nat → Nat} (h : Un w g f) : Un w.drew g f := h
theorem info34 : ((Tryd.prog).info? 73).map (·.size) = some 34 := by kernel_rfl
theorem div_sub (M A B al bl : Nat) (hM : 0 < M) (ha : al < M) (hb : bl < M) (h : bl + M * B ≤ al + M * A) :
    (al + M * A - (bl + M * B)) / M = A - B - (if al < bl then 1 else 0) := by
  have hBA : B ≤ A := by
    rcases Nat.lt_or_ge A B with h' | h'
    · exfalso
      have : M * (A + 1) ≤ M * B := Nat.mul_le_mul_left _ h'
      rw [Nat.mul_add] at this; omega
    · exact h'
  obtain ⟨D, rfl⟩ : ∃ D, A = B + D := ⟨A - B, by omega⟩
  rw [Nat.mul_add] at h ⊢
  by_cases hl : al < bl
  · rw [if_pos hl]
    have hD : 1 ≤ D := by
      rcases Nat.eq_zero_or_pos D with h0 | h0
      · subst h0; simp at h; omega
      · exact h0
    obtain ⟨E, rfl⟩ : ∃ E, D = E + 1 := ⟨D - 1, by omega⟩
    rw [Nat.mul_add] at h ⊢
    have e : al + (M * B + (M * E + M * 1)) - (bl + M * B) = M * E + (al + M - bl) := by omega
    rw [e, Nat.mul_add_div hM, Nat.div_eq_of_lt (by omega)]
    omega
  · rw [if_neg hl]
    have e : al + (M * B + M * D) - (bl + M * B) = M * D + (al - bl) := by omega
    rw [e, Nat.mul_add_div hM, Nat.div_eq_of_lt (by omega)]
    omega
/-- What is borrowed behind k words. -/
def bor (a b k : Nat) : Nat := if a % 2 ^ (64 * k) < b % 2 ^ (64 * k) then 1 else 0
theorem bor_zero (a b : Nat) : bor a b 0 = 0 := by unfold bor; rw [Nat.mul_zero, Nat.pow_zero, Nat.mod_one, Nat.mod_one]; rfl
theorem bor_le (a b k : Nat) : bor a b k ≤ 1 := by unfold bor; split <;> omega
theorem mod_next (a k : Nat) : a % 2 ^ (64 * (k + 1)) = a % 2 ^ (64 * k) + 2 ^ (64 * k) * wd a k := by
  rw [Nat.mul_add, Nat.pow_add]
  exact Nat.mod_mul
theorem bor_step (a b k : Nat) : bor a b (k + 1) = if wd a k < wd b k + bor a b k then 1 else 0 := by
  unfold bor
  rw [mod_next, mod_next]
  have hM : 0 < 2 ^ (64 * k) := Nat.two_pow_pos _
  have ha : a % 2 ^ (64 * k) < 2 ^ (64 * k) := Nat.mod_lt _ hM
  have hb : b % 2 ^ (64 * k) < 2 ^ (64 * k) := Nat.mod_lt _ hM
  generalize a % 2 ^ (64 * k) = al at *
  generalize b % 2 ^ (64 * k) = bl at *
  generalize 2 ^ (64 * k) = M at *
  generalize wd a k = x
  generalize wd b k = y
  rcases Nat.lt_trichotomy x y with h | h | h
  · have : M * (x + 1) ≤ M * y := Nat.mul_le_mul_left _ h
    rw [Nat.mul_add] at this
    rw [if_pos (by omega), if_pos (by omega)]
  · subst h
    by_cases hl : al < bl
    · rw [if_pos hl, if_pos (by omega), if_pos (by omega)]
    · rw [if_neg hl, if_neg (by omega), if_neg (by omega)]
  · have : M * (y + 1) ≤ M * x := Nat.mul_le_mul_left _ h
    rw [Nat.mul_add] at this
    rw [if_neg (by omega), if_neg]
    split <;> omega
theorem wd_sub (a b k : Nat) (h : b ≤ a) : wd (a - b) k = (wd a k + 18446744073709551616 - wd b k - bor a b k) % 18446744073709551616 := by
  have hM : 0 < 2 ^ (64 * k) := Nat.two_pow_pos _
  have ha : a % 2 ^ (64 * k) < 2 ^ (64 * k) := Nat.mod_lt _ hM
  have hb : b % 2 ^ (64 * k) < 2 ^ (64 * k) := Nat.mod_lt _ hM
  have ea := Nat.mod_add_div a (2 ^ (64 * k))
  have eb := Nat.mod_add_div b (2 ^ (64 * k))
  have h' := h
  rw [← ea, ← eb] at h'
  have hd := div_sub _ _ _ _ _ hM ha hb h'
  have hle : b / 2 ^ (64 * k) + bor a b k ≤ a / 2 ^ (64 * k) := by
    unfold bor
    generalize a % 2 ^ (64 * k) = al at *
    generalize b % 2 ^ (64 * k) = bl at *
    generalize a / 2 ^ (64 * k) = A at *
    generalize b / 2 ^ (64 * k) = B at *
    generalize 2 ^ (64 * k) = M at *
    rcases Nat.lt_trichotomy A B with hh | hh | hh
    · exfalso
      have : M * (A + 1) ≤ M * B := Nat.mul_le_mul_left _ hh
      rw [Nat.mul_add] at this; omega
    · subst hh
      rw [if_neg (by omega)]; omega
    · split <;> omega
  rw [ea, eb] at hd
  unfold wd
  rw [hd]
  change (a / 2 ^ (64 * k) - b / 2 ^ (64 * k) - bor a b k) % 18446744073709551616 = _
  have := bor_le a b k
  generalize bor a b k = q at *
  generalize a / 2 ^ (64 * k) = A at *
  generalize b / 2 ^ (64 * k) = B at *
  clear hd h' ea eb ha hb hM h
  omega
theorem sub64_run (x y B S C : Nat) (hB : B ≤ 1) (hS : S = (x + 18446744073709551616 - y - B) % 18446744073709551616) (hC : C = if x < y + B then 1 else 0) (w : World) :
    (callFunc 49 #[.int .u64 (x : Int), .int .u64 (y : Int), .int .u64 (B : Int)]).run Tryd.prog w = .ok (.value (.tuple #[.int .u64 (S : Int), .int .u64 (C : Int)])) w := by
  rw [run_callFunc_extern Tryd.func49 (by kernel_rfl) (by kernel_rfl) (by kernel_rfl) (e := sub64Entry) (by kernel_rfl), run_sub64 x y B hB]
  simp only [Result.andThen]
  rw [← hS, ← hC]
end Go.Proofs.YtnhekkahiphlgaaDoor.rl
