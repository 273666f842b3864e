/- Trees of pieces in memory; what a node has, and a piece above two trees. -/
import Derived.Test.YtkjlcgclabgkaaaDoorPcP
import Derived.Test.YtkjlcgclabgkaaaDoorProg
import Derived.Deep.RegionHeld3
namespace Go.Proofs.YtkjlcgclabgkaaaDoor.pc
set_option linter.unusedVariables false
open Go.ChangeShapes Go.WideShapes Go.ChangeAt Go.RowKit
open mem

def IsT (n₀ : Nat) (w : World) : Option Addr → Tr → Prop
  | p, .leaf => p = none
  | p, .node l s r => ∃ (b : Nat) (pl pr : Option Addr), p = some ⟨b, 0, none⟩ ∧ (b < n₀ ∧ w.shape? b = some (65, 6)) ∧ w.cell? ⟨b, 0, none⟩ = some (.pointer pl) ∧ w.cell? ⟨b, 1, none⟩ = some (.string s) ∧ w.cell? ⟨b, 2, none⟩ = some (.pointer pr) ∧
      w.cell? ⟨b, 3, none⟩ = some (.int .i64 ((tot (l.ps ++ s :: r.ps) : Nat) : Int)) ∧ w.cell? ⟨b, 4, none⟩ = some (.int .i64 (((l.ps ++ s :: r.ps).length : Nat) : Int)) ∧ w.cell? ⟨b, 5, none⟩ = some (.int .i64 (((Tr.node l s r).dp : Nat) : Int)) ∧
      IsT n₀ w pl l ∧ IsT n₀ w pr r
theorem IsT.below {n₀ : Nat} {A B : World} (h : Below n₀ A B) : ∀ {p : Option Addr} {t : Tr}, IsT n₀ A p t → IsT n₀ B p t
  | _, .leaf, ht => ht
  | _, .node _ _ _, ⟨b, pl, pr, hp, hb, h0, h1, h2, h3, h4, h5, hl, hr⟩ =>
    ⟨b, pl, pr, hp, ⟨hb.1, (show B.shape? b = A.shape? b by simp [World.shape?, h.block b hb.1]).trans hb.2⟩, (h.cell (p := ⟨b, 0, none⟩) hb.1).trans h0, (h.cell (p := ⟨b, 1, none⟩) hb.1).trans h1, (h.cell (p := ⟨b, 2, none⟩) hb.1).trans h2, (h.cell (p := ⟨b, 3, none⟩) hb.1).trans h3, (h.cell (p := ⟨b, 4, none⟩) hb.1).trans h4, (h.cell (p := ⟨b, 5, none⟩) hb.1).trans h5, IsT.below h hl, IsT.below h hr⟩
theorem IsT.up {n m : Nat} {A : World} (h : n ≤ m) : ∀ {p : Option Addr} {t : Tr}, IsT n A p t → IsT m A p t
  | _, .leaf, ht => ht
  | _, .node _ _ _, ⟨b, pl, pr, hp, hb, h0, h1, h2, h3, h4, h5, hl, hr⟩ => ⟨b, pl, pr, hp, ⟨Nat.lt_of_lt_of_le hb.1 h, hb.2⟩, h0, h1, h2, h3, h4, h5, IsT.up h hl, IsT.up h hr⟩
/-- The tree t lies at p. -/
def Is (w : World) (p : Option Addr) (t : Tr) : Prop := IsT w.heap.size w p t
theorem Is.bl {A B : World} {p : Option Addr} {t : Tr} (h : Is A p t) (k : Bl A B) : Is B p t := (IsT.below k h).up (Bl.size k)
theorem cell_bl {A B : World} {a : Addr} {v : Value} (k : Bl A B) (h : A.cell? a = some v) : B.cell? a = some v :=
  (Below.cell k (World.block_lt_of_cell? A a h)).trans h
theorem Is.nil {w : World} {t : Tr} (h : Is w none t) : t = .leaf := by
  cases t with
  | leaf => rfl
  | node l s r => obtain ⟨b, pl, pr, hp, _⟩ := h; cases hp
theorem Is.of_leaf (w : World) : Is w none .leaf := rfl
theorem wrap_small {x : Int} (h0 : 0 ≤ x) (h1 : x ≤ 4000000) : IntKind.i64.wrap x = x := by rw [IntKind.wrap_i64]; omega

/-- (*node).total. -/
theorem total_at (p : Option Addr) (t : Tr) (w : World) (h : Is w p t) :
    Calls Tryd.prog 16 #[.pointer p] w fun e w' => e = .returned (.agg #[.int .i64 ((tot t.ps : Nat) : Int), .int .i64 ((t.ps.length : Nat) : Int), .int .i64 ((t.dp : Nat) : Int)]) ∧ Bl w w' := by
  cases t with
  | leaf =>
    obtain rfl : p = none := h
    go_enter Tryd.func16, Tryd.ntmps16
    go_wp2
    refine bodyPost_ret (v := .agg #[.int .i64 0, .int .i64 0, .int .i64 0]) (by simp [results, Tryd.f16, go_sem]) rfl ⟨rfl, (Bl.refl w).alloc _⟩
  | node l s r =>
    obtain ⟨b, pl, pr, rfl, hb, h0, h1, h2, h3, h4, h5, hl, hr⟩ := h
    rw [Tr.ps]
    generalize tot (l.ps ++ s :: r.ps) = B at *
    generalize (l.ps ++ s :: r.ps).length = C at *
    generalize (Tr.node l s r).dp = D at *
    go_enter Tryd.func16, Tryd.ntmps16
    have := World.new_ne w _ h3
    go_wp2
    refine bodyPost_ret (v := .agg #[.int .i64 B, .int .i64 C, .int .i64 D]) (by simp [results, Tryd.f16, go_sem]) rfl ⟨rfl, (Bl.refl w).alloc _⟩
theorem fd0 (x y z : Int) (w : World) : (Instr.field 51 (.agg #[.int .i64 x, .int .i64 y, .int .i64 z]) 0).run Tryd.prog w = .ok (.int .i64 x) w := by kernel_rfl
theorem fd2 (x y z : Int) (w : World) : (Instr.field 51 (.agg #[.int .i64 x, .int .i64 y, .int .i64 z]) 2).run Tryd.prog w = .ok (.int .i64 z) w := by kernel_rfl
/-- (*node).place. -/
theorem place_at (b : Nat) (pl : Option Addr) (l : Tr) (s : ByteArray) (w : World) (h0 : w.cell? ⟨b, 0, none⟩ = some (.pointer pl)) (h1 : w.cell? ⟨b, 1, none⟩ = some (.string s)) (h : Is w pl l) (hz : tot l.ps + s.size ≤ 2000000) :
    Calls Tryd.prog 21 #[.pointer (some ⟨b, 0, none⟩)] w fun e w' => e = .returned (.tuple #[.int .i64 ((tot l.ps : Nat) : Int), .int .i64 ((tot l.ps + s.size : Nat) : Int)]) ∧ Bl w w' := by
  have ct := total_at pl l w h
  have hfd := fd0
  go_enter Tryd.func21, Tryd.ntmps21
  go_wp2_with (go_at_call 16; refine ct.mono ?_; rintro e w1 ⟨rfl, hb1⟩; have h11 := cell_bl hb1 h1)
  go_quiet (fail)
  go_wp2
  refine bodyPost_ret (v := .tuple #[.int .i64 ((tot l.ps : Nat) : Int), .int .i64 (((tot l.ps : Nat) : Int) + (s.size : Int))]) (by simp [results, Tryd.f21, go_sem]) rfl ⟨by simp, hb1.drewN nq⟩
theorem heap_new (W : World) (o : Obj) : (W.alloc o).heap[W.heap.size]? = some o := by
  show (W.heap.push _)[W.heap.size]? = _
  rw [Array.getElem?_push, if_pos rfl]
theorem is_new (W : World) (b : Nat) (hw : b = W.heap.size) (pl pr : Option Addr) (l r : Tr) (s : ByteArray) (x y z : Int) (hl : Is W pl l) (hr : Is W pr r) (hx : x = ((tot (l.ps ++ s :: r.ps) : Nat) : Int)) (hy : y = (((l.ps ++ s :: r.ps).length : Nat) : Int)) (hz : z = (((Tr.node l s r).dp : Nat) : Int)) :
    Is (W.alloc (.cells #[.pointer pl, .string s, .pointer pr, .int .i64 x, .int .i64 y, .int .i64 z] 65)) (some ⟨b, 0, none⟩) (.node l s r) := by
  subst hw hx hy hz
  have hb : Bl W (W.alloc (.cells #[.pointer pl, .string s, .pointer pr, .int .i64 ((tot (l.ps ++ s :: r.ps) : Nat) : Int), .int .i64 (((l.ps ++ s :: r.ps).length : Nat) : Int), .int .i64 (((Tr.node l s r).dp : Nat) : Int)] 65)) := (Bl.refl W).alloc _
  refine ⟨W.heap.size, pl, pr, rfl, ⟨by simp, by simp only [World.shape?, heap_new]; rfl⟩, ?_, ?_, ?_, ?_, ?_, ?_, hl.bl hb, hr.bl hb⟩ <;> simp only [World.cell?, heap_new] <;> rfl
/-- wrap64 of what is small. -/
theorem w64 {x : Int} (h0 : 0 ≤ x) (h1 : x ≤ 4000000) : wrap64 x = x := by unfold wrap64; omega
theorem put_at (pl pr : Option Addr) (l r : Tr) (s : ByteArray) (w : World) (hl : Is w pl l) (hr : Is w pr r) (hf : fit (l.ps ++ s :: r.ps)) :
    Calls Tryd.prog 23 #[.pointer pl, .string s, .pointer pr] w fun e w' => ∃ p, e = .returned (.pointer p) ∧ Is w' p (.node l s r) ∧ Bl w w' := by
  have cl := total_at pl l w hl
  have cr := fun w' (h : Bl w w') => total_at pr r w' (hr.bl h)
  have hle := hf.len
  have hto := hf.2
  have hfl := (hf.sub (a := l.ps) (by simp)).dp
  have hfr := (hf.sub (a := r.ps) (by simp)).dp
  have e1 : tot (l.ps ++ s :: r.ps) = tot l.ps + s.size + tot r.ps := by rw [tot_app, tot]; omega
  have e2 : (l.ps ++ s :: r.ps).length = l.ps.length + 1 + r.ps.length := by simp; omega
  have e3 : (Tr.node l s r).dp = 1 + max l.dp r.dp := rfl
  have HE : Hid (_ ∧ _ ∧ _ ∧ _ ∧ _ ∧ _ ∧ _) := ⟨e1, e2, e3, hle, hto, hfl, hfr⟩
  clear e1 e2 e3 hle hto hfl hfr hf
  obtain ⟨B, hB⟩ : ∃ B, B = tot (l.ps ++ s :: r.ps) := ⟨_, rfl⟩
  obtain ⟨C, hC⟩ : ∃ C, C = (l.ps ++ s :: r.ps).length := ⟨_, rfl⟩
  obtain ⟨D, hD⟩ : ∃ D, D = (Tr.node l s r).dp := ⟨_, rfl⟩
  rw [← hB, ← hC, ← hD] at HE
  have HB : Hid (_ ∧ _ ∧ _) := ⟨hB, hC, hD⟩
  clear hB hC hD
  generalize tot l.ps = tl at *
  generalize tot r.ps = tr at *
  generalize l.ps.length = nl at *
  generalize r.ps.length = nr at *
  generalize l.dp = dl at *
  generalize r.dp = dr at *
  go_enter Tryd.func23, Tryd.ntmps23
  go_wp2_with (go_at_call 16; first | (refine cl.mono ?_; clear cl; rintro e w1 ⟨rfl, hb1⟩; have cr1 := cr _ hb1; clear cr) | (refine cr1.mono ?_; clear cr1; rintro e w2 ⟨rfl, hb2⟩))
  all_goals
    go_ret
    obtain ⟨f1, f2, f3⟩ := HB.out
    obtain ⟨e1, e2, e3, e4, e5, e6, e7⟩ := HE.out
    have hb := (hb1.trans hb2)
    refine ⟨_, rfl, ?_, ((hb.alloc _).alloc _).alloc _⟩
    refine is_new _ _ (by simp) pl pr l r s _ _ _ (hl.bl ((hb.alloc _).alloc _)) (hr.bl ((hb.alloc _).alloc _)) ?_ ?_ ?_
    · rw [← f1, w64 (x := (tl : Int) + (s.size : Int)) (by omega) (by omega), w64 (by omega) (by omega)]; omega
    · rw [← f2, w64 (x := (nl : Int) + 1) (by omega) (by omega), w64 (by omega) (by omega)]; omega
    · rw [← f3, w64 (by omega) (by omega)]; omega
end Go.Proofs.YtkjlcgclabgkaaaDoor.pc
