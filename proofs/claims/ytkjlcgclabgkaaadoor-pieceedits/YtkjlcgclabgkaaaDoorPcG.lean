/- Texts in pieces beside plain ones: rows of both; edits and what is read of them, by their bytes. -/
import Derived.Test.YtkjlcgclabgkaaaDoorPcF
namespace Go.Proofs.YtkjlcgclabgkaaaDoor.pc
set_option linter.unusedVariables false
open Go.ChangeShapes Go.WideShapes Go.ChangeAt Go.RowKit
open mem

theorem Edit_tx (p : Option Addr) (t : Tr) (L : List UInt8) (a o : Nat) (x : ByteArray) (w : World) (h : Is w p t) (k : Tx L t) (ho : a + o ≤ L.length) (hm : L.length - o + x.size ≤ 4000) :
    Calls Tryd.prog 5 #[.agg #[.pointer p], .int .i64 (a : Int), .int .i64 (o : Int), .string x] w fun e w' => ∃ q t', e = .returned (.tuple #[.agg #[.pointer q], .nilIface]) ∧ Is w' q t' ∧ Tx (L.take a ++ x.data.toList ++ L.drop (a + o)) t' ∧ Bl w w' :=
  (Edit_at p t a o x w h k.f (by rw [k.tot]; exact ho) (by rw [k.tot]; exact hm)).mono fun e w' ⟨q, t', he, hq, hd, hb⟩ => ⟨q, t', he, hq, k.ed hd, hb⟩
theorem String_tx (p : Option Addr) (t : Tr) (R : ByteArray) (w : World) (h : Is w p t) (k : Tx R.data.toList t) :
    Calls Tryd.prog 8 #[.agg #[.pointer p]] w fun e w' => e = .returned (.string R) ∧ Bl w w' :=
  (String_at p t w h k.f).mono fun e w' ⟨he, hb⟩ => ⟨by rw [he, k.c], hb⟩
theorem Len_tx (p : Option Addr) (t : Tr) (R : ByteArray) (w : World) (h : Is w p t) (k : Tx R.data.toList t) :
    Calls Tryd.prog 7 #[.agg #[.pointer p]] w fun e w' => e = .returned (.int .i64 (R.size : Int)) ∧ Bl w w' :=
  (Len_at p t w h).mono fun e w' ⟨he, hb⟩ => ⟨by rw [he, k.tot, bs_len], hb⟩
/-- Each text in pieces is the plain one beside it. -/
def Pair (w : World) (A : List ByteArray) (Q : List (Option Addr)) : Prop := A.length = Q.length ∧ ∀ j, j < A.length → (A.getD j ⟨#[]⟩).size ≤ 4000 ∧ ∃ t, Is w (Q.getD j none) t ∧ Tx (A.getD j ⟨#[]⟩).data.toList t
theorem Pair.bl {w w' : World} {A : List ByteArray} {Q : List (Option Addr)} (h : Pair w A Q) (k : Bl w w') : Pair w' A Q :=
  ⟨h.1, fun j hj => by obtain ⟨h1, t, h2, h3⟩ := h.2 j hj; exact ⟨h1, t, h2.bl k, h3⟩⟩
theorem Pair.snoc {w : World} {A : List ByteArray} {Q : List (Option Addr)} (h : Pair w A Q) {x : ByteArray} {q : Option Addr} {t : Tr} (hx : x.size ≤ 4000) (hi : Is w q t) (ht : Tx x.data.toList t) : Pair w (A ++ [x]) (Q ++ [q]) := by
  refine ⟨by simp [h.1], fun j hj => ?_⟩
  rw [List.length_append, List.length_singleton] at hj
  rcases Nat.lt_or_ge j A.length with h1 | h1
  · obtain ⟨h2, t', h3, h4⟩ := h.2 j h1
    have e1 : (A ++ [x]).getD j ⟨#[]⟩ = A.getD j ⟨#[]⟩ := by simp [List.getD_eq_getElem?_getD, List.getElem?_append_left h1]
    have e2 : (Q ++ [q]).getD j none = Q.getD j none := by simp [List.getD_eq_getElem?_getD, List.getElem?_append_left (h.1 ▸ h1)]
    rw [e1, e2]
    exact ⟨h2, t', h3, h4⟩
  · obtain rfl : j = A.length := by omega
    have e1 : (A ++ [x]).getD A.length ⟨#[]⟩ = x := by simp [List.getD_eq_getElem?_getD]
    have e2 : (Q ++ [q]).getD A.length none = q := by rw [h.1]; simp [List.getD_eq_getElem?_getD]
    rw [e1, e2]
    exact ⟨hx, t, hi, ht⟩
/-- Two rows of the call's own that lie apart. -/
structure Tw (w : World) (base : Nat) (v1 : Value) (A : List ByteArray) (v2 : Value) (Q : List (Option Addr)) : Prop where
  a : rs.Own w base v1 A
  b : rt.Own w base v2 Q
  apart : ∀ k, v1.ownBlock = some k → v2.ownBlock ≠ some k
  le : base ≤ w.heap.size
theorem Tw.step {w w' : World} {base : Nat} {v1 v2 : Value} {A : List ByteArray} {Q : List (Option Addr)} (h : Tw w base v1 A v2 Q) (hb : Bl w w') : Tw w' base v1 A v2 Q :=
  ⟨h.a.step hb, h.b.step hb, h.apart, Nat.le_trans h.le hb.size⟩
theorem Tw.first {w w' : World} {base : Nat} {v1 v2 v' : Value} {A A' : List ByteArray} {Q : List (Option Addr)} (h : Tw w base v1 A v2 Q) (ho : rs.Own w' base v' A') (hg : w.grownBy w' v1.ownBlock) (hv : v'.ownBlock = v1.ownBlock ∨ v'.ownBlock = some w.heap.size) : Tw w' base v' A' v2 Q := by
  refine ⟨ho, h.b.kept hg (fun k e e' => h.apart k e' e), fun k e e' => ?_, Nat.le_trans h.le hg.size⟩
  rcases hv with hv | hv
  · exact h.apart k (by rw [← hv]; exact e) e'
  · have := (h.b.block k e').2
    rw [hv] at e
    injection e with e
    omega
theorem Tw.second {w w' : World} {base : Nat} {v1 v2 v' : Value} {A : List ByteArray} {Q Q' : List (Option Addr)} (h : Tw w base v1 A v2 Q) (ho : rt.Own w' base v' Q') (hg : w.grownBy w' v2.ownBlock) (hv : v'.ownBlock = v2.ownBlock ∨ v'.ownBlock = some w.heap.size) : Tw w' base v1 A v' Q' := by
  refine ⟨h.a.kept hg (fun k e e' => h.apart k e e'), ho, fun k e e' => ?_, Nat.le_trans h.le hg.size⟩
  rcases hv with hv | hv
  · exact h.apart k e (by rw [← hv]; exact e')
  · have := (h.a.block k e).2
    rw [hv] at e'
    injection e' with e'
    omega
theorem rs_one (w : World) (base : Nat) (s : ByteArray) (h : base ≤ w.heap.size) : rs.Own (w.alloc (.cells #[.string s] 9)) base (.slice (some ⟨w.heap.size, 0, none⟩) 1 1) [s] :=
  ⟨by simp [rs.rowI], .inr ⟨w.heap.size, 1, _, rfl, h, heap_new _ _, Nat.le_refl _, by simp [maxLen], rfl, rfl⟩⟩
theorem rt_one (w : World) (base : Nat) (q : Option Addr) (h : base ≤ w.heap.size) : rt.Own (w.alloc (.cells #[.pointer q] 26)) base (.slice (some ⟨w.heap.size, 0, none⟩) 1 1) [q] :=
  ⟨by simp [rt.rowI], .inr ⟨w.heap.size, 1, _, rfl, h, heap_new _ _, Nat.le_refl _, by simp [maxLen], rfl, rfl⟩⟩
theorem rs_bl {w0 w w' : World} {row : Option Nat} (h : Bl w0 w) (hg : w.grownBy w' row) (hrow : ∀ k, row = some k → w0.heap.size ≤ k) : Bl w0 w' := rs.bl_grown h hg hrow
/-- Which one of so many. -/
def pkn (a : Int) (n : Nat) : Nat := ((a % 18446744073709551616) % (n : Int)).toNat
theorem pkn_lt (a : Int) (n : Nat) (hn : 0 < n) : pkn a n < n := by
  unfold pkn
  have h2 := Int.emod_lt_of_pos (a % 18446744073709551616) (show (0 : Int) < (n : Int) by omega)
  have h3 := Int.emod_nonneg (a % 18446744073709551616) (show (n : Int) ≠ 0 by omega)
  omega
end Go.Proofs.YtkjlcgclabgkaaaDoor.pc
