/- The fixed fact on pieces, and pick. -/
import Derived.Test.YtkjlcgclabgkaaaPc9
namespace Go.Proofs.Ytkjlcgclabgkaaa.pc
set_option linter.unusedVariables false
open Go.ChangeShapes Go.WideShapes Go.ChangeAt Go.RowKit
open mem
theorem ret_int {x y : Int} {k : IntKind} (h : x = y) : Ending.returned (.int k x) = .returned (.int k y) := by rw [h]
def pk (a : Int) (n : Nat) : Nat := ((a % 18446744073709551616) % (n : Int)).toNat
theorem pk_lt (a : Int) (n : Nat) (hn : 0 < n) : pk a n < n := by
  unfold pk
  have h2 := Int.emod_lt_of_pos (a % 18446744073709551616) (show (0 : Int) < (n : Int) by omega)
  have h3 := Int.emod_nonneg (a % 18446744073709551616) (show (n : Int) ≠ 0 by omega)
  omega
theorem pick_at (a : Int) (n : Nat) (w : World) (hn : 0 < n) (hn' : n ≤ 2147483648) : Calls Try.prog 8 #[.int .i64 a, .int .i64 n] w fun e w' => e = .returned (.int .i64 (pk a n)) ∧ w' = w := by
  go_enter Try.func8, Try.ntmps8
  go_wp2
  go_ret
  refine ⟨ret_int ?_, rfl⟩
  have h0 : 0 ≤ a % 18446744073709551616 := by omega
  have h1 := pk_lt a n hn
  have h2 := Int.emod_nonneg (a % 18446744073709551616) (show (n : Int) ≠ 0 by omega)
  rw [IntKind.wrap_u64, Int.tmod_eq_emod_of_nonneg h0]
  unfold pk at h1 ⊢
  unfold wrap64
  omega
/-- Edit, String and Len, by the bytes that there are. -/
theorem Edit_tx (p : Option Addr) (t : Tr) (L : List UInt8) (a o : Nat) (x : ByteArray) (w : World) (h : Is w p t) (k : Tx L t) (ho : a + o ≤ L.length) (hm : L.length - o + x.size ≤ 4000) :
    Calls Try.prog 10 #[.agg #[.pointer p], .int .i64 (a : Int), .int .i64 (o : Int), .string x] w fun e w' => ∃ q t', e = .returned (.tuple #[.agg #[.pointer q], .nilIface]) ∧ Is w' q t' ∧ Tx (L.take a ++ x.data.toList ++ L.drop (a + o)) t' ∧ t'.ps.length ≤ t.ps.length + 2 ∧ Bl w w' :=
  (Edit_at p t a o x w h k.f (by rw [k.tot]; exact ho) (by rw [k.tot]; exact hm)).mono fun e w' ⟨q, t', he, hq, hd, hb⟩ => ⟨q, t', he, hq, k.ed hd, hd.n, hb⟩
theorem String_tx (p : Option Addr) (t : Tr) (R : ByteArray) (w : World) (h : Is w p t) (k : Tx R.data.toList t) :
    Calls Try.prog 13 #[.agg #[.pointer p]] w fun e w' => e = .returned (.string R) ∧ Bl w w' :=
  (String_at p t w h k.f).mono fun e w' ⟨he, hb⟩ => ⟨by rw [he, k.c], hb⟩
theorem Len_tx (p : Option Addr) (t : Tr) (L : List UInt8) (w : World) (h : Is w p t) (k : Tx L t) :
    Calls Try.prog 9 #[.agg #[.pointer p]] w fun e w' => e = .returned (.int .i64 ((L.length : Nat) : Int)) ∧ Bl w w' :=
  (Len_at p t w h).mono fun e w' ⟨he, hb⟩ => ⟨by rw [he, k.tot], hb⟩
set_option maxRecDepth 100000 in
set_option maxHeartbeats 4000000 in
theorem pieced_at (w : World) : Calls Try.prog 5 #[] w fun e w' => e = .returned (.bool true) ∧ Bl w w' := by
  have cO := fun w => Of_at ⟨#[97, 98, 99, 100, 101, 102]⟩ w (by decide)
  have cE := fun w p t (h : Is w p t) k => Edit_tx p t [97, 98, 99, 100, 101, 102] 2 2 ⟨#[88, 89, 90]⟩ w h k (by decide) (by decide)
  have cS := fun w p t (h : Is w p t) k => String_tx p t ⟨#[97, 98, 88, 89, 90, 101, 102]⟩ w h k
  have cL := fun w p t (h : Is w p t) k => Len_tx p t [97, 98, 88, 89, 90, 101, 102] w h k
  go_enter Try.func5, Try.ntmps5
  go_wp2_with (first
    | (go_at_call 6; refine (cO _).mono ?_; clear cO; rintro e w1 ⟨p, t, rfl, hi, hx, hb1⟩)
    | (go_at_call 10; refine (cE _ _ _ hi hx).mono ?_; clear cE; rintro e w2 ⟨q, t', rfl, hi2, hx2, _, hb2⟩)
    | (go_at_call 13; refine (cS _ _ _ (hi2.bl ((Bl.refl _).alloc _)) hx2).mono ?_; clear cS; rintro e w3 ⟨rfl, hb3⟩; have hy := ((Bx.new w2 (.pointer q) 26).bl hb3).cell)
    | (go_at_call 9; refine (cL _ _ _ (hi2.bl (((Bl.refl _).alloc _).trans hb3)) hx2).mono ?_; clear cL; rintro e w4 ⟨rfl, hb4⟩))
  go_ret
  exact ⟨rfl, (((hb1.trans hb2).alloc _).trans hb3).trans hb4⟩
end Go.Proofs.Ytkjlcgclabgkaaa.pc
