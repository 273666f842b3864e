/- The fixed fact on spans, and pick. -/
import Derived.Test.YtfblmfjgbbeheaaSp6
namespace Go.Proofs.Ytfblmfjgbbeheaa.sp
set_option linter.unusedVariables false
open Go.ChangeShapes Go.WideShapes Go.ChangeAt Go.RowKit
open mem rows span

def pk (a : Int) (n : Nat) : Nat := ((a % 18446744073709551616) % (n : Int)).toNat
theorem pk_lt (a : Int) (n : Nat) (hn : 0 < n) : pk a n < n := by
  unfold pk
  have h2 := Int.emod_lt_of_pos (a % 18446744073709551616) (show (0 : Int) < (n : Int) by omega)
  have h3 := Int.emod_nonneg (a % 18446744073709551616) (show (n : Int) ≠ 0 by omega)
  omega
theorem pick_at (a : Int) (n : Nat) (w : World) (hn : 0 < n) (hn' : n ≤ 2147483648) : Calls Try.prog 30 #[.int .i64 a, .int .i64 n] w fun e w' => e = .returned (.int .i64 (pk a n)) ∧ w' = w := by
  go_enter Try.func30, Try.ntmps30
  go_wp2
  go_ret
  refine ⟨ret_int ?_, rfl⟩
  have h0 : 0 ≤ a % 18446744073709551616 := by omega
  have h1 := pk_lt a n hn
  have h2 := Int.emod_nonneg (a % 18446744073709551616) (show (n : Int) ≠ 0 by omega)
  rw [IntKind.wrap_u64, Int.tmod_eq_emod_of_nonneg h0]
  unfold pk at h1 ⊢
  unfold wrap64
  omega
theorem facts_of : IsOf (has [(4, 6), (-3, 2), (2, 3)]) [(0, 3), (4, 6)] := by
  refine ⟨⟨by decide, by decide, by decide, by decide, trivial⟩, fun p => ?_⟩
  simp only [has_cons]
  have h0 := has_nil p
  constructor
  · intro h
    rcases h with h | h | h
    · by_cases h2 : p < 2
      · exact ⟨h.1, Or.inr (Or.inl ⟨by omega, h2⟩)⟩
      · exact ⟨h.1, Or.inr (Or.inr (Or.inl ⟨by omega, h.2⟩))⟩
    · exact ⟨by omega, Or.inl h⟩
    · exact absurd h h0
  · rintro ⟨hp, h | h | h | h⟩
    · exact Or.inr (Or.inl h)
    · exact Or.inl ⟨hp, by omega⟩
    · exact Or.inl ⟨by omega, h.2⟩
    · exact absurd h h0
theorem facts_twice : IsOf (has [(0, 3), (4, 6)]) [(0, 3), (4, 6)] := ⟨facts_of.1, fun p => ⟨fun h => ⟨((facts_of.2 p).1 h).1, h⟩, fun h => h.2⟩⟩
/-- Spans that a call has just laid. -/
theorem lit_view (w : World) (l : List (Int × Int)) (t : TypeId) (c : Nat) : View (w.alloc (.cells (rowS l).toArray t)) (.slice (some ⟨w.heap.size, 0, none⟩) l.length c) l := by
  refine ⟨_, _, rfl, Or.inr ⟨_, rfl, fun k hk => ?_⟩⟩
  obtain ⟨h0, h1⟩ := rowS_get l k hk
  rw [Addr.add_lit, Addr.add_lit, Nat.zero_add, Nat.zero_add]
  rw [Nat.mul_comm] at h0 h1
  have hb : (w.alloc (.cells (rowS l).toArray t)).heap[w.heap.size]? = some (.cells (rowS l).toArray t) := by
    show (w.heap.push _)[w.heap.size]? = _
    rw [Array.getElem?_push, if_pos rfl]
  constructor
  · simp only [World.cell?, hb]
    simpa [nth] using h0
  · simp only [World.cell?, hb]
    simpa [nth] using h1
theorem first_fact (w : World) : Calls Try.prog 19 #[.slice (some ⟨w.heap.size, 0, none⟩) 3 3] (w.alloc (.cells #[.int .i64 4, .int .i64 6, .int .i64 (-3), .int .i64 2, .int .i64 2, .int .i64 3] 28)) fun e w' =>
    ∃ v', e = .returned v' ∧ View w' v' [(0, 3), (4, 6)] ∧ Bl w w' := by
  refine (Of_at _ _ _ (lit_view w [(4, 6), (-3, 2), (2, 3)] 28 3) (by decide)).mono ?_
  rintro e w' ⟨v', l', rfl, ho, hi, _, hb⟩
  have e := hi.same facts_of (fun _ _ => Iff.rfl)
  subst e
  exact ⟨v', rfl, ho.view, ((Bl.refl w).alloc _).trans hb⟩
theorem second_fact (v : Value) (w : World) (hv : View w v [(0, 3), (4, 6)]) : Calls Try.prog 29 #[v, .slice (some ⟨w.heap.size, 0, none⟩) 2 2] (w.alloc (.cells #[.int .i64 0, .int .i64 3, .int .i64 4, .int .i64 6] 28)) fun e w' =>
    e = .returned (.bool true) ∧ Bl w w' := by
  refine (equal_at _ _ _ _ _ (hv.step ((Bl.refl w).alloc _)) (lit_view w [(0, 3), (4, 6)] 28 2) (by decide) (by decide)).mono ?_
  rintro e w' ⟨rfl, hb⟩
  exact ⟨rfl, ((Bl.refl w).alloc _).trans hb⟩
theorem third_fact (v : Value) (w : World) (hv : View w v [(0, 3), (4, 6)]) : Calls Try.prog 23 #[v] w fun e w' => e = .returned (.int .i64 5) ∧ Bl w w' := by
  refine (Size_at _ _ _ hv (by decide) (fun x hx => ?_)).mono ?_
  · simp at hx
    unfold i64
    rcases hx with rfl | rfl <;> decide
  · rintro e w' ⟨l', hi, rfl, hb⟩
    have e := hi.same facts_twice (fun _ _ => Iff.rfl)
    subst e
    exact ⟨rfl, hb⟩
theorem spanned_at (w : World) : Calls Try.prog 27 #[] w fun e w' => e = .returned (.bool true) ∧ Bl w w' := by
  have cM := fun w => Moved_at 7 2 3 1 w (by unfold sm; decide) (by unfold sm; decide) (by unfold sm; decide) (by unfold sm; decide)
  have hmv : mv 7 2 3 1 = 5 := by decide
  rw [hmv] at cM
  clear hmv
  go_enter Try.func27, Try.ntmps27
  go_wp2_with (first
    | (go_at_call 19; refine (first_fact _).mono ?_; rintro e w1 ⟨v1, rfl, hv1, hb1⟩)
    | (go_at_call 29; refine (second_fact _ _ hv1).mono ?_; rintro e w2 ⟨rfl, hb2⟩; have hv2 := hv1.step hb2)
    | (go_at_call 23; refine (third_fact _ _ hv2).mono ?_; rintro e w3 ⟨rfl, hb3⟩)
    | (go_at_call 25; refine (cM _).mono ?_; rintro e w4 ⟨rfl, rfl⟩))
  go_ret
  exact ⟨rfl, (hb1.trans hb2).trans hb3⟩
end Go.Proofs.Ytfblmfjgbbeheaa.sp
