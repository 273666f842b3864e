/- Spans that came in, and what Has and Right of both sides answer of them. -/
import Derived.Test.YtfblmfjgbbeheaaSpanRow
import Derived.Test.YtfblmfjgbbeheaaSpanP
import Derived.Deep.SlicePairs
namespace Go.Proofs.Ytfblmfjgbbeheaa.sp
set_option linter.unusedVariables false
open Go.ChangeShapes Go.WideShapes Go.ChangeAt Go.RowKit
open mem rows span

theorem at_bl {w w' : World} (h : Bl w w') {a : Addr} {v : Value} (hc : w.cell? a = some v) : w'.cell? a = some v := by
  have hlt : a.block < w.heap.size := by
    rcases Nat.lt_or_ge a.block w.heap.size with h1 | h1
    · exact h1
    · simp [World.cell?, Array.getElem?_eq_none h1] at hc
  unfold World.cell? at hc ⊢
  rw [Below.block h _ hlt]
  exact hc
/-- The k-th one of some spans. -/
def nth (l : List (Int × Int)) (k : Nat) : Int × Int := l.getD k (0, 0)
theorem nth_mem (l : List (Int × Int)) (k : Nat) (h : k < l.length) : nth l k ∈ l := by
  unfold nth
  rw [List.getD_eq_getElem?_getD, List.getElem?_eq_getElem h]
  exact List.getElem_mem h
/-- These spans lie at p. -/
def InS (w : World) (p : Option Addr) (l : List (Int × Int)) : Prop :=
  l = [] ∨ ∃ x : Addr, p = some x ∧ ∀ k, k < l.length → w.cell? (x.add (k * 2)) = some (.int .i64 (nth l k).1) ∧ w.cell? (x.add (k * 2 + 1)) = some (.int .i64 (nth l k).2)
theorem InS.step {w w' : World} {p : Option Addr} {l : List (Int × Int)} (h : InS w p l) (hb : Bl w w') : InS w' p l := by
  rcases h with h | ⟨x, h1, h2⟩
  · exact Or.inl h
  · exact Or.inr ⟨x, h1, fun k hk => ⟨at_bl hb (h2 k hk).1, at_bl hb (h2 k hk).2⟩⟩
theorem InS.at {w : World} {p : Option Addr} {l : List (Int × Int)} (h : InS w p l) (k : Nat) (hk : k < l.length) : ∃ x : Addr, p = some x ∧ w.cell? (x.add (k * 2)) = some (.int .i64 (nth l k).1) ∧ w.cell? { block := (x.add (k * 2)).block, off := (x.add (k * 2)).off + 1 } = some (.int .i64 (nth l k).2) := by
  rcases h with h | ⟨x, h1, h2⟩
  · rw [h] at hk; exact absurd hk (Nat.not_lt_zero _)
  · refine ⟨x, h1, (h2 k hk).1, ?_⟩
    have := (h2 k hk).2
    rw [← Addr.add_add, Addr.add_succ'] at this
    exact this
/-- A slice that reads so. -/
def View (w : World) (v : Value) (l : List (Int × Int)) : Prop := ∃ p c, v = .slice p l.length c ∧ InS w p l
theorem View.step {w w' : World} {v : Value} {l : List (Int × Int)} (h : View w v l) (hb : Bl w w') : View w' v l := by
  obtain ⟨p, c, h1, h2⟩ := h
  exact ⟨p, c, h1, h2.step hb⟩
theorem _root_.Go.Proofs.Ytfblmfjgbbeheaa.rows.OwnS.view {w : World} {base : Nat} {v : Value} {l : List (Int × Int)} (h : OwnS w base v l) : View w v l := by
  rcases h.shape with ⟨rfl, rfl⟩ | ⟨g, cap, rfl, _, _, _, _, hc⟩
  · exact ⟨none, 0, rfl, Or.inl rfl⟩
  · exact ⟨_, cap, rfl, Or.inr ⟨_, rfl, fun k hk => by
      rw [Addr.add_lit, Addr.add_lit, Nat.zero_add, Nat.zero_add, Nat.mul_comm]; exact hc k hk⟩⟩
/-- Each end is a number of 64 bits. -/
def i64 (z : Int) : Prop := -9223372036854775808 ≤ z ∧ z ≤ 9223372036854775807
def Fit (l : List (Int × Int)) : Prop := ∀ x ∈ l, i64 x.1 ∧ i64 x.2
theorem Fit.nth {l : List (Int × Int)} (h : Fit l) (k : Nat) (hk : k < l.length) : i64 (nth l k).1 ∧ i64 (nth l k).2 := h _ (nth_mem l k hk)

theorem has_nth (l : List (Int × Int)) (p : Int) : has l p ↔ ∃ k, k < l.length ∧ (nth l k).1 ≤ p ∧ p < (nth l k).2 := by
  constructor
  · rintro ⟨x, hx, h⟩
    obtain ⟨k, hk, rfl⟩ := List.getElem_of_mem hx
    refine ⟨k, hk, ?_⟩
    unfold nth
    rw [List.getD_eq_getElem?_getD, List.getElem?_eq_getElem hk]
    exact h
  · rintro ⟨k, hk, h⟩
    exact ⟨_, nth_mem l k hk, h⟩
def hasB (l : List (Int × Int)) (p : Int) : Bool := l.any fun x => decide (x.1 ≤ p) && decide (p < x.2)
theorem hasB_iff (l : List (Int × Int)) (p : Int) : hasB l p = true ↔ has l p := by
  unfold hasB has
  simp
theorem hasB_yes {l : List (Int × Int)} {p : Int} (h : has l p) : hasB l p = true := (hasB_iff l p).2 h
theorem hasB_no {l : List (Int × Int)} {p : Int} (h : ¬ has l p) : hasB l p = false := by
  cases e : hasB l p with
  | false => rfl
  | true => exact absurd ((hasB_iff l p).1 e) h
theorem ret_bool {x y : Bool} (h : x = y) : Ending.returned (.bool x) = .returned (.bool y) := by rw [h]
theorem refHas_at (v : Value) (l : List (Int × Int)) (p : Int) (w : World) (hv : View w v l) (hl : l.length ≤ 5000) :
    Calls Try.prog 11 #[v, .int .i64 p] w fun e w' => e = .returned (.bool (hasB l p)) ∧ Bl w w' := by
  obtain ⟨q, c, rfl, hq⟩ := hv
  obtain ⟨m, hm⟩ : ∃ m, m = l.length := ⟨_, rfl⟩
  rw [← hm] at hl ⊢
  have HM : Hid (m = l.length) := hm
  have HP : Hid (InS w q l) := hq
  clear hm hq
  go_enter Try.func11, Try.ntmps11
  go_wp2
  go_loopw [9] (fun i wr => ∃ k : Nat, k ≤ m ∧ i = .int .i64 (k : Int) ∧ Hid (∀ j, j < k → ¬ ((nth l j).1 ≤ p ∧ p < (nth l j).2)) ∧ Bl w wr) (fun i _ => m - (intOf i).toNat)
  case atStart => exact ⟨0, Nat.zero_le _, rfl, fun j hj => absurd hj (Nat.not_lt_zero _), Bl.refl _⟩
  case round =>
    obtain ⟨k, hk, rfl, HN, hbl⟩ := hrel
    by_cases hlt : k < m
    · have hlz : (k : Int) < (m : Int) := by omega
      obtain ⟨x, rfl, hc1, hc2⟩ := (HP.out.step hbl).at k (by rw [← HM.out]; exact hlt)
      have HY : Hid ((nth l k).1 ≤ p ∧ p < (nth l k).2 → hasB l p = true) := fun h => hasB_yes ((has_nth l p).2 ⟨k, by rw [← HM.out]; exact hlt, h⟩)
      have HN' : Hid (¬ ((nth l k).1 ≤ p ∧ p < (nth l k).2) → ∀ j, j < k + 1 → ¬ ((nth l j).1 ≤ p ∧ p < (nth l j).2)) := fun h j hj => by
        rcases Nat.lt_or_ge j k with h' | h'
        · exact HN.out j h'
        · obtain rfl : j = k := by omega
          exact h
      clear HN
      generalize (nth l k).1 = a at hc1 HY HN'
      generalize (nth l k).2 = b at hc2 HY HN'
      by_cases h1 : a ≤ p
      · by_cases h2 : p < b
        · go_wp2
          go_ret
          exact ⟨ret_bool (HY.out ⟨h1, h2⟩).symm, (hbl.alloc _)⟩
        · go_wp2
          go_roundw
          case rel => exact ⟨k + 1, by omega, by go_num, HN'.out (fun h => h2 h.2), hbl.alloc _⟩
          case measure => simp [intOf]; omega
      · go_wp2
        go_roundw
        case rel => exact ⟨k + 1, by omega, by go_num, HN'.out (fun h => h1 h.1), hbl.alloc _⟩
        case measure => simp [intOf]; omega
    · obtain rfl : k = m := by omega
      go_wp2
      go_ret
      exact ⟨ret_bool (hasB_no fun h => by
        obtain ⟨j, hj, h'⟩ := (has_nth l p).1 h
        exact HN.out j (by rw [HM.out]; exact hj) h').symm, hbl⟩
theorem Has_at (v : Value) (l : List (Int × Int)) (p : Int) (w : World) (hv : View w v l) (hl : l.length ≤ 5000) :
    Calls Try.prog 17 #[v, .int .i64 p] w fun e w' => e = .returned (.bool (hasB l p)) ∧ Bl w w' := by
  obtain ⟨q, c, rfl, hq⟩ := hv
  obtain ⟨m, hm⟩ : ∃ m, m = l.length := ⟨_, rfl⟩
  rw [← hm] at hl ⊢
  have HM : Hid (m = l.length) := hm
  have HP : Hid (InS w q l) := hq
  clear hm hq
  go_enter Try.func17, Try.ntmps17
  go_wp2
  go_loopw [9] (fun i wr => ∃ k : Nat, k ≤ m ∧ i = .int .i64 (k : Int) ∧ Hid (∀ j, j < k → ¬ ((nth l j).1 ≤ p ∧ p < (nth l j).2)) ∧ Bl w wr) (fun i _ => m - (intOf i).toNat)
  case atStart => exact ⟨0, Nat.zero_le _, rfl, fun j hj => absurd hj (Nat.not_lt_zero _), Bl.refl _⟩
  case round =>
    obtain ⟨k, hk, rfl, HN, hbl⟩ := hrel
    by_cases hlt : k < m
    · have hlz : (k : Int) < (m : Int) := by omega
      obtain ⟨x, rfl, hc1, hc2⟩ := (HP.out.step hbl).at k (by rw [← HM.out]; exact hlt)
      have HY : Hid ((nth l k).1 ≤ p ∧ p < (nth l k).2 → hasB l p = true) := fun h => hasB_yes ((has_nth l p).2 ⟨k, by rw [← HM.out]; exact hlt, h⟩)
      have HN' : Hid (¬ ((nth l k).1 ≤ p ∧ p < (nth l k).2) → ∀ j, j < k + 1 → ¬ ((nth l j).1 ≤ p ∧ p < (nth l j).2)) := fun h j hj => by
        rcases Nat.lt_or_ge j k with h' | h'
        · exact HN.out j h'
        · obtain rfl : j = k := by omega
          exact h
      clear HN
      generalize (nth l k).1 = a at hc1 HY HN'
      generalize (nth l k).2 = b at hc2 HY HN'
      by_cases h1 : a ≤ p
      · by_cases h2 : p < b
        · go_wp2
          go_ret
          exact ⟨ret_bool (HY.out ⟨h1, h2⟩).symm, (hbl.alloc _)⟩
        · go_wp2
          go_roundw
          case rel => exact ⟨k + 1, by omega, by go_num, HN'.out (fun h => h2 h.2), hbl.alloc _⟩
          case measure => simp [intOf]; omega
      · go_wp2
        go_roundw
        case rel => exact ⟨k + 1, by omega, by go_num, HN'.out (fun h => h1 h.1), hbl.alloc _⟩
        case measure => simp [intOf]; omega
    · obtain rfl : k = m := by omega
      go_wp2
      go_ret
      exact ⟨ret_bool (hasB_no fun h => by
        obtain ⟨j, hj, h'⟩ := (has_nth l p).1 h
        exact HN.out j (by rw [HM.out]; exact hj) h').symm, hbl⟩
end Go.Proofs.Ytfblmfjgbbeheaa.sp
