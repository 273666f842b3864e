/- The document's own side: the right spans of places that some spans have, both, either, or the one not. -/
import Derived.Test.YtfblmfjgbbeheaaCh2
import Derived.Test.YtfblmfjgbbeheaaSp13
namespace Go.Proofs.Ytfblmfjgbbeheaa.sp
set_option linter.unusedVariables false
open Go.ChangeShapes Go.WideShapes Go.ChangeAt Go.RowKit
open mem rows span

theorem chosen_is {w w' : World} {v : Value} {f : Int → Bool} {LL : List (List (Int × Int))} {m : Nat} (h : ChAns w w' v f LL m)
    (hs : ∀ p q, 0 ≤ p → p ≤ q → (∀ z, E1 LL m z → ¬ (p < z ∧ z ≤ q)) → f p = f q) (hl : ∀ p, (∀ z, E1 LL m z → z ≤ p) → f p = false) : ∃ R, OwnS w' w.heap.size v R ∧ IsOf (fun p => f p = true) R ∧ R.length ≤ 5000 ∧ Bl w w' := by
  obtain ⟨R, E, ho, hc, hp, hE, h0, hm, hn, hb⟩ := h
  refine ⟨R, ho, hc.all (by omega) hE h0 (fun p q h1 h2 h3 => hs p q h1 h2 (fun z hz => h3 z ((hm z).2 hz))) (fun p h1 => hl p (fun z hz => h1 z ((hm z).2 hz))), ?_, hb⟩
  have := hc.n
  omega
theorem has_const {l : List (Int × Int)} {p q : Int} (h0 : 0 ≤ p) (hpq : p ≤ q) (h : ∀ x ∈ l, ¬ (p < max x.1 0 ∧ max x.1 0 ≤ q) ∧ ¬ (p < max x.2 0 ∧ max x.2 0 ≤ q)) : hasB l p = hasB l q := by
  rw [Bool.eq_iff_iff, hasB_iff, hasB_iff]
  constructor
  · rintro ⟨x, hx, h1, h2⟩
    have := h x hx
    exact ⟨x, hx, by omega, by omega⟩
  · rintro ⟨x, hx, h1, h2⟩
    have := h x hx
    exact ⟨x, hx, by omega, by omega⟩
theorem has_last {l : List (Int × Int)} {p : Int} (h : ∀ x ∈ l, max x.2 0 ≤ p) : hasB l p = false := hasB_no fun ⟨x, hx, h1, h2⟩ => by
  have := h x hx
  omega
/-- The ends of the j-th list are ends. -/
theorem E1_of {LL : List (List (Int × Int))} {m j : Nat} {l : List (Int × Int)} (hj : j < m) (hl : LL.getD j [] = l) {x : Int × Int} (hx : x ∈ l) : E1 LL m (max x.1 0) ∧ E1 LL m (max x.2 0) :=
  ⟨Or.inr ⟨j, hj, x, by rw [hl]; exact hx, Or.inl rfl⟩, Or.inr ⟨j, hj, x, by rw [hl]; exact hx, Or.inr rfl⟩⟩
theorem const_of {LL : List (List (Int × Int))} {m j : Nat} {l : List (Int × Int)} (hj : j < m) (hl : LL.getD j [] = l) {p q : Int} (h0 : 0 ≤ p) (hpq : p ≤ q) (h : ∀ z, E1 LL m z → ¬ (p < z ∧ z ≤ q)) : hasB l p = hasB l q :=
  has_const h0 hpq fun x hx => ⟨h _ (E1_of hj hl hx).1, h _ (E1_of hj hl hx).2⟩
theorem last_of {LL : List (List (Int × Int))} {m j : Nat} {l : List (Int × Int)} (hj : j < m) (hl : LL.getD j [] = l) {p : Int} (h : ∀ z, E1 LL m z → z ≤ p) : hasB l p = false :=
  has_last fun x hx => h _ (E1_of hj hl hx).2
/-- A place of memory that holds such a slice. -/
def Bx1 (w : World) (B : Nat) (l : List (Int × Int)) : Prop := ∃ v, w.cell? ⟨B, 0, none⟩ = some v ∧ View w v l
theorem Bx1.step {w w' : World} {B : Nat} {l : List (Int × Int)} (h : Bx1 w B l) (hb : Bl w w') : Bx1 w' B l := by
  obtain ⟨v, h1, h2⟩ := h
  exact ⟨v, at_bl hb h1, h2.step hb⟩
theorem has_fn (p : Int) (B : Nat) (l : List (Int × Int)) (w : World) (hb : Bx1 w B l) (hl : l.length ≤ 5000) :
    Calls Try.prog 33 #[.int .i64 p, .pointer (some ⟨B, 0, none⟩)] w fun e w' => e = .returned (.bool (hasB l p)) ∧ Bl w w' := by
  obtain ⟨v, h1, h2⟩ := hb
  have cH := refHas_at v l p w h2 hl
  clear h2
  go_enter Try.func33, Try.ntmps33
  go_wp2_with (go_at_call 11; refine cH.mono ?_; rintro e w1 ⟨rfl, hb⟩)
  go_ret
  exact ⟨rfl, hb⟩
theorem or_fn (p : Int) (B C : Nat) (a b : List (Int × Int)) (w : World) (ha : Bx1 w B a) (hb : Bx1 w C b) (hal : a.length ≤ 5000) (hbl : b.length ≤ 5000) :
    Calls Try.prog 10 #[.int .i64 p, .pointer (some ⟨B, 0, none⟩), .pointer (some ⟨C, 0, none⟩)] w fun e w' => e = .returned (.bool (hasB a p || hasB b p)) ∧ Bl w w' := by
  obtain ⟨v, h1, h2⟩ := ha
  obtain ⟨v', h1', h2'⟩ := hb
  have c1 := refHas_at v a p w h2 hal
  have c2 := fun w1 (h : Bl w w1) => refHas_at v' b p w1 (h2'.step h) hbl
  have k2 := fun w1 (h : Bl w w1) => at_bl h h1'
  have HK : Hid (∀ w1, Bl w w1 → w1.cell? ⟨C, 0, none⟩ = some v') := k2
  clear h2 h2' k2 h1'
  cases e : hasB a p with
  | true =>
    rw [e] at c1
    clear e
    go_enter Try.func10, Try.ntmps10
    go_wp2_with (go_at_call_of 11 v; refine c1.mono ?_; rintro e w1 ⟨rfl, hb⟩)
    go_ret
    exact ⟨rfl, hb⟩
  | false =>
    rw [e] at c1
    clear e
    generalize hasB b p = r at c2
    go_enter Try.func10, Try.ntmps10
    go_wp2_with (first
      | (go_at_call_of 11 v; refine c1.mono ?_; rintro e w1 ⟨rfl, hb⟩; have hk := HK.out w1 hb)
      | (go_at_call_of 11 v'; refine (c2 _ hb).mono ?_; rintro e w2 ⟨rfl, hb2⟩))
    go_ret
    exact ⟨rfl, hb.trans hb2⟩
theorem and_fn (p : Int) (B C : Nat) (a b : List (Int × Int)) (w : World) (ha : Bx1 w B a) (hb : Bx1 w C b) (hal : a.length ≤ 5000) (hbl : b.length ≤ 5000) :
    Calls Try.prog 12 #[.int .i64 p, .pointer (some ⟨B, 0, none⟩), .pointer (some ⟨C, 0, none⟩)] w fun e w' => e = .returned (.bool (hasB a p && hasB b p)) ∧ Bl w w' := by
  obtain ⟨v, h1, h2⟩ := ha
  obtain ⟨v', h1', h2'⟩ := hb
  have c1 := refHas_at v a p w h2 hal
  have c2 := fun w1 (h : Bl w w1) => refHas_at v' b p w1 (h2'.step h) hbl
  have HK : Hid (∀ w1, Bl w w1 → w1.cell? ⟨C, 0, none⟩ = some v') := fun w1 h => at_bl h h1'
  clear h2 h2' h1'
  cases e : hasB a p with
  | false =>
    rw [e] at c1
    clear e
    go_enter Try.func12, Try.ntmps12
    go_wp2_with (go_at_call_of 11 v; refine c1.mono ?_; rintro e w1 ⟨rfl, hb⟩)
    go_ret
    exact ⟨rfl, hb⟩
  | true =>
    rw [e] at c1
    clear e
    generalize hasB b p = r at c2
    go_enter Try.func12, Try.ntmps12
    go_wp2_with (first
      | (go_at_call_of 11 v; refine c1.mono ?_; rintro e w1 ⟨rfl, hb⟩; have hk := HK.out w1 hb)
      | (go_at_call_of 11 v'; refine (c2 _ hb).mono ?_; rintro e w2 ⟨rfl, hb2⟩))
    go_ret
    exact ⟨by cases r <;> rfl, hb.trans hb2⟩
theorem not_fn (p n : Int) (B C : Nat) (a : List (Int × Int)) (w : World) (hn : w.cell? ⟨C, 0, none⟩ = some (.int .i64 n)) (ha : Bx1 w B a) (hal : a.length ≤ 5000) :
    Calls Try.prog 13 #[.int .i64 p, .pointer (some ⟨C, 0, none⟩), .pointer (some ⟨B, 0, none⟩)] w fun e w' => e = .returned (.bool (decide (p < n) && !hasB a p)) ∧ Bl w w' := by
  obtain ⟨v, h1, h2⟩ := ha
  have c1 := refHas_at v a p w h2 hal
  clear h2
  generalize hasB a p = r at c1
  by_cases h : p < n
  · have d : decide (p < n) = true := decide_eq_true h
    go_enter Try.func13, Try.ntmps13
    go_wp2_with (go_at_call 11; refine c1.mono ?_; rintro e w1 ⟨rfl, hb⟩)
    go_ret
    exact ⟨by first | rfl | (rw [d]; rfl) | (cases r <;> simp [h]), hb⟩
  · have d : decide (p < n) = false := decide_eq_false h
    go_enter Try.func13, Try.ntmps13
    go_wp2
    go_ret
    exact ⟨by first | rfl | (rw [d]; rfl) | simp [h], Bl.refl _⟩
end Go.Proofs.Ytfblmfjgbbeheaa.sp
