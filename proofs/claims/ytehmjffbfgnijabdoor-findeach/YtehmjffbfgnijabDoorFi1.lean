/- Is there a pattern that is empty or too long? And where one of several patterns stands, out of all matches. -/
import Derived.Test.YtehmjffbfgnijabDoorFh5
namespace Go.Proofs.YtehmjffbfgnijabDoor.anyp
set_option linter.unusedVariables false
open Go.ChangeShapes Go.WideShapes Go.ChangeAt Go.RowKit Go.Maps
open mem rows fd tree sp

/-- A pattern that isn't asked of. -/
def odd (p : ByteArray) : Prop := p.size = 0 ∨ 30 < p.size
def HasOdd (ps : List ByteArray) : Prop := ∃ k, k < ps.length ∧ odd (ps.getD k .empty)
def FxAns (ps : List ByteArray) (e : Ending) : Prop := ∃ n : Int, e = .returned (.int .i64 n) ∧ (0 ≤ n ↔ HasOdd ps)
def FcAns (ps : List ByteArray) (e : Ending) : Prop := ∃ b : Bool, e = .returned (.bool b) ∧ (b = true ↔ HasOdd ps)
theorem odd_at (p : ByteArray) (w : World) (hp : odd p) : Calls Tryd.prog 6 #[.string p] w fun e w' => e = .returned (.bool true) ∧ w' = w := by
  by_cases h : p.size = 0
  · have hz : p.toList.isEmpty = true := by rw [isEmpty_at]; exact decide_eq_true h
    clear h hp
    go_enter Tryd.func6, Tryd.ntmps6
    go_wp2
    go_ret
    exact ⟨rfl, rfl⟩
  · have hz : p.toList.isEmpty = false := by rw [isEmpty_at]; exact decide_eq_false h
    have h3 : (30 : Int) < (p.size : Int) := by rcases hp with h' | h' <;> omega
    clear h hp
    go_enter Tryd.func6, Tryd.ntmps6
    go_wp2
    go_ret
    exact ⟨rfl, rfl⟩
theorem even_at (p : ByteArray) (w : World) (hp : ¬ odd p) : Calls Tryd.prog 6 #[.string p] w fun e w' => e = .returned (.bool false) ∧ w' = w := by
  have hz : p.toList.isEmpty = false := by rw [isEmpty_at]; exact decide_eq_false (fun h => hp (Or.inl h))
  have h3 : ¬ (30 : Int) < (p.size : Int) := fun h => hp (Or.inr (by omega))
  clear hp
  go_enter Tryd.func6, Tryd.ntmps6
  go_wp2
  go_ret
  exact ⟨rfl, rfl⟩
theorem IndexFunc_at (q : Option Addr) (cp : Nat) (ps : List ByteArray) (w : World) (hin : InT w q ps) (hK : ps.length ≤ 5000) :
    Calls Tryd.prog 14 #[.slice q ps.length cp, .func (.func 6) #[] #[]] w fun e w' => FxAns ps e ∧ w' = w := by
  obtain ⟨K, hKe⟩ : ∃ K, K = ps.length := ⟨_, rfl⟩
  have HIN : Hid (InT w q ps) := hin
  have HK : Hid (K = ps.length) := hKe
  rw [← hKe] at hK ⊢
  clear hin hKe
  go_enter Tryd.func14, Tryd.ntmps14
  go_wp2
  go_loopw [8] (fun iv wr => ∃ k : Nat, k ≤ K ∧ iv = .int .i64 (k : Int) ∧ Hid (∀ j, j < k → ¬ odd (ps.getD j .empty)) ∧ wr = w) (fun iv _ => K - (intOf iv).toNat)
  case atStart => exact ⟨0, Nat.zero_le _, rfl, fun q hq => absurd hq (Nat.not_lt_zero _), rfl⟩
  case round =>
    obtain ⟨k, hk, rfl, HQ, rfl⟩ := hrel
    by_cases hlt : k < K
    · have hlz : (k : Int) < (K : Int) := by omega
      obtain ⟨x, rfl, hcx⟩ := HIN.out.at k (by rw [← HK.out]; exact hlt)
      by_cases h0 : odd (ps.getD k .empty)
      · have c := odd_at _ wr h0
        have HX : Hid (HasOdd ps) := ⟨k, by rw [← HK.out]; exact hlt, h0⟩
        clear h0
        generalize ps.getD k .empty = pk at hcx c
        go_wp2_with (go_at_call 6; refine c.mono ?_; rintro e w' ⟨rfl, rfl⟩)
        go_ret
        exact ⟨⟨_, rfl, ⟨fun _ => HX.out, fun _ => by omega⟩⟩, rfl⟩
      · have c := even_at _ wr h0
        have HQ2 : Hid (∀ j, j < k + 1 → ¬ odd (ps.getD j .empty)) := fun j hj => by
          rcases Nat.lt_or_ge j k with h | h
          · exact HQ.out j h
          · obtain rfl : j = k := by omega
            exact h0
        clear h0 HQ
        generalize ps.getD k .empty = pk at hcx c
        go_wp2_with (go_at_call 6; refine c.mono ?_; rintro e w' ⟨rfl, rfl⟩)
        go_roundw
        case rel => exact ⟨k + 1, by omega, by go_num, HQ2, by trivial⟩
        case measure => simp [intOf]; omega
    · have hnl : ¬ ((k : Int) < (K : Int)) := by omega
      have HQ2 : Hid (∀ j, j < K → ¬ odd (ps.getD j .empty)) := fun j hj => HQ.out j (by omega)
      clear HQ
      go_wp2
      go_ret
      exact ⟨⟨_, rfl, ⟨fun h => absurd h (by decide), fun ⟨j, hj, h0⟩ => absurd h0 (HQ2.out j (by rw [HK.out]; exact hj))⟩⟩, rfl⟩
theorem ContainsFunc_at (q : Option Addr) (cp : Nat) (ps : List ByteArray) (w : World) (hin : InT w q ps) (hK : ps.length ≤ 5000) :
    Calls Tryd.prog 5 #[.slice q ps.length cp, .func (.func 6) #[] #[]] w fun e w' => FcAns ps e ∧ w' = w := by
  have c := IndexFunc_at q cp ps w hin hK
  generalize ps.length = K at c ⊢
  go_enter Tryd.func5, Tryd.ntmps5
  go_wp2_with (go_at_call 14; refine c.mono ?_; rintro e w' ⟨⟨n, rfl, hn⟩, rfl⟩)
  go_ret
  exact ⟨⟨_, rfl, by rw [← hn]; simp⟩, rfl⟩
/-- Where pattern k stands, out of the first matches. -/
def those (k : Nat) (L : List (Int × Int)) (i : Nat) : List Int := ((L.take i).filter fun x => decide (x.2 = (k : Int))).map fun x => x.1
theorem those_zero (k : Nat) (L : List (Int × Int)) : those k L 0 = [] := rfl
theorem take_next (L : List (Int × Int)) (i : Nat) (h : i < L.length) : L.take (i + 1) = L.take i ++ [L.getD i (0, 0)] := by
  rw [List.take_add_one, List.getElem?_eq_getElem h, List.getD_eq_getElem?_getD, List.getElem?_eq_getElem h]
  rfl
theorem those_yes (k : Nat) (L : List (Int × Int)) (i : Nat) (h : i < L.length) (e : (L.getD i (0, 0)).2 = (k : Int)) : those k L (i + 1) = those k L i ++ [(L.getD i (0, 0)).1] := by
  unfold those
  rw [take_next L i h, List.filter_append, List.map_append]
  congr 1
  rw [List.filter_cons_of_pos (by simpa using e)]
  rfl
theorem those_no (k : Nat) (L : List (Int × Int)) (i : Nat) (h : i < L.length) (e : (L.getD i (0, 0)).2 ≠ (k : Int)) : those k L (i + 1) = those k L i := by
  unfold those
  rw [take_next L i h, List.filter_append, List.map_append, List.filter_cons_of_neg (by simpa using e)]
  simp
theorem those_len (k : Nat) (L : List (Int × Int)) (i : Nat) : (those k L i).length ≤ i := by
  unfold those
  rw [List.length_map]
  refine Nat.le_trans (List.length_filter_le _ _) ?_
  rw [List.length_take]
  omega
theorem those_part (k : Nat) (L : List (Int × Int)) (i : Nat) : (those k L i).length ≤ (those k L L.length).length := by
  unfold those
  rw [List.length_map, List.length_map, List.take_length]
  exact ((List.take_sublist i L).filter _).length_le
theorem rising_sameI : ∀ (a b : List Int), a.Pairwise (· < ·) → b.Pairwise (· < ·) → (∀ x, x ∈ a ↔ x ∈ b) → a = b
  | [], [], _, _, _ => rfl
  | [], y :: b, _, _, h => absurd ((h y).2 (List.mem_cons_self ..)) (by simp)
  | x :: a, [], _, _, h => absurd ((h x).1 (List.mem_cons_self ..)) (by simp)
  | x :: a, y :: b, ha, hb, h => by
    obtain ⟨ha1, ha2⟩ := List.pairwise_cons.1 ha
    obtain ⟨hb1, hb2⟩ := List.pairwise_cons.1 hb
    have hxy : x = y := by
      have h1 := (h x).1 (List.mem_cons_self ..)
      have h2 := (h y).2 (List.mem_cons_self ..)
      rcases List.mem_cons.1 h1 with h1 | h1
      · exact h1
      · rcases List.mem_cons.1 h2 with h2 | h2
        · exact h2.symm
        · have := hb1 x h1; have := ha1 y h2; omega
    subst hxy
    rw [rising_sameI a b ha2 hb2 fun z => ?_]
    have hz := h z
    simp only [List.mem_cons] at hz
    constructor
    · intro h1
      have := ha1 z h1
      rcases hz.1 (Or.inr h1) with h2 | h2
      · omega
      · exact h2
    · intro h1
      have := hb1 z h1
      rcases hz.2 (Or.inr h1) with h2 | h2
      · omega
      · exact h2
/-- They are where it stands alone. -/
theorem those_all {s : ByteArray} {ps : List ByteArray} {L : List (Int × Int)} (h : IsAny s ps L) (k : Nat) (hk : k < ps.length) (h0 : 0 < (ps.getD k .empty).size) : those k L L.length = ints (pls (sb (ps.getD k .empty)) (sb s) (ps.getD k .empty).size s.size) := by
  unfold those
  rw [List.take_length]
  refine rising_sameI _ _ ?_ ?_ fun x => ?_
  · rw [List.pairwise_map]
    refine List.Pairwise.imp_of_mem ?_ (List.Pairwise.filter _ h.rises)
    intro a b ha hb hl
    have ea := of_decide_eq_true (List.mem_filter.1 ha).2
    have eb := of_decide_eq_true (List.mem_filter.1 hb).2
    unfold lt2 at hl
    omega
  · unfold ints pls
    rw [List.pairwise_map]
    refine List.Pairwise.imp ?_ (sta_rising _ _)
    intro a b hab
    omega
  · rw [List.mem_map]
    unfold ints pls
    rw [List.mem_map]
    constructor
    · rintro ⟨y, hy, rfl⟩
      obtain ⟨h1, h2⟩ := List.mem_filter.1 hy
      obtain ⟨a, q, h3, h4, h5, rfl⟩ := (h.mem y).1 h1
      have e : q = k := by have := of_decide_eq_true h2; simp only at this; omega
      subst e
      exact ⟨a, (mem_sta _ _ _).2 ⟨by omega, h5⟩, rfl⟩
    · rintro ⟨a, ha, rfl⟩
      obtain ⟨h1, h2⟩ := (mem_sta _ _ _).1 ha
      exact ⟨((a : Int), (k : Int)), List.mem_filter.2 ⟨(h.mem _).2 ⟨a, k, hk, by omega, h2, rfl⟩, by simp⟩, rfl⟩
end Go.Proofs.YtehmjffbfgnijabDoor.anyp
