/- Where signs end, one behind the other; whether one is bad. -/
import Derived.Test.YtaboemchkmmgeaaDoorKeep2
import Derived.Test.YtaboemchkmmgeaaDoorUtfQ
namespace Go.Proofs.YtaboemchkmmgeaaDoor.keep
set_option linter.unusedVariables false
open Go.ChangeShapes Go.WideShapes Go.ChangeAt Go.RowKit
open mem rows enc utf

/-- Where the first i signs end, each. -/
def E (L : List (Nat × Nat)) (i : Nat) : List Int := (List.range (i + 1)).map fun j => ((sum (L.take j) : Nat) : Int)
theorem E_len (L : List (Nat × Nat)) (i : Nat) : (E L i).length = i + 1 := by simp [E]
theorem E_zero (L : List (Nat × Nat)) : E L 0 = [0] := rfl
theorem E_succ (L : List (Nat × Nat)) (i : Nat) : E L (i + 1) = E L i ++ [((sum (L.take (i + 1)) : Nat) : Int)] := by unfold E; rw [List.range_succ, List.map_append]; rfl
theorem E_get (L : List (Nat × Nat)) (i k : Nat) (h : k ≤ i) : (E L i).getD k 0 = ((sum (L.take k) : Nat) : Int) := by
  unfold E
  rw [List.getD_eq_getElem?_getD, List.getElem?_map, List.getElem?_range (by omega)]
  rfl
theorem sum_succ (L : List (Nat × Nat)) (i : Nat) (h : i < L.length) : sum (L.take (i + 1)) = sum (L.take i) + (L[i]).2 := by
  rw [List.take_succ_eq_append_getElem h]
  unfold sum
  rw [List.map_append, List.sum_append]
  simp
theorem sum_le (L : List (Nat × Nat)) (i : Nat) : sum (L.take i) ≤ sum L := by
  unfold sum
  conv => rhs; rw [← List.take_append_drop i L, List.map_append, List.sum_append]
  exact Nat.le_add_right _ _
theorem sg_at (L : List (Nat × Nat)) (i : Nat) (h : i < L.length) : (sg L).getD i 0 = ((L[i]).1 : Int) := by
  unfold sg
  rw [List.getD_eq_getElem?_getD, List.getElem?_map, List.getElem?_eq_getElem h]
  rfl
theorem sz_at (L : List (Nat × Nat)) (i : Nat) (h : i < L.length) : (sz L).getD i 0 = ((L[i]).2 : Int) := by
  unfold sz
  rw [List.getD_eq_getElem?_getD, List.getElem?_map, List.getElem?_eq_getElem h]
  rfl
theorem sg_take (L : List (Nat × Nat)) (k : Nat) : sg (L.take k) = (sg L).take k := by unfold sg; rw [List.map_take]
/-- One of the first i signs is bad. -/
def Bad (L : List (Nat × Nat)) (i : Nat) : Prop := ∃ p ∈ L.take i, p.1 = 65533
theorem Bad_zero (L : List (Nat × Nat)) : ¬ Bad L 0 := by rintro ⟨p, hp, _⟩; rw [List.take_zero] at hp; cases hp
theorem Bad_succ (L : List (Nat × Nat)) (i : Nat) (h : i < L.length) : Bad L (i + 1) ↔ Bad L i ∨ (L[i]).1 = 65533 := by
  unfold Bad
  rw [List.take_succ_eq_append_getElem h]
  constructor
  · rintro ⟨p, hp, e⟩
    rcases List.mem_append.1 hp with h' | h'
    · exact Or.inl ⟨p, h', e⟩
    · rw [List.mem_singleton.1 h'] at e; exact Or.inr e
  · rintro (⟨p, hp, e⟩ | e)
    · exact ⟨p, List.mem_append_left _ hp, e⟩
    · exact ⟨_, List.mem_append_right _ (List.mem_singleton.2 rfl), e⟩
theorem In.take {w : World} {p : Option Addr} {l : List Int} (h : In w p l) (k : Nat) : In w p (l.take k) := by
  rcases h with h | ⟨x, h1, h2⟩
  · exact Or.inl (by rw [h, List.take_nil])
  · refine Or.inr ⟨x, h1, fun i hi => ?_⟩
    rw [List.length_take] at hi
    rw [h2 i (by omega)]
    congr 2
    rw [List.getD_eq_getElem?_getD, List.getD_eq_getElem?_getD, List.getElem?_take, if_pos (by omega)]
theorem own_lit (w : World) (base : Nat) (l : List Int) (hb : base ≤ w.heap.size) (hl : l.length ≤ 5000) : Own (w.alloc (.cells (l.map (Value.int .i64)).toArray 3)) base (.slice (some ⟨w.heap.size, 0, none⟩) l.length l.length) l := by
  refine ⟨by simp [rowI], Or.inr ⟨w.heap.size, l.length, _, rfl, hb, heap_alloc_new _ _, Nat.le_refl _, by unfold maxLen; omega, by simp, ?_⟩⟩
  show (l.map (Value.int .i64)).take (l.length * 1) = _
  rw [Nat.mul_one, List.take_of_length_le (by simp)]
  rfl
theorem view_full {w : World} {base : Nat} {v : Value} {l : List Int} (h : Own w base v l) : ∃ p c, v = .slice p l.length c ∧ In w p l ∧ l.length ≤ c ∧ c ≤ 9223372036854775807 ∧ ((p = none ∧ c = 0) ∨ ∃ x, p = some x) := by
  rcases h.shape with ⟨rfl, rfl⟩ | ⟨g, cap, rfl, _, _, h1, h2, hc⟩
  · exact ⟨none, 0, rfl, Or.inl rfl, Nat.le_refl _, by omega, Or.inl ⟨rfl, rfl⟩⟩
  · exact ⟨_, cap, rfl, Or.inr ⟨_, rfl, fun k hk => by rw [Addr.add_lit, Nat.zero_add]; exact hc k hk⟩, h1, by unfold maxLen at h2; exact h2, Or.inr ⟨_, rfl⟩⟩
end Go.Proofs.YtaboemchkmmgeaaDoor.keep
