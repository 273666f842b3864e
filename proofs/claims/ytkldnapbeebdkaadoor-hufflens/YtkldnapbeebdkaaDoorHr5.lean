/- The document's own HuffLens: two groups joined. -/
import Derived.Test.YtkldnapbeebdkaaDoorHr3
namespace Go.Proofs.YtkldnapbeebdkaaDoor.hr
set_option linter.unusedVariables false
open Go.ChangeShapes Go.WideShapes Go.ChangeAt Go.RowKit
open mem rows hfp
theorem app_i (W : World) (base X n c : Nat) (l t : List Int) (b m cap : Nat) (hn : n = l.length) (hm : m = t.length) (hown : Own W base (.slice (some ⟨X, 0, none⟩) n c) l) (ht : Tc W b t) (hp : 0 < l.length + t.length) (hl : l.length + t.length ≤ 5000) (hb : base ≤ W.heap.size) :
    ∃ g' c' w', (Builtin.append_ #[22, 22] 22 #[.slice (some ⟨X, 0, none⟩) n c, .slice (some ⟨b, 0, none⟩) m cap]).run Tryd.prog W = .ok (.slice (some ⟨g', 0, none⟩) (l.length + t.length) c') w' ∧ Own w' base (.slice (some ⟨g', 0, none⟩) (l.length + t.length) c') (l ++ t) ∧ W.grownBy w' (some X) := by
  obtain ⟨v', w', hr, ho, hg⟩ := hf.appI_all W base (.slice (some ⟨X, 0, none⟩) n c) l t (some ⟨b, 0, none⟩) m cap hm hown (Tc.vw (cap := cap) ht) (fun h => by cases h) hl hb
  rcases ho.shape with ⟨_, h⟩ | ⟨g, cap', h, _⟩
  · have := congrArg List.length h
    rw [List.length_append, List.length_nil] at this
    omega
  · rw [List.length_append] at h
    subst h
    exact ⟨g, cap', w', hr, ho, hg⟩
/-- A row without numbers that was just made. -/
theorem own_lit (W w : World) (base X : Nat) (hb : base ≤ X) (h : W.heap[X]? = some (.cells #[] 3 (0, 0))) : Own W base (.slice (some ⟨X, 0, none⟩) 0 0) [] :=
  ⟨rfl, Or.inr ⟨X, 0, #[], rfl, hb, h, Nat.le_refl _, by decide, rfl, rfl⟩⟩
/-- The group that was just joined, in a variable of its own. -/
structure Jn (w3 w5 : World) (P g4 cap : Nat) (z : Int) (t : List Int) : Prop where
  c0 : w5.cell? ⟨P, 0, none⟩ = some (.int .i64 z)
  c1 : w5.cell? ⟨P, 1, none⟩ = some (.slice (some ⟨g4, 0, none⟩) t.length cap)
  p : w3.heap.size ≤ P
  pl : P < w5.heap.size
  g : w3.heap.size ≤ g4
  ne : P ≠ g4
  tc : Tc w5 g4 t
  bl : Bl w3 w5
theorem own_at {w : World} {base g n c : Nat} {l : List Int} (h : Own w base (.slice (some ⟨g, 0, none⟩) n c) l) : base ≤ g ∧ (∃ cur, w.heap[g]? = some (.cells cur 3 (0, 0))) ∧ Tc w g l := by
  have hs := h.shape
  rcases h.2 with ⟨h, _⟩ | ⟨g', cap, cur, e, h2, h3, _⟩
  · cases h
  · simp only [Value.slice.injEq, Option.some.injEq, Addr.mk.injEq] at e
    obtain ⟨⟨rfl, _⟩, _, rfl⟩ := e
    refine ⟨h2, ⟨cur, h3⟩, lt_of_heap h3, ?_⟩
    rcases hs with ⟨h, _⟩ | ⟨g'', cap', e, _, _, _, _, hc⟩
    · cases h
    · simp only [Value.slice.injEq, Option.some.injEq, Addr.mk.injEq] at e
      intro j hj
      rw [e.1.1]
      exact hc j hj
theorem jn_set {U w4 : World} {P g4 n c4 : Nat} {z : Int} {t : List Int} {zs : Array Value} (hb : Bl U w4) (hP : U.heap.size ≤ P) (h : w4.heap[P]? = some (.cells zs 43 (0, 0))) (hz : zs.size = 2) (ho : Own w4 U.heap.size (.slice (some ⟨g4, 0, none⟩) n c4) t) (hn : n = t.length) :
    Jn U ((w4.setCell ⟨P, 0, none⟩ (.int .i64 z)).setCell ⟨P, 1, none⟩ (.slice (some ⟨g4, 0, none⟩) n c4)) P g4 c4 z t := by
  subst hn
  obtain ⟨h1, ⟨cur, h2⟩, h3⟩ := own_at ho
  have hne : P ≠ g4 := fun e => by
    rw [e, h2] at h
    injection h with h
    injection h with _ h _
    exact absurd h (by decide)
  have hlt := lt_of_heap h
  have c0 : ∃ u, w4.cell? ⟨P, 0, none⟩ = some u := ⟨zs[0]'(by omega), by rw [cell_of h, Array.getElem?_eq_getElem]⟩
  have c1 : ∃ u, w4.cell? ⟨P, 1, none⟩ = some u := ⟨zs[1]'(by omega), by rw [cell_of h, Array.getElem?_eq_getElem]⟩
  obtain ⟨u0, c0⟩ := c0
  obtain ⟨u1, c1⟩ := c1
  refine ⟨?_, ?_, hP, by simpa using hlt, h1, hne, ⟨by simpa using h3.1, fun j hj => ?_⟩, (hb.setCell hP _).setCell hP _⟩
  · rw [World.cell?_setCell_other _ _ _ _ (by simp)]
    exact World.cell?_setCell_same _ _ _ c0
  · exact World.cell?_setCell_same _ _ _ ((World.cell?_setCell_other _ _ _ _ (by simp)).trans c1)
  · rw [World.cell?_setCell_far _ _ _ _ hne, World.cell?_setCell_far _ _ _ _ hne]
    exact h3.2 j hj
theorem jn_new {U w4 : World} {g4 n c4 : Nat} {z : Int} {t : List Int} (hb : Bl U w4) (ho : Own w4 U.heap.size (.slice (some ⟨g4, 0, none⟩) n c4) t) (hn : n = t.length) :
    Jn U (w4.alloc (.cells #[.int .i64 z, .slice (some ⟨g4, 0, none⟩) n c4] 43)) w4.heap.size g4 c4 z t := by
  subst hn
  obtain ⟨h1, _, h3⟩ := own_at ho
  have := h3.1
  exact ⟨by simp, by simp, hb.size, by simp, h1, by omega, h3.step ((Bl.refl _).alloc _), hb.alloc _⟩
theorem Jn.drew {w3 w5 : World} {P g4 cap : Nat} {z : Int} {t : List Int} (h : Jn w3 w5 P g4 cap z t) : Jn w3 w5.drew P g4 cap z t := ⟨h.c0, h.c1, h.p, h.pl, h.g, h.ne, h.tc, h.bl.drew⟩
/-- The box of a group, as it was just made. -/
abbrev Zo : Obj := .cells #[.int .i64 0, .slice none 0 0] 43
abbrev Eo : Obj := .cells #[] 3
theorem app_u {U W : World} {X n c b m cap : Nat} {l t : List Int} (hb : Bl U W) (hn : n = l.length) (hm : m = t.length) (ho : Own W U.heap.size (.slice (some ⟨X, 0, none⟩) n c) l) (ht : Tc U b t) (hp : 0 < l.length + t.length) (hl : l.length + t.length ≤ 5000) :
    ∃ g' c' w', (Builtin.append_ #[22, 22] 22 #[.slice (some ⟨X, 0, none⟩) n c, .slice (some ⟨b, 0, none⟩) m cap]).run Tryd.prog W = .ok (.slice (some ⟨g', 0, none⟩) (l.length + t.length) c') w' ∧ Own w' U.heap.size (.slice (some ⟨g', 0, none⟩) (l.length + t.length) c') (l ++ t) ∧ Bl U w' ∧ ∀ P : Nat, W.heap[P]? = some Zo → w'.heap[P]? = some Zo := by
  obtain ⟨g', c', w', hr, ho', hg⟩ := app_i W U.heap.size X n c l t b m cap hn hm ho (ht.step hb) hp hl hb.size
  obtain ⟨h1, ⟨cur, h2⟩, _⟩ := own_at ho
  refine ⟨g', c', w', hr, ho', bl_grown hb hg (fun k e => by injection e with e; omega), fun P hP => ?_⟩
  rw [hg.block P (lt_of_heap hP) (fun e => by
    injection e with e
    rw [e, h2] at hP
    injection hP with hP
    injection hP with _ hP _
    exact absurd hP (by decide))]
  exact hP
theorem z_cells {w : World} {P : Nat} (h : w.heap[P]? = some Zo) : w.cell? ⟨P, 0, none⟩ = some (.int .i64 0) ∧ w.cell? ⟨P, 1, none⟩ = some (.slice none 0 0) ∧ w.frozen? ⟨P, 0, none⟩ = false ∧ w.frozen? ⟨P, 1, none⟩ = false := by
  refine ⟨by rw [cell_of h]; rfl, by rw [cell_of h]; rfl, by simp [World.frozen?, h], by simp [World.frozen?, h]⟩
theorem heap_a (U : World) : ((U.alloc Zo).alloc Eo).drew.heap[U.heap.size]? = some Zo ∧ ((U.alloc Zo).alloc Eo).drew.heap[U.heap.size + 1]? = some Eo := by
  constructor
  · show ((U.alloc Zo).alloc Eo).heap[U.heap.size]? = _
    rw [Below.heap_alloc _ _ _ (by simp)]
    exact heap_alloc_new U _
  · show ((U.alloc Zo).alloc Eo).heap[U.heap.size + 1]? = _
    have := heap_alloc_new (U.alloc Zo) Eo
    rwa [show (U.alloc Zo).heap.size = U.heap.size + 1 by simp] at this
theorem heap_b (U : World) : ((U.alloc Eo).alloc Zo).drew.heap[U.heap.size]? = some Eo ∧ ((U.alloc Eo).alloc Zo).drew.heap[U.heap.size + 1]? = some Zo := by
  constructor
  · show ((U.alloc Eo).alloc Zo).heap[U.heap.size]? = _
    rw [Below.heap_alloc _ _ _ (by simp)]
    exact heap_alloc_new U _
  · show ((U.alloc Eo).alloc Zo).heap[U.heap.size + 1]? = _
    have := heap_alloc_new (U.alloc Eo) Zo
    rwa [show (U.alloc Eo).heap.size = U.heap.size + 1 by simp] at this
theorem heap_c (U : World) : (U.alloc Eo).drew.heap[U.heap.size]? = some Eo := heap_alloc_new U _
end Go.Proofs.YtkldnapbeebdkaaDoor.hr
