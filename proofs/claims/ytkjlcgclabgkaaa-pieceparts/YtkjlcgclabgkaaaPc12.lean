/- Ranging over the pieces of a text, where the loop stands in a greater function. -/
import Derived.Test.YtkjlcgclabgkaaaPc11
namespace Go.Proofs.Ytkjlcgclabgkaaa.pc
set_option linter.unusedVariables false
open Go.ChangeShapes Go.WideShapes Go.ChangeAt Go.RowKit Go.Shelf
open mem

theorem bx_own (b : Nat) (f : List Pce → Value) (t : TypeId) : Own (fun (pre : List Pce) W => Bx W b (f pre) t) := fun s W W' row h hg hr => by
  have hlt := Bx.lt h
  unfold Bx at h ⊢
  dsimp only at h ⊢
  rw [hg.block b hlt ?_]
  · exact h
  · intro e
    obtain ⟨o, ho, hc⟩ := hr b e.symm
    rw [h] at ho
    exact not_cells (Option.some.inj ho).symm hc
/-- The law for such a loop, at the state that is there. -/
theorem ranged {n : Nat} {g : Operand} {ps : Array Tmp} {assign body : Code} {Q : Exit → Act → World → Prop} {a : Act} {W0 : World} (tm : Array Value → Pce → Array Value) (p : Option Addr) (t : Tr) (wr w1 : World)
    (h1 : 1 ≤ n) (hp : ∀ x : Pce, (#[Value.string x.1] : Array Value).size = ps.size)
    (hg : a.eval g = .func (.func 24) #[] #[.pointer (some ⟨w1.heap.size, 0, none⟩), .pointer (some ⟨w1.heap.size + 1, 0, none⟩), .pointer (some ⟨w1.heap.size + 2, 0, none⟩)])
    (hW0 : W0 = ((w1.alloc (.cells #[.pointer p] 26)).alloc (.cells #[.int .i64 0] 3)).alloc (.cells #[.int .i64 ((tot t.ps : Nat) : Int)] 3))
    (hi : IsT wr.heap.size w1 p t) (hs : wr.heap.size ≤ w1.heap.size) (hf : fit t.ps) (S : List Pce) (hS : S.map (·.1) = t.ps)
    (I : List Pce → World → Prop) (Ix : Code → List Pce → World → Prop) (hI : OwnFrom W0.heap.size I) (hIx : ∀ c, OwnFrom W0.heap.size (Ix c)) (h0 : I [] W0)
    (hassign : ∀ (l : Nat) (x : Pce) (W : World) (K : Act → World → Prop), K { tmps := tm a.tmps x, defers := [] } W →
      assign.wpIn (Fence.wide.inRound l) (n - 1 - 1) Try.prog (Exit.then K (fun _ _ _ => False)) { tmps := (ps.zip #[Value.string x.1]).foldl (fun t (p, v) => t.setIfInBounds p v) a.tmps, defers := [] } W)
    (hbody : ∀ (l : Nat) (pre : List Pce) (x : Pce) (W : World), I pre W → pre.length < S.length → body.wpIn (Fence.wide.inRound l) (n - 1 - 1) Try.prog (ownPostK (Below wr.heap.size) I Ix (pre ++ [x]) W) { tmps := tm a.tmps x, defers := [] } W)
    (hdone : ∀ (D : Nat) (W : World), W0.heap.size ≤ D → I S W → W.heap[D]? = some (.deferred (some [])) → Q .normal { a with defers := { target := .collected D, args := #[] } :: a.defers } W)
    (hstop : ∀ (D : Nat) (c : Code) (pre : List Pce) (W : World), W0.heap.size ≤ D → pre <+: S → Ix c pre W → W.heap[D]? = some (.deferred (some [])) → c.wp Try.prog Q { a with defers := { target := .collected D, args := #[] } :: a.defers } W) :
    (Code.rangeFunc g ps assign body).wp Try.prog Q a W0 := by
  have hsz : W0.heap.size = w1.heap.size + 3 := by rw [hW0]; simp
  have hB : Bl w1 W0 := by rw [hW0]; exact (((Bl.refl w1).alloc _).alloc _).alloc _
  have y0 : W0.cell? ⟨w1.heap.size, 0, none⟩ = some (.pointer p) := by
    rw [hW0]; exact cell_bl ((Bl.refl _).alloc _) (cell_bl ((Bl.refl _).alloc _) (Bx.new w1 _ _).cell)
  have y1 : W0.cell? ⟨w1.heap.size + 1, 0, none⟩ = some (.int .i64 0) := by
    have := (Bx.new (w1.alloc (.cells #[.pointer p] 26)) (.int .i64 0) 3).cell
    rw [World.size_alloc] at this
    rw [hW0]; exact cell_bl ((Bl.refl _).alloc _) this
  have y2 : W0.cell? ⟨w1.heap.size + 2, 0, none⟩ = some (.int .i64 ((tot t.ps : Nat) : Int)) := by
    have := (Bx.new ((w1.alloc (.cells #[.pointer p] 26)).alloc (.cells #[.int .i64 0] 3)) (.int .i64 ((tot t.ps : Nat) : Int)) 3).cell
    rw [World.size_alloc, World.size_alloc] at this
    rw [hW0]; exact this
  have hto := hf.2
  refine wpIn_wide.1 (wpIn_rangeFunc_ownF (F := Fence.wide) (n := n) rfl h1 (gf := 24) hg trivial (enters_of Try.func24 (by kernel_rfl) rfl)
    (between_stops Fence.wide rfl (n - 1) w1.heap.size (w1.heap.size + 1) (w1.heap.size + 2) wr.heap.size p 0 ((tot t.ps : Nat) : Int) t S W0 (by omega) (by omega) (by omega) (by omega) y0 y1 y2 (hi.below (Below.mono hB hs)) hf (by omega) (by omega) (by omega) (by omega) (by rw [hS, seg_all t hf _ _ (Int.le_refl _) (Int.le_refl _)])) belowK_t (belowK_b (by omega)) (Below.refl _ _) hp
    I Ix hI hIx h0 (fun x => { tmps := tm a.tmps x, defers := [] }) hassign hbody (fun D xs W hD hx hI hK => by subst hx; exact hdone D W hD hI hK) (fun D c pre W hD hp hx hK => wpIn_wide.2 (hstop D c pre W hD hp hx hK)))
theorem pieces_of (t : Tr) (hf : fit t.ps) : ∃ S : List Pce, S.map (·.1) = t.ps := by
  obtain ⟨S, hS⟩ := segs t hf 0 ((tot t.ps : Nat) : Int)
  exact ⟨S, by rw [hS, seg_all t hf _ _ (Int.le_refl _) (Int.le_refl _)]⟩
end Go.Proofs.Ytkjlcgclabgkaaa.pc
