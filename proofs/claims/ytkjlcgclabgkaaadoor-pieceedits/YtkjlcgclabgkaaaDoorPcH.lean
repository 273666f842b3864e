/- Two rows that grow by one each, in whatever order that is done. -/
import Derived.Test.YtkjlcgclabgkaaaDoorPcG
namespace Go.Proofs.YtkjlcgclabgkaaaDoor.pc
set_option linter.unusedVariables false
open Go.ChangeShapes Go.WideShapes Go.ChangeAt Go.RowKit
open mem

/-- What was there is as it was, but for these two blocks. -/
structure Gr (W W' : World) (g1 g2 : Option Nat) : Prop where
  os : W'.os = W.os
  tape : W'.tape = W.tape
  output : W'.output = W.output
  size : W.heap.size ≤ W'.heap.size
  block : ∀ k, k < W.heap.size → some k ≠ g1 → some k ≠ g2 → W'.heap[k]? = W.heap[k]?
theorem Gr.refl (W : World) (g1 g2 : Option Nat) : Gr W W g1 g2 := ⟨rfl, rfl, rfl, Nat.le_refl _, fun _ _ _ _ => rfl⟩
theorem Gr.trans {a b c : World} {g1 g2 : Option Nat} (h : Gr a b g1 g2) (k : Gr b c g1 g2) : Gr a c g1 g2 :=
  ⟨k.os.trans h.os, k.tape.trans h.tape, k.output.trans h.output, Nat.le_trans h.size k.size, fun j hj n1 n2 => (k.block j (Nat.lt_of_lt_of_le hj h.size) n1 n2).trans (h.block j hj n1 n2)⟩
theorem Gr.of_bl {a b : World} {g1 g2 : Option Nat} (h : Bl a b) : Gr a b g1 g2 := ⟨h.os, h.tape, h.output, h.size, fun j hj _ _ => h.block j hj⟩
theorem Gr.one {a b : World} {g1 g2 : Option Nat} (h : a.grownBy b g1) : Gr a b g1 g2 := ⟨h.os, h.tape, h.output, h.size, fun j hj n1 _ => h.block j hj n1⟩
theorem Gr.two {a b : World} {g1 g2 : Option Nat} (h : a.grownBy b g2) : Gr a b g1 g2 := ⟨h.os, h.tape, h.output, h.size, fun j hj _ n2 => h.block j hj n2⟩
theorem Gr.cell {W W' : World} {g1 g2 : Option Nat} (h : Gr W W' g1 g2) {b i : Nat} {v : Value} (hc : W.cell? ⟨b, i, none⟩ = some v) (n1 : some b ≠ g1) (n2 : some b ≠ g2) : W'.cell? ⟨b, i, none⟩ = some v := by
  have hlt : b < W.heap.size := World.block_lt_of_cell? W _ hc
  unfold World.cell? at hc ⊢
  rw [h.block b hlt n1 n2]
  exact hc
theorem Gr.bl {w W W' : World} {g1 g2 : Option Nat} (h : Gr W W' g1 g2) (hb : Bl w W) (n1 : ∀ k, g1 = some k → w.heap.size ≤ k) (n2 : ∀ k, g2 = some k → w.heap.size ≤ k) : Bl w W' :=
  ⟨h.os.trans hb.os, h.tape.trans hb.tape, h.output.trans hb.output, Nat.le_trans hb.size h.size, fun k hk => (h.block k (Nat.lt_of_lt_of_le hk hb.size) (fun e => by have := n1 k e.symm; omega) (fun e => by have := n2 k e.symm; omega)).trans (hb.block k hk)⟩
/-- No row is a node of a tree. -/
def NoNode (W : World) (g : Option Nat) : Prop := ∀ k, g = some k → ∃ c e fz, W.heap[k]? = some (.cells c e fz) ∧ e ≠ 65
theorem rs_no {W : World} {base : Nat} {v : Value} {l : List ByteArray} (h : rs.Own W base v l) : NoNode W v.ownBlock := fun k e => by
  rcases h.2 with ⟨hv, _⟩ | ⟨g, cap, cur, hv, _, hg, _⟩
  · subst hv; simp [Value.ownBlock] at e
  · subst hv
    simp [Value.ownBlock] at e
    subst e
    exact ⟨_, _, _, hg, by decide⟩
theorem rt_no {W : World} {base : Nat} {v : Value} {l : List (Option Addr)} (h : rt.Own W base v l) : NoNode W v.ownBlock := fun k e => by
  rcases h.2 with ⟨hv, _⟩ | ⟨g, cap, cur, hv, _, hg, _⟩
  · subst hv; simp [Value.ownBlock] at e
  · subst hv
    simp [Value.ownBlock] at e
    subst e
    exact ⟨_, _, _, hg, by decide⟩
theorem Gr.is {W W' : World} {g1 g2 : Option Nat} (h : Gr W W' g1 g2) (n1 : NoNode W g1) (n2 : NoNode W g2) : ∀ {p : Option Addr} {t : Tr}, Is W p t → Is W' p t
  | _, .leaf, ht => ht
  | _, .node l s r, ⟨b, pl, pr, hp, hb, h0, h1, h2, h3, h4, h5, hl, hr⟩ => by
    have key : ∀ g, NoNode W g → some b ≠ g := fun g hn e => by
      obtain ⟨c, ty, fz, hh, hne⟩ := hn b e.symm
      have := hb.2
      simp only [World.shape?, hh, Option.some.injEq, Prod.mk.injEq] at this
      exact hne this.1
    have hblk := h.block b hb.1 (key _ n1) (key _ n2)
    have hc : ∀ i, W'.cell? ⟨b, i, none⟩ = W.cell? ⟨b, i, none⟩ := fun i => by simp [World.cell?, hblk]
    exact ⟨b, pl, pr, hp, ⟨Nat.lt_of_lt_of_le hb.1 h.size, (show W'.shape? b = W.shape? b by simp [World.shape?, hblk]).trans hb.2⟩, (hc 0).trans h0, (hc 1).trans h1, (hc 2).trans h2, (hc 3).trans h3, (hc 4).trans h4, (hc 5).trans h5, Gr.is h n1 n2 hl, Gr.is h n1 n2 hr⟩
theorem Gr.pair {W W' : World} {g1 g2 : Option Nat} (h : Gr W W' g1 g2) (n1 : NoNode W g1) (n2 : NoNode W g2) {A : List ByteArray} {Q : List (Option Addr)} (k : Pair W A Q) : Pair W' A Q :=
  ⟨k.1, fun j hj => by obtain ⟨h1, t, h2, h3⟩ := k.2 j hj; exact ⟨h1, t, h.is n1 n2 h2, h3⟩⟩
/-- An append in a walk whose order is drawn. -/
theorem step_append_run {P : Program} {ops : Array Oper} {o : Oper} {a : Act} {w : World} {K : Act → World → Prop} {Q : Exit → Act → World → Prop} {E : Prop}
    (hg : o.guard = none) (s x : Operand) (t tx : TypeId) (hop : o.op = Op.call { callee := Callee.builtin Builtin.append, args := #[s, x], argTypes := #[t, tx] })
    (vs vx : Value) (hs : a.eval s = vs) (hx : a.eval x = vx) (v' : Value) (w' : World) (hr : (Builtin.append_ #[t, tx] o.type #[vs, vx]).run P w = .ok v' w') (hK : K (a.put o.dst v') w') :
    if Region.wanted o (yielded ops a.tmps) = true then Oper.wp P o a w K Q else E := by
  have hw : Region.wanted o (yielded ops a.tmps) = true := by simp [Region.wanted, hg]
  rw [if_pos hw]
  exact Lib.wp_append_run w s x t tx hop vs vx hs hx v' w' hr hK
abbrev oS (X : ByteArray) : Obj := .cells #[.string X] 9
abbrev oT (q : Option Addr) : Obj := .cells #[.pointer q] 26
abbrev runS (v : Value) (X : Nat) : Sem Value := Builtin.append_ #[23, 23] 23 #[v, .slice (some ⟨X, 0, none⟩) 1 1]
abbrev runT (v : Value) (X : Nat) : Sem Value := Builtin.append_ #[28, 28] 28 #[v, .slice (some ⟨X, 0, none⟩) 1 1]
theorem cell0_new (W : World) (v : Value) (t : TypeId) : (W.alloc (.cells #[v] t)).cell? ⟨W.heap.size, 0, none⟩ = some v := (Bx.new W v t).cell
section
variable {W : World} {base : Nat} {v1 v2 : Value} {A : List ByteArray} {Q : List (Option Addr)} (X : ByteArray) (q : Option Addr)
theorem tw_n1 (h : Tw W base v1 A v2 Q) (k : Nat) (hk : W.heap.size ≤ k) : some k ≠ v1.ownBlock := fun e => by have := (h.a.block k e.symm).2; omega
theorem tw_n2 (h : Tw W base v1 A v2 Q) (k : Nat) (hk : W.heap.size ≤ k) : some k ≠ v2.ownBlock := fun e => by have := (h.b.block k e.symm).2; omega
/-- First the one, then the other. -/
theorem appsA (h : Tw W base v1 A v2 Q) (hA : A.length ≤ 100) (hQ : Q.length ≤ 100) : ∃ v1' w9 v2' w10, (runS v1 W.heap.size).run Tryd.prog (W.alloc (oS X)) = .ok v1' w9 ∧ (runT v2 w9.heap.size).run Tryd.prog (w9.alloc (oT q)) = .ok v2' w10 ∧
    Gr W w9 v1.ownBlock v2.ownBlock ∧ Gr W w10 v1.ownBlock v2.ownBlock ∧ Tw w10 base v1' (A ++ [X]) v2' (Q ++ [q]) := by
  have h1 := h.step ((Bl.refl W).alloc (oS X))
  obtain ⟨v1', w9, r1, o1, g1, e1⟩ := rs.app_one (W.alloc (oS X)) base v1 A X W.heap.size h1.a (cell0_new _ _ _) (by omega) h1.le
  have h2 := (h1.first o1 g1 e1).step ((Bl.refl w9).alloc (oT q))
  obtain ⟨v2', w10, r2, o2, g2, e2⟩ := rt.app_one (w9.alloc (oT q)) base v2 Q q w9.heap.size h2.b (cell0_new _ _ _) (by omega) h2.le
  have G1 : Gr W w9 v1.ownBlock v2.ownBlock := (Gr.of_bl ((Bl.refl W).alloc (oS X))).trans (Gr.one g1)
  exact ⟨v1', w9, v2', w10, r1, r2, G1, (G1.trans (Gr.of_bl ((Bl.refl w9).alloc (oT q)))).trans (Gr.two g2), h2.second o2 g2 e2⟩
/-- Both are laid, the first one first. -/
theorem appsB (h : Tw W base v1 A v2 Q) (hA : A.length ≤ 100) (hQ : Q.length ≤ 100) : ∃ v1' w9 v2' w10, (runS v1 W.heap.size).run Tryd.prog ((W.alloc (oS X)).alloc (oT q)) = .ok v1' w9 ∧ (runT v2 (W.heap.size + 1)).run Tryd.prog w9 = .ok v2' w10 ∧
    Gr W w9 v1.ownBlock v2.ownBlock ∧ Gr W w10 v1.ownBlock v2.ownBlock ∧ Tw w10 base v1' (A ++ [X]) v2' (Q ++ [q]) := by
  have hb : Bl W ((W.alloc (oS X)).alloc (oT q)) := ((Bl.refl W).alloc _).alloc _
  have h1 := h.step hb
  obtain ⟨v1', w9, r1, o1, g1, e1⟩ := rs.app_one ((W.alloc (oS X)).alloc (oT q)) base v1 A X W.heap.size h1.a (cell_bl ((Bl.refl _).alloc _) (cell0_new _ _ _)) (by omega) h1.le
  have h2 := h1.first o1 g1 e1
  have G1 : Gr ((W.alloc (oS X)).alloc (oT q)) w9 v1.ownBlock v2.ownBlock := Gr.one g1
  have c2 : ((W.alloc (oS X)).alloc (oT q)).cell? ⟨W.heap.size + 1, 0, none⟩ = some (.pointer q) := by
    have := cell0_new (W.alloc (oS X)) (.pointer q) 26
    rw [World.size_alloc] at this
    exact this
  obtain ⟨v2', w10, r2, o2, g2, e2⟩ := rt.app_one w9 base v2 Q q (W.heap.size + 1) h2.b (G1.cell c2 (tw_n1 h _ (by omega)) (tw_n2 h _ (by omega))) (by omega) h2.le
  exact ⟨v1', w9, v2', w10, r1, r2, (Gr.of_bl hb).trans G1, ((Gr.of_bl hb).trans G1).trans (Gr.two g2), h2.second o2 g2 e2⟩
/-- Both are laid, the second one first. -/
theorem appsC (h : Tw W base v1 A v2 Q) (hA : A.length ≤ 100) (hQ : Q.length ≤ 100) : ∃ v1' w9 v2' w10, (runS v1 (W.heap.size + 1)).run Tryd.prog ((W.alloc (oT q)).alloc (oS X)) = .ok v1' w9 ∧ (runT v2 W.heap.size).run Tryd.prog w9 = .ok v2' w10 ∧
    Gr W w9 v1.ownBlock v2.ownBlock ∧ Gr W w10 v1.ownBlock v2.ownBlock ∧ Tw w10 base v1' (A ++ [X]) v2' (Q ++ [q]) := by
  have hb : Bl W ((W.alloc (oT q)).alloc (oS X)) := ((Bl.refl W).alloc _).alloc _
  have h1 := h.step hb
  have c1 : ((W.alloc (oT q)).alloc (oS X)).cell? ⟨W.heap.size + 1, 0, none⟩ = some (.string X) := by
    have := cell0_new (W.alloc (oT q)) (.string X) 9
    rw [World.size_alloc] at this
    exact this
  obtain ⟨v1', w9, r1, o1, g1, e1⟩ := rs.app_one ((W.alloc (oT q)).alloc (oS X)) base v1 A X (W.heap.size + 1) h1.a c1 (by omega) h1.le
  have h2 := h1.first o1 g1 e1
  have G1 : Gr ((W.alloc (oT q)).alloc (oS X)) w9 v1.ownBlock v2.ownBlock := Gr.one g1
  obtain ⟨v2', w10, r2, o2, g2, e2⟩ := rt.app_one w9 base v2 Q q W.heap.size h2.b (G1.cell (cell_bl ((Bl.refl _).alloc _) (cell0_new _ _ _)) (tw_n1 h _ (Nat.le_refl _)) (tw_n2 h _ (Nat.le_refl _))) (by omega) h2.le
  exact ⟨v1', w9, v2', w10, r1, r2, (Gr.of_bl hb).trans G1, ((Gr.of_bl hb).trans G1).trans (Gr.two g2), h2.second o2 g2 e2⟩
end
end Go.Proofs.YtkjlcgclabgkaaaDoor.pc
