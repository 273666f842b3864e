/- Texts laid together: Lx2, LayP, Lx3, TkRow, LxW. -/
import Derived.Test.YtococaecjecjgaaGreatDoorXLayoutReads2
import Derived.Test.YtococaecjecjgaaGreatDoorChecked
import Derived.Shelf.Strings.Prefix
import Derived.Deep.MidRow
import Derived.Deep.Cut
import Derived.Deep.Upon
import Derived.Deep.RegionLaw

namespace Go.Proofs.YtococaecjecjgaaGreatDoor.layP
open Go.Shelf
def rf : FuncId → FuncId
  | 99 => 109
  | 206 => 140
  | x => x
def rt : TypeId → TypeId
  | 3 => 3
  | 4 => 4
  | 9 => 9
  | x => x
def rg : Nat → Nat

  | x => x
def ren : Ren := ⟨rf, rt, rg⟩
set_option maxRecDepth 100000 in
theorem laid : Lays.n99 Tryz.prog ren where
  mixed := by kernel_rfl
  f99 := by kernel_rfl
  f206 := by kernel_rfl
  t3 := by kernel_rfl
  a3 := fun _ => by kernel_rfl
  z3 := fun _ => by kernel_rfl
  v3 := fun _ => by kernel_rfl
  t4 := by kernel_rfl
  a4 := fun _ => by kernel_rfl
  z4 := fun _ => by kernel_rfl
  v4 := fun _ => by kernel_rfl
  t9 := by kernel_rfl
  a9 := fun _ => by kernel_rfl
  z9 := fun _ => by kernel_rfl
  v9 := fun _ => by kernel_rfl
end Go.Proofs.YtococaecjecjgaaGreatDoor.layP
namespace Go.Proofs.YtococaecjecjgaaGreatDoor.lx
set_option linter.unusedVariables false
open Go.ChangeShapes Go.WideShapes Go.ChangeAt Go.RowKit
open mem

theorem new_at (w : World) (o : Obj) : (w.alloc o).heap[w.heap.size]? = some o := by
  show (w.heap.push _)[w.heap.size]? = _
  rw [Array.getElem?_push, if_pos rfl]
def Thr (w w' : World) (B : Nat) (c p : Int) : Prop := w.heap.size ≤ B ∧ w'.heap[B]? = some (.cells #[.int .i64 c, .int .i64 p] 116 (0, 0)) ∧ Bl w w'
def thrown (B : Nat) : Ending := .panicked [{ v := .iface 113 (.pointer (some ⟨B, 0, none⟩)), recovered := false }]
end Go.Proofs.YtococaecjecjgaaGreatDoor.lx
namespace Go.Proofs.YtococaecjecjgaaGreatDoor.tr
set_option linter.unusedVariables false
open Go.ChangeShapes Go.WideShapes Go.ChangeAt Go.RowKit
open mem lx

def rowE (l : List Tk) : List Value := l.flatMap fun x => [.string (tx x.t), .int .i64 (x.a : Int)]
theorem rowE_cons (x : Tk) (l : List Tk) : rowE (x :: l) = [.string (tx x.t), .int .i64 (x.a : Int)] ++ rowE l := by unfold rowE; rw [List.flatMap_cons]
theorem rowE_len (l : List Tk) : (rowE l).length = l.length * 2 := by
  induction l with
  | nil => rfl
  | cons x l ih => rw [rowE_cons, List.length_append, ih]; simp; omega
theorem rowE_append (a b : List Tk) : rowE (a ++ b) = rowE a ++ rowE b := by unfold rowE; rw [List.flatMap_append]
theorem rowE_get (l : List Tk) (k : Nat) (h : k < l.length) : (rowE l)[k * 2]? = some (.string (tx l[k].t)) ∧ (rowE l)[k * 2 + 1]? = some (.int .i64 (l[k].a : Int)) := by
  induction l generalizing k with
  | nil => exact absurd h (Nat.not_lt_zero _)
  | cons x l ih =>
    rw [rowE_cons]
    cases k with
    | zero => exact ⟨rfl, rfl⟩
    | succ k =>
      have := ih k (by simpa using h)
      rw [show (k + 1) * 2 = k * 2 + 2 by omega]
      exact this
theorem rowE_one (l : List Tk) (u : Value) (hu : u ∈ rowE l) : u.oneCell' = true := by
  unfold rowE at hu
  rw [List.mem_flatMap] at hu
  obtain ⟨y, _, hy⟩ := hu
  simp at hy
  rcases hy with rfl | rfl <;> rfl
theorem infoE : (Tryz.prog.info? 145).map (fun i => (i.zero, i.size, i.bytes)) = some (some (.agg #[.string ⟨#[]⟩, .int .i64 0]), 2, 24) := by kernel_rfl
theorem infoE' : ∃ i, Tryz.prog.info? 145 = some i ∧ i.zero = some (.agg #[.string ⟨#[]⟩, .int .i64 0]) ∧ i.size = 2 ∧ i.bytes = 24 := by
  obtain ⟨i, h1, h2⟩ := Option.map_eq_some_iff.1 infoE
  simp only [Prod.mk.injEq] at h2
  exact ⟨i, h1, h2.1, h2.2.1, h2.2.2⟩
def In (w : World) (p : Option Addr) (l : List Tk) : Prop :=
  l = [] ∨ ∃ x : Addr, p = some x ∧ ∀ j u, (rowE l)[j]? = some u → w.cell? (x.add j) = some u
theorem In.step {w w' : World} {p : Option Addr} {l : List Tk} (h : In w p l) (hb : Bl w w') : In w' p l := by
  rcases h with h | ⟨x, h1, h2⟩
  · exact Or.inl h
  · exact Or.inr ⟨x, h1, fun k u hk => at_bl hb (h2 k u hk)⟩
theorem In.at {w : World} {p : Option Addr} {l : List Tk} (h : In w p l) (k : Nat) (hk : k < l.length) : ∃ x : Addr, p = some x ∧ w.cell? (x.add (k * 2)) = some (.string (tx l[k].t)) ∧ w.cell? (x.add (k * 2 + 1)) = some (.int .i64 (l[k].a : Int)) := by
  rcases h with h | ⟨x, h1, h2⟩
  · subst h; exact absurd hk (Nat.not_lt_zero _)
  · obtain ⟨a, b⟩ := rowE_get l k hk
    exact ⟨x, h1, h2 _ _ a, h2 _ _ b⟩
theorem add_next (x : Addr) (m j : Nat) : x.add (m + (j + 1)) = ⟨(x.add m).block, (x.add m).off + (j + 1), none⟩ := by
  cases m with
  | zero => rw [Nat.zero_add, Addr.add_succ', Addr.add_zero']
  | succ m => rw [show m + 1 + (j + 1) = (m + 1 + j) + 1 by omega, Addr.add_succ', Addr.add_succ']; simp; omega
theorem In.at' {w : World} {p : Option Addr} {l : List Tk} (h : In w p l) (k : Nat) (hk : k < l.length) : ∃ x : Addr, p = some x ∧ w.cell? (x.add (k * 2)) = some (.string (tx l[k].t)) ∧ w.cell? ⟨(x.add (k * 2)).block, (x.add (k * 2)).off + 1, none⟩ = some (.int .i64 (l[k].a : Int)) := by
  obtain ⟨x, h1, h2, h3⟩ := h.at k hk
  rw [add_next x (k * 2) 0] at h3
  exact ⟨x, h1, h2, h3⟩
theorem In.tail {w : World} {x : Addr} {e : Tk} {l : List Tk} (h : In w (some x) (e :: l)) : In w (some (x.add 2)) l := by
  rcases h with h | ⟨y, h1, h2⟩
  · cases h
  · injection h1 with h1
    subst h1
    refine Or.inr ⟨_, rfl, fun j u hu => ?_⟩
    have := h2 (2 + j) u (by rw [rowE_cons, List.getElem?_append_right (by simp)]; simpa using hu)
    rw [Addr.add_add]
    exact this
theorem In.cut {w : World} {x : Addr} {e : Tk} {l : List Tk} {m c : Nat} (h : In w (some x) (e :: l)) (hm : (e :: l).length = m) (hc : m ≤ c) : In w (if c = 1 then some x else some ⟨x.block, x.off + 2, none⟩) l ∧ m - 1 = l.length ∧ l.length ≤ c - 1 := by
  have hl : m = l.length + 1 := by rw [← hm]; simp
  refine ⟨?_, by omega, by omega⟩
  by_cases h1 : c = 1
  · exact Or.inl (List.eq_nil_of_length_eq_zero (by omega))
  · rw [if_neg h1]
    have := h.tail
    rw [Addr.add_succ'] at this
    exact this
def View (w : World) (v : Value) (l : List Tk) : Prop := ∃ p c, v = .slice p l.length c ∧ l.length ≤ c ∧ In w p l
theorem View.step {w w' : World} {v : Value} {l : List Tk} (h : View w v l) (hb : Bl w w') : View w' v l := by
  obtain ⟨p, c, h1, h0, h2⟩ := h
  exact ⟨p, c, h1, h0, h2.step hb⟩
def Own (w : World) (base : Nat) (v : Value) (l : List Tk) : Prop := w.ownsRow base 145 2 v l.length (rowE l)
theorem Own.nil (w : World) (base : Nat) : Own w base (.slice none 0 0) [] := World.ownsRow_nil _ _ _ _
theorem Own.shape {w : World} {base : Nat} {v : Value} {l : List Tk} (h : Own w base v l) : (v = .slice none 0 0 ∧ l = []) ∨
    ∃ g cap, v = .slice (some ⟨g, 0, none⟩) l.length cap ∧ base ≤ g ∧ g < w.heap.size ∧ l.length ≤ cap ∧ cap ≤ maxLen ∧ (∀ j, w.frozen? ⟨g, j, none⟩ = false) ∧ ∀ j u, (rowE l)[j]? = some u → w.cell? ⟨g, j, none⟩ = some u := by
  rcases h.2 with ⟨h1, h2⟩ | ⟨g, cap, cur, rfl, hbg, hg, hnc, hcm, hcs, htake⟩
  · exact Or.inl ⟨h1, List.eq_nil_of_length_eq_zero h2⟩
  · refine Or.inr ⟨g, cap, rfl, hbg, lt_of_heap hg, hnc, hcm, fun j => by simp [World.frozen?, hg], fun j u hu => ?_⟩
    have hj : j < l.length * 2 := by
      have := (List.getElem?_eq_some_iff.1 hu).1
      rw [rowE_len] at this
      exact this
    rw [← htake, List.getElem?_take, if_pos hj] at hu
    rw [cell_of hg]
    simpa using hu
theorem Own.kind {w : World} {base g n cap : Nat} {l : List Tk} (h : Own w base (.slice (some ⟨g, 0, none⟩) n cap) l) : ∃ cur, w.heap[g]? = some (.cells cur 145 (0, 0)) := by
  rcases h.2 with ⟨h1, _⟩ | ⟨g', cap', cur, h1, h2, h3, _⟩
  · cases h1
  · simp only [Value.slice.injEq, Option.some.injEq, Addr.mk.injEq] at h1
    obtain ⟨⟨rfl, _, _⟩, _, _⟩ := h1
    exact ⟨cur, h3⟩
theorem Own.view {w : World} {base : Nat} {v : Value} {l : List Tk} (h : Own w base v l) : View w v l := by
  rcases h.shape with ⟨rfl, rfl⟩ | ⟨g, cap, rfl, _, _, h4, _, _, hc⟩
  · exact ⟨none, 0, rfl, Nat.le_refl _, Or.inl rfl⟩
  · exact ⟨_, cap, rfl, h4, Or.inr ⟨_, rfl, fun j u hu => by rw [Addr.add_lit, Nat.zero_add]; exact hc j u hu⟩⟩
theorem Own.block {w : World} {base : Nat} {v : Value} {l : List Tk} (h : Own w base v l) : ∀ k, v.ownBlock = some k → base ≤ k ∧ k < w.heap.size := World.ownsRow.lt h
theorem Own.step {w w' : World} {base : Nat} {v : Value} {l : List Tk} (h : Own w base v l) (hb : Bl w w') : Own w' base v l := by
  refine ⟨h.1, ?_⟩
  rcases h.2 with h | ⟨g, cap, cur, h1, h2, h3, h4⟩
  · exact Or.inl h
  · refine Or.inr ⟨g, cap, cur, h1, h2, ?_, h4⟩
    rw [Below.block hb g (lt_of_heap h3)]
    exact h3
theorem Own.low {w : World} {base base' : Nat} {v : Value} {l : List Tk} (h : Own w base v l) (hb : base' ≤ base) : Own w base' v l := by
  refine ⟨h.1, ?_⟩
  rcases h.2 with h | ⟨g, cap, cur, h1, h2, h3⟩
  · exact Or.inl h
  · exact Or.inr ⟨g, cap, cur, h1, by omega, h3⟩
theorem Own.kept {w w' : World} {base : Nat} {v : Value} {l : List Tk} {row : Option Nat} (h : Own w base v l) (hg : w.grownBy w' row) (hne : ∀ k, v.ownBlock = some k → row ≠ some k) : Own w' base v l :=
  World.ownsRow.kept h hg (by
    cases e : v.ownBlock with
    | none => exact Or.inl rfl
    | some k => exact Or.inr (fun e' => hne k e e'.symm))
theorem Own.set {w : World} {base g cap j : Nat} {l l' : List Tk} {u : Value} (h : Own w base (.slice (some ⟨g, 0, none⟩) l.length cap) l) (hl : l'.length = l.length) (hr : rowE l' = (rowE l).set j u) : Own (w.setCell ⟨g, j, none⟩ u) base (.slice (some ⟨g, 0, none⟩) l'.length cap) l' := by
  refine ⟨by rw [rowE_len], ?_⟩
  rcases h.2 with ⟨h1, _⟩ | ⟨g', cap', cur, h1, h2, h3, h4, h5, h6, h7⟩
  · cases h1
  · simp only [Value.slice.injEq, Option.some.injEq, Addr.mk.injEq] at h1
    obtain ⟨⟨rfl, _, _⟩, _, rfl⟩ := h1
    refine Or.inr ⟨g, cap, cur.setIfInBounds j u, rfl, h2, ?_, by omega, h5, by simpa using h6, ?_⟩
    · simp [World.setCell, h3, Array.getElem?_modify]
    · rw [hr, ← h7, hl, Array.toList_setIfInBounds, List.take_set]
theorem app_many (w : World) (base : Nat) (v : Value) (l : List Tk) (z : List Tk) (x : Addr) (c : Nat) (hown : Own w base v l) (hX : ∀ j u, (rowE z)[j]? = some u → w.cell? (x.add j) = some u) (hn : l.length + z.length ≤ 100000) (hb : base ≤ w.heap.size) :
    ∃ v' w', (Builtin.append_ #[89, 89] 89 #[v, .slice (some x) z.length c]).run Tryz.prog w = .ok v' w' ∧ Own w' base v' (l ++ z) ∧ w.grownBy w' v.ownBlock := by
  obtain ⟨i, hi, hz, h1, h2⟩ := infoE'
  obtain ⟨v', w', hr, ho, hg, _⟩ := run_append_own (P := Tryz.prog) w base 89 89 145 i (.agg #[.string ⟨#[]⟩, .int .i64 0]) 2 24 Tryz.underlying89 hi hz h1 h2 rfl (by decide) v l.length (rowE l) hown
    x z.length c (rowE z) (rowE_len z) hX (rowE_one z) (by simp [maxLen]; omega) (by omega) hb
  refine ⟨v', w', hr, ?_, hg⟩
  unfold Own
  rw [rowE_append, List.length_append]
  exact ho
theorem app_one (w : World) (base : Nat) (v : Value) (l : List Tk) (z : Tk) (X : Nat) (hown : Own w base v l) (hX : w.cell? ⟨X, 0, none⟩ = some (.string (tx z.t))) (hX1 : w.cell? ⟨X, 1, none⟩ = some (.int .i64 (z.a : Int))) (hn : l.length ≤ 20000) (hb : base ≤ w.heap.size) :
    ∃ v' w', (Builtin.append_ #[89, 89] 89 #[v, .slice (some ⟨X, 0, none⟩) 1 1]).run Tryz.prog w = .ok v' w' ∧ Own w' base v' (l ++ [z]) ∧ w.grownBy w' v.ownBlock :=
  app_many w base v l [z] ⟨X, 0, none⟩ 1 hown (fun j u hu => by
    rcases j with _ | _ | j
    · simp [rowE] at hu; subst hu; simpa [Addr.add] using hX
    · simp [rowE] at hu; subst hu; simpa [Addr.add] using hX1
    · simp [rowE] at hu) (by simp; omega) hb
end Go.Proofs.YtococaecjecjgaaGreatDoor.tr
namespace Go.Proofs.YtococaecjecjgaaGreatDoor.lx
set_option linter.unusedVariables false
open Go.ChangeShapes Go.WideShapes Go.ChangeAt Go.RowKit
open mem
def Calm (Q : Exit → Act → World → Prop) : Exit → Act → World → Prop
  | .normal, a, w => Q .normal a w
  | _, _, _ => False
theorem wp_calm {P : Program} {c : Code} {Q : Exit → Act → World → Prop} {a : Act} {w : World} (h : c.wp P (Calm Q) a w) : c.wp P Q a w :=
  wp_mono h (fun e a w q => by
    cases e with
    | normal => exact q
    | exit _ => exact q.elim
    | goto _ => exact q.elim
    | ret => exact q.elim
    | panic _ => exact q.elim
    | outgrown => exact q.elim)
theorem Calm.in {Q : Exit → Act → World → Prop} {a : Act} {w : World} (h : Q .normal a w) : Calm Q .normal a w := h
theorem step_append_run {P : Program} {ops : Array Oper} {o : Oper} {a : Act} {w : World} {K : Act → World → Prop} {Q : Exit → Act → World → Prop} {E : Prop}
    (hg : o.guard = none) (s x : Operand) (t tx : TypeId) (hop : o.op = Op.call { callee := Callee.builtin Builtin.append, args := #[s, x], argTypes := #[t, tx] })
    (vs vx : Value) (hs : a.eval s = vs) (hx : a.eval x = vx) (v' : Value) (w' : World) (hr : (Builtin.append_ #[t, tx] o.type #[vs, vx]).run P w = .ok v' w') (hK : K (a.put o.dst v') w') :
    if Region.wanted o (yielded ops a.tmps) = true then Oper.wp P o a w K Q else E := by
  have hw : Region.wanted o (yielded ops a.tmps) = true := by simp [Region.wanted, hg]
  rw [if_pos hw]
  exact Lib.wp_append_run w s x t tx hop vs vx hs hx v' w' hr hK
theorem lt_of_some {w : World} {k : Nat} {o : Obj} (h : w.heap[k]? = some o) : k < w.heap.size := by
  rcases Nat.lt_or_ge k w.heap.size with h' | h'
  · exact h'
  · rw [Array.getElem?_eq_none h'] at h; cases h
def Vr (w : World) (b : Nat) (v : Value) (t : TypeId) : Prop := w.heap[b]? = some (.cells #[v] t (0, 0))
theorem Vr.lt {w : World} {b : Nat} {v : Value} {t : TypeId} (h : Vr w b v t) : b < w.heap.size := lt_of_some h
theorem Vr.cell {w : World} {b : Nat} {v : Value} {t : TypeId} (h : Vr w b v t) : w.cell? ⟨b, 0, none⟩ = some v := by
  unfold Vr at h
  simp [World.cell?, h]
theorem Vr.frozen {w : World} {b : Nat} {v : Value} {t : TypeId} (h : Vr w b v t) : w.frozen? ⟨b, 0, none⟩ = false := by
  unfold Vr at h
  simp [World.frozen?, h]
theorem Vr.new (w : World) (v : Value) (t : TypeId) : Vr (w.alloc (.cells #[v] t)) w.heap.size v t := by
  show (w.heap.push _)[w.heap.size]? = _
  rw [Array.getElem?_push, if_pos rfl]
theorem Vr.step {w w' : World} {b : Nat} {v : Value} {t : TypeId} (h : Vr w b v t) (hb : Bl w w') : Vr w' b v t := by
  have := h.lt
  unfold Vr at h ⊢
  rw [Below.block hb _ this]
  exact h
theorem Vr.set {w : World} {b : Nat} {v : Value} {t : TypeId} (h : Vr w b v t) (x : Value) : Vr (w.setCell ⟨b, 0, none⟩ x) b x t := by
  unfold Vr at h ⊢
  simp [World.setCell, Array.getElem?_modify, h]
theorem Vr.set_other {w : World} {b c j : Nat} {v : Value} {t : TypeId} (h : Vr w b v t) (hne : c ≠ b) (x : Value) : Vr (w.setCell ⟨c, j, none⟩ x) b v t := by
  unfold Vr at h ⊢
  simp [World.setCell, Array.getElem?_modify, hne, h]
theorem Vr.grown {w w' : World} {b : Nat} {v : Value} {t : TypeId} {row : Option Nat} (h : Vr w b v t) (hg : w.grownBy w' row) (hne : row ≠ some b) : Vr w' b v t := by
  have := h.lt
  unfold Vr at h ⊢
  rw [hg.block b this (fun e => hne e.symm)]
  exact h
end Go.Proofs.YtococaecjecjgaaGreatDoor.lx
