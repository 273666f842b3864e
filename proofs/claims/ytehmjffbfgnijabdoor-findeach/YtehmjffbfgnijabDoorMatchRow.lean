/- A row of matches that grows: what append makes of it, and what lies in it then. -/
import Derived.Test.YtehmjffbfgnijabDoorChecked
import Derived.Test.YtehmjffbfgnijabDoorMem
import Derived.Laws.AppendOwn
import Derived.Lib.AppendZeros
namespace Go.Proofs.YtehmjffbfgnijabDoor.rows
set_option linter.unusedVariables false
open Go.ChangeShapes Go.WideShapes Go.ChangeAt Go.RowKit
open mem

/-- Spans, as cells. -/
def rowS (l : List (Int × Int)) : List Value := l.flatMap fun x => [.int .i64 x.1, .int .i64 x.2]
theorem rowS_len (l : List (Int × Int)) : (rowS l).length = l.length * 2 := by
  induction l with
  | nil => rfl
  | cons x l ih => unfold rowS at ih ⊢; rw [List.flatMap_cons, List.length_append, ih]; simp; omega
theorem rowS_append (a b : List (Int × Int)) : rowS (a ++ b) = rowS a ++ rowS b := by unfold rowS; rw [List.flatMap_append]
theorem rowS_get (l : List (Int × Int)) (k : Nat) (h : k < l.length) : (rowS l)[2 * k]? = some (.int .i64 (l.getD k (0, 0)).1) ∧ (rowS l)[2 * k + 1]? = some (.int .i64 (l.getD k (0, 0)).2) := by
  induction l generalizing k with
  | nil => exact absurd h (Nat.not_lt_zero _)
  | cons x l ih =>
    have e : rowS (x :: l) = [.int .i64 x.1, .int .i64 x.2] ++ rowS l := by unfold rowS; rw [List.flatMap_cons]
    rw [e]
    cases k with
    | zero => exact ⟨rfl, rfl⟩
    | succ k =>
      have := ih k (by simpa using h)
      rw [show 2 * (k + 1) = 2 * k + 2 by omega]
      exact this
theorem infoS : (Tryd.prog.info? 36).map (fun i => (i.zero, i.size, i.bytes)) = some (some (.agg #[.int .i64 0, .int .i64 0]), 2, 16) := by kernel_rfl
theorem infoS' : ∃ i, Tryd.prog.info? 36 = some i ∧ i.zero = some (.agg #[.int .i64 0, .int .i64 0]) ∧ i.size = 2 ∧ i.bytes = 16 := by
  obtain ⟨i, h1, h2⟩ := Option.map_eq_some_iff.1 infoS
  simp only [Prod.mk.injEq] at h2
  exact ⟨i, h1, h2.1, h2.2.1, h2.2.2⟩
/-- A row of the call's own that holds just these spans. -/
def OwnS (w : World) (base : Nat) (v : Value) (l : List (Int × Int)) : Prop := w.ownsRow base 36 2 v l.length (rowS l)
theorem OwnS.nil (w : World) (base : Nat) : OwnS w base (.slice none 0 0) [] := World.ownsRow_nil _ _ _ _
theorem OwnS.shape {w : World} {base : Nat} {v : Value} {l : List (Int × Int)} (h : OwnS w base v l) : (v = .slice none 0 0 ∧ l = []) ∨
    ∃ g cap, v = .slice (some ⟨g, 0, none⟩) l.length cap ∧ base ≤ g ∧ g < w.heap.size ∧ l.length ≤ cap ∧ cap ≤ maxLen ∧ ∀ k, k < l.length → w.cell? ⟨g, 2 * k, none⟩ = some (.int .i64 (l.getD k (0, 0)).1) ∧ w.cell? ⟨g, 2 * k + 1, none⟩ = some (.int .i64 (l.getD k (0, 0)).2) := by
  rcases h.2 with ⟨h1, h2⟩ | ⟨g, cap, cur, rfl, hbg, hg, hnc, hcm, hcs, htake⟩
  · exact Or.inl ⟨h1, List.eq_nil_of_length_eq_zero h2⟩
  · refine Or.inr ⟨g, cap, rfl, hbg, ?_, hnc, hcm, fun k hk => ?_⟩
    · rcases Nat.lt_or_ge g w.heap.size with h | h
      · exact h
      · rw [Array.getElem?_eq_none h] at hg; cases hg
    · obtain ⟨h0, h1⟩ := rowS_get l k hk
      rw [← htake, List.getElem?_take, if_pos (by omega)] at h0 h1
      simp only [World.cell?, hg]
      exact ⟨by simpa using h0, by simpa using h1⟩
theorem OwnS.block {w : World} {base : Nat} {v : Value} {l : List (Int × Int)} (h : OwnS w base v l) : ∀ k, v.ownBlock = some k → base ≤ k ∧ k < w.heap.size := World.ownsRow.lt h
theorem OwnS.step {w w' : World} {base : Nat} {v : Value} {l : List (Int × Int)} (h : OwnS w base v l) (hb : Bl w w') : OwnS w' base v l := by
  refine ⟨h.1, ?_⟩
  rcases h.2 with h | ⟨g, cap, cur, h1, h2, h3, h4⟩
  · exact Or.inl h
  · refine Or.inr ⟨g, cap, cur, h1, h2, ?_, h4⟩
    have hg : g < w.heap.size := by
      rcases Nat.lt_or_ge g w.heap.size with h | h
      · exact h
      · rw [Array.getElem?_eq_none h] at h3; cases h3
    rw [Below.block hb g hg]
    exact h3
theorem OwnS.kept {w w' : World} {base : Nat} {v : Value} {l : List (Int × Int)} {row : Option Nat} (h : OwnS w base v l) (hg : w.grownBy w' row) (hne : ∀ k, v.ownBlock = some k → row ≠ some k) : OwnS w' base v l :=
  World.ownsRow.kept h hg (by
    cases e : v.ownBlock with
    | none => exact Or.inl rfl
    | some k => exact Or.inr (fun e' => hne k e e'.symm))
theorem appS_one (w : World) (base : Nat) (v : Value) (l : List (Int × Int)) (z : Int × Int) (X : Nat) (hown : OwnS w base v l) (hX : w.cell? ⟨X, 0, none⟩ = some (.int .i64 z.1)) (hX1 : w.cell? ⟨X, 1, none⟩ = some (.int .i64 z.2)) (hn : l.length ≤ 20000) (hb : base ≤ w.heap.size) :
    ∃ v' w', (Builtin.append_ #[26, 26] 26 #[v, .slice (some ⟨X, 0, none⟩) 1 1]).run Tryd.prog w = .ok v' w' ∧ OwnS w' base v' (l ++ [z]) ∧ w.grownBy w' v.ownBlock := by
  obtain ⟨i, hi, hz, h1, h2⟩ := infoS'
  obtain ⟨v', w', hr, ho, hg, _⟩ := run_append_own (P := Tryd.prog) w base 26 26 36 i (.agg #[.int .i64 0, .int .i64 0]) 2 16 Tryd.underlying26 hi hz h1 h2 rfl (by decide) v l.length (rowS l) hown
    ⟨X, 0, none⟩ 1 1 [.int .i64 z.1, .int .i64 z.2] rfl (fun j u hu => by
      rcases j with _ | _ | j
      · simp at hu; subst hu; simpa [Addr.add] using hX
      · simp at hu; subst hu; simpa [Addr.add] using hX1
      · simp at hu) (fun u hu => by simp at hu; rcases hu with rfl | rfl <;> rfl) (by simp [maxLen]; omega) (by omega) hb
  refine ⟨v', w', hr, ?_, hg⟩
  unfold OwnS
  rw [rowS_append, List.length_append]
  exact ho
/-- An append of one span, as a step of a walk. -/
theorem wpL_appS {ops : Array Oper} {rest : List Oper} {o : Oper} {a : Act} {Q : Exit → Act → World → Prop} {w : World} (hgd : o.guard = none) (s x : Operand)
    (ho : o.op = .call { callee := .builtin .append, args := #[s, x], argTypes := #[26, 26] }) (hty : o.type = 26) (v : Value) (l : List (Int × Int)) (z : Int × Int) (X : Nat) (hs : a.eval s = v) (hx : a.eval x = .slice (some ⟨X, 0, none⟩) 1 1)
    (base : Nat) (hown : OwnS w base v l) (hX : w.cell? ⟨X, 0, none⟩ = some (.int .i64 z.1)) (hX1 : w.cell? ⟨X, 1, none⟩ = some (.int .i64 z.2)) (hn : l.length ≤ 20000) (hb : base ≤ w.heap.size)
    (h : ∀ v' w', OwnS w' base v' (l ++ [z]) → w.grownBy w' v.ownBlock → wpList Tryd.prog ops Q rest (a.put o.dst v') w') : wpList Tryd.prog ops Q (o :: rest) a w := by
  obtain ⟨v', w', hr, h1, h2⟩ := appS_one w base v l z X hown hX hX1 hn hb
  exact Lib.wpList_append_run w hgd s x _ _ ho v _ hs hx v' w' (by rw [hty]; exact hr) (h v' w' h1 h2)
end Go.Proofs.YtehmjffbfgnijabDoor.rows
