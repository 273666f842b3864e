/- A pattern of half bytes of a text's bytes; rows of numbers that are written. -/
import Derived.Test.YtehmjffbfgnijaaFd7
import Derived.Deep.RegionHeld3
namespace Go.Proofs.Ytehmjffbfgnijaa.find
set_option linter.unusedVariables false
open Go.ChangeShapes Go.WideShapes Go.ChangeAt Go.RowKit
open mem rows fd

theorem appM_two (w : World) (base : Nat) (v : Value) (l : List Int) (z1 z2 : Int) (X : Nat) (hown : Own w base v l) (hX : w.cell? ⟨X, 0, none⟩ = some (.int .i64 z1)) (hX1 : w.cell? ⟨X, 1, none⟩ = some (.int .i64 z2)) (hn : l.length ≤ 5000) (hb : base ≤ w.heap.size) :
    ∃ v' w', (Builtin.append_ #[36, 36] 36 #[v, .slice (some ⟨X, 0, none⟩) 2 2]).run Try.prog w = .ok v' w' ∧ Own w' base v' (l ++ [z1, z2]) ∧ w.grownBy w' v.ownBlock := by
  obtain ⟨i, hi, hz, h1, h2⟩ := infoI'
  obtain ⟨v', w', hr, ho, hg, _⟩ := run_append_own (P := Try.prog) w base 36 36 3 i (.int .i64 0) 1 8 Try.underlying36 hi hz h1 h2 rfl (by decide) v l.length (rowI l) hown
    ⟨X, 0, none⟩ 2 2 [.int .i64 z1, .int .i64 z2] rfl (fun j u hu => by
      rcases j with _ | _ | j
      · simp at hu; subst hu; simpa [Addr.add] using hX
      · simp at hu; subst hu; simpa [Addr.add] using hX1
      · simp at hu) (fun u hu => by simp at hu; rcases hu with rfl | rfl <;> rfl) (by simp [maxLen]; omega) (by omega) hb
  refine ⟨v', w', hr, ?_, hg⟩
  have e : rowI (l ++ [z1, z2]) = rowI l ++ [.int .i64 z1, .int .i64 z2] := by simp [rowI]
  unfold Own
  rw [e, List.length_append]
  exact ho
/-- An append of two numbers, as a step of a walk. -/
theorem wpL_appM2 {ops : Array Oper} {rest : List Oper} {o : Oper} {a : Act} {Q : Exit → Act → World → Prop} {w : World} (hgd : o.guard = none) (s x : Operand)
    (ho : o.op = .call { callee := .builtin .append, args := #[s, x], argTypes := #[36, 36] }) (hty : o.type = 36) (v : Value) (l : List Int) (z1 z2 : Int) (X : Nat) (hs : a.eval s = v) (hx : a.eval x = .slice (some ⟨X, 0, none⟩) 2 2)
    (base : Nat) (hown : Own w base v l) (hX : w.cell? ⟨X, 0, none⟩ = some (.int .i64 z1)) (hX1 : w.cell? ⟨X, 1, none⟩ = some (.int .i64 z2)) (hn : l.length ≤ 5000) (hb : base ≤ w.heap.size)
    (h : ∀ v' w', Own w' base v' (l ++ [z1, z2]) → w.grownBy w' v.ownBlock → wpList Try.prog ops Q rest (a.put o.dst v') w') : wpList Try.prog ops Q (o :: rest) a w := by
  obtain ⟨v', w', hr, h1, h2⟩ := appM_two w base v l z1 z2 X hown hX hX1 hn hb
  exact Lib.wpList_append_run w hgd s x _ _ ho v _ hs hx v' w' (by rw [hty]; exact hr) (h v' w' h1 h2)
theorem step_append_run {P : Program} {ops : Array Oper} {o : Oper} {a : Act} {w : World} {K : Act → World → Prop} {Q : Exit → Act → World → Prop} {E : Prop}
    (hg : o.guard = none) (s x : Operand) (t tx : TypeId) (hop : o.op = Op.call { callee := Callee.builtin Builtin.append, args := #[s, x], argTypes := #[t, tx] })
    (vs vx : Value) (hs : a.eval s = vs) (hx : a.eval x = vx) (v' : Value) (w' : World) (hr : (Builtin.append_ #[t, tx] o.type #[vs, vx]).run P w = .ok v' w') (hK : K (a.put o.dst v') w') :
    if Region.wanted o (yielded ops a.tmps) = true then Oper.wp P o a w K Q else E := by
  have hw : Region.wanted o (yielded ops a.tmps) = true := by simp [Region.wanted, hg]
  rw [if_pos hw]
  exact Lib.wp_append_run w s x t tx hop vs vx hs hx v' w' hr hK
/-- A number of a row of the call's own is written. -/
theorem own_set {w : World} {base g n c : Nat} {l : List Int} (h : Own w base (.slice (some ⟨g, 0, none⟩) n c) l) (k : Nat) (z : Int) (hk : k < l.length) :
    Own (w.setCell ⟨g, k, none⟩ (.int .i64 z)) base (.slice (some ⟨g, 0, none⟩) n c) (l.set k z) := by
  refine ⟨by simp [rowI], ?_⟩
  rcases h.2 with ⟨h1, _⟩ | ⟨g', cap, cur, h1, h2, h3, h4, h5, h6, h7⟩
  · cases h1
  · injection h1 with e1 e2 e3
    injection e1 with e1
    injection e1 with e1
    subst e1 e2 e3
    refine Or.inr ⟨g, c, cur.setIfInBounds k (.int .i64 z), by rw [List.length_set], h2, ?_, by rw [List.length_set]; exact h4, h5, by simpa using h6, ?_⟩
    · simp [World.setCell, Array.getElem?_modify, h3]
    · rw [List.length_set, Nat.mul_one, Array.toList_setIfInBounds, List.take_set]
      rw [Nat.mul_one] at h7
      rw [h7]
      simp [rowI, List.map_set]
theorem own_frozen {w : World} {base g n c : Nat} {l : List Int} (h : Own w base (.slice (some ⟨g, 0, none⟩) n c) l) (k : Nat) : w.frozen? ⟨g, k, none⟩ = false := by
  rcases h.2 with ⟨h1, _⟩ | ⟨g', cap, cur, h1, h2, h3, _⟩
  · cases h1
  · injection h1 with e1
    injection e1 with e1
    injection e1 with e1
    subst e1
    simp [World.frozen?, h3]
theorem own_other {w : World} {base : Nat} {v : Value} {l : List Int} (h : Own w base v l) {a : Addr} (ha : v.ownBlock ≠ some a.block) (x : Value) : Own (w.setCell a x) base v l := by
  refine ⟨h.1, ?_⟩
  rcases h.2 with h | ⟨g, cap, cur, h1, h2, h3, h4⟩
  · exact Or.inl h
  · refine Or.inr ⟨g, cap, cur, h1, h2, ?_, h4⟩
    have hne : ¬ a.block = g := by
      intro e
      subst h1
      exact ha (by rw [e]; rfl)
    simp [World.setCell, Array.getElem?_modify, hne, h3]
/-- The halves of the first n bytes. -/
def mk (p : Nat → Int) : Nat → List Int
  | 0 => []
  | i + 1 => mk p i ++ [p i / 16, p i % 16]
theorem mk_len (p : Nat → Int) (n : Nat) : (mk p n).length = 2 * n := by
  induction n with
  | zero => rfl
  | succ n ih => rw [mk, List.length_append, ih]; simp; omega
theorem mk_at (p : Nat → Int) (n j : Nat) (h : j < n) : mfn (mk p n) (2 * j) = p j / 16 ∧ mfn (mk p n) (2 * j + 1) = p j % 16 := by
  unfold mfn
  induction n with
  | zero => exact absurd h (Nat.not_lt_zero _)
  | succ n ih =>
    have hl := mk_len p n
    rw [mk, List.getD_eq_getElem?_getD, List.getD_eq_getElem?_getD]
    rcases Nat.lt_or_ge j n with h' | h'
    · rw [List.getElem?_append_left (by omega), List.getElem?_append_left (by omega), ← List.getD_eq_getElem?_getD, ← List.getD_eq_getElem?_getD]
      exact ih h'
    · obtain rfl : j = n := by omega
      rw [List.getElem?_append_right (by omega), List.getElem?_append_right (by omega), hl]
      simp
theorem mk_lks (p f : Nat → Int) (n N : Nat) (hp : ∀ j, 0 ≤ p j) (hf : ∀ j, 0 ≤ f j) : lks (mfn (mk p n)) f n N = pls p f n N := by
  unfold lks pls
  exact sta_congr _ _ _ fun x _ => SM_plain _ p f n x (fun j hj => (mk_at p n j hj).1) (fun j hj => (mk_at p n j hj).2) hp hf
theorem mfn_set (m : List Int) (k : Nat) (j : Nat) : mfn (m.set k (-1)) j = mfn m j ∨ mfn (m.set k (-1)) j < 0 := by
  unfold mfn
  rw [List.getD_eq_getElem?_getD, List.getD_eq_getElem?_getD, List.getElem?_set]
  split
  · rename_i h
    subst h
    split
    · exact Or.inr (by simp)
    · rename_i h'
      exact Or.inl (by rw [List.getElem?_eq_none (by omega)])
  · exact Or.inl rfl
theorem lks_more (m : List Int) (k : Nat) (f : Nat → Int) (n N x : Nat) (h : x ∈ lks (mfn m) f n N) : x ∈ lks (mfn (m.set k (-1))) f n N := by
  unfold lks at h ⊢
  rw [mem_sta] at h ⊢
  exact ⟨h.1, SM_more _ _ _ _ _ (mfn_set m k) h.2⟩
end Go.Proofs.Ytehmjffbfgnijaa.find
