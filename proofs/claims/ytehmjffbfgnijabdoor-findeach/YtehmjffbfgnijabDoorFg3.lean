/- A tree of beginnings with one more. -/
import Derived.Test.YtehmjffbfgnijabDoorFg2
namespace Go.Proofs.YtehmjffbfgnijabDoor.tree
set_option linter.unusedVariables false
open Go.ChangeShapes Go.WideShapes Go.ChangeAt Go.RowKit Go.Maps
open mem rows fd

/-- What lay below base, and rows of numbers, are as they were. -/
structure Fr (w w' : World) (base : Nat) : Prop where
  os : w'.os = w.os
  tape : w'.tape = w.tape
  output : w'.output = w.output
  size : w.heap.size ≤ w'.heap.size
  block : ∀ k, k < w.heap.size → (k < base ∨ ∃ cur fr, w.heap[k]? = some (.cells cur 3 fr)) → w'.heap[k]? = w.heap[k]?
theorem Fr.refl (w : World) (base : Nat) : Fr w w base := ⟨rfl, rfl, rfl, Nat.le_refl _, fun _ _ _ => rfl⟩
theorem Fr.trans {a b c : World} {base : Nat} (h : Fr a b base) (k : Fr b c base) : Fr a c base :=
  ⟨k.os.trans h.os, k.tape.trans h.tape, k.output.trans h.output, Nat.le_trans h.size k.size, fun j hj hor => by
    have e := h.block j hj hor
    rw [← e]
    refine k.block j (Nat.lt_of_lt_of_le hj h.size) ?_
    rcases hor with h1 | h1
    · exact Or.inl h1
    · exact Or.inr (by rw [e]; exact h1)⟩
theorem Fr.of_bl {w w' : World} {base : Nat} (h : Bl w w') : Fr w w' base := ⟨h.os, h.tape, h.output, h.size, fun k hk _ => h.block k hk⟩
theorem Fr.of_grown {w w' : World} {base g : Nat} (h : w.grownBy w' (some g)) (hb : base ≤ g) (hne : ∀ cur fr, w.heap[g]? ≠ some (.cells cur 3 fr)) : Fr w w' base :=
  ⟨h.os, h.tape, h.output, h.size, fun k hk hor => h.block k hk (fun e => by
    injection e with e
    subst e
    rcases hor with h1 | ⟨cur, fr, h1⟩
    · omega
    · exact hne cur fr h1)⟩
theorem Fr.bl {w w' : World} (h : Fr w w' w.heap.size) : Bl w w' := ⟨h.os, h.tape, h.output, h.size, fun k hk => h.block k hk (Or.inl hk)⟩
theorem Fr.from {w0 w w' : World} {base : Nat} (h0 : Bl w0 w) (h : Fr w w' base) (hb : w0.heap.size ≤ base) : Bl w0 w' :=
  ⟨h.os.trans h0.os, h.tape.trans h0.tape, h.output.trans h0.output, Nat.le_trans h0.size h.size, fun k hk => by
    rw [h.block k (Nat.lt_of_lt_of_le hk h0.size) (Or.inl (by omega))]; exact h0.block k hk⟩
theorem Mp.mono {w : World} {b n n' : Nat} {f : Int → Option Nat} (h : Mp w b f n) (hn : n ≤ n') : Mp w b f n' := by
  obtain ⟨D, h1, h2⟩ := h
  exact ⟨D, h1.mono hn, h2⟩
theorem Ld.mono {w : World} {base n n' : Nat} {v : Value} {f : Int → Option Nat} (h : Ld w base v f n) (hn : n ≤ n') : Ld w base v f n' := by
  rcases h with h | ⟨b, h1, h2, h3⟩
  · exact Or.inl h
  · exact Or.inr ⟨b, h1, h2, h3.mono hn⟩
theorem Ld.congr {w : World} {base n : Nat} {v : Value} {f f' : Int → Option Nat} (h : Ld w base v f n) (e : ∀ c, 0 ≤ c ∧ c < 256 → f' c = f c) : Ld w base v f' n := by
  rcases h with ⟨h1, h2⟩ | ⟨b, h1, h2, h3⟩
  · exact Or.inl ⟨h1, fun c hc => by rw [e c hc]; exact h2 c hc⟩
  · exact Or.inr ⟨b, h1, h2, h3.congr e⟩
theorem Mp.not_cells {w : World} {b n : Nat} {f : Int → Option Nat} (h : Mp w b f n) (cur : Array Value) (t : TypeId) (fr : Nat × Nat) : w.heap[b]? ≠ some (.cells cur t fr) := by
  obtain ⟨D, ⟨es, clock, hb, _⟩, _⟩ := h
  rw [hb]
  intro e
  cases e
theorem OwnT.not_int {w : World} {base m g c : Nat} {lv : Nat → Value} {E W : Nat → Nat} (h : OwnT w base (.slice (some ⟨g, 0, none⟩) m c) m lv E W) (cur : Array Value) (fr : Nat × Nat) : w.heap[g]? ≠ some (.cells cur 3 fr) := by
  rcases h.2 with ⟨h1, _⟩ | ⟨g', cap, cur', h1, h2, h3, _⟩
  · cases h1
  · injection h1 with e1
    injection e1 with e1
    injection e1 with e1
    subst e1
    rw [h3]
    intro e
    injection e with e
    injection e with e1 e2
    revert e2
    decide
/-- The tree behind the map of one has been written and the row has grown. -/
theorem TR.grown {w w1 w2 : World} {base m n a b e g cap : Nat} {v' : Value} {tx : Nat → List Int} {E W : Nat → Nat} {lv : Nat → Value} {c : Int} {o : Obj} (T : Tr tx E m) (ha : a < m) (hc : 0 ≤ c ∧ c < 256)
    (hn : ix tx m (tx a ++ [c]) = none) (hl : ∀ i, i < m → (tx i).length ≤ (tx a).length + 1) (he : LS tx m ((tx a ++ [c]).drop 1) e)
    (hrow : OwnT w base (.slice (some ⟨g, 0, none⟩) m cap) m lv E W) (hld : ∀ i, i < m → i ≠ a → Ld w base (lv i) (fun d => ix tx m (tx i ++ [d])) n) (hva : lv a = .map (some b)) (hb : base ≤ b)
    (hap : ∀ i j b, i < m → j < m → lv i = .map (some b) → lv j = .map (some b) → i = j)
    (hmp : Mp w b (fun d => ix tx m (tx a ++ [d])) n) (hg1 : w.grownBy w1 (some b)) (hmp1 : Mp w1 b (fun d => if d = c then some m else ix tx m (tx a ++ [d])) (n + 1))
    (hrow2 : OwnT w2 base v' (m + 1) (fun j => if j = m then .map none else lv j) (fun j => if j = m then e else E j) (fun j => if j = m then W e else W j)) (hg2 : (w1.alloc o).grownBy w2 (some g)) (hbg : base ≤ g) :
    TR w2 base v' (m + 1) (fun j => if j = m then tx a ++ [c] else tx j) (fun j => if j = m then e else E j) (fun j => if j = m then W e else W j) (fun j => if j = m then .map none else lv j) (n + 1) ∧ Fr w w2 base := by
  have hgb : g ≠ b := fun h => by
    rcases hrow.2 with ⟨h1, _⟩ | ⟨g', cap', cur, h1, _, h3, _⟩
    · cases h1
    · injection h1 with e1
      injection e1 with e1
      injection e1 with e1
      subst e1
      rw [h] at h3
      exact hmp.not_cells _ _ _ h3
  have hga : w1.grownBy (w1.alloc o) none := World.grownBy_alloc w1 o none
  have hga2 : ∀ k, some k ≠ some g → ∀ (f : Int → Option Nat) (q : Nat), Mp w1 k f q → Mp w2 k f q := fun k hk f q h => (h.kept hga (by simp)).kept hg2 hk
  have hgL : g < w.heap.size := by
    rcases hrow.2 with ⟨h1, _⟩ | ⟨g', cap', cur, h1, _, h3, _⟩
    · cases h1
    · injection h1 with e1
      injection e1 with e1
      injection e1 with e1
      subst e1
      exact (Array.getElem?_eq_some_iff.1 h3).1
  have hrow1 := hrow.kept hg1 (fun k e1 e2 => by
    have : g = k := by simpa [Value.ownBlock] using e1
    have : b = k := by simpa using e2
    omega)
  refine ⟨⟨T.grow a e c ha hn hl he, hrow2, fun i hi => ?_, fun i j k hi hj h1 h2 => ?_⟩, ?_⟩
  · have ig := fun u => ix_grow tx m (tx a ++ [c]) u hn
    rcases Nat.lt_or_ge i m with h | h
    · rw [if_neg (by omega), if_neg (by omega)]
      by_cases hia : i = a
      · subst hia
        rw [hva]
        refine Or.inr ⟨b, rfl, hb, (hga2 b (by simp; exact fun h => hgb h.symm) _ _ hmp1).congr fun d hd => ?_⟩
        rw [ig]
        by_cases hdc : d = c
        · subst hdc; rw [if_pos rfl, if_pos rfl]
        · rw [if_neg hdc, if_neg (fun h => hdc (by simpa using h))]
      · refine (((((hld i h hia).kept hg1 (fun k hk e => ?_)).kept hga (fun _ _ h => by cases h)).kept hg2 (fun k hk e => ?_)).mono (Nat.le_succ n)).congr fun d hd => ?_
        · injection e with e
          subst e
          exact hia (hap i a b h ha hk hva)
        · injection e with e
          subst e
          rcases hld i h hia with ⟨h1, _⟩ | ⟨b', h1, _, h3⟩
          · rw [h1] at hk; cases hk
          · rw [h1] at hk
            injection hk with hk
            injection hk with hk
            subst hk
            rcases hrow.2 with ⟨q1, _⟩ | ⟨g', cap', cur, q1, _, q3, _⟩
            · cases q1
            · injection q1 with e1
              injection e1 with e1
              injection e1 with e1
              subst e1
              exact h3.not_cells _ _ _ q3
        · rw [ig, if_neg]
          intro hq
          exact hia (T.inj i a h ha (List.append_inj' hq rfl).1)
    · obtain rfl : i = m := by omega
      rw [if_pos rfl, if_pos rfl]
      refine Or.inl ⟨rfl, fun d hd => ?_⟩
      show ix _ _ _ = none
      rw [ig, if_neg (fun h => by have := congrArg List.length h; simp at this)]
      cases hq : ix tx i (tx a ++ [c] ++ [d]) with
      | none => rfl
      | some j =>
        obtain ⟨q1, q2⟩ := ix_some hq
        obtain ⟨j', q3, q4⟩ := T.closed j q1 _ _ q2
        exact absurd q4 (ix_none hn j' q3)
  · rcases Nat.lt_or_ge i m with hi' | hi'
    · rcases Nat.lt_or_ge j m with hj' | hj'
      · rw [if_neg (by omega)] at h1 h2
        exact hap i j k hi' hj' h1 h2
      · obtain rfl : j = m := by omega
        rw [if_pos rfl] at h2; cases h2
    · obtain rfl : i = m := by omega
      rw [if_pos rfl] at h1; cases h1
  · refine (Fr.of_grown hg1 hb (fun cur fr => hmp.not_cells cur _ fr)).trans ((Fr.of_bl ((Bl.refl w1).alloc o)).trans (Fr.of_grown hg2 hbg (fun cur fr => ?_)))
    exact (hrow1.step ((Bl.refl w1).alloc o)).not_int cur fr
end Go.Proofs.YtehmjffbfgnijabDoor.tree
