/- Texts laid together: Ri, Ty5, TyP, Qi, Ty6. -/
import Derived.Test.YtococaecjecjgaaGreatDoorXLayoutReads4
import Derived.Laws.AppendOwn
import Derived.Lib.AppendZeros
import Derived.Test.YtococaecjecjgaaGreatDoorXLayoutReads23
import Derived.Deep.Upon
import Derived.Deep.OwnRows
namespace Go.Proofs.YtococaecjecjgaaGreatDoor.ri
set_option linter.unusedVariables false
open Go.ChangeShapes Go.WideShapes Go.ChangeAt Go.RowKit
open mem

def rowI (l : List Int) : List Value := l.map (Value.int .i64)
theorem rowI_get (l : List Int) (k : Nat) (h : k < l.length) : (rowI l)[k]? = some (.int .i64 (l.getD k 0)) := by simp [rowI, h]
theorem infoI : (Tryz.prog.info? 3).map (fun i => (i.zero, i.size, i.bytes)) = some (some (.int .i64 0), 1, 8) := by kernel_rfl
theorem infoI' : ∃ i, Tryz.prog.info? 3 = some i ∧ i.zero = some (.int .i64 0) ∧ i.size = 1 ∧ i.bytes = 8 := by
  obtain ⟨i, h1, h2⟩ := Option.map_eq_some_iff.1 infoI
  simp only [Prod.mk.injEq] at h2
  exact ⟨i, h1, h2.1, h2.2.1, h2.2.2⟩
def Own (w : World) (base : Nat) (v : Value) (l : List Int) : Prop := w.ownsRow base 3 1 v l.length (rowI l)
theorem Own.nil (w : World) (base : Nat) : Own w base (.slice none 0 0) [] := World.ownsRow_nil _ _ _ _
theorem Own.shape {w : World} {base : Nat} {v : Value} {l : List Int} (h : Own w base v l) : (v = .slice none 0 0 ∧ l = []) ∨
    ∃ g cap, v = .slice (some ⟨g, 0, none⟩) l.length cap ∧ base ≤ g ∧ g < w.heap.size ∧ l.length ≤ cap ∧ cap ≤ maxLen ∧ ∀ k, k < l.length → w.cell? ⟨g, k, none⟩ = some (.int .i64 (l.getD k 0)) := by
  rcases h.2 with ⟨h1, h2⟩ | ⟨g, cap, cur, rfl, hbg, hg, hnc, hcm, hcs, htake⟩
  · exact Or.inl ⟨h1, List.eq_nil_of_length_eq_zero h2⟩
  · refine Or.inr ⟨g, cap, rfl, hbg, ?_, hnc, hcm, fun k hk => ?_⟩
    · rcases Nat.lt_or_ge g w.heap.size with h | h
      · exact h
      · rw [Array.getElem?_eq_none h] at hg; cases hg
    · have := rowI_get l k hk
      rw [← htake, Nat.mul_one, List.getElem?_take, if_pos hk] at this
      simp only [World.cell?, hg]
      simpa using this
theorem Own.block {w : World} {base : Nat} {v : Value} {l : List Int} (h : Own w base v l) : ∀ k, v.ownBlock = some k → base ≤ k ∧ k < w.heap.size := World.ownsRow.lt h
theorem Own.step {w w' : World} {base : Nat} {v : Value} {l : List Int} (h : Own w base v l) (hb : Bl w w') : Own w' base v l := by
  refine ⟨h.1, ?_⟩
  rcases h.2 with h | ⟨g, cap, cur, h1, h2, h3, h4⟩
  · exact Or.inl h
  · refine Or.inr ⟨g, cap, cur, h1, h2, ?_, h4⟩
    have hg : g < w.heap.size := by
      rcases Nat.lt_or_ge g w.heap.size with h | h
      · exact h
      · rw [Array.getElem?_eq_none h] at h3; cases h3
    rw [Below.block hb g hg]
    exact h3
theorem Own.kept {w w' : World} {base : Nat} {v : Value} {l : List Int} {row : Option Nat} (h : Own w base v l) (hg : w.grownBy w' row) (hne : ∀ k, v.ownBlock = some k → row ≠ some k) : Own w' base v l :=
  World.ownsRow.kept h hg (by
    cases e : v.ownBlock with
    | none => exact Or.inl rfl
    | some k => exact Or.inr (fun e' => hne k e e'.symm))
theorem app_one (w : World) (base : Nat) (v : Value) (l : List Int) (z : Int) (X : Nat) (hown : Own w base v l) (hX : w.cell? ⟨X, 0, none⟩ = some (.int .i64 z)) (hn : l.length ≤ 5000) (hb : base ≤ w.heap.size) :
    ∃ v' w', (Builtin.append_ #[198, 198] 198 #[v, .slice (some ⟨X, 0, none⟩) 1 1]).run Tryz.prog w = .ok v' w' ∧ Own w' base v' (l ++ [z]) ∧ w.grownBy w' v.ownBlock ∧ (v'.ownBlock = v.ownBlock ∨ v'.ownBlock = some w.heap.size) := by
  obtain ⟨i, hi, hz, h1, h2⟩ := infoI'
  have hnews : ∀ j u, [Value.int .i64 z][j]? = some u → w.cell? ((⟨X, 0, none⟩ : Addr).add j) = some u := fun j u hu => by
    cases j with
    | zero => simp at hu; subst hu; simpa [Addr.add] using hX
    | succ j => simp at hu
  obtain ⟨v', w', hr, ho, hg, _⟩ := run_append_own (P := Tryz.prog) w base 198 198 3 i (.int .i64 0) 1 8 Tryz.underlying198 hi hz h1 h2 rfl (by decide) v l.length (rowI l) hown
    ⟨X, 0, none⟩ 1 1 [.int .i64 z] rfl hnews (fun u hu => by simp at hu; subst hu; rfl) (by simp [maxLen]; omega) (by omega) hb
  refine ⟨v', w', hr, ?_, hg, ?_⟩
  · have e : rowI (l ++ [z]) = rowI l ++ [.int .i64 z] := by simp [rowI]
    unfold Own
    rw [e, List.length_append]
    exact ho
  · rcases hown.2 with ⟨rfl, hl0⟩ | ⟨g, cap, cur, rfl, hbg, hg, hnc, hcm, hcs, htake⟩
    · have hr2 := run_append_nil (P := Tryz.prog) w 198 198 3 i (.int .i64 0) Tryz.underlying198 hi hz ⟨X, 0, none⟩ 1 1 [.int .i64 z] (by rw [h1]; rfl) hnews (by omega) (by omega) (by rw [h2]; omega)
      rw [hr2] at hr
      injection hr with e1 _
      exact Or.inr (by rw [← e1]; rfl)
    · by_cases hroom : l.length + 1 ≤ cap
      · have hr2 := run_append_room (P := Tryz.prog) w 198 198 3 i Tryz.underlying198 hi g l.length cap cur hg ⟨X, 0, none⟩ 1 1 [.int .i64 z] (by rw [h1]; rfl) hnews (fun u hu => by simp at hu; subst hu; rfl) hroom (by rw [h1, hcs]; simp; omega)
        rw [hr2] at hr
        injection hr with e1 _
        exact Or.inl (by rw [← e1]; rfl)
      · have holds : ∀ j u, (rowI l)[j]? = some u → w.cell? ((⟨g, 0, none⟩ : Addr).add j) = some u := World.ownsRow.cells hown (g := g) rfl
        have hr2 := run_append_grow (P := Tryz.prog) w 198 198 3 i (.int .i64 0) Tryz.underlying198 hi hz ⟨g, 0, none⟩ l.length cap (rowI l) (by rw [h1]; exact hown.1) holds ⟨X, 0, none⟩ 1 1 [.int .i64 z] (by rw [h1]; rfl) hnews (by omega) (by omega) (growslice_fits (by omega) (by rw [h2]; omega))
        rw [hr2] at hr
        injection hr with e1 _
        exact Or.inr (by rw [← e1]; rfl)
end Go.Proofs.YtococaecjecjgaaGreatDoor.ri
namespace Go.Proofs.YtococaecjecjgaaGreatDoor.tm
set_option linter.unusedVariables false
open Go.ChangeShapes Go.WideShapes Go.ChangeAt Go.RowKit Go.Shelf
open mem lx ex

def pf (ds : List D) (a j : Nat) : List Nat := ((List.range j).drop a).filter (isC ds)
theorem pf_start (ds : List D) (a j : Nat) (h : j ≤ a) : pf ds a j = [] := by
  unfold pf
  rw [List.drop_eq_nil_of_le (by rw [List.length_range]; exact h)]
  rfl
theorem pf_step (ds : List D) (a j : Nat) (h : a ≤ j) : pf ds a (j + 1) = pf ds a j ++ (if isC ds j = true then [j] else []) := by
  unfold pf
  rw [List.range_succ, List.drop_append_of_le_length (by rw [List.length_range]; exact h), List.filter_append]
  congr 1
  cases hc : isC ds j <;> simp [hc]
theorem pf_len (ds : List D) (a j : Nat) : (pf ds a j).length ≤ j := by
  unfold pf
  refine Nat.le_trans (List.length_filter_le _ _) ?_
  rw [List.length_drop, List.length_range]
  omega
theorem under_is (ds : List D) (i : Nat) (d : D) (h : ds[i]? = some d) : (∀ a b, ends ds d = (some a, some b) → under ds i = pf ds a (b + 1)) ∧ (∀ b, ends ds d = (none, b) → under ds i = []) ∧ (∀ a, ends ds d = (a, none) → under ds i = []) := by
  unfold under
  rw [h]
  dsimp only
  refine ⟨fun a b he => by rw [he]; rfl, fun b he => by rw [he], fun a he => by rw [he]; cases a <;> rfl⟩
def ints (l : List Nat) : List Int := l.map (fun k : Nat => (k : Int))
theorem ints_app (a : List Nat) (k : Nat) : ints (a ++ [k]) = ints a ++ [(k : Int)] := by simp [ints]
theorem ints_len (a : List Nat) : (ints a).length = a.length := by simp [ints]
end Go.Proofs.YtococaecjecjgaaGreatDoor.tm
namespace Go.Proofs.YtococaecjecjgaaGreatDoor.tm
set_option linter.unusedVariables false
open lx ex

def unm (n : Nat) (met : List Nat) : Nat := ((List.range n).filter (fun k => decide (k ∉ met))).length
theorem filter_lt (p q : Nat → Bool) (l : List Nat) (h : ∀ x, q x = true → p x = true) (j : Nat) (hj : j ∈ l) (hp : p j = true) (hq : q j = false) : (l.filter q).length < (l.filter p).length := by
  have le : ∀ l : List Nat, (l.filter q).length ≤ (l.filter p).length := by
    intro l
    induction l with
    | nil => exact Nat.le_refl _
    | cons x r ih =>
      rw [List.filter_cons, List.filter_cons]
      cases hx : q x with
      | true => rw [if_pos (h x hx), if_pos rfl]; simp; exact ih
      | false =>
        rw [if_neg (by simp)]
        split
        · simp; omega
        · exact ih
  induction l with
  | nil => cases hj
  | cons x r ih =>
    rw [List.filter_cons, List.filter_cons]
    by_cases hxj : x = j
    · subst hxj
      rw [hp, hq]
      simp
      have := le r
      omega
    · have hj' : j ∈ r := by
        rw [List.mem_cons] at hj
        rcases hj with e | e
        · exact absurd e.symm hxj
        · exact e
      have := ih hj'
      cases hx : q x with
      | true => rw [if_pos (h x hx), if_pos rfl]; simp; exact this
      | false =>
        rw [if_neg (by simp)]
        split
        · simp; omega
        · exact this
theorem unm_lt (n : Nat) (met : List Nat) (j : Nat) (hj : j < n) (hm : j ∉ met) : unm n (j :: met) < unm n met := by
  unfold unm
  refine filter_lt _ _ _ ?_ j (List.mem_range.2 hj) (by simpa using hm) (by simp)
  intro x hx
  simp only [List.mem_cons, not_or, decide_eq_true_eq] at hx ⊢
  exact hx.2
theorem unm_le (n : Nat) (met : List Nat) : unm n met ≤ n := by
  unfold unm
  refine Nat.le_trans (List.length_filter_le _ _) ?_
  rw [List.length_range]
  exact Nat.le_refl _
def mu (ds : List D) (met todo : List Nat) : Nat := todo.length + unm ds.length met * (ds.length + 1)
theorem isC_lt {ds : List D} {k : Nat} (h : isC ds k = true) : k < ds.length := by
  unfold isC at h
  rcases Nat.lt_or_ge k ds.length with hk | hk
  · exact hk
  · rw [List.getElem?_eq_none hk] at h
    simp at h
theorem under_lt {ds : List D} {j k : Nat} (h : k ∈ under ds j) : k < ds.length := by
  unfold under at h
  split at h
  · cases h
  · split at h
    · exact isC_lt (List.mem_filter.1 h).2
    · cases h
theorem under_len (ds : List D) (j : Nat) : (under ds j).length ≤ ds.length := by
  unfold under
  split
  · exact Nat.zero_le _
  · rename_i d _
    split
    · rename_i a b he
      have := (ends_lt he).2
      have h2 := pf_len ds a (b + 1)
      unfold pf at h2
      unfold upTo
      omega
    · exact Nat.zero_le _
theorem mu_step (ds : List D) (met r : List Nat) (j : Nat) (hj : j < ds.length) (hm : j ∉ met) : mu ds (j :: met) (r ++ under ds j) < mu ds met (j :: r) := by
  unfold mu
  have h1 := under_len ds j
  have h2 := unm_lt ds.length met j hj hm
  rw [List.length_append, List.length_cons]
  have h3 : (unm ds.length (j :: met) + 1) * (ds.length + 1) ≤ unm ds.length met * (ds.length + 1) := Nat.mul_le_mul_right _ h2
  rw [Nat.add_mul, Nat.one_mul] at h3
  omega
theorem bfs_enough (ds : List D) (tg : Nat) (f : Nat) : ∀ met todo, mu ds met todo < f → (∀ j ∈ todo, j < ds.length) → bfs ds tg f met todo = bfs ds tg (f + 1) met todo ∧ (bfs ds tg f met todo).isSome = true := by
  induction f with
  | zero => intro met todo h; exact absurd h (Nat.not_lt_zero _)
  | succ f ih =>
    intro met todo h ht
    cases todo with
    | nil => exact ⟨rfl, rfl⟩
    | cons j r =>
      rw [bfs, bfs]
      by_cases e : j = tg
      · rw [if_pos e, if_pos e]; exact ⟨rfl, rfl⟩
      · rw [if_neg e, if_neg e]
        by_cases hm : j ∈ met
        · rw [if_pos hm, if_pos hm]
          refine ih met r ?_ (fun k hk => ht k (by simp [hk]))
          unfold mu at h ⊢
          rw [List.length_cons] at h
          omega
        · rw [if_neg hm, if_neg hm]
          refine ih _ _ ?_ ?_
          · have := mu_step ds met r j (ht j (by simp)) hm
            omega
          · intro k hk
            rw [List.mem_append] at hk
            rcases hk with hk | hk
            · exact ht k (by simp [hk])
            · exact under_lt hk
theorem bfs_more (ds : List D) (tg f met todo) (h : mu ds met todo < f) (ht : ∀ j ∈ todo, j < ds.length) (g : Nat) : bfs ds tg (f + g) met todo = bfs ds tg f met todo := by
  induction g with
  | zero => rfl
  | succ g ih => rw [← Nat.add_assoc, ← (bfs_enough ds tg (f + g) met todo (by omega) ht).1, ih]
def bR (ds : List D) (tg : Nat) (met todo : List Nat) : Bool := bfs ds tg (mu ds met todo + 1) met todo == some true
theorem bR_of (ds : List D) (tg f met todo) (h : mu ds met todo < f) (ht : ∀ j ∈ todo, j < ds.length) : (bfs ds tg f met todo == some true) = bR ds tg met todo := by
  unfold bR
  obtain ⟨g, rfl⟩ : ∃ g, f = mu ds met todo + 1 + g := ⟨f - (mu ds met todo + 1), by omega⟩
  rw [bfs_more ds tg _ met todo (by omega) ht g]
theorem bR_nil (ds : List D) (tg : Nat) (met : List Nat) : bR ds tg met [] = false := rfl
theorem bR_hit (ds : List D) (tg : Nat) (met r : List Nat) : bR ds tg met (tg :: r) = true := by
  unfold bR
  rw [bfs, if_pos rfl]; rfl
theorem bR_met (ds : List D) (tg : Nat) (met r : List Nat) (j : Nat) (h1 : j ≠ tg) (h2 : j ∈ met) (ht : ∀ k ∈ j :: r, k < ds.length) : bR ds tg met (j :: r) = bR ds tg met r := by
  have h3 : bR ds tg met (j :: r) = (bfs ds tg (mu ds met (j :: r)) met r == some true) := by
    unfold bR
    rw [bfs, if_neg h1, if_pos h2]
  rw [h3]
  refine bR_of _ _ _ _ _ ?_ (fun k hk => ht k (by simp [hk]))
  unfold mu
  rw [List.length_cons]
  omega
theorem bR_new (ds : List D) (tg : Nat) (met r : List Nat) (j : Nat) (h1 : j ≠ tg) (h2 : j ∉ met) (ht : ∀ k ∈ j :: r, k < ds.length) : bR ds tg met (j :: r) = bR ds tg (j :: met) (r ++ under ds j) := by
  have h3 : bR ds tg met (j :: r) = (bfs ds tg (mu ds met (j :: r)) (j :: met) (r ++ under ds j) == some true) := by
    unfold bR
    rw [bfs, if_neg h1, if_neg h2]
  rw [h3]
  refine bR_of _ _ _ _ _ (mu_step ds met r j (ht j (by simp)) h2) ?_
  intro k hk
  rw [List.mem_append] at hk
  rcases hk with hk | hk
  · exact ht k (by simp [hk])
  · exact under_lt hk
theorem rnd_is (ds : List D) (i : Nat) : rnd ds i = bR ds i [] (under ds i) := by
  unfold rnd
  refine bR_of _ _ _ _ _ ?_ (fun k hk => under_lt hk)
  unfold mu
  have h1 := under_len ds i
  have h2 := unm_le ds.length []
  have h3 : unm ds.length [] * (ds.length + 1) ≤ ds.length * (ds.length + 1) := Nat.mul_le_mul_right _ h2
  have h4 : (ds.length + 1) * (ds.length + 1) = ds.length * (ds.length + 1) + (ds.length + 1) := by rw [Nat.add_mul, Nat.one_mul]
  omega
end Go.Proofs.YtococaecjecjgaaGreatDoor.tm
namespace Go.Proofs.YtococaecjecjgaaGreatDoor.qi
set_option linter.unusedVariables false
open Go.ChangeShapes Go.WideShapes Go.ChangeAt Go.RowKit Go.Shelf
open mem lx ex

def Q (w : World) (base : Nat) (v : Value) (l : List Int) : Prop := (v = .slice none 0 0 ∧ l = []) ∨ ∃ (g off cap : Nat), v = .slice (some ⟨g, off, none⟩) l.length cap ∧ base ≤ g ∧ g < w.heap.size ∧ l.length ≤ cap ∧ cap ≤ maxLen ∧ (∀ k u, (ri.rowI l)[k]? = some u → w.cell? ⟨g, off + k, none⟩ = some u) ∧ (∀ k, k < cap → (w.cell? ⟨g, off + k, none⟩).isSome = true ∧ w.frozen? ⟨g, off + k, none⟩ = false)
theorem Q.shape {w : World} {base : Nat} {v : Value} {l : List Int} (h : Q w base v l) : ∃ p c, v = .slice p l.length c ∧ l.length ≤ c ∧ c ≤ maxLen := by
  rcases h with ⟨rfl, rfl⟩ | ⟨g, off, cap, rfl, _, _, h1, h2, _⟩
  · exact ⟨none, 0, rfl, Nat.le_refl _, Nat.zero_le _⟩
  · exact ⟨_, cap, rfl, h1, h2⟩
theorem Q.of {w : World} {base : Nat} {v : Value} {l : List Int} (h : ri.Own w base v l) : Q w base v l := by
  rcases h.2 with ⟨h1, h2⟩ | ⟨g, cap, cur, rfl, hbg, hg, hnc, hcm, hcs, htake⟩
  · exact Or.inl ⟨h1, List.eq_nil_of_length_eq_zero h2⟩
  · refine Or.inr ⟨g, 0, cap, rfl, hbg, lt_of_heap hg, hnc, hcm, fun k u hu => ?_, fun k hk => ?_⟩
    · have hk : k < l.length * 1 := by
        have := (List.getElem?_eq_some_iff.1 hu).1
        simpa [ri.rowI] using this
      rw [← htake, List.getElem?_take, if_pos hk] at hu
      rw [Nat.zero_add, cell_of hg]
      simpa using hu
    · rw [Nat.zero_add]
      refine ⟨?_, by simp [World.frozen?, hg]⟩
      rw [cell_of hg, Array.getElem?_eq_getElem (by rw [hcs]; omega)]
      rfl
theorem Q.block {w : World} {base : Nat} {v : Value} {l : List Int} (h : Q w base v l) : ∀ k, v.ownBlock = some k → base ≤ k ∧ k < w.heap.size := by
  intro k hk
  rcases h with ⟨rfl, _⟩ | ⟨g, off, cap, rfl, h1, h2, _⟩
  · cases hk
  · injection hk with hk
    subst hk
    exact ⟨h1, h2⟩
theorem Q.kept {w w' : World} {base : Nat} {v : Value} {l : List Int} {row : Option Nat} (h : Q w base v l) (hg : w.grownBy w' row) (hne : ∀ k, v.ownBlock = some k → row ≠ some k) : Q w' base v l := by
  rcases h with h | ⟨g, off, cap, rfl, h1, h2, h3, h4, h5, h6⟩
  · exact Or.inl h
  · have hb : w'.heap[g]? = w.heap[g]? := hg.block g h2 (fun e => hne g rfl e.symm)
    refine Or.inr ⟨g, off, cap, rfl, h1, Nat.lt_of_lt_of_le h2 hg.size, h3, h4, fun k u hu => ?_, fun k hk => ?_⟩
    · rw [World.cell?_of_block (a := ⟨g, off + k, none⟩) hb]; exact h5 k u hu
    · rw [World.cell?_of_block (a := ⟨g, off + k, none⟩) hb, World.frozen?_of_block (a := ⟨g, off + k, none⟩) hb]; exact h6 k hk
theorem Q.bl {w w' : World} {base : Nat} {v : Value} {l : List Int} (h : Q w base v l) (hb : Bl w w') : Q w' base v l := h.kept (row := none) ⟨hb.os, hb.tape, hb.output, hb.size, fun k hk _ => Below.block hb k hk⟩ (fun _ _ => by simp)
theorem Q.head {w : World} {base : Nat} {p : Option Addr} {n c : Nat} {z : Int} {l : List Int} (h : Q w base (.slice p n c) (z :: l)) : ∃ x, p = some x ∧ n = l.length + 1 ∧ 1 ≤ c ∧ w.cell? x = some (.int .i64 z) ∧ Q w base (.slice (if c = 1 then some x else some ⟨x.block, x.off + 1, none⟩) l.length (c - 1)) l := by
  rcases h with ⟨_, h⟩ | ⟨g, off, cap, hv, h1, h2, h3, h4, h5, h6⟩
  · cases h
  · injection hv with e1 e2 e3
    subst e1 e2 e3
    have h3' : l.length + 1 ≤ c := h3
    refine ⟨_, rfl, rfl, by omega, by have := h5 0 _ rfl; exact this, Or.inr ?_⟩
    by_cases hc : c = 1
    · rw [if_pos hc]
      have hl : l = [] := List.eq_nil_of_length_eq_zero (by omega)
      subst hl
      refine ⟨g, off, c - 1, rfl, h1, h2, Nat.zero_le _, by omega, fun k u hu => by simp [ri.rowI] at hu, fun k hk => h6 k (by omega)⟩
    · rw [if_neg hc]
      refine ⟨g, off + 1, c - 1, rfl, h1, h2, by omega, by omega, fun k u hu => ?_, fun k hk => ?_⟩
      · have := h5 (k + 1) u (by simpa [ri.rowI] using hu)
        rw [show off + 1 + k = off + (k + 1) by omega]; exact this
      · rw [show off + 1 + k = off + (k + 1) by omega]; exact h6 (k + 1) (by omega)
theorem tape_setCells (b : Nat) : ∀ (vs : List Value) (o : Nat) (w : World), (w.setCells b o vs).tape = w.tape ∧ (w.setCells b o vs).heap.size = w.heap.size
  | [], _, _ => ⟨rfl, rfl⟩
  | v :: r, o, w => by
    obtain ⟨h1, h2⟩ := tape_setCells b r (o + 1) (w.setCell ⟨b, o, none⟩ v)
    exact ⟨h1.trans rfl, h2.trans (by simp [World.setCell])⟩
theorem grown_cells (w : World) (b o : Nat) (vs : List Value) : w.grownBy (w.setCells b o vs) (some b) :=
  ⟨World.os_setCells w b o vs, (tape_setCells b vs o w).1, World.output_setCells w b o vs, Nat.le_of_eq (tape_setCells b vs o w).2.symm, fun k hk hne => World.heap_setCells_other w b o vs hk (fun e => hne (by rw [e]))⟩
theorem rowI_len (l : List Int) : (ri.rowI l).length = l.length := by simp [ri.rowI]
theorem rowI_app (a b : List Int) : ri.rowI (a ++ b) = ri.rowI a ++ ri.rowI b := by simp [ri.rowI]
set_option maxRecDepth 10000 in
theorem Q.app {w : World} {base base2 : Nat} {v u : Value} {l m : List Int} (h : Q w base v l) (hu : ri.Own w base2 u m) (hn : l.length + m.length ≤ 100000) (hb : base ≤ w.heap.size) :
    ∃ v' w', (Builtin.append_ #[198, 198] 198 #[v, u]).run Tryz.prog w = .ok v' w' ∧ Q w' base v' (l ++ m) ∧ w.grownBy w' v.ownBlock ∧ (v'.ownBlock = v.ownBlock ∨ v'.ownBlock = some w.heap.size) := by
  obtain ⟨i, hi, hz, h1, h2⟩ := ri.infoI'
  have hs : Src Tryz.prog i.size 198 u m.length (ri.rowI m) w := by
    rw [h1]
    rcases hu.shape with ⟨rfl, rfl⟩ | ⟨g, cap, rfl, _, _, _, _, hc⟩
    · exact Src.ofNil w Tryz.underlying198 0
    · refine Src.ofSlice w Tryz.underlying198 _ _ _ _ (by rw [rowI_len, Nat.mul_one]) (fun j x hx => ?_) (fun x hx => ?_)
      · have hj : j < m.length := by have := (List.getElem?_eq_some_iff.1 hx).1; rwa [rowI_len] at this
        rw [ri.rowI_get m j hj] at hx
        injection hx with hx
        rw [Addr.add_lit, Nat.zero_add, hc j hj, hx]
      · simp only [ri.rowI, List.mem_map] at hx
        obtain ⟨z, _, rfl⟩ := hx
        rfl
  -- a new row
  have grow : ∀ (p : Option Addr) (sc : Nat), v = .slice p l.length sc → sc < l.length + m.length → (Builtin.firstCells i.size l.length (.slice p l.length sc)).run Tryz.prog w.drew = .ok (ri.rowI l).toArray w.drew →
      ∃ v' w', (Builtin.append_ #[198, 198] 198 #[v, u]).run Tryz.prog w = .ok v' w' ∧ Q w' base v' (l ++ m) ∧ w.grownBy w' v.ownBlock ∧ (v'.ownBlock = v.ownBlock ∨ v'.ownBlock = some w.heap.size) := by
    rintro p sc rfl hg hold
    have hrun := run_append_grow_src (P := Tryz.prog) w 198 198 198 3 i (.int .i64 0) Tryz.underlying198 hi hz p l.length sc (ri.rowI l) hold u m.length (ri.rowI m) hs hg (by omega) (growslice_fits hg (by rw [h2]; omega))
    have hge := grownCap_ge w (l.length + m.length) sc 3
    have hcm := grownCap_le_maxLen w (l.length + m.length) sc 3 (by unfold maxLen; omega)
    obtain ⟨A, hA⟩ : ∃ A, A = (ri.rowI l ++ ri.rowI m).toArray ++ Builtin.zeroCells (Value.int .i64 0).cells (grownCap w (l.length + m.length) sc 3 - (l.length + m.length)) := ⟨_, rfl⟩
    rw [← hA] at hrun
    have hAs : A.size = grownCap w (l.length + m.length) sc 3 := by
      rw [hA, Array.size_append, size_zeroCells, List.size_toArray, List.length_append, rowI_len, rowI_len, show (Value.int .i64 0).cells.size = 1 from rfl]
      omega
    have hcell : ∀ j, (w.drew.alloc (.cells A 3)).cell? ⟨w.heap.size, j, none⟩ = A[j]? := fun j => World.cell?_alloc_new w.drew A 3 j
    have hnew : (w.drew.alloc (.cells A 3)).heap[w.heap.size]? = some (.cells A 3 (0, 0)) := new_at w.drew (.cells A 3)
    refine ⟨_, _, hrun, Or.inr ⟨w.heap.size, 0, _, by rw [List.length_append], hb, lt_of_heap hnew, by rw [List.length_append]; exact hge, hcm, fun k x hx => ?_, fun k hk => ?_⟩, ⟨rfl, rfl, rfl, by simp, fun k hk _ => Below.heap_alloc w.drew _ k hk⟩, Or.inr rfl⟩
    · rw [Nat.zero_add, hcell, hA]
      have hk := (List.getElem?_eq_some_iff.1 hx).1
      rw [rowI_app] at hx hk
      rw [Array.getElem?_append_left (by rw [List.size_toArray]; exact hk), List.getElem?_toArray]
      exact hx
    · rw [Nat.zero_add, hcell]
      refine ⟨by rw [Array.getElem?_eq_getElem (by rw [hAs]; exact hk)]; rfl, ?_⟩
      unfold World.frozen?
      dsimp only
      rw [hnew]
      simp
  rcases h with ⟨rfl, rfl⟩ | ⟨g, off, cap, rfl, k1, k2, k3, k4, k5, k6⟩
  · by_cases hm : m = []
    · subst hm
      refine ⟨.slice none 0 0, w, ?_, Or.inl ⟨rfl, rfl⟩, ⟨rfl, rfl, rfl, Nat.le_refl _, fun _ _ _ => rfl⟩, Or.inl rfl⟩
      exact run_append_nothing (P := Tryz.prog) w 198 198 198 3 i Tryz.underlying198 hi none 0 0 (Nat.le_refl _) u hs
    · have hmp : 0 < m.length := List.length_pos_iff.2 hm
      exact grow none 0 rfl (by simpa using hmp) (run_firstCells_none w.drew i.size 0 0 0)
  · by_cases hroom : l.length + m.length ≤ cap
    · have hrun := run_append_room_src (P := Tryz.prog) w 198 198 198 3 i Tryz.underlying198 hi g off l.length cap u m.length (ri.rowI m) hs hroom
        (fun j hj => by rw [rowI_len] at hj; rw [h1, Nat.mul_one, Nat.add_assoc]; exact (k6 _ (by omega)).1) (fun j hj => by rw [rowI_len] at hj; rw [h1, Nat.mul_one, Nat.add_assoc]; exact (k6 _ (by omega)).2)
      rw [h1, Nat.mul_one] at hrun
      refine ⟨_, _, hrun, Or.inr ⟨g, off, cap, by rw [List.length_append], k1, by rw [(tape_setCells g _ _ w).2]; exact k2, by rw [List.length_append]; exact hroom, k4, fun k x hx => ?_, fun k hk => ?_⟩, grown_cells _ _ _ _, Or.inl rfl⟩
      · rw [rowI_app] at hx
        by_cases hkl : k < l.length
        · rw [List.getElem?_append_left (by rw [rowI_len]; exact hkl)] at hx
          rw [World.cell?_setCells_out g _ _ w _ (fun _ _ => Or.inl (by show off + k < off + l.length; omega))]
          exact k5 k x hx
        · rw [List.getElem?_append_right (by rw [rowI_len]; omega), rowI_len] at hx
          have hj := (List.getElem?_eq_some_iff.1 hx).1
          have := World.cell?_setCells_in g (ri.rowI m) (off + l.length) w (fun j hj => by rw [rowI_len] at hj; rw [Nat.add_assoc]; exact (k6 _ (by omega)).1) (k - l.length) hj
          rw [show off + l.length + (k - l.length) = off + k by omega] at this
          rw [this, ← hx]
          first | rfl | exact (List.getElem?_eq_getElem hj).symm
      · exact ⟨World.isSome_setCells g _ _ w _ (k6 k hk).1, by rw [World.frozen?_setCells]; exact (k6 k hk).2⟩
    · refine grow _ cap rfl (by omega) ?_
      rw [h1]
      exact run_firstCells_some w.drew 1 l.length ⟨g, off, none⟩ l.length cap (ri.rowI l) (by rw [rowI_len, Nat.mul_one]) (fun j x hx => by rw [Addr.add_lit]; simpa using k5 j x hx)
end Go.Proofs.YtococaecjecjgaaGreatDoor.qi
namespace Go.Proofs.YtococaecjecjgaaGreatDoor.tm
set_option linter.unusedVariables false
open Go.ChangeShapes Go.WideShapes Go.ChangeAt Go.RowKit Go.Shelf
open mem lx ex

def lnV : Value → Nat
  | .slice _ k _ => k
  | _ => 0
end Go.Proofs.YtococaecjecjgaaGreatDoor.tm
