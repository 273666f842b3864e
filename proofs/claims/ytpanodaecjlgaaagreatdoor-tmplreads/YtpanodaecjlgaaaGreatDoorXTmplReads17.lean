/- Texts laid together: Ty5, TyP, Qi, Ty6, Ty7. -/
import Derived.Test.YtpanodaecjlgaaaGreatDoorXTmplReads16
import Derived.Deep.Upon
import Derived.Deep.OwnRows
/- Whether templates fit together: the Checks under a Check. -/
namespace Go.Proofs.YtpanodaecjlgaaaGreatDoor.tm
set_option linter.unusedVariables false
open Go.ChangeShapes Go.WideShapes Go.ChangeAt Go.RowKit Go.Shelf
open mem lx ex

end Go.Proofs.YtpanodaecjlgaaaGreatDoor.tm
/- Whether templates fit together: going round comes to an end (pure). -/
namespace Go.Proofs.YtpanodaecjlgaaaGreatDoor.tm
set_option linter.unusedVariables false
open lx ex

def unm (n : Nat) (met : List Nat) : Nat := ((List.range n).filter (fun k => decide (k ∉ met))).length
def mu (ds : List D) (met todo : List Nat) : Nat := todo.length + unm ds.length met * (ds.length + 1)
end Go.Proofs.YtpanodaecjlgaaaGreatDoor.tm
/- A row of numbers from which one takes at the left, and to which one adds at the right. -/
namespace Go.Proofs.YtpanodaecjlgaaaGreatDoor.qi
set_option linter.unusedVariables false
open Go.ChangeShapes Go.WideShapes Go.ChangeAt Go.RowKit Go.Shelf
open mem lx ex

def Q (w : World) (base : Nat) (v : Value) (l : List Int) : Prop := (v = .slice none 0 0 ∧ l = []) ∨ ∃ (g off cap : Nat), v = .slice (some ⟨g, off, none⟩) l.length cap ∧ base ≤ g ∧ g < w.heap.size ∧ l.length ≤ cap ∧ cap ≤ maxLen ∧ (∀ k u, (ri.rowI l)[k]? = some u → w.cell? ⟨g, off + k, none⟩ = some u) ∧ (∀ k, k < cap → (w.cell? ⟨g, off + k, none⟩).isSome = true ∧ w.frozen? ⟨g, off + k, none⟩ = false)
theorem Q.shape {w : World} {base : Nat} {v : Value} {l : List Int} (h : Q w base v l) : ∃ p c, v = .slice p l.length c ∧ l.length ≤ c ∧ c ≤ maxLen := by
  rcases h with ⟨rfl, rfl⟩ | ⟨g, off, cap, rfl, _, _, h1, h2, _⟩
  · exact ⟨none, 0, rfl, Nat.le_refl _, Nat.zero_le _⟩
  · exact ⟨_, cap, rfl, h1, h2⟩
theorem Q.of {w : World} {base : Nat} {v : Value} {l : List Int} (h : ri.Own w base v l) : Q w base v l := by
  rcases h.2 with ⟨h1, h2⟩ | ⟨g, cap, cur, rfl, hbg, hg, hnc, hcm, hcs, htake⟩
  · exact Or.inl ⟨h1, List.eq_nil_of_length_eq_zero h2⟩
  · refine Or.inr ⟨g, 0, cap, rfl, hbg, lt_of_heap hg, hnc, hcm, fun k u hu => ?_, fun k hk => ?_⟩
    · have hk : k < l.length * 1 := by
        have := (List.getElem?_eq_some_iff.1 hu).1
        simpa [ri.rowI] using this
      rw [← htake, List.getElem?_take, if_pos hk] at hu
      rw [Nat.zero_add, cell_of hg]
      simpa using hu
    · rw [Nat.zero_add]
      refine ⟨?_, by simp [World.frozen?, hg]⟩
      rw [cell_of hg, Array.getElem?_eq_getElem (by rw [hcs]; omega)]
      rfl
theorem Q.block {w : World} {base : Nat} {v : Value} {l : List Int} (h : Q w base v l) : ∀ k, v.ownBlock = some k → base ≤ k ∧ k < w.heap.size := by
  intro k hk
  rcases h with ⟨rfl, _⟩ | ⟨g, off, cap, rfl, h1, h2, _⟩
  · cases hk
  · injection hk with hk
    subst hk
    exact ⟨h1, h2⟩
theorem Q.kept {w w' : World} {base : Nat} {v : Value} {l : List Int} {row : Option Nat} (h : Q w base v l) (hg : w.grownBy w' row) (hne : ∀ k, v.ownBlock = some k → row ≠ some k) : Q w' base v l := by
  rcases h with h | ⟨g, off, cap, rfl, h1, h2, h3, h4, h5, h6⟩
  · exact Or.inl h
  · have hb : w'.heap[g]? = w.heap[g]? := hg.block g h2 (fun e => hne g rfl e.symm)
    refine Or.inr ⟨g, off, cap, rfl, h1, Nat.lt_of_lt_of_le h2 hg.size, h3, h4, fun k u hu => ?_, fun k hk => ?_⟩
    · rw [World.cell?_of_block (a := ⟨g, off + k, none⟩) hb]; exact h5 k u hu
    · rw [World.cell?_of_block (a := ⟨g, off + k, none⟩) hb, World.frozen?_of_block (a := ⟨g, off + k, none⟩) hb]; exact h6 k hk
theorem Q.bl {w w' : World} {base : Nat} {v : Value} {l : List Int} (h : Q w base v l) (hb : Bl w w') : Q w' base v l := h.kept (row := none) ⟨hb.os, hb.tape, hb.output, hb.size, fun k hk _ => Below.block hb k hk⟩ (fun _ _ => by simp)
/-- The first one. -/
theorem Q.head {w : World} {base : Nat} {p : Option Addr} {n c : Nat} {z : Int} {l : List Int} (h : Q w base (.slice p n c) (z :: l)) : ∃ x, p = some x ∧ n = l.length + 1 ∧ 1 ≤ c ∧ w.cell? x = some (.int .i64 z) ∧ Q w base (.slice (if c = 1 then some x else some ⟨x.block, x.off + 1, none⟩) l.length (c - 1)) l := by
  rcases h with ⟨_, h⟩ | ⟨g, off, cap, hv, h1, h2, h3, h4, h5, h6⟩
  · cases h
  · injection hv with e1 e2 e3
    subst e1 e2 e3
    have h3' : l.length + 1 ≤ c := h3
    refine ⟨_, rfl, rfl, by omega, by have := h5 0 _ rfl; exact this, Or.inr ?_⟩
    by_cases hc : c = 1
    · rw [if_pos hc]
      have hl : l = [] := List.eq_nil_of_length_eq_zero (by omega)
      subst hl
      refine ⟨g, off, c - 1, rfl, h1, h2, Nat.zero_le _, by omega, fun k u hu => by simp [ri.rowI] at hu, fun k hk => h6 k (by omega)⟩
    · rw [if_neg hc]
      refine ⟨g, off + 1, c - 1, rfl, h1, h2, by omega, by omega, fun k u hu => ?_, fun k hk => ?_⟩
      · have := h5 (k + 1) u (by simpa [ri.rowI] using hu)
        rw [show off + 1 + k = off + (k + 1) by omega]; exact this
      · rw [show off + 1 + k = off + (k + 1) by omega]; exact h6 (k + 1) (by omega)
theorem tape_setCells (b : Nat) : ∀ (vs : List Value) (o : Nat) (w : World), (w.setCells b o vs).tape = w.tape ∧ (w.setCells b o vs).heap.size = w.heap.size
  | [], _, _ => ⟨rfl, rfl⟩
  | v :: r, o, w => by
    obtain ⟨h1, h2⟩ := tape_setCells b r (o + 1) (w.setCell ⟨b, o, none⟩ v)
    exact ⟨h1.trans rfl, h2.trans (by simp [World.setCell])⟩
theorem grown_cells (w : World) (b o : Nat) (vs : List Value) : w.grownBy (w.setCells b o vs) (some b) :=
  ⟨World.os_setCells w b o vs, (tape_setCells b vs o w).1, World.output_setCells w b o vs, Nat.le_of_eq (tape_setCells b vs o w).2.symm, fun k hk hne => World.heap_setCells_other w b o vs hk (fun e => hne (by rw [e]))⟩
theorem rowI_len (l : List Int) : (ri.rowI l).length = l.length := by simp [ri.rowI]
theorem rowI_app (a b : List Int) : ri.rowI (a ++ b) = ri.rowI a ++ ri.rowI b := by simp [ri.rowI]
set_option maxRecDepth 10000 in
/-- More, at the right. -/
theorem Q.app {w : World} {base base2 : Nat} {v u : Value} {l m : List Int} (h : Q w base v l) (hu : ri.Own w base2 u m) (hn : l.length + m.length ≤ 100000) (hb : base ≤ w.heap.size) :
    ∃ v' w', (Builtin.append_ #[162, 162] 162 #[v, u]).run Tryz.prog w = .ok v' w' ∧ Q w' base v' (l ++ m) ∧ w.grownBy w' v.ownBlock ∧ (v'.ownBlock = v.ownBlock ∨ v'.ownBlock = some w.heap.size) := by
  obtain ⟨i, hi, hz, h1, h2⟩ := ri.infoI'
  have hs : Src Tryz.prog i.size 162 u m.length (ri.rowI m) w := by
    rw [h1]
    rcases hu.shape with ⟨rfl, rfl⟩ | ⟨g, cap, rfl, _, _, _, _, hc⟩
    · exact Src.ofNil w Tryz.underlying162 0
    · refine Src.ofSlice w Tryz.underlying162 _ _ _ _ (by rw [rowI_len, Nat.mul_one]) (fun j x hx => ?_) (fun x hx => ?_)
      · have hj : j < m.length := by have := (List.getElem?_eq_some_iff.1 hx).1; rwa [rowI_len] at this
        rw [ri.rowI_get m j hj] at hx
        injection hx with hx
        rw [Addr.add_lit, Nat.zero_add, hc j hj, hx]
      · simp only [ri.rowI, List.mem_map] at hx
        obtain ⟨z, _, rfl⟩ := hx
        rfl
  -- a new row
  have grow : ∀ (p : Option Addr) (sc : Nat), v = .slice p l.length sc → sc < l.length + m.length → (Builtin.firstCells i.size l.length (.slice p l.length sc)).run Tryz.prog w.drew = .ok (ri.rowI l).toArray w.drew →
      ∃ v' w', (Builtin.append_ #[162, 162] 162 #[v, u]).run Tryz.prog w = .ok v' w' ∧ Q w' base v' (l ++ m) ∧ w.grownBy w' v.ownBlock ∧ (v'.ownBlock = v.ownBlock ∨ v'.ownBlock = some w.heap.size) := by
    rintro p sc rfl hg hold
    have hrun := run_append_grow_src (P := Tryz.prog) w 162 162 162 3 i (.int .i64 0) Tryz.underlying162 hi hz p l.length sc (ri.rowI l) hold u m.length (ri.rowI m) hs hg (by omega) (growslice_fits hg (by rw [h2]; omega))
    have hge := grownCap_ge w (l.length + m.length) sc 3
    have hcm := grownCap_le_maxLen w (l.length + m.length) sc 3 (by unfold maxLen; omega)
    obtain ⟨A, hA⟩ : ∃ A, A = (ri.rowI l ++ ri.rowI m).toArray ++ Builtin.zeroCells (Value.int .i64 0).cells (grownCap w (l.length + m.length) sc 3 - (l.length + m.length)) := ⟨_, rfl⟩
    rw [← hA] at hrun
    have hAs : A.size = grownCap w (l.length + m.length) sc 3 := by
      rw [hA, Array.size_append, size_zeroCells, List.size_toArray, List.length_append, rowI_len, rowI_len, show (Value.int .i64 0).cells.size = 1 from rfl]
      omega
    have hcell : ∀ j, (w.drew.alloc (.cells A 3)).cell? ⟨w.heap.size, j, none⟩ = A[j]? := fun j => World.cell?_alloc_new w.drew A 3 j
    have hnew : (w.drew.alloc (.cells A 3)).heap[w.heap.size]? = some (.cells A 3 (0, 0)) := new_at w.drew (.cells A 3)
    refine ⟨_, _, hrun, Or.inr ⟨w.heap.size, 0, _, by rw [List.length_append], hb, lt_of_heap hnew, by rw [List.length_append]; exact hge, hcm, fun k x hx => ?_, fun k hk => ?_⟩, ⟨rfl, rfl, rfl, by simp, fun k hk _ => Below.heap_alloc w.drew _ k hk⟩, Or.inr rfl⟩
    · rw [Nat.zero_add, hcell, hA]
      have hk := (List.getElem?_eq_some_iff.1 hx).1
      rw [rowI_app] at hx hk
      rw [Array.getElem?_append_left (by rw [List.size_toArray]; exact hk), List.getElem?_toArray]
      exact hx
    · rw [Nat.zero_add, hcell]
      refine ⟨by rw [Array.getElem?_eq_getElem (by rw [hAs]; exact hk)]; rfl, ?_⟩
      unfold World.frozen?
      dsimp only
      rw [hnew]
      simp
  rcases h with ⟨rfl, rfl⟩ | ⟨g, off, cap, rfl, k1, k2, k3, k4, k5, k6⟩
  · by_cases hm : m = []
    · subst hm
      refine ⟨.slice none 0 0, w, ?_, Or.inl ⟨rfl, rfl⟩, ⟨rfl, rfl, rfl, Nat.le_refl _, fun _ _ _ => rfl⟩, Or.inl rfl⟩
      exact run_append_nothing (P := Tryz.prog) w 162 162 162 3 i Tryz.underlying162 hi none 0 0 (Nat.le_refl _) u hs
    · have hmp : 0 < m.length := List.length_pos_iff.2 hm
      exact grow none 0 rfl (by simpa using hmp) (run_firstCells_none w.drew i.size 0 0 0)
  · by_cases hroom : l.length + m.length ≤ cap
    · have hrun := run_append_room_src (P := Tryz.prog) w 162 162 162 3 i Tryz.underlying162 hi g off l.length cap u m.length (ri.rowI m) hs hroom
        (fun j hj => by rw [rowI_len] at hj; rw [h1, Nat.mul_one, Nat.add_assoc]; exact (k6 _ (by omega)).1) (fun j hj => by rw [rowI_len] at hj; rw [h1, Nat.mul_one, Nat.add_assoc]; exact (k6 _ (by omega)).2)
      rw [h1, Nat.mul_one] at hrun
      refine ⟨_, _, hrun, Or.inr ⟨g, off, cap, by rw [List.length_append], k1, by rw [(tape_setCells g _ _ w).2]; exact k2, by rw [List.length_append]; exact hroom, k4, fun k x hx => ?_, fun k hk => ?_⟩, grown_cells _ _ _ _, Or.inl rfl⟩
      · rw [rowI_app] at hx
        by_cases hkl : k < l.length
        · rw [List.getElem?_append_left (by rw [rowI_len]; exact hkl)] at hx
          rw [World.cell?_setCells_out g _ _ w _ (fun _ _ => Or.inl (by show off + k < off + l.length; omega))]
          exact k5 k x hx
        · rw [List.getElem?_append_right (by rw [rowI_len]; omega), rowI_len] at hx
          have hj := (List.getElem?_eq_some_iff.1 hx).1
          have := World.cell?_setCells_in g (ri.rowI m) (off + l.length) w (fun j hj => by rw [rowI_len] at hj; rw [Nat.add_assoc]; exact (k6 _ (by omega)).1) (k - l.length) hj
          rw [show off + l.length + (k - l.length) = off + k by omega] at this
          rw [this, ← hx]
          first | rfl | exact (List.getElem?_eq_getElem hj).symm
      · exact ⟨World.isSome_setCells g _ _ w _ (k6 k hk).1, by rw [World.frozen?_setCells]; exact (k6 k hk).2⟩
    · refine grow _ cap rfl (by omega) ?_
      rw [h1]
      exact run_firstCells_some w.drew 1 l.length ⟨g, off, none⟩ l.length cap (ri.rowI l) (by rw [rowI_len, Nat.mul_one]) (fun j x hx => by rw [Addr.add_lit]; simpa using k5 j x hx)
end Go.Proofs.YtpanodaecjlgaaaGreatDoor.qi
/- Whether templates fit together: whether a Check's sum is taken over itself. -/
namespace Go.Proofs.YtpanodaecjlgaaaGreatDoor.tm
set_option linter.unusedVariables false
open Go.ChangeShapes Go.WideShapes Go.ChangeAt Go.RowKit Go.Shelf
open mem lx ex

/-- Which ones were met. -/
def Mt (w : World) (M n : Nat) (met : List Nat) : Prop := ∃ arr : Array Value, w.heap[M]? = some (.cells arr 4 (0, 0)) ∧ arr.size = n ∧ ∀ k, k < n → arr[k]? = some (.bool (decide (k ∈ met)))
theorem Mt.made (w : World) (n : Nat) : Mt (w.alloc (.cells (madeCells #[.bool false] n) 4)) w.heap.size n [] := by
  refine ⟨_, new_at _ _, size_madeCells _ _, fun k hk => ?_⟩
  rw [← Array.getElem?_toList, toList_madeCells_one, List.getElem?_replicate, if_pos hk]
  simp
theorem Mt.step {w w' : World} {M n : Nat} {met : List Nat} (h : Mt w M n met) (hb : w'.heap[M]? = w.heap[M]?) : Mt w' M n met := by
  obtain ⟨arr, h1, h2⟩ := h
  exact ⟨arr, by rw [hb]; exact h1, h2⟩
theorem Mt.lt {w : World} {M n : Nat} {met : List Nat} (h : Mt w M n met) : M < w.heap.size := by
  obtain ⟨arr, h1, _⟩ := h
  exact lt_of_heap h1
theorem Mt.cell {w : World} {M n : Nat} {met : List Nat} (h : Mt w M n met) (k : Nat) (hk : k < n) : w.cell? ⟨M, k, none⟩ = some (.bool (decide (k ∈ met))) ∧ w.frozen? ⟨M, k, none⟩ = false := by
  obtain ⟨arr, h1, h2, h3⟩ := h
  exact ⟨by rw [cell_of h1]; exact h3 k hk, by simp [World.frozen?, h1]⟩
theorem Mt.set {w : World} {M n : Nat} {met : List Nat} (h : Mt w M n met) (j : Nat) (hj : j < n) : Mt (w.setCell ⟨M, j, none⟩ (.bool true)) M n (j :: met) := by
  obtain ⟨arr, h1, h2, h3⟩ := h
  refine ⟨arr.setIfInBounds j (.bool true), by simp [World.setCell, Array.getElem?_modify, h1], by simp [h2], fun k hk => ?_⟩
  rw [Array.getElem?_setIfInBounds]
  by_cases e : j = k
  · subst e; rw [if_pos rfl, if_pos (by rw [h2]; exact hj)]; simp
  · rw [if_neg e, h3 k hk]
    have e' : ¬ k = j := fun h => e h.symm
    simp [e']
end Go.Proofs.YtpanodaecjlgaaaGreatDoor.tm
/- Whether templates fit together: an item that has a name. -/
namespace Go.Proofs.YtpanodaecjlgaaaGreatDoor.tm
set_option linter.unusedVariables false
open Go.ChangeShapes Go.WideShapes Go.ChangeAt Go.RowKit Go.Shelf
open mem lx ex

theorem SetM.block {w : World} {b k : Nat} {S : List (List UInt8)} (h : SetM w b S k) : ∃ es clock, w.heap[b]? = some (.map es clock) := by
  obtain ⟨f, c, ⟨D, ⟨es, clock, h1, _⟩, _⟩, _⟩ := h
  exact ⟨es, clock, h1⟩
/-- Expressions stay when a map changes. -/
theorem Kx.map {w w' : World} {b k : Nat} {S : List (List UInt8)} (h : SetM w b S k) (hg : w.grownBy w' (some b)) : Kx w w' := fun x cs hx => by
  rw [hg.block x (lt_of_heap hx) (fun e => by
    injection e with e
    subst e
    obtain ⟨es, clock, hb⟩ := h.block
    rw [hx] at hb
    cases hb)]
  exact hx
theorem below_grown {B b : Nat} {w0 w w' : World} (h : Below B w0 w) (hg : w.grownBy w' (some b)) (hB : B ≤ b) (hs : B ≤ w.heap.size) : Below B w0 w' := ⟨hg.os.trans h.os, hg.tape.trans h.tape, hg.output.trans h.output, Nat.le_trans h.size hg.size, fun k hk => by
  rw [hg.block k (by omega) (fun e => by injection e with e; omega)]
  exact h.block k hk⟩
/-- One who looks at a struct. -/
structure Ck (w : World) (K eb nb' sb : Nat) (earl names seen : List (List UInt8)) (ke kn ks : Nat) : Prop where
  h : w.heap[K]? = some (.cells #[.map (some eb), .map (some nb'), .map (some sb)] 92 (0, 0))
  e : SetM w eb earl ke
  n : SetM w nb' names kn
  s : SetM w sb seen ks
  d1 : eb ≠ nb'
  d2 : eb ≠ sb
  d3 : nb' ≠ sb
theorem Ck.bl {w w' : World} {K eb nb' sb : Nat} {earl names seen : List (List UInt8)} {ke kn ks : Nat} (h : Ck w K eb nb' sb earl names seen ke kn ks) (hb : Bl w w') : Ck w' K eb nb' sb earl names seen ke kn ks :=
  ⟨by rw [Below.block hb K (lt_of_heap h.h)]; exact h.h, h.e.bl hb, h.n.bl hb, h.s.bl hb, h.d1, h.d2, h.d3⟩
theorem Ck.ne {w : World} {K eb nb' sb : Nat} {earl names seen : List (List UInt8)} {ke kn ks : Nat} (h : Ck w K eb nb' sb earl names seen ke kn ks) : K ≠ nb' ∧ K ≠ sb := by
  refine ⟨fun e => ?_, fun e => ?_⟩
  · obtain ⟨es, clock, hb⟩ := h.n.block
    rw [← e, h.h] at hb; cases hb
  · obtain ⟨es, clock, hb⟩ := h.s.block
    rw [← e, h.h] at hb; cases hb
theorem Ck.cells {w : World} {K eb nb' sb : Nat} {earl names seen : List (List UInt8)} {ke kn ks : Nat} (h : Ck w K eb nb' sb earl names seen ke kn ks) : w.cell? ⟨K, 0, none⟩ = some (.map (some eb)) ∧ w.cell? ⟨K, 1, none⟩ = some (.map (some nb')) ∧ w.cell? ⟨K, 2, none⟩ = some (.map (some sb)) := by
  have := h.h
  exact ⟨by rw [cell_of this]; rfl, by rw [cell_of this]; rfl, by rw [cell_of this]; rfl⟩
theorem Ck.putS {w w' : World} {K eb nb' sb : Nat} {earl names seen seen' : List (List UInt8)} {ke kn ks ks' : Nat} (h : Ck w K eb nb' sb earl names seen ke kn ks) (hg : w.grownBy w' (some sb)) (hn : SetM w' sb seen' ks') : Ck w' K eb nb' sb earl names seen' ke kn ks' :=
  ⟨by rw [hg.block K (lt_of_heap h.h) (fun e => by injection e with e; exact h.ne.2 e)]; exact h.h, h.e.step hg (fun e => by injection e with e; exact h.d2 e), h.n.step hg (fun e => by injection e with e; exact h.d3 e), hn, h.d1, h.d2, h.d3⟩
/-- What is seen behind an item. -/
def seenN (seen : List (List UInt8)) (d : D) : List (List UInt8) := if d.kd = 1 ∧ d.mn = false then d.nm :: seen else seen
end Go.Proofs.YtpanodaecjlgaaaGreatDoor.tm
