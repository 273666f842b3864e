/- Texts laid together: NdRow, LyS, LyQ, Ly1, Words. -/
import Derived.Test.YtococaecjecjgaaGreatDoorXLayoutBack11
import Derived.Test.YtococaecjecjgaaGreatDoorXLayoutBack19
import Derived.Test.YtococaecjecjgaaGreatDoorXLayoutBack9
import Derived.Test.YtococaecjecjgaaGreatDoorXLayoutBack13
import Derived.Test.YtococaecjecjgaaGreatDoorRows
import Derived.Test.YtococaecjecjgaaGreatDoorXLayoutBack1
import Derived.WalkLawsBesides
/- Rows of nodes, as they lie. -/
namespace Go.Proofs.YtococaecjecjgaaGreatDoor.ly
set_option linter.unusedVariables false
open Go.ChangeShapes Go.WideShapes Go.ChangeAt Go.RowKit
open mem lx ex tm

/-- A node's cells. -/
structure CN where
  d : ND
  p : Option Addr
  n : Nat
  c : Nat
def cl (x : CN) : List Value := [.string (tx x.d.nm), .int .i64 (x.d.kd : Int), .int .i64 (x.d.at_ : Int), .int .i64 (x.d.sz : Int), .int .i64 x.d.n, .string (tx x.d.tx), .slice x.p x.n x.c]
namespace nr
abbrev E := CN
def rowE (l : List CN) : List Value := l.flatMap cl
theorem rowE_cons (x : CN) (l : List CN) : rowE (x :: l) = cl x ++ rowE l := by unfold rowE; rw [List.flatMap_cons]
theorem cl_len (x : CN) : (cl x).length = 7 := rfl
theorem rowE_len (l : List CN) : (rowE l).length = l.length * 7 := by
  induction l with
  | nil => rfl
  | cons x l ih => rw [rowE_cons, List.length_append, ih, cl_len]; simp only [List.length_cons]; omega
theorem rowE_append (a b : List CN) : rowE (a ++ b) = rowE a ++ rowE b := by unfold rowE; rw [List.flatMap_append]
theorem rowE_get (l : List CN) (k : Nat) (h : k < l.length) (j : Nat) (hj : j < 7) : (rowE l)[k * 7 + j]? = (cl l[k])[j]? := by
  induction l generalizing k with
  | nil => exact absurd h (Nat.not_lt_zero _)
  | cons x l ih =>
    rw [rowE_cons]
    cases k with
    | zero => rw [Nat.zero_mul, Nat.zero_add, List.getElem?_append_left (by rw [cl_len]; exact hj)]; rfl
    | succ k =>
      rw [List.getElem?_append_right (by rw [cl_len]; omega), cl_len, show (k + 1) * 7 + j - 7 = k * 7 + j by omega]
      exact ih k (by simpa using h)
theorem rowE_one (l : List CN) (u : Value) (hu : u ∈ rowE l) : u.oneCell' = true := by
  unfold rowE at hu
  rw [List.mem_flatMap] at hu
  obtain ⟨y, _, hy⟩ := hu
  simp only [cl, List.mem_cons, List.not_mem_nil, or_false] at hy
  rcases hy with rfl | rfl | rfl | rfl | rfl | rfl | rfl <;> rfl
theorem infoE : (Tryz.prog.info? 27).map (fun i => (i.zero, i.size, i.bytes)) = some (some (.agg #[.string ⟨#[]⟩, .int .i64 0, .int .i64 0, .int .i64 0, .int .i64 0, .string ⟨#[]⟩, .slice none 0 0]), 7, 88) := by kernel_rfl
theorem infoE' : ∃ i, Tryz.prog.info? 27 = some i ∧ i.zero = some (.agg #[.string ⟨#[]⟩, .int .i64 0, .int .i64 0, .int .i64 0, .int .i64 0, .string ⟨#[]⟩, .slice none 0 0]) ∧ i.size = 7 ∧ i.bytes = 88 := by
  obtain ⟨i, h1, h2⟩ := Option.map_eq_some_iff.1 infoE
  simp only [Prod.mk.injEq] at h2
  exact ⟨i, h1, h2.1, h2.2.1, h2.2.2⟩
/-- A row of the call's own that holds just these. -/
def Own (w : World) (base : Nat) (v : Value) (l : List CN) : Prop := w.ownsRow base 27 7 v l.length (rowE l)
theorem Own.nil (w : World) (base : Nat) : Own w base (.slice none 0 0) [] := World.ownsRow_nil _ _ _ _
theorem Own.shape {w : World} {base : Nat} {v : Value} {l : List CN} (h : Own w base v l) : (v = .slice none 0 0 ∧ l = []) ∨
    ∃ g cap, v = .slice (some ⟨g, 0, none⟩) l.length cap ∧ base ≤ g ∧ g < w.heap.size ∧ l.length ≤ cap ∧ cap ≤ maxLen ∧ (∀ j, w.frozen? ⟨g, j, none⟩ = false) ∧ ∀ j u, (rowE l)[j]? = some u → w.cell? ⟨g, j, none⟩ = some u := by
  rcases h.2 with ⟨h1, h2⟩ | ⟨g, cap, cur, rfl, hbg, hg, hnc, hcm, hcs, htake⟩
  · exact Or.inl ⟨h1, List.eq_nil_of_length_eq_zero h2⟩
  · refine Or.inr ⟨g, cap, rfl, hbg, lt_of_heap hg, hnc, hcm, fun j => by simp [World.frozen?, hg], fun j u hu => ?_⟩
    have hj : j < l.length * 7 := by
      have := (List.getElem?_eq_some_iff.1 hu).1
      rw [rowE_len] at this
      exact this
    rw [← htake, List.getElem?_take, if_pos hj] at hu
    rw [cell_of hg]
    simpa using hu
theorem Own.kind {w : World} {base g n cap : Nat} {l : List CN} (h : Own w base (.slice (some ⟨g, 0, none⟩) n cap) l) : ∃ cur, w.heap[g]? = some (.cells cur 27 (0, 0)) := by
  rcases h.2 with ⟨h1, _⟩ | ⟨g', cap', cur, h1, h2, h3, _⟩
  · cases h1
  · simp only [Value.slice.injEq, Option.some.injEq, Addr.mk.injEq] at h1
    obtain ⟨⟨rfl, _, _⟩, _, _⟩ := h1
    exact ⟨cur, h3⟩
theorem Own.block {w : World} {base : Nat} {v : Value} {l : List CN} (h : Own w base v l) : ∀ k, v.ownBlock = some k → base ≤ k ∧ k < w.heap.size := World.ownsRow.lt h
theorem Own.step {w w' : World} {base : Nat} {v : Value} {l : List CN} (h : Own w base v l) (hb : ∀ g, base ≤ g → g < w.heap.size → w'.heap[g]? = w.heap[g]?) : Own w' base v l := by
  refine ⟨h.1, ?_⟩
  rcases h.2 with h | ⟨g, cap, cur, h1, h2, h3, h4⟩
  · exact Or.inl h
  · refine Or.inr ⟨g, cap, cur, h1, h2, ?_, h4⟩
    rw [hb g h2 (lt_of_heap h3)]
    exact h3
theorem Own.bl {w w' : World} {base : Nat} {v : Value} {l : List CN} (h : Own w base v l) (hb : Bl w w') : Own w' base v l := h.step (fun g _ hg => Below.block hb g hg)
theorem Own.gp {w w' : World} {base P : Nat} {v : Value} {l : List CN} (h : Own w base v l) (hb : Gp P w w') (hP : P < base) : Own w' base v l := h.step (fun g h1 hg => hb.block g hg (by omega))
theorem app_one (w : World) (base : Nat) (v : Value) (l : List CN) (z : CN) (x : Addr) (hown : Own w base v l) (hX : ∀ j u, (cl z)[j]? = some u → w.cell? (x.add j) = some u) (hn : l.length ≤ 20000) (hb : base ≤ w.heap.size) :
    ∃ v' w', (Builtin.append_ #[25, 25] 25 #[v, .slice (some x) 1 1]).run Tryz.prog w = .ok v' w' ∧ Own w' base v' (l ++ [z]) ∧ w.grownBy w' v.ownBlock := by
  obtain ⟨i, hi, hz, h1, h2⟩ := infoE'
  obtain ⟨v', w', hr, ho, hg, _⟩ := run_append_own (P := Tryz.prog) w base 25 25 27 i (.agg #[.string ⟨#[]⟩, .int .i64 0, .int .i64 0, .int .i64 0, .int .i64 0, .string ⟨#[]⟩, .slice none 0 0]) 7 88 Tryz.underlying25 hi hz h1 h2 rfl (by decide) v l.length (rowE l) hown
    x 1 1 (cl z) rfl hX (fun u hu => rowE_one [z] u (by rw [rowE_cons]; simp [hu])) (by simp [maxLen]; omega) (by omega) hb
  refine ⟨v', w', hr, ?_, hg⟩
  unfold Own
  rw [rowE_append, List.length_append]
  have e : rowE [z] = cl z := by rw [rowE_cons]; simp [rowE]
  rw [e]
  exact ho
/-- A row that lies so. -/
def Lie (w : World) (ok : Nat → Prop) (p : Option Addr) (n c : Nat) (l : List CN) : Prop :=
  n = l.length ∧ n ≤ c ∧ (l = [] ∨ ∃ g, p = some ⟨g, 0, none⟩ ∧ ok g ∧ g < w.heap.size ∧ ∀ j u, (rowE l)[j]? = some u → w.cell? ⟨g, j, none⟩ = some u)
theorem Own.lie {w : World} {base : Nat} {v : Value} {l : List CN} (h : Own w base v l) : ∃ p c, v = .slice p l.length c ∧ Lie w (fun g => base ≤ g) p l.length c l := by
  rcases h.shape with ⟨rfl, rfl⟩ | ⟨g, cap, rfl, h1, h2, h4, _, _, hc⟩
  · exact ⟨none, 0, rfl, rfl, Nat.le_refl _, Or.inl rfl⟩
  · exact ⟨_, cap, rfl, rfl, h4, Or.inr ⟨g, rfl, h1, h2, hc⟩⟩
theorem Lie.keep {w w' : World} {ok : Nat → Prop} {p : Option Addr} {n c : Nat} {l : List CN} (h : Lie w ok p n c l) (hk : ∀ g, ok g → g < w.heap.size → w'.heap[g]? = w.heap[g]?) (hs : w.heap.size ≤ w'.heap.size) : Lie w' ok p n c l := by
  obtain ⟨h1, h2, h3⟩ := h
  refine ⟨h1, h2, ?_⟩
  rcases h3 with h3 | ⟨g, e, h4, h5, h6⟩
  · exact Or.inl h3
  · refine Or.inr ⟨g, e, h4, by omega, fun j u hu => ?_⟩
    have := h6 j u hu
    unfold World.cell? at this ⊢
    rw [hk g h4 h5]
    exact this
theorem Lie.mono {w : World} {ok ok' : Nat → Prop} {p : Option Addr} {n c : Nat} {l : List CN} (h : Lie w ok p n c l) (ho : ∀ g, ok g → g < w.heap.size → ok' g) : Lie w ok' p n c l := by
  obtain ⟨h1, h2, h3⟩ := h
  refine ⟨h1, h2, ?_⟩
  rcases h3 with h3 | ⟨g, e, h4, h5, h6⟩
  · exact Or.inl h3
  · exact Or.inr ⟨g, e, ho g h4 h5, h5, h6⟩
/-- .. as a walk asks for it. -/
theorem Lie.at {w : World} {ok : Nat → Prop} {p : Option Addr} {n c : Nat} {l : List CN} (h : Lie w ok p n c l) (k : Nat) (hk : k < l.length) : ∃ x : Addr, p = some x ∧ x.block < w.heap.size ∧ ok x.block ∧ ∀ j u, (cl l[k])[j]? = some u → w.cell? ⟨(x.add (k * 7)).block, (x.add (k * 7)).off + j, none⟩ = some u := by
  obtain ⟨h1, h2, h3⟩ := h
  rcases h3 with h3 | ⟨g, e, h4, h5, h6⟩
  · subst h3; exact absurd hk (Nat.not_lt_zero _)
  · refine ⟨_, e, h5, h4, fun j u hu => ?_⟩
    rw [Addr.add_lit, Nat.zero_add]
    have hj : j < 7 := by
      have := (List.getElem?_eq_some_iff.1 hu).1
      rw [cl_len] at this
      exact this
    exact h6 (k * 7 + j) u (by rw [rowE_get l k hk j hj]; exact hu)
end nr
/-- Nodes, as they lie. -/
def RepN (w : World) (ok : Nat → Prop) : Nds → List CN → Prop
  | .nil, cs => cs = []
  | .cons d s t, cs => ∃ c r, cs = c :: r ∧ c.d = d ∧ (∃ cs2, nr.Lie w ok c.p c.n c.c cs2 ∧ RepN w ok s cs2) ∧ RepN w ok t r
theorem RepN.keep {w w' : World} {ok : Nat → Prop} (hk : ∀ g, ok g → g < w.heap.size → w'.heap[g]? = w.heap[g]?) (hs : w.heap.size ≤ w'.heap.size) {l : Nds} : ∀ {cs : List CN}, RepN w ok l cs → RepN w' ok l cs := by
  induction l with
  | nil => intro cs h; exact h
  | cons d s t is it =>
    intro cs h
    obtain ⟨c, r, h1, h2, ⟨cs2, h4, h5⟩, h6⟩ := h
    exact ⟨c, r, h1, h2, ⟨cs2, h4.keep hk hs, is h5⟩, it h6⟩
theorem RepN.mono {w : World} {ok ok' : Nat → Prop} (ho : ∀ g, ok g → g < w.heap.size → ok' g) {l : Nds} : ∀ {cs : List CN}, RepN w ok l cs → RepN w ok' l cs := by
  induction l with
  | nil => intro cs h; exact h
  | cons d s t is it =>
    intro cs h
    obtain ⟨c, r, h1, h2, ⟨cs2, h4, h5⟩, h6⟩ := h
    exact ⟨c, r, h1, h2, ⟨cs2, h4.mono ho, is h5⟩, it h6⟩
theorem RepN.len {w : World} {ok : Nat → Prop} {l : Nds} : ∀ {cs : List CN}, RepN w ok l cs → cs.length = l.len := by
  induction l with
  | nil => intro cs h; subst h; rfl
  | cons d s t _ it =>
    intro cs h
    obtain ⟨c, r, rfl, _, _, h6⟩ := h
    simp [Nds.len, it h6]
/-- Nodes behind others. -/
def Nds.app : Nds → ND → Nds → Nds
  | .nil, d, s => .cons d s .nil
  | .cons e u t, d, s => .cons e u (t.app d s)
theorem RepN.app {w : World} {ok : Nat → Prop} {c : CN} {s : Nds} (hs : ∃ cs2, nr.Lie w ok c.p c.n c.c cs2 ∧ RepN w ok s cs2) {l : Nds} : ∀ {cs : List CN}, RepN w ok l cs → RepN w ok (l.app c.d s) (cs ++ [c]) := by
  induction l with
  | nil => intro cs h; subst h; exact ⟨c, [], rfl, rfl, hs, rfl⟩
  | cons d u t _ it =>
    intro cs h
    obtain ⟨e, r, rfl, h2, h4, h6⟩ := h
    exact ⟨e, r ++ [c], rfl, h2, h4, it h6⟩
/-- A slice of nodes. -/
def IsNs (w : World) (ok : Nat → Prop) (p : Option Addr) (n c : Nat) (ks : Nds) : Prop := ∃ cs, nr.Lie w ok p n c cs ∧ RepN w ok ks cs
theorem IsNs.keep {w w' : World} {ok : Nat → Prop} {p : Option Addr} {n c : Nat} {ks : Nds} (h : IsNs w ok p n c ks) (hk : ∀ g, ok g → g < w.heap.size → w'.heap[g]? = w.heap[g]?) (hs : w.heap.size ≤ w'.heap.size) : IsNs w' ok p n c ks := by
  obtain ⟨cs, h1, h2⟩ := h
  exact ⟨cs, h1.keep hk hs, h2.keep hk hs⟩
theorem IsNs.mono {w : World} {ok ok' : Nat → Prop} {p : Option Addr} {n c : Nat} {ks : Nds} (h : IsNs w ok p n c ks) (ho : ∀ g, ok g → g < w.heap.size → ok' g) : IsNs w ok' p n c ks := by
  obtain ⟨cs, h1, h2⟩ := h
  exact ⟨cs, h1.mono ho, h2.mono ho⟩
theorem IsNs.bl {w w' : World} {ok : Nat → Prop} {p : Option Addr} {n c : Nat} {ks : Nds} (h : IsNs w ok p n c ks) (hb : Bl w w') : IsNs w' ok p n c ks := h.keep (fun g _ hg => Below.block hb g hg) hb.size
theorem IsNs.none (w : World) (ok : Nat → Prop) : IsNs w ok none 0 0 .nil := ⟨[], ⟨rfl, Nat.le_refl _, Or.inl rfl⟩, rfl⟩
theorem IsNs.len {w : World} {ok : Nat → Prop} {p : Option Addr} {n c : Nat} {ks : Nds} (h : IsNs w ok p n c ks) : n = ks.len ∧ n ≤ c := by
  obtain ⟨cs, h1, h2⟩ := h
  exact ⟨by rw [h1.1, h2.len], h1.2.1⟩
/-- A node as a value. -/
def ndV (d : ND) (p : Option Addr) (n c : Nat) : Value := .agg #[.string (tx d.nm), .int .i64 (d.kd : Int), .int .i64 (d.at_ : Int), .int .i64 (d.sz : Int), .int .i64 d.n, .string (tx d.tx), .slice p n c]
/-- A row of nodes that grows. -/
structure Gn (w : World) (M base : Nat) (v : Value) (cs : List CN) (ks : Nds) : Prop where
  own : nr.Own w base v cs
  rep : RepN w (fun g => M ≤ g ∧ v.ownBlock ≠ some g) ks cs
theorem Gn.nil (w : World) (M base : Nat) : Gn w M base (.slice none 0 0) [] .nil := ⟨nr.Own.nil _ _, rfl⟩
theorem Gn.keep {w w' : World} {M base : Nat} {v : Value} {cs : List CN} {ks : Nds} (h : Gn w M base v cs ks) (hk : ∀ g, M ≤ g → g < w.heap.size → w'.heap[g]? = w.heap[g]?) (hs : w.heap.size ≤ w'.heap.size) (hb : M ≤ base) : Gn w' M base v cs ks :=
  ⟨h.own.step (fun g h1 h2 => hk g (by omega) h2), h.rep.keep (fun g h1 h2 => hk g h1.1 h2) hs⟩
theorem Gn.bl {w w' : World} {M base : Nat} {v : Value} {cs : List CN} {ks : Nds} (h : Gn w M base v cs ks) (hb : Bl w w') (hm : M ≤ base) : Gn w' M base v cs ks := h.keep (fun g _ hg => Below.block hb g hg) hb.size hm
/-- One node more: its parts lie behind K, the row before it. -/
theorem Gn.app {w w6 w' : World} {M base K : Nat} {v v' : Value} {cs : List CN} {ks : Nds} {c : CN} {s : Nds} (h : Gn w M base v cs ks)
    (hs : IsNs w (fun g => K ≤ g) c.p c.n c.c s) (hK : ∀ k, v.ownBlock = some k → k < K) (hMK : M ≤ K) (hb6 : Bl w w6)
    (ho : nr.Own w' base v' (cs ++ [c])) (hg : w6.grownBy w' v.ownBlock) (hw : v'.ownBlock = v.ownBlock ∨ v'.ownBlock = some w6.heap.size) : Gn w' M base v' (cs ++ [c]) (ks.app c.d s) := by
  have keep : ∀ k, k < w6.heap.size → v.ownBlock ≠ some k → w'.heap[k]? = w6.heap[k]? := fun k hk hne => hg.block k hk (fun e => hne e.symm)
  have keep0 : ∀ k, k < w.heap.size → v.ownBlock ≠ some k → w'.heap[k]? = w.heap[k]? := fun k hk hne => (keep k (Nat.lt_of_lt_of_le hk hb6.size) hne).trans (Below.block hb6 k hk)
  have hsz : w.heap.size ≤ w'.heap.size := Nat.le_trans hb6.size hg.size
  have hlt : ∀ g, g < w.heap.size → v.ownBlock ≠ some g → v'.ownBlock ≠ some g := fun g h1 h2 e => by
    rcases hw with hw | hw
    · rw [hw] at e; exact h2 e
    · rw [hw] at e; injection e with e; have := hb6.size; omega
  refine ⟨ho, ?_⟩
  have r5 : RepN w (fun g => (M ≤ g ∧ v.ownBlock ≠ some g) ∧ g < w.heap.size) ks cs := h.rep.mono (fun g h1 h2 => ⟨h1, h2⟩)
  have r6 : RepN w' (fun g => (M ≤ g ∧ v.ownBlock ≠ some g) ∧ g < w.heap.size) ks cs := r5.keep (fun g h1 hg' => keep0 g hg' h1.1.2) hsz
  have r7 := r6.mono (ok' := fun g => M ≤ g ∧ v'.ownBlock ≠ some g) (fun g h1 _ => ⟨h1.1.1, hlt g h1.2 h1.1.2⟩)
  refine RepN.app ?_ r7
  have k1 : IsNs w (fun g => K ≤ g ∧ g < w.heap.size) c.p c.n c.c s := hs.mono (fun g h1 h2 => ⟨h1, h2⟩)
  have hne : ∀ g, K ≤ g → v.ownBlock ≠ some g := fun g h1 e => by have := hK g e; omega
  have k2 := k1.keep (fun g h1 hg' => keep0 g hg' (hne g h1.1)) hsz
  exact k2.mono (fun g h1 _ => ⟨by omega, hlt g h1.2 (hne g h1.1)⟩)
/-- .. as a slice. -/
theorem Gn.is {w : World} {M base : Nat} {v : Value} {cs : List CN} {ks : Nds} (h : Gn w M base v cs ks) (hm : M ≤ base) : ∃ p c, v = .slice p ks.len c ∧ IsNs w (fun g => M ≤ g) p ks.len c ks ∧ ks.len = cs.length := by
  obtain ⟨p, c, e, hl⟩ := h.own.lie
  have hn := h.rep.len
  rw [hn] at e hl
  exact ⟨p, c, e, ⟨cs, hl.mono (fun g h1 _ => by omega), h.rep.mono (fun g h1 _ => h1.1)⟩, hn.symm⟩
end Go.Proofs.YtococaecjecjgaaGreatDoor.ly
/- Structs by their names: a map of a call's own. -/
namespace Go.Proofs.YtococaecjecjgaaGreatDoor.ly
set_option linter.unusedVariables false
open Go.ChangeShapes Go.WideShapes Go.ChangeAt Go.RowKit
open mem lx ex tm
open Go.Maps

def elV : Value → Option (DataW Value × List MemPlace) := fun v => some (.held v, [])
def zT : Value := .agg #[.string ⟨#[]⟩, .int .i64 0, .slice none 0 0]
theorem zero_T (w : World) : (zeroValue 96).run Tryz.prog w = .ok zT w := by kernel_rfl
/-- A map of the call's own that tells these values by texts. -/
def Sm (w : World) (b : Nat) (f : List UInt8 → Option Value) (c : Nat) : Prop :=
  ∃ D : DataW Value, w.ownsMap Tryz.prog 9 elV b c D ∧ ∀ x, x.length ≤ maxLen → Maps.has D (skey x) = (f x).isSome ∧ D.atKey (skey x) (.held zT) = .held ((f x).getD zT)
theorem Sm.step {w w' : World} {b c : Nat} {f : List UInt8 → Option Value} {row : Option Nat} (h : Sm w b f c) (hg : w.grownBy w' row) (hne : some b ≠ row) : Sm w' b f c := by
  obtain ⟨D, h1, h2⟩ := h
  exact ⟨D, h1.kept hg hne, h2⟩
theorem Sm.lt {w : World} {b c : Nat} {f : List UInt8 → Option Value} (h : Sm w b f c) : b < w.heap.size := by
  obtain ⟨D, h1, h2⟩ := h
  exact h1.lt
theorem Sm.same {w w' : World} {b c : Nat} {f : List UInt8 → Option Value} (h : Sm w b f c) (hb : w'.heap[b]? = w.heap[b]?) : Sm w' b f c := by
  obtain ⟨D, ⟨es, clock, h1, h2, h3, h4⟩, h5⟩ := h
  exact ⟨D, ⟨es, clock, by rw [hb]; exact h1, h2, h3, h4⟩, h5⟩
theorem Sm.made (w : World) : Sm (w.alloc (.map #[] 0)) w.heap.size (fun _ => none) 0 :=
  ⟨_, World.ownsMap_made w Tryz.prog 9 _, fun x _ => ⟨rfl, rfl⟩⟩
theorem Sm.look {w : World} {b c : Nat} {f : List UInt8 → Option Value} (h : Sm w b f c) (t : ByteArray) (ht : t.size ≤ maxLen) :
    (Instr.lookup 64 (.map (some b)) (.string t) true).run Tryz.prog w = .ok (.tuple #[(f t.data.toList).getD zT, .bool (f t.data.toList).isSome]) w := by
  obtain ⟨D, h1, h2⟩ := h
  obtain ⟨x, ps, hrun, hx⟩ := h1.look_ok lawS Tryz.underlying64 (zero_T w) (show elV zT = some (.held zT, []) from rfl) (WideMaps.keyOf_string_mk Tryz.underlying9 (s := t) ht)
  obtain ⟨h3, h4⟩ := h2 t.data.toList (by rw [Array.length_toList]; exact ht)
  have h4' : D.atKey (.string t.data.toList) (.held zT) = .held ((f t.data.toList).getD zT) := h4
  have h3' : Maps.has D (.string t.data.toList) = (f t.data.toList).isSome := h3
  rw [h4'] at hx
  have hx' : some (DataW.held x, ([] : List MemPlace)) = some (DataW.held ((f t.data.toList).getD zT), ps) := hx
  simp only [Option.some.injEq, Prod.mk.injEq, DataW.held.injEq] at hx'
  rw [hrun, h3', hx'.1]
theorem Sm.put {w : World} {b c : Nat} {f : List UInt8 → Option Value} (h : Sm w b f c) (t : ByteArray) (x : Value) (ht : t.size ≤ maxLen) (hc : c ≤ 5000) :
    ∃ w', (Instr.mapUpdate 64 (.map (some b)) (.string t) x).run Tryz.prog w = .ok () w' ∧ Sm w' b (fun y => if y = t.data.toList then some x else f y) (c + 1) ∧ w.grownBy w' (some b) := by
  obtain ⟨D, h1, h2⟩ := h
  obtain ⟨w', hr, ho, hg⟩ := h1.update lawS Tryz.underlying64 (by unfold maxLen; omega) (WideMaps.keyOf_string_mk Tryz.underlying9 (s := t) ht) (show elV x = some (.held x, []) from rfl)
  refine ⟨w', hr, ⟨_, ho, fun y hy => ?_⟩, hg⟩
  show Maps.has (D.put (skey t.data.toList) _) (skey y) = _ ∧ (D.put (skey t.data.toList) _).atKey (skey y) _ = _
  by_cases e : y = t.data.toList
  · subst e
    rw [has_put_same h1.isMap (skey_is _), atKey_put_same h1.isMap (skey_is _)]
    simp
  · rw [has_put_other (skey_inj e), atKey_put_other (skey_inj e)]
    simp only [if_neg e]
    exact h2 y hy
end Go.Proofs.YtococaecjecjgaaGreatDoor.ly
/- Texts as templates have them: what is read is written just so (pure). -/
namespace Go.Proofs.YtococaecjecjgaaGreatDoor.ly
set_option linter.unusedVariables false
open lx ex tm num

/-- A piece of a text. -/
def cut (s : List UInt8) (a b : Nat) : List UInt8 := (s.drop a).take (b - a)
theorem cut_nil (s : List UInt8) (a : Nat) : cut s a a = [] := by unfold cut; simp
theorem cut_app (s : List UInt8) {a b c : Nat} (h1 : a ≤ b) (h2 : b ≤ c) : cut s a b ++ cut s b c = cut s a c := by
  unfold cut
  have e : c - a = (b - a) + (c - b) := by omega
  rw [e, List.take_add, List.drop_drop]
  have e2 : a + (b - a) = b := by omega
  rw [e2]
/-- Items that are right. -/
def OKI (i : Its) : Prop := ∃ k, WI k i ∧ i.len ≤ 16
theorem OKI.hd {d : D} {s t : Its} (h : OKI (.cons d s t)) : WD d ∧ OKI t ∧ (d.kd = 4 → OKI s) := by
  obtain ⟨k, ⟨h1, _, h3, h4⟩, h5⟩ := h
  rw [Its.len] at h5
  exact ⟨h1, ⟨k, h4, by omega⟩, fun h => ⟨k - 1, (h3 h).2.2, (h3 h).2.1⟩⟩
theorem OKI.nil : OKI .nil := ⟨0, trivial, Nat.zero_le _⟩
theorem OKI.len {i : Its} (h : OKI i) : i.len ≤ 16 := by obtain ⟨k, _, h⟩ := h; exact h
theorem fnd_mem {l : List Ty} {x : List UInt8} {i : Its} (h : fnd l x = some i) : ∃ t ∈ l, t.l = i := by
  induction l with
  | nil => cases h
  | cons t r ih =>
    rw [fnd] at h
    cases hr : fnd r x with
    | some j =>
      rw [hr] at h
      obtain rfl := Option.some.inj h
      obtain ⟨u, h1, h2⟩ := ih hr
      exact ⟨u, by simp [h1], h2⟩
    | none =>
      rw [hr] at h
      dsimp only at h
      split at h
      · obtain rfl := Option.some.inj h
        exact ⟨t, by simp, rfl⟩
      · cases h
/-- An item that is right, or a struct as if it were one. -/
def WK (d : D) : Prop := WD d ∨ (d.kd = 3 ∧ d.mn = false ∧ d.ty.length ≤ maxLen)
theorem WK.kd4 {d : D} (h : WK d) : d.kd = 1 ∨ d.kd = 2 ∨ d.kd = 3 ∨ d.kd = 4 := by
  rcases h with h | h
  · rcases h with h | h | h | h <;> omega
  · omega
theorem WK.wd {d : D} (h : WK d) (hk : d.kd ≠ 3) : WD d := by
  rcases h with h | h
  · exact h
  · exact absurd h.1 hk
theorem WK.ty {d : D} (h : WK d) (hk : d.kd = 3) : d.ty.length ≤ maxLen := by
  rcases h with h | h
  · rcases h with g | g | g | g
    · omega
    · omega
    · have := g.2.1.2.2.1; unfold maxLen; omega
    · omega
  · exact h.2.2
/-- Structs that are right. -/
def OKT (l : List Ty) : Prop := ∀ t ∈ l, OKI t.l
theorem OKT.fnd {l : List Ty} (h : OKT l) {x : List UInt8} {i : Its} (hf : fnd l x = some i) : OKI i := by
  obtain ⟨t, h1, rfl⟩ := fnd_mem hf
  exact h t h1
/-- Where it is read behind. -/
def Fw (s : List UInt8) (st st' : St) : Prop := st.1 ≤ st'.1 ∧ st'.1 ≤ s.length ∧ st.2 ≤ st'.2 ∧ st'.2 ≤ 400
theorem Fw.refl {s : List UInt8} {st : St} (h1 : st.1 ≤ s.length) (h2 : st.2 ≤ 400) : Fw s st st := ⟨Nat.le_refl _, h1, Nat.le_refl _, h2⟩
theorem Fw.trans {s : List UInt8} {a b c : St} (h : Fw s a b) (k : Fw s b c) : Fw s a c := by
  obtain ⟨h1, h2, h3, h4⟩ := h
  obtain ⟨k1, k2, k3, k4⟩ := k
  exact ⟨by omega, k2, by omega, k4⟩
section
variable {s : List UInt8} {l : List Ty} {rec : Its → Env → St → Except Er (Nds × St)} {wrec : Its → Nds → Except Int (List UInt8)}
/-- What reading within does. -/
def RecW (s : List UInt8) (rec : Its → Env → St → Except Er (Nds × St)) (wrec : Its → Nds → Except Int (List UInt8)) : Prop :=
  ∀ i e st ks st', OKI i → st.1 ≤ s.length → st.2 ≤ 400 → rec i e st = .ok (ks, st') → Fw s st st' ∧ wrec i ks = .ok (cut s st.1 st'.1) ∧ ks.len = i.len
theorem body_back (hl : OKT l) (hr : RecW s rec wrec) (hn0 : wrec .nil .nil = .ok []) {d : D} {sub : Its} (hd : WK d) (hs : d.kd = 4 → OKI sub) {e : Env} {a k : Nat} {nd : ND} {ks : Nds} {st' : St} (ha : a ≤ s.length) (hk : k ≤ 400) (h : body s l rec d sub e a k = .ok (nd, ks, st')) :
    Fw s (a, k) st' ∧ wOne l wrec d sub nd ks = .ok (cut s a st'.1) ∧ nd.nm = d.nm ∧ nd.kd = d.kd := by
  have hk4 : d.kd = 1 ∨ d.kd = 2 ∨ d.kd = 3 ∨ d.kd = 4 := hd.kd4
  unfold body at h
  split at h
  · rename_i h1
    split at h
    · rename_i h2
      injection h with h
      simp only [Prod.mk.injEq] at h
      obtain ⟨rfl, rfl, rfl⟩ := h
      refine ⟨⟨by simp, h2, Nat.le_refl _, hk⟩, ?_, rfl, h1.symm⟩
      unfold wOne
      rw [if_pos ⟨rfl, h1.symm⟩, if_pos h1, if_pos (num_fits (hd.wd (by omega)) h1 s a _).1]
      dsimp only
      rw [pb_back (hd.wd (by omega)) h1 _ h2]
      unfold cut
      rw [Nat.add_sub_cancel_left]
    · cases h
  · split at h
    · rename_i h0 h1
      split at h
      · cases h
      · rename_i n hn
        split at h
        · cases h
        · rename_i h2
          injection h with h
          simp only [Prod.mk.injEq] at h
          obtain ⟨rfl, rfl, rfl⟩ := h
          refine ⟨⟨by simp, by show a + n ≤ s.length; omega, Nat.le_refl _, hk⟩, ?_, rfl, h1.symm⟩
          unfold wOne
          rw [if_pos ⟨rfl, h1.symm⟩, if_neg h0, if_pos h1]
          dsimp only
          unfold cut
          rw [Nat.add_sub_cancel_left]
    · split at h
      · rename_i h0 h1 h2
        split at h
        · cases h
        · rename_i i hi
          split at h
          · cases h
          · rename_i ks2 st2 h3
            injection h with h
            simp only [Prod.mk.injEq] at h
            obtain ⟨rfl, rfl, rfl⟩ := h
            obtain ⟨g1, g2, _⟩ := hr _ _ _ _ _ (hl.fnd hi) ha hk h3
            refine ⟨g1, ?_, rfl, h2.symm⟩
            unfold wOne
            rw [if_pos ⟨rfl, h2.symm⟩, if_neg h0, if_neg h1, if_pos h2, hi]
            exact g2
      · rename_i h0 h1 h2
        have h4 : d.kd = 4 := by omega
        split at h
        · cases h
        · rename_i n hn
          split at h
          · injection h with h
            simp only [Prod.mk.injEq] at h
            obtain ⟨rfl, rfl, rfl⟩ := h
            refine ⟨Fw.refl ha hk, ?_, rfl, h4.symm⟩
            unfold wOne
            rw [if_pos ⟨rfl, h4.symm⟩, if_neg h0, if_neg h1, if_neg h2]
            dsimp only
            rw [if_pos rfl, cut_nil]
            exact hn0
          · split at h
            · cases h
            · rename_i ks2 st2 h3
              injection h with h
              simp only [Prod.mk.injEq] at h
              obtain ⟨rfl, rfl, rfl⟩ := h
              obtain ⟨g1, g2, _⟩ := hr _ _ _ _ _ (hs h4) ha hk h3
              refine ⟨g1, ?_, rfl, h4.symm⟩
              unfold wOne
              rw [if_pos ⟨rfl, h4.symm⟩, if_neg h0, if_neg h1, if_neg h2]
              exact g2
theorem one_back (hl : OKT l) (hr : RecW s rec wrec) (hn0 : wrec .nil .nil = .ok []) {d : D} {sub : Its} (hd : WK d) (hs : d.kd = 4 → OKI sub) {e : Env} {st : St} {nd : ND} {ks : Nds} {st' : St} (ha : st.1 ≤ s.length) (hk : st.2 ≤ 400) (h : one s l rec d sub e st = .ok (nd, ks, st')) :
    Fw s st st' ∧ wOne l wrec d sub nd ks = .ok (cut s st.1 st'.1) ∧ nd.nm = d.nm ∧ nd.kd = d.kd := by
  unfold one at h
  split at h
  · cases h
  · obtain ⟨h1, h2⟩ := body_back hl hr hn0 hd hs ha (show st.2 + 1 ≤ 400 by omega) h
    exact ⟨⟨h1.1, h1.2.1, by have := h1.2.2.1; dsimp only at this; omega, h1.2.2.2⟩, h2⟩
theorem reps_back (hl : OKT l) (hr : RecW s rec wrec) (hn0 : wrec .nil .nil = .ok []) {d : D} {sub : Its} (hd : WK d) (hs : d.kd = 4 → OKI sub) {e : Env} (n : Nat) : ∀ {st : St} {ks : Nds} {st' : St}, st.1 ≤ s.length → st.2 ≤ 400 → reps s l rec d sub e n st = .ok (ks, st') →
    Fw s st st' ∧ wReps l wrec d sub ks = .ok (cut s st.1 st'.1) ∧ ks.len = n := by
  induction n with
  | zero =>
    intro st ks st' ha hk h
    rw [reps] at h
    injection h with h
    simp only [Prod.mk.injEq] at h
    obtain ⟨rfl, rfl⟩ := h
    exact ⟨Fw.refl ha hk, by rw [wReps, cut_nil], rfl⟩
  | succ n ih =>
    intro st ks st' ha hk h
    rw [reps] at h
    split at h
    · cases h
    · rename_i nd ks1 st1 h1
      split at h
      · cases h
      · rename_i r st2 h2
        injection h with h
        simp only [Prod.mk.injEq] at h
        obtain ⟨rfl, rfl⟩ := h
        obtain ⟨g1, g2, _⟩ := one_back hl hr hn0 hd hs ha hk h1
        obtain ⟨f1, f2, f3⟩ := ih g1.2.1 g1.2.2.2 h2
        refine ⟨g1.trans f1, ?_, by rw [Nds.len, f3]⟩
        rw [wReps, g2]
        dsimp only
        rw [f2]
        dsimp only
        rw [cut_app s g1.1 f1.1]
theorem part_back (hl : OKT l) (hr : RecW s rec wrec) (hn0 : wrec .nil .nil = .ok []) {d : D} {sub : Its} (hd : WK d) (hs : d.kd = 4 → OKI sub) {e : Env} {st : St} {nd : ND} {ks : Nds} {st' : St} (ha : st.1 ≤ s.length) (hk : st.2 ≤ 400) (h : part s l rec d sub e st = .ok (nd, ks, st')) :
    Fw s st st' ∧ wPart l wrec d sub nd ks = .ok (cut s st.1 st'.1) := by
  unfold part at h
  unfold wPart
  split at h
  · rename_i hm
    rw [if_pos hm]
    split at h
    · cases h
    · split at h
      · cases h
      · rename_i n hn
        split at h
        · cases h
        · rename_i ks1 st1 h1
          injection h with h
          simp only [Prod.mk.injEq] at h
          obtain ⟨rfl, rfl, rfl⟩ := h
          obtain ⟨g1, g2, _⟩ := reps_back hl hr hn0 hd hs n (st := (st.1, st.2 + 1)) ha (show st.2 + 1 ≤ 400 by omega) h1
          rw [if_pos ⟨rfl, rfl⟩]
          exact ⟨⟨g1.1, g1.2.1, by have : st.2 + 1 ≤ st1.2 := g1.2.2.1; omega, g1.2.2.2⟩, g2⟩
  · rename_i hm
    rw [if_neg hm]
    obtain ⟨g1, g2, _⟩ := one_back hl hr hn0 hd hs ha hk h
    exact ⟨g1, g2⟩
theorem blk_back (hl : OKT l) (hr : RecW s rec wrec) (hn0 : wrec .nil .nil = .ok []) : ∀ (i : Its) {e : Env} {st : St} {ks : Nds} {st' : St}, OKI i → st.1 ≤ s.length → st.2 ≤ 400 → blk s l rec i e st = .ok (ks, st') →
    Fw s st st' ∧ wAll l wrec i ks = .ok (cut s st.1 st'.1) ∧ ks.len = i.len := by
  intro i
  induction i with
  | nil =>
    intro e st ks st' _ ha hk h
    rw [blk] at h
    injection h with h
    simp only [Prod.mk.injEq] at h
    obtain ⟨rfl, rfl⟩ := h
    exact ⟨Fw.refl ha hk, by rw [wAll, cut_nil], rfl⟩
  | cons d sub t _ it =>
    intro e st ks st' hi ha hk h
    obtain ⟨hd', ht, hs⟩ := hi.hd
    have hd : WK d := Or.inl hd'
    rw [blk] at h
    split at h
    · cases h
    · rename_i nd ks1 st1 h1
      split at h
      · cases h
      · rename_i r st2 h2
        injection h with h
        simp only [Prod.mk.injEq] at h
        obtain ⟨rfl, rfl⟩ := h
        obtain ⟨g1, g2⟩ := part_back hl hr hn0 hd hs ha hk h1
        obtain ⟨f1, f2, f3⟩ := it ht g1.2.1 g1.2.2.2 h2
        refine ⟨g1.trans f1, ?_, by rw [Nds.len, Its.len, f3]⟩
        rw [wAll, g2]
        dsimp only
        rw [f2]
        dsimp only
        rw [cut_app s g1.1 f1.1]
end
theorem wr_nil (l : List Ty) (f : Nat) : wrB l (f + 1) .nil .nil = .ok [] := rfl
theorem rdB_back (s : List UInt8) (l : List Ty) (hl : OKT l) (f : Nat) : RecW s (rdB s l f) (wrB l (f + 1)) := by
  induction f with
  | zero => intro i e st ks st' _ _ _ h; cases h
  | succ f ih =>
    intro i e st ks st' hi ha hk h
    obtain ⟨g1, g2, g3⟩ := blk_back hl ih (wr_nil l f) i hi ha hk h
    refine ⟨g1, ?_, g3⟩
    show wBlk l (wrB l (f + 1)) i ks = _
    unfold wBlk
    rw [if_pos g3]
    exact g2
/-- WHAT IS READ IS WRITTEN just so. -/
theorem rd_back {s : List UInt8} {l : List Ty} (hl : OKT l) {root : List UInt8} {nd : ND} {ks : Nds} (h : rd s l root = .ok (nd, ks)) : wr l root nd ks 401 = .ok s := by
  unfold rd at h
  split at h
  · cases h
  · rename_i nd1 ks1 st h1
    split at h
    · cases h
    · rename_i h2
      injection h with h
      simp only [Prod.mk.injEq] at h
      obtain ⟨rfl, rfl⟩ := h
      have hb : body s l (rdB s l 400) (topD root) .nil noE 0 1 = .ok (nd1, ks1, st) := h1
      unfold body at hb
      have k1 : ¬ (topD root).kd = 1 := fun h => absurd (show (3 : Nat) = 1 from h) (by decide)
      have k2 : ¬ (topD root).kd = 2 := fun h => absurd (show (3 : Nat) = 2 from h) (by decide)
      rw [if_neg k1, if_neg k2, if_pos (by rfl)] at hb
      unfold wr
      split at hb
      · cases hb
      · rename_i i hi
        split at hb
        · cases hb
        · rename_i ks2 st2 h3
          injection hb with hb
          simp only [Prod.mk.injEq] at hb
          obtain ⟨rfl, rfl, rfl⟩ := hb
          obtain ⟨g1, g2, _⟩ := rdB_back s l hl 400 _ _ _ _ _ (hl.fnd hi) (Nat.zero_le _) (by decide) h3
          have hi' : fnd l root = some i := hi
          rw [hi']
          dsimp only
          unfold wOne
          rw [if_pos ⟨rfl, rfl⟩, if_neg k1, if_neg k2, if_pos (by rfl), hi]
          dsimp only
          rw [show wrB l 401 i ks2 = _ from g2]
          have e : st2.1 = s.length := by have := g1.2.1; omega
          show Except.ok (cut s 0 st2.1) = _
          rw [e]
          unfold cut
          simp
end Go.Proofs.YtococaecjecjgaaGreatDoor.ly
/- A reader of texts: what it knows; throw, value, count, bytes. -/
namespace Go.Proofs.YtococaecjecjgaaGreatDoor.ly
set_option linter.unusedVariables false
open Go.ChangeShapes Go.WideShapes Go.ChangeAt Go.RowKit
open mem lx ex tm num

/-- What is thrown. -/
def thrL (v : Value) : Ending := .panicked [{ v := .iface 109 (.agg #[v]), recovered := false }]
/-- An error as a value. -/
def ErV (w0 w : World) (er : Er) (v : Value) : Prop :=
  (er = (7, -1) ∧ v = .iface 28 (.int .i64 7)) ∨ ∃ B : Nat, v = .iface 113 (.pointer (some ⟨B, 0, none⟩)) ∧ w0.heap.size ≤ B ∧ AtX w B er.1 er.2
theorem ErV.bl {w0 w w' : World} {er : Er} {v : Value} (h : ErV w0 w er v) (hb : Bl w w') : ErV w0 w' er v := by
  rcases h with h | ⟨B, h1, h2, h3⟩
  · exact Or.inl h
  · exact Or.inr ⟨B, h1, h2, by unfold AtX at h3 ⊢; rw [Below.block hb B (lt_of_heap h3)]; exact h3⟩
theorem ErV.from {w0 w1 w : World} {er : Er} {v : Value} (h : ErV w1 w er v) (hs : w0.heap.size ≤ w1.heap.size) : ErV w0 w er v := by
  rcases h with h | ⟨B, h1, h2, h3⟩
  · exact Or.inl h
  · exact Or.inr ⟨B, h1, by omega, h3⟩
theorem itV_eq (c : C) : itV c = .agg #[.int .i64 (c.d.kd : Int), .int .i64 (c.d.at_ : Int), .string (tx c.d.nm), .string (tx c.d.ty), .int .i64 (c.d.wd : Int), .int .i64 (c.d.od : Int), .bool c.d.sg, .bool c.d.mn, .pointer c.pc, .int .i64 (c.d.ru : Int), .string (tx c.d.f1), .string (tx c.d.l1), .slice c.p c.n c.c] := rfl
/-- Structs by their names, as they lie. -/
def TyM (w : World) (mb : Nat) (l : List Ty) : Prop := ∃ f n, Sm w mb f n ∧ ∀ x, x.length ≤ maxLen → (f x = none ∧ fnd l x = none) ∨
  ∃ (nm : List UInt8) (a : Nat) (p : Option Addr) (k c : Nat) (i : Its) (cs : List C), f x = some (.agg #[.string (tx nm), .int .i64 (a : Int), .slice p k c]) ∧ fnd l x = some i ∧ ir.Lie w (fun g => g < mb) p k c cs ∧ Rep w (fun g => g < mb) i cs
/-- What another world keeps of structs. -/
theorem TyM.keep {w w' : World} {mb : Nat} {l : List Ty} (h : TyM w mb l) (hk : ∀ g, g ≤ mb → w'.heap[g]? = w.heap[g]?) (hs : w.heap.size ≤ w'.heap.size) (hx : Kx w w') : TyM w' mb l := by
  obtain ⟨f, n, h1, h2⟩ := h
  refine ⟨f, n, h1.same (hk mb (Nat.le_refl _)), fun x hx' => ?_⟩
  rcases h2 x hx' with h | ⟨nm, a, p, k, c, i, cs, g1, g2, g3, g4⟩
  · exact Or.inl h
  · exact Or.inr ⟨nm, a, p, k, c, i, cs, g1, g2, g3.keep (fun g hg _ => hk g (by omega)) hs, g4.keep (fun g hg _ => hk g (by omega)) hs hx⟩
/-- A reader, where it is read. -/
structure RdL (w : World) (P mb : Nat) (s : ByteArray) (l : List Ty) (st : St) : Prop where
  at_ : w.heap[P]? = some (.cells #[.map (some mb), .string s, .int .i64 (st.1 : Int), .int .i64 (st.2 : Int)] 67 (0, 0))
  mp : TyM w mb l
  lt : mb < P
  a : st.1 ≤ s.size
  k : st.2 ≤ 400
  sz : s.size ≤ 5000
theorem RdL.lt' {w : World} {P mb : Nat} {s : ByteArray} {l : List Ty} {st : St} (h : RdL w P mb s l st) : P < w.heap.size := lt_of_heap h.at_
theorem RdL.bl {w w' : World} {P mb : Nat} {s : ByteArray} {l : List Ty} {st : St} (h : RdL w P mb s l st) (hb : Bl w w') : RdL w' P mb s l st := by
  have hP := h.lt'
  exact ⟨by rw [Below.block hb P hP]; exact h.at_, h.mp.keep (fun g hg => Below.block hb g (by have := h.lt; omega)) hb.size (Kx.bl hb), h.lt, h.a, h.k, h.sz⟩
theorem RdL.kx {w w' : World} {P mb : Nat} {s : ByteArray} {l : List Ty} {st : St} (h : RdL w P mb s l st) (hg : Gp P w w') : Kx w w' := fun b cs hb => by
  rw [hg.block b (lt_of_heap hb) (fun e => by subst e; have := h.at_; rw [hb] at this; simp at this)]
  exact hb
/-- .. going on. -/
theorem RdL.go {w w' : World} {P mb : Nat} {s : ByteArray} {l : List Ty} {st st' : St} (h : RdL w P mb s l st) (hg : Gp P w w')
    (hc : w'.heap[P]? = some (.cells #[.map (some mb), .string s, .int .i64 (st'.1 : Int), .int .i64 (st'.2 : Int)] 67 (0, 0))) (ha : st'.1 ≤ s.size) (hk : st'.2 ≤ 400) : RdL w' P mb s l st' := by
  have hP := h.lt'
  exact ⟨hc, h.mp.keep (fun g hg' => hg.block g (by have := h.lt; omega) (by have := h.lt; omega)) hg.size (h.kx hg), h.lt, ha, hk, h.sz⟩
theorem RdL.cells {w : World} {P mb : Nat} {s : ByteArray} {l : List Ty} {st : St} (h : RdL w P mb s l st) : w.cell? ⟨P, 0, none⟩ = some (.map (some mb)) ∧ w.cell? ⟨P, 1, none⟩ = some (.string s) ∧ w.cell? ⟨P, 2, none⟩ = some (.int .i64 (st.1 : Int)) ∧ w.cell? ⟨P, 3, none⟩ = some (.int .i64 (st.2 : Int)) ∧ (∀ j, w.frozen? ⟨P, j, none⟩ = false) := by
  have h1 := h.at_
  exact ⟨by rw [cell_of h1]; rfl, by rw [cell_of h1]; rfl, by rw [cell_of h1]; rfl, by rw [cell_of h1]; rfl, fun j => by simp [World.frozen?, h1]⟩
/-- An item, as it lies. -/
def ItL (w : World) (ok : Nat → Prop) (c : C) (sub : Its) : Prop := IsO w c.pc c.d.ct ∧ ∃ cs, ir.Lie w ok c.p c.n c.c cs ∧ Rep w ok sub cs
theorem ItL.keep {w w' : World} {ok : Nat → Prop} {c : C} {sub : Its} (h : ItL w ok c sub) (hk : ∀ g, ok g → g < w.heap.size → w'.heap[g]? = w.heap[g]?) (hs : w.heap.size ≤ w'.heap.size) (hx : Kx w w') : ItL w' ok c sub := by
  obtain ⟨h1, cs, h2, h3⟩ := h
  exact ⟨h1.keep hx, cs, h2.keep hk hs, h3.keep hk hs hx⟩
theorem ItL.bl {w w' : World} {ok : Nat → Prop} {c : C} {sub : Its} (h : ItL w ok c sub) (hb : Bl w w') : ItL w' ok c sub := h.keep (fun g _ hg => Below.block hb g hg) hb.size (Kx.bl hb)
set_option maxRecDepth 10000 in
theorem throw_at (w : World) (P mb : Nat) (s : ByteArray) (l : List Ty) (st : St) (cd : Int) (h : RdL w P mb s l st) :
    Calls Tryz.prog 54 #[.pointer (some ⟨P, 0, none⟩), .int .i64 cd] w fun e w' => ∃ v, e = thrL v ∧ ErV w w' (cd, (st.1 : Int)) v ∧ Bl w w' := by
  obtain ⟨c0, c1, c2, c3, cz⟩ := h.cells
  have hP := h.lt'
  clear h c0 c1 c3 cz
  go_enter Tryz.func54, Tryz.ntmps54
  go_wp2
  refine ⟨rfl, _, rfl, Or.inr ⟨w.heap.size, rfl, Nat.le_refl _, ?_⟩, (Bl.refl _).alloc _⟩
  exact new_at _ _
/-- What an item's number answers. -/
def VlA (q : Except Nat Int) (w : World) (e : Ending) (w' : World) : Prop :=
  Bl w w' ∧ match q with
  | .ok n => e = .returned (.int .i64 n)
  | .error p => ∃ v, e = thrL v ∧ ErV w w' (5, (p : Int)) v
set_option maxRecDepth 10000 in
theorem value_at (c : C) (m : Value) (en : Env) (x : Ex) (w : World) (hX : IsX w (.pointer c.pc) x) (ho : Okb x) (hm : IsM w m en) :
    Calls Tryz.prog 90 #[itV c, m] w fun e w' => VlA (ev en x) w e w' := by
  rw [itV_eq]
  obtain ⟨w1, hw1⟩ : ∃ w1, w1 = w.alloc (.cells #[.int .i64 (c.d.kd : Int), .int .i64 (c.d.at_ : Int), .string (tx c.d.nm), .string (tx c.d.ty), .int .i64 (c.d.wd : Int), .int .i64 (c.d.od : Int), .bool c.d.sg, .bool c.d.mn, .pointer c.pc, .int .i64 (c.d.ru : Int), .string (tx c.d.f1), .string (tx c.d.l1), .slice c.p c.n c.c] 60) := ⟨_, rfl⟩
  have hb1 : Bl w w1 := by rw [hw1]; exact (Bl.refl _).alloc _
  have cE := Eval_at en m x (.pointer c.pc) w1 (hX.keep (Kx.bl hb1)) ho (hm.step hb1)
  have HB : Hid (Bl w w1) := hb1
  obtain ⟨q, hq⟩ : ∃ q, q = ev en x := ⟨_, rfl⟩
  rw [← hq] at cE ⊢
  clear hb1 hX hm ho hq
  go_enter Tryz.func90, Tryz.ntmps90
  go_wp2_with fail
  rw [← hw1]
  refine cE.mono ?_
  rintro e w2 ⟨hb2, hans⟩
  clear hw1
  cases q with
  | ok n =>
    dsimp only at hans
    subst hans
    go_wp2
    go_ret
    exact ⟨HB.out.trans hb2, rfl⟩
  | error p =>
    obtain ⟨B, rfl, hB, hA⟩ := hans
    go_wp2
    exact ⟨rfl, HB.out.trans hb2, _, rfl, Or.inr ⟨B, rfl, by have := HB.out.size; omega, hA⟩⟩
end Go.Proofs.YtococaecjecjgaaGreatDoor.ly
/- What Put, Get and Swap of package word answer where width and order are right. -/
namespace Go.Proofs.YtococaecjecjgaaGreatDoor.words
open Go.ChangeShapes Go.WideShapes Go.ChangeAt Go.RowKit
open mem num

theorem whole_yes (W : Int) (w : World) (h : W = 1 ∨ W = 2 ∨ W = 4 ∨ W = 8) :
    Calls Tryz.prog 145 #[.int .i64 W] w fun e w' => e = .returned (.bool true) ∧ w' = w := by
  rcases h with rfl | rfl | rfl | rfl
  all_goals
    go_enter Tryz.func145, Tryz.ntmps145
    go_wp2
    go_ret
    exact ⟨rfl, rfl⟩
theorem known_yes (o : Int) (w : World) (h : o = 0 ∨ o = 1) :
    Calls Tryz.prog 146 #[.int .i64 o] w fun e w' => e = .returned (.bool true) ∧ w' = w := by
  rcases h with rfl | rfl
  all_goals
    go_enter Tryz.func146, Tryz.ntmps146
    go_wp2
    go_ret
    exact ⟨rfl, rfl⟩
theorem place_any (k W : Nat) (o : Bool) (w : World) (hk : k < W) (hW : W ≤ 8) :
    Calls Tryz.prog 147 #[.int .i64 k, .int .i64 W, .int .i64 (if o then 1 else 0)] w fun e w' => e = .returned (.int .i64 (pl W o k : Nat)) ∧ w' = w := by
  cases o
  all_goals
    simp only [if_true, Bool.false_eq_true, if_false]
    go_enter Tryz.func147, Tryz.ntmps147
    go_wp2
    go_ret
    exact ⟨ret_int (by simp [pl]; try omega), rfl⟩
theorem place_at (k W : Nat) (o : Bool) (O : Int) (w : World) (hk : k < W) (hW : W ≤ 8) (hO : (if o then (1 : Int) else 0) = O) :
    Calls Tryz.prog 147 #[.int .i64 k, .int .i64 W, .int .i64 O] w fun e w' => e = .returned (.int .i64 (pl W o k : Nat)) ∧ w' = w := by
  subst hO
  exact place_any k W o w hk hW
theorem info8 : (Tryz.prog.info? 5).map (fun i => (i.zero, i.size, i.bytes)) = some (some (.int .u8 0), 1, 1) := by kernel_rfl
theorem put_any (n : Int) (W : Nat) (o : Bool) (w : World) (hW : (W : Int) = 1 ∨ (W : Int) = 2 ∨ (W : Int) = 4 ∨ (W : Int) = 8) :
    Calls Tryz.prog 138 #[.int .u64 n, .int .i64 W, .int .i64 (if o then 1 else 0)] w fun e w' => e = .returned (.tuple #[.string (strOfNums (putL n W o W)), .nilIface]) ∧ Gb w w' := by
  have hmk := fun w => run_make_row' (P := Tryz.prog) 79 5 (.int .u8 0) 1 Tryz.underlying79 info8 rfl .i64 .i64 W (by omega) (by omega) w
  have ho : (if o then (1 : Int) else 0) = 0 ∨ (if o then (1 : Int) else 0) = 1 := by cases o <;> simp
  have hw8 : W ≤ 8 := by omega
  have HW : Hid ((W : Int) = 1 ∨ (W : Int) = 2 ∨ (W : Int) = 4 ∨ (W : Int) = 8) := hW
  have HO : Hid ((if o then (1 : Int) else 0) = 0 ∨ (if o then (1 : Int) else 0) = 1) := ho
  clear hW ho
  generalize hO : (if o then (1 : Int) else 0) = O at *
  have HOO : Hid ((if o then (1 : Int) else 0) = O) := hO
  clear hO
  go_enter Tryz.func138, Tryz.ntmps138
  go_wp2_with (first | (go_at_call 145; refine (whole_yes _ _ HW.out).mono ?_; rintro e w' ⟨rfl, rfl⟩) | (go_at_call 146; refine (known_yes _ _ HO.out).mono ?_; rintro e w' ⟨rfl, rfl⟩))
  go_loopw [22] (fun i wr => ∃ k : Nat, k ≤ W ∧ i = .int .i64 k ∧ Row wr 5 w'.heap.size (putL n W o k) ∧ Gb w' wr) (fun i _ => W - (intOf i).toNat)
  case atStart => exact ⟨0, Nat.zero_le _, rfl, by rw [putL_zero]; exact Row.made _ _ _, (Gb.refl _).alloc _ _⟩
  case round =>
    obtain ⟨k, hk, rfl, hrow, hgb⟩ := hrel
    by_cases hlt : k < W
    · have hpl : pl W o k < W := by unfold pl; split <;> omega
      have hc := hrow.cell (j := pl W o k) (by rw [putL_len]; exact hpl)
      have hf := hrow.frozen (pl W o k)
      have hsh := run_shr8 (P := Tryz.prog) n k (by omega)
      have hu8 := IntKind.wrap_u8' (n / 256 ^ k)
      go_wp2_with fail
      go_region_with (go_at_call 147; refine (place_at _ _ o _ _ (by omega) (by omega) HOO.out).mono ?_; rintro e w2 ⟨rfl, rfl⟩)
      go_wp2
      go_roundw
      case rel => exact ⟨k + 1, by omega, by go_num, by rw [← putL_set n W o k hlt]; exact (hrow.set _ _).drew, (hgb.setCell (Nat.le_refl _) _).drew⟩
      case measure => simp [intOf]; omega
    · obtain rfl : k = W := by omega
      have hcv := hrow.text (P := Tryz.prog) Tryz.underlying79 Tryz.underlying5 Tryz.underlying9 k (putL_len _ _ _ _)
      go_wp2
      go_ret2
      exact ⟨rfl, hgb⟩
theorem get_any (s : ByteArray) (A W : Nat) (o : Bool) (O : Int) (w : World) (hO : (if o then (1 : Int) else 0) = O) (hW : (W : Int) = 1 ∨ (W : Int) = 2 ∨ (W : Int) = 4 ∨ (W : Int) = 8) (hs : s.size ≤ maxLen) (hA : A + W ≤ s.size) :
    Calls Tryz.prog 116 #[.string s, .int .i64 A, .int .i64 W, .int .i64 O] w fun e w' => e = .returned (.tuple #[.int .u64 (gv (fun i => sb s (A + pl W o i)) W), .nilIface]) ∧ w' = w := by
  have ho : O = 0 ∨ O = 1 := by cases o <;> simp at hO <;> omega
  have hw8 : W ≤ 8 := by omega
  have HW : Hid ((W : Int) = 1 ∨ (W : Int) = 2 ∨ (W : Int) = 4 ∨ (W : Int) = 8) := hW
  have HO : Hid (O = 0 ∨ O = 1) := ho
  have HOO : Hid ((if o then (1 : Int) else 0) = O) := hO
  clear hW ho hO
  unfold maxLen at hs
  go_enter Tryz.func116, Tryz.ntmps116
  go_wp2_with (first | (go_at_call 145; refine (whole_yes _ _ HW.out).mono ?_; rintro e w' ⟨rfl, rfl⟩) | (go_at_call 146; refine (known_yes _ _ HO.out).mono ?_; rintro e w' ⟨rfl, rfl⟩))
  go_loop [10, 33] (fun n i => ∃ k : Nat, k ≤ W ∧ i = .int .i64 k ∧ n = .int .u64 (gv (fun i => sb s (A + pl W o i)) k)) (fun _ i => W - (intOf i).toNat)
  case atStart => exact ⟨0, Nat.zero_le _, rfl, rfl⟩
  case round =>
    obtain ⟨k, hk, rfl, rfl⟩ := hrel
    by_cases hlt : k < W
    · have hpl : pl W o k < W := by unfold pl; split <;> omega
      go_wp2_with (go_at_call 147; refine (place_at _ _ o _ _ (by omega) (by omega) HOO.out).mono ?_; rintro e w2 ⟨rfl, rfl⟩)
      go_round
      case rel => exact ⟨k + 1, by omega, by go_num, by
        have hb := sb_bd s (A + pl W o k)
        have hv := gv_bd (fun i => sb s (A + pl W o i)) (fun i => sb_bd s _) k
        rw [← sb_get s (A + pl W o k) (by omega), or_step _ _ k (by omega) hv.1 hv.2 hb.1 hb.2]
        rfl⟩
      case measure => simp [intOf]; omega
    · obtain rfl : k = W := by omega
      go_wp2
      go_ret2
      exact ⟨rfl, rfl⟩
theorem put_at (n : Int) (W : Nat) (o : Bool) (O : Int) (w : World) (hO : (if o then (1 : Int) else 0) = O) (hW : (W : Int) = 1 ∨ (W : Int) = 2 ∨ (W : Int) = 4 ∨ (W : Int) = 8) :
    Calls Tryz.prog 138 #[.int .u64 n, .int .i64 W, .int .i64 O] w fun e w' => e = .returned (.tuple #[.string (strOfNums (putL n W o W)), .nilIface]) ∧ Gb w w' := by
  subst hO
  exact put_any n W o w hW
end Go.Proofs.YtococaecjecjgaaGreatDoor.words
