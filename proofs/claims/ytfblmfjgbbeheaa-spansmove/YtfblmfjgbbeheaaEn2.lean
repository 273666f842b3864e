/- The document's own side: which ends there are (the map that ends fills). -/
import Derived.Test.YtfblmfjgbbeheaaEn1
import Derived.Deep.RegionHeld3
import Derived.Laws.OwnMore
import Derived.Maps.Range
namespace Go.Proofs.Ytfblmfjgbbeheaa.sp
set_option linter.unusedVariables false
open Go.ChangeShapes Go.WideShapes Go.ChangeAt Go.RowKit Go.Maps
open mem rows span

theorem at_grownE {w w' : World} {row : Option Nat} (hg : w.grownBy w' row) {a : Addr} {v : Value} (hb : a.block < w.heap.size) (hne : ∀ k, row = some k → a.block ≠ k) (hc : w.cell? a = some v) : w'.cell? a = some v := by
  unfold World.cell? at hc ⊢
  rw [hg.block a.block hb (fun e => hne a.block e.symm rfl)]
  exact hc
/-- Lists of spans that lie in a row of slices. -/
def LS (w : World) (X : Nat) (LL : List (List (Int × Int))) : Prop := ∀ j, j < LL.length → ∃ p c, w.cell? ⟨X, j, none⟩ = some (.slice p (LL.getD j []).length c) ∧ InS w p (LL.getD j [])
theorem LS.step {w w' : World} {X : Nat} {LL : List (List (Int × Int))} (h : LS w X LL) (hb : Bl w w') : LS w' X LL := fun j hj => by
  obtain ⟨p, c, h1, h2⟩ := h j hj
  exact ⟨p, c, at_bl hb h1, h2.step hb⟩
def E1 (LL : List (List (Int × Int))) (k : Nat) (z : Int) : Prop := z = 0 ∨ ∃ j, j < k ∧ ∃ x ∈ LL.getD j [], z = max x.1 0 ∨ z = max x.2 0
def E2 (LL : List (List (Int × Int))) (k j : Nat) (z : Int) : Prop := E1 LL k z ∨ ∃ i, i < j ∧ (z = max (nth (LL.getD k []) i).1 0 ∨ z = max (nth (LL.getD k []) i).2 0)
theorem E1_zero (LL : List (List (Int × Int))) (z : Int) : z = 0 ↔ E1 LL 0 z := ⟨Or.inl, fun h => h.elim id fun ⟨j, hj, _⟩ => absurd hj (Nat.not_lt_zero _)⟩
theorem E2_zero (LL : List (List (Int × Int))) (k : Nat) (z : Int) : E1 LL k z ↔ E2 LL k 0 z := ⟨Or.inl, fun h => h.elim id fun ⟨j, hj, _⟩ => absurd hj (Nat.not_lt_zero _)⟩
theorem E2_step (LL : List (List (Int × Int))) (k j : Nat) (z : Int) : ((E2 LL k j z ∨ z = max (nth (LL.getD k []) j).1 0) ∨ z = max (nth (LL.getD k []) j).2 0) ↔ E2 LL k (j + 1) z := by
  constructor
  · rintro ((h | h) | h)
    · rcases h with h | ⟨i, hi, h⟩
      · exact Or.inl h
      · exact Or.inr ⟨i, by omega, h⟩
    · exact Or.inr ⟨j, by omega, Or.inl h⟩
    · exact Or.inr ⟨j, by omega, Or.inr h⟩
  · rintro (h | ⟨i, hi, h⟩)
    · exact Or.inl (Or.inl (Or.inl h))
    · rcases Nat.lt_or_ge i j with h' | h'
      · exact Or.inl (Or.inl (Or.inr ⟨i, h', h⟩))
      · obtain rfl : i = j := by omega
        rcases h with h | h
        · exact Or.inl (Or.inr h)
        · exact Or.inr h
theorem E2_end (LL : List (List (Int × Int))) (k n : Nat) (hn : n = (LL.getD k []).length) (z : Int) : E2 LL k n z ↔ E1 LL (k + 1) z := by
  constructor
  · rintro (h | ⟨i, hi, h⟩)
    · rcases h with h | ⟨j, hj, h⟩
      · exact Or.inl h
      · exact Or.inr ⟨j, by omega, h⟩
    · exact Or.inr ⟨k, by omega, _, nth_mem _ i (by rw [← hn]; exact hi), h⟩
  · rintro (h | ⟨j, hj, x, hx, h⟩)
    · exact Or.inl (Or.inl h)
    · rcases Nat.lt_or_ge j k with h' | h'
      · exact Or.inl (Or.inr ⟨j, h', x, hx, h⟩)
      · obtain rfl : j = k := by omega
        obtain ⟨i, hi, rfl⟩ := List.getElem_of_mem hx
        refine Or.inr ⟨i, by rw [hn]; exact hi, ?_⟩
        unfold nth
        rw [List.getD_eq_getElem?_getD, List.getElem?_eq_getElem hi]
        exact h
def FitL (LL : List (List (Int × Int))) : Prop := ∀ j, j < LL.length → Fit (LL.getD j []) ∧ (LL.getD j []).length ≤ 1000
theorem max_i64 {a : Int} (h : i64 a) : i64 (max a 0) := by unfold i64 at *; omega
theorem invK : ∀ ky kl, keyOf Try.prog 3 ky = some kl → ∃ x, ky = Value.int .i64 x := fun ky kl h => by
  obtain ⟨x, rfl, _⟩ := Maps.keyOf_int_inv Try.underlying3 h
  exact ⟨x, rfl⟩
/-- A bool, under a name of its own. -/
structure Bx where
  b : Bool
def boolOf (x : Bx) : Value := .bool x.b
theorem invV : ∀ (v : Value) (y : DataW Unit × List MemPlace), plainElem Try.prog 4 v = some y → ∃ c, v = boolOf c := fun v y h => by
  unfold plainElem at h
  rw [Try.underlying4] at h
  cases v <;> simp at h
  exact ⟨⟨_⟩, rfl⟩
theorem _root_.Go.Proofs.Ytfblmfjgbbeheaa.rows.Own.down {w : World} {base base' : Nat} {v : Value} {l : List Int} (h : Own w base v l) (hb : base' ≤ base) : Own w base' v l := by
  refine ⟨h.1, ?_⟩
  rcases h.2 with h | ⟨g, cap, cur, h1, h2, h3⟩
  · exact Or.inl h
  · exact Or.inr ⟨g, cap, cur, h1, Nat.le_trans hb h2, h3⟩
/-- A number put in where it belongs. -/
structure Ins (L : List Int) (q : Nat) (x : Int) : Prop where
  p : L.Pairwise fun x y => x < y
  n : x ∉ L
  a : ∀ j, q ≤ j → j < L.length → x < L.getD j 0
  b : ∀ j, j < q → L.getD j 0 ≤ x
  l : q ≤ L.length
theorem Ins.len {L : List Int} {q : Nat} {x : Int} (h : Ins L q x) : (L.take q ++ x :: L.drop q).length = L.length + 1 := by
  have := h.l
  simp
  omega
theorem Ins.mem {L : List Int} {q : Nat} {x : Int} (h : Ins L q x) (z : Int) : z ∈ L.take q ++ x :: L.drop q ↔ z ∈ L ∨ z = x := by
  rw [List.mem_append, List.mem_cons]
  conv => rhs; rw [← List.take_append_drop q L, List.mem_append]
  constructor
  · rintro (h | h | h)
    · exact Or.inl (Or.inl h)
    · exact Or.inr h
    · exact Or.inl (Or.inr h)
  · rintro ((h | h) | h)
    · exact Or.inl h
    · exact Or.inr (Or.inr h)
    · exact Or.inr (Or.inl h)
theorem getD_at (L : List Int) (j : Nat) (h : j < L.length) : L.getD j 0 = L[j] := by rw [List.getD_eq_getElem?_getD, List.getElem?_eq_getElem h]; rfl
theorem Ins.sorted {L : List Int} {q : Nat} {x : Int} (h : Ins L q x) : (L.take q ++ x :: L.drop q).Pairwise fun x y => x < y := by
  have hp := h.p
  have hc : (L.take q ++ L.drop q).Pairwise fun x y => x < y := by rw [List.take_append_drop]; exact hp
  rw [List.pairwise_append] at hc
  have hlt : ∀ z ∈ L.take q, z < x := fun z hz => by
    obtain ⟨j, hj, rfl⟩ := List.getElem_of_mem hz
    rw [List.length_take] at hj
    have h1 := h.b j (by omega)
    rw [getD_at L j (by omega)] at h1
    rw [List.getElem_take]
    have hne : L[j] ≠ x := fun e => h.n (by rw [← e]; exact List.getElem_mem _)
    omega
  have hgt : ∀ z ∈ L.drop q, x < z := fun z hz => by
    obtain ⟨j, hj, rfl⟩ := List.getElem_of_mem hz
    rw [List.length_drop] at hj
    rw [List.getElem_drop]
    have h1 := h.a (q + j) (by omega) (by omega)
    rw [getD_at L (q + j) (by omega)] at h1
    exact h1
  rw [List.pairwise_append, List.pairwise_cons]
  refine ⟨hc.1, ⟨hgt, hc.2.1⟩, fun a ha b hb => ?_⟩
  rcases List.mem_cons.1 hb with rfl | hb
  · exact hlt a ha
  · exact hc.2.2 a ha b hb
theorem below_of {L : List Int} {len q q' : Nat} {x : Int} (hp : L.Pairwise fun x y => x < y) (hl : len = L.length) (hq : q = q' + 1) (hle : q ≤ len) (hy : L.getD q' 0 ≤ x) : ∀ j, j < q → L.getD j 0 ≤ x := fun j hj => by
  rcases Nat.lt_or_ge j q' with h | h
  · have := (List.pairwise_iff_getElem.1 hp) j q' (by omega) (by omega) h
    rw [getD_at L q' (by omega)] at hy
    rw [getD_at L j (by omega)]
    omega
  · obtain rfl : j = q' := by omega
    exact hy
theorem step_append_run {P : Program} {ops : Array Oper} {o : Oper} {a : Act} {w : World} {K : Act → World → Prop} {Q : Exit → Act → World → Prop} {E : Prop}
    (hg : o.guard = none) (s x : Operand) (t tx : TypeId) (hop : o.op = Op.call { callee := Callee.builtin Builtin.append, args := #[s, x], argTypes := #[t, tx] })
    (vs vx : Value) (hs : a.eval s = vs) (hx : a.eval x = vx) (v' : Value) (w' : World) (hr : (Builtin.append_ #[t, tx] o.type #[vs, vx]).run P w = .ok v' w') (hK : K (a.put o.dst v') w') :
    if Region.wanted o (yielded ops a.tmps) = true then Oper.wp P o a w K Q else E := by
  have hw : Region.wanted o (yielded ops a.tmps) = true := by simp [Region.wanted, hg]
  rw [if_pos hw]
  exact Lib.wp_append_run w s x t tx hop vs vx hs hx v' w' hr hK
theorem ins_some {w : World} {b3 g len cap q : Nat} {L : List Int} (hown : Own w b3 (.slice (some ⟨g, 0, none⟩) len cap) L) (hlen : len = L.length) (hq : q ≤ len) (hc : len ≤ cap) (x : Int) (hb : b3 ≤ w.heap.size) (hl : len ≤ 4001) :
    ∃ v1 wA v2 wB, (Builtin.append_ #[43, 43] 43 #[.slice (some ⟨w.heap.size, 0, none⟩) 1 1, .slice (if cap = q then some ⟨g, 0, none⟩ else some ⟨g, q, none⟩) (len - q) (cap - q)]).run Try.prog (w.drew.alloc (.cells #[.int .i64 x] 3)) = .ok v1 wA ∧
      (Builtin.append_ #[43, 43] 43 #[.slice (some ⟨g, 0, none⟩) q cap, v1]).run Try.prog wA = .ok v2 wB ∧ Own wB b3 v2 (L.take q ++ x :: L.drop q) ∧ w.grownBy wB (some g) := by
  obtain ⟨i, hi, hz, h1, h2⟩ := infoI'
  obtain ⟨wd, hwd⟩ : ∃ wd, wd = w.drew.alloc (.cells #[.int .i64 x] 3) := ⟨_, rfl⟩
  rw [← hwd]
  have hgl : g < w.heap.size := (hown.block g rfl).2
  have hbd : Bl w wd := by rw [hwd]; exact ((Bl.refl w).drew).alloc _
  have hsd : wd.heap.size = w.heap.size + 1 := by rw [hwd]; simp
  have hZ : wd.ownsRow w.heap.size 3 1 (.slice (some ⟨w.heap.size, 0, none⟩) 1 1) 1 [.int .i64 x] := by
    rw [hwd]
    have := World.ownsRow_lit (base := w.heap.size) (e := 3) (size := 1) w.drew #[.int .i64 x] 1 (by simp) (by unfold maxLen; omega) rfl
    simpa using this
  have hcells : ∀ j, j < len → wd.cell? ⟨g, j, none⟩ = some (.int .i64 (L.getD j 0)) := fun j hj => by
    rcases hown.shape with ⟨e, _⟩ | ⟨g', cap', e, _, _, _, _, hcc⟩
    · cases e
    · injection e with e1 e2 e3
      injection e1 with e1
      injection e1 with e1
      subst e1
      exact at_bl hbd (hcc j (by rw [← hlen]; exact hj))
  have hnews : ∀ (a : Addr), (len - q = 0 ∨ a = ⟨g, q, none⟩) → ∀ j u, (rowI (L.drop q))[j]? = some u → wd.cell? (a.add j) = some u := fun a ha j u hu => by
    have hj : j < (L.drop q).length := by
      rcases Nat.lt_or_ge j (L.drop q).length with h | h
      · exact h
      · rw [List.getElem?_eq_none (by unfold rowI; rw [List.length_map]; exact h)] at hu; cases hu
    rw [List.length_drop] at hj
    rcases ha with ha | rfl
    · omega
    · rw [Addr.add_lit, hcells (q + j) (by omega)]
      rw [rowI_get _ _ (by rw [List.length_drop]; exact hj)] at hu
      rw [← hu, List.getD_eq_getElem?_getD, List.getD_eq_getElem?_getD, List.getElem?_drop]
  have hlenD : (rowI (L.drop q)).length = (len - q) * 1 := by unfold rowI; rw [List.length_map, List.length_drop, hlen, Nat.mul_one]
  have hone : ∀ (l : List Int), ∀ u ∈ rowI l, u.oneCell' = true := fun l u hu => by
    unfold rowI at hu
    rw [List.mem_map] at hu
    obtain ⟨z, _, rfl⟩ := hu
    rfl
  obtain ⟨A, hA, hA2⟩ : ∃ a : Addr, (if cap = q then some (⟨g, 0, none⟩ : Addr) else some ⟨g, q, none⟩) = some a ∧ (len - q = 0 ∨ a = ⟨g, q, none⟩) := by
    by_cases h : cap = q
    · exact ⟨_, by rw [if_pos h], Or.inl (by omega)⟩
    · exact ⟨_, by rw [if_neg h], Or.inr rfl⟩
  rw [hA]
  obtain ⟨v1, wA, hr1, ho1, hg1, _⟩ := run_append_own (P := Try.prog) wd w.heap.size 43 43 3 i (.int .i64 0) 1 8 Try.underlying43 hi hz h1 h2 rfl (by decide) _ 1 _ hZ
    A (len - q) (cap - q) (rowI (L.drop q)) hlenD (hnews A hA2) (hone _) (by unfold maxLen; omega) (by omega) (by omega)
  have hgZ : g ≠ w.heap.size := by omega
  have hownA : Own wA b3 (.slice (some ⟨g, 0, none⟩) len cap) L := (hown.step hbd).kept hg1 (fun k e e' => by
    have e2 : k = g := by simpa [Value.ownBlock] using e.symm
    have e3 : k = w.heap.size := by simpa [Value.ownBlock] using e'.symm
    omega)
  have hownP : wA.ownsRow b3 3 1 (.slice (some ⟨g, 0, none⟩) q cap) q (rowI (L.take q)) := by
    rcases hownA.2 with ⟨e, _⟩ | ⟨g', cap', cur, e, hbg, hg, hnc, hcm, hcs, htake⟩
    · cases e
    · injection e with e1 e2 e3
      injection e1 with e1
      injection e1 with e1
      subst e1 e3
      refine ⟨by unfold rowI; rw [List.length_map, List.length_take]; omega, Or.inr ⟨g, cap, cur, rfl, hbg, hg, by omega, hcm, hcs, ?_⟩⟩
      rw [Nat.mul_one] at htake ⊢
      have e4 : cur.toList.take q = (cur.toList.take L.length).take q := by rw [List.take_take]; congr 1; omega
      rw [e4, htake]
      unfold rowI
      rw [List.map_take]
  have hsrc : ∃ a c1, v1 = .slice (some a) (1 + (len - q)) c1 ∧ ∀ j u, ([Value.int .i64 x] ++ rowI (L.drop q))[j]? = some u → wA.cell? (a.add j) = some u := by
    rcases ho1.2 with ⟨rfl, h0⟩ | ⟨g1, c1, cur, rfl, _, _, _, _, _, _⟩
    · omega
    · exact ⟨_, c1, rfl, World.ownsRow.cells ho1 rfl⟩
  obtain ⟨a1, c1, rfl, hsrc⟩ := hsrc
  obtain ⟨v2, wB, hr2, ho2, hg2, _⟩ := run_append_own (P := Try.prog) wA b3 43 43 3 i (.int .i64 0) 1 8 Try.underlying43 hi hz h1 h2 rfl (by decide) _ q _ hownP
    a1 (1 + (len - q)) c1 ([.int .i64 x] ++ rowI (L.drop q)) (by rw [List.length_append, hlenD]; simp) hsrc (fun u hu => by
      rcases List.mem_append.1 hu with hu | hu
      · simp at hu; subst hu; rfl
      · exact hone _ u hu) (by unfold maxLen; omega) (by omega) (Nat.le_trans hb (Nat.le_trans (by omega) hg1.size))
  refine ⟨_, wA, v2, wB, hr1, hr2, ?_, ?_⟩
  · have e5 : (L.take q ++ x :: L.drop q).length = q + (1 + (len - q)) := by simp; omega
    unfold Own
    rw [e5]
    have e6 : rowI (L.take q ++ x :: L.drop q) = rowI (L.take q) ++ ([.int .i64 x] ++ rowI (L.drop q)) := by unfold rowI; simp
    rw [e6]
    exact ho2
  · have g0 : w.grownBy wd (some g) := ⟨hbd.os, hbd.tape, hbd.output, hbd.size, fun k hk _ => hbd.block k hk⟩
    refine (g0.andThen hg1 (fun j e => ?_)).andThen hg2 (fun j e => ?_)
    · have : j = w.heap.size := by simpa [Value.ownBlock] using e.symm
      exact Or.inl (by omega)
    · have : j = g := by simpa [Value.ownBlock] using e.symm
      exact Or.inr (by rw [this])
theorem ins_nil {w : World} {b3 : Nat} (x : Int) (hb : b3 ≤ w.heap.size) :
    ∃ v2 wB, (Builtin.append_ #[43, 43] 43 #[.slice (some ⟨w.heap.size, 0, none⟩) 1 1, .slice none 0 0]).run Try.prog (w.drew.alloc (.cells #[.int .i64 x] 3)) = .ok (.slice (some ⟨w.heap.size, 0, none⟩) 1 1) (w.drew.alloc (.cells #[.int .i64 x] 3)) ∧
      (Builtin.append_ #[43, 43] 43 #[.slice none 0 0, .slice (some ⟨w.heap.size, 0, none⟩) 1 1]).run Try.prog (w.drew.alloc (.cells #[.int .i64 x] 3)) = .ok v2 wB ∧ Own wB b3 v2 [x] ∧ w.grownBy wB none := by
  obtain ⟨i, hi, hz, h1, h2⟩ := infoI'
  have hbd : Bl w (w.drew.alloc (.cells #[.int .i64 x] 3)) := ((Bl.refl w).drew).alloc _
  have hZ : (w.drew.alloc (.cells #[.int .i64 x] 3)).ownsRow w.heap.size 3 1 (.slice (some ⟨w.heap.size, 0, none⟩) 1 1) 1 [.int .i64 x] := by
    have := World.ownsRow_lit (base := w.heap.size) (e := 3) (size := 1) w.drew #[.int .i64 x] 1 (by simp) (by unfold maxLen; omega) rfl
    simpa using this
  obtain ⟨v2, wB, hr, ho, hg, _⟩ := app_one (w.drew.alloc (.cells #[.int .i64 x] 3)) b3 (.slice none 0 0) [] x w.heap.size (Own.nil _ _) (by have := World.ownsRow.cells hZ (g := w.heap.size) rfl 0 (.int .i64 x) rfl; rwa [Addr.add_lit] at this) (by decide) (Nat.le_trans hb hbd.size)
  refine ⟨v2, wB, run_append_owned_none (P := Try.prog) _ w.heap.size 43 43 3 i 1 Try.underlying43 hi _ 1 _ hZ, hr, ho, ?_⟩
  have g0 : w.grownBy (w.drew.alloc (.cells #[.int .i64 x] 3)) none := ⟨hbd.os, hbd.tape, hbd.output, hbd.size, fun k hk _ => hbd.block k hk⟩
  exact g0.andThen hg (fun j e => by cases e)
theorem left_is {D : DataW Unit} {left : Lit → Bool} {L : List Int} {x : Int} (hm : ∀ z, z ∈ L ↔ has D (key z) = true ∧ left (key z) = false) (hx : has D (key x) = true) (z : Int) :
    (z ∈ L ∨ z = x) ↔ has D (key z) = true ∧ (left (key z) && !(key z).sameKey (.int .i64 x)) = false := by
  by_cases h : z = x
  · subst h
    have e : (key z).sameKey (.int .i64 z) = true := by unfold key; simp [Lit.sameKey]
    rw [e]
    simp [hx]
  · have e : (key z).sameKey (.int .i64 x) = false := sameKey_ne (fun e => h (by unfold key at e; injection e))
    rw [e, hm]
    simp [h]
end Go.Proofs.Ytfblmfjgbbeheaa.sp
