/- Texts laid together: Tm6, Tm7, Tm8, Tm9. -/
import Derived.Test.YtpanodaecjlgaaaZ14
import Derived.Deep.MidRow
/- A reader of a template's tokens: many, ruleOf, rule. -/
namespace Go.Proofs.Ytpanodaecjlgaaa.tm
set_option linter.unusedVariables false
open Go.ChangeShapes Go.WideShapes Go.ChangeAt Go.RowKit Go.Shelf
open mem lx ex

/-- The words of rules, and those for numbers, lie where they are laid. -/
def ruL : List Value := [.string (tx []), .string (tx wSize), .string (tx wCount), .string (tx wCheck)]
def nuL : List Value := numW.flatMap fun p => [.string (tx p.1), .int .i64 (p.2.1 : Int), .int .i64 (p.2.2.1 : Int), .bool p.2.2.2]
theorem range_below {B g : Nat} {l : List Value} {w w' : World} (h : Below B w w') (hg : g < B) (hr : w.rangeAt g 0 l) : w'.rangeAt g 0 l := fun j v hv => at_below h hg (hr j v hv)
def rwL : List (List UInt8) := [[], wSize, wCount, wCheck]
theorem ruL_is (j : Nat) (t : List UInt8) (h : rwL[j]? = some t) : ruL[j]? = some (.string (tx t)) := by
  have : ruL = rwL.map fun t => Value.string (tx t) := rfl
  rw [this, List.getElem?_map, h]; rfl
theorem ruleOf_hit (t : List UInt8) (j : Nat) (h : rwL[j]? = some t) (hn : ∀ i u, i < j → rwL[i]? = some u → u ≠ t) : ruleOf t = j := by
  rcases j with _ | _ | _ | _ | j
  · obtain rfl := Option.some.inj h; decide
  · obtain rfl := Option.some.inj h; decide
  · obtain rfl := Option.some.inj h; decide
  · obtain rfl := Option.some.inj h; decide
  · exact absurd h (by simp [rwL])
theorem ruleOf_miss (t : List UInt8) (hn : ∀ i u, i < 4 → rwL[i]? = some u → u ≠ t) : ruleOf t = 0 := by
  unfold ruleOf
  rw [if_neg (fun e => hn 1 _ (by omega) rfl e.symm), if_neg (fun e => hn 2 _ (by omega) rfl e.symm), if_neg (fun e => hn 3 _ (by omega) rfl e.symm)]
end Go.Proofs.Ytpanodaecjlgaaa.tm
/- A reader of a template's tokens: rule. -/
namespace Go.Proofs.Ytpanodaecjlgaaa.tm
set_option linter.unusedVariables false
open Go.ChangeShapes Go.WideShapes Go.ChangeAt Go.RowKit Go.Shelf
open mem lx ex

/-- An item's variable. -/
structure Iv (w : World) (X : Nat) (c : C) : Prop where
  h : w.heap[X]? = some (.cells (cl c).toArray 42 (0, 0))
theorem Iv.lt {w : World} {X : Nat} {c : C} (h : Iv w X c) : X < w.heap.size := lt_of_heap h.h
theorem Iv.cell {w : World} {X : Nat} {c : C} (h : Iv w X c) (j : Nat) : w.cell? ⟨X, j, none⟩ = (cl c)[j]? := by rw [cell_of h.h]; simp
theorem Iv.fz {w : World} {X : Nat} {c : C} (h : Iv w X c) (j : Nat) : w.frozen? ⟨X, j, none⟩ = false := by simp [World.frozen?, h.h]
theorem Iv.bl {w w' : World} {X : Nat} {c : C} (h : Iv w X c) (hb : Bl w w') : Iv w' X c := ⟨by rw [Below.block hb X h.lt]; exact h.h⟩
theorem Iv.gp {w w' : World} {P X : Nat} {c : C} (h : Iv w X c) (hb : Gp P w w') (hne : X ≠ P) : Iv w' X c := ⟨by rw [hb.block X h.lt hne]; exact h.h⟩
theorem Iv.set {w : World} {X j : Nat} {c c' : C} {u : Value} (h : Iv w X c) (he : (cl c).toArray.setIfInBounds j u = (cl c').toArray) : Iv (w.setCell ⟨X, j, none⟩ u) X c' := ⟨by simp [World.setCell, Array.getElem?_modify, h.h, ← he]⟩
def C.ru (c : C) (r : Nat) : C := { c with d := { c.d with ru := r } }
def C.f1 (c : C) (t : List UInt8) : C := { c with d := { c.d with f1 := t } }
def C.l1 (c : C) (t : List UInt8) : C := { c with d := { c.d with l1 := t } }
def C.nm (c : C) (t : List UInt8) : C := { c with d := { c.d with nm := t } }
def C.at (c : C) (a : Nat) : C := { c with d := { c.d with at_ := a } }
theorem set_ru (c : C) (r : Nat) : (cl c).toArray.setIfInBounds 9 (.int .i64 (r : Int)) = (cl (c.ru r)).toArray := rfl
theorem set_f1 (c : C) (t : List UInt8) : (cl c).toArray.setIfInBounds 10 (.string (tx t)) = (cl (c.f1 t)).toArray := rfl
theorem set_l1 (c : C) (t : List UInt8) : (cl c).toArray.setIfInBounds 11 (.string (tx t)) = (cl (c.l1 t)).toArray := rfl
theorem set_nm (c : C) (t : List UInt8) : (cl c).toArray.setIfInBounds 2 (.string (tx t)) = (cl (c.nm t)).toArray := rfl
theorem set_at (c : C) (a : Nat) : (cl c).toArray.setIfInBounds 1 (.int .i64 (a : Int)) = (cl (c.at a)).toArray := rfl
/-- An item, stored. -/
def st13 (w : World) (N : Nat) (c : C) : World := (((((((((((((w).setCell ⟨N, 0, none⟩ (.int .i64 (c.d.kd : Int))).setCell ⟨N, 1, none⟩ (.int .i64 (c.d.at_ : Int))).setCell ⟨N, 2, none⟩ (.string (tx c.d.nm))).setCell ⟨N, 3, none⟩ (.string (tx c.d.ty))).setCell ⟨N, 4, none⟩ (.int .i64 (c.d.wd : Int))).setCell ⟨N, 5, none⟩ (.int .i64 (c.d.od : Int))).setCell ⟨N, 6, none⟩ (.bool c.d.sg)).setCell ⟨N, 7, none⟩ (.bool c.d.mn)).setCell ⟨N, 8, none⟩ (.pointer c.pc)).setCell ⟨N, 9, none⟩ (.int .i64 (c.d.ru : Int))).setCell ⟨N, 10, none⟩ (.string (tx c.d.f1))).setCell ⟨N, 11, none⟩ (.string (tx c.d.l1))).setCell ⟨N, 12, none⟩ (.slice c.p c.n c.c)
theorem heap_set {w : World} {N j : Nat} {a : Array Value} {t : TypeId} {u : Value} (h : w.heap[N]? = some (.cells a t (0, 0))) : (w.setCell ⟨N, j, none⟩ u).heap[N]? = some (.cells (a.setIfInBounds j u) t (0, 0)) := by simp [World.setCell, Array.getElem?_modify, h]
theorem arr13 (a0 a1 a2 a3 a4 a5 a6 a7 a8 a9 a10 a11 a12 v0 v1 v2 v3 v4 v5 v6 v7 v8 v9 v10 v11 v12 : Value) : ((((((((((((((#[a0, a1, a2, a3, a4, a5, a6, a7, a8, a9, a10, a11, a12] : Array Value).setIfInBounds 0 v0).setIfInBounds 1 v1).setIfInBounds 2 v2).setIfInBounds 3 v3).setIfInBounds 4 v4).setIfInBounds 5 v5).setIfInBounds 6 v6).setIfInBounds 7 v7).setIfInBounds 8 v8).setIfInBounds 9 v9).setIfInBounds 10 v10).setIfInBounds 11 v11).setIfInBounds 12 v12) = #[v0, v1, v2, v3, v4, v5, v6, v7, v8, v9, v10, v11, v12] := by
  apply Array.ext'
  simp only [Array.toList_setIfInBounds, List.set]
theorem heap13 {w : World} {N : Nat} {t : TypeId} (a0 a1 a2 a3 a4 a5 a6 a7 a8 a9 a10 a11 a12 v0 v1 v2 v3 v4 v5 v6 v7 v8 v9 v10 v11 v12 : Value) (h : w.heap[N]? = some (.cells #[a0, a1, a2, a3, a4, a5, a6, a7, a8, a9, a10, a11, a12] t (0, 0))) : (((((((((((((w.setCell ⟨N, 0, none⟩ v0).setCell ⟨N, 1, none⟩ v1).setCell ⟨N, 2, none⟩ v2).setCell ⟨N, 3, none⟩ v3).setCell ⟨N, 4, none⟩ v4).setCell ⟨N, 5, none⟩ v5).setCell ⟨N, 6, none⟩ v6).setCell ⟨N, 7, none⟩ v7).setCell ⟨N, 8, none⟩ v8).setCell ⟨N, 9, none⟩ v9).setCell ⟨N, 10, none⟩ v10).setCell ⟨N, 11, none⟩ v11).setCell ⟨N, 12, none⟩ v12).heap[N]? = some (.cells #[v0, v1, v2, v3, v4, v5, v6, v7, v8, v9, v10, v11, v12] t (0, 0)) := by
  rw [← arr13 a0 a1 a2 a3 a4 a5 a6 a7 a8 a9 a10 a11 a12 v0 v1 v2 v3 v4 v5 v6 v7 v8 v9 v10 v11 v12]
  exact heap_set (heap_set (heap_set (heap_set (heap_set (heap_set (heap_set (heap_set (heap_set (heap_set (heap_set (heap_set (heap_set h))))))))))))
theorem Iv.store {w : World} {N : Nat} {c : C} (h : Iv w N c) (c' : C) : Iv (st13 w N c') N c' :=
  ⟨heap13 (.int .i64 (c.d.kd : Int)) (.int .i64 (c.d.at_ : Int)) (.string (tx c.d.nm)) (.string (tx c.d.ty)) (.int .i64 (c.d.wd : Int)) (.int .i64 (c.d.od : Int)) (.bool c.d.sg) (.bool c.d.mn) (.pointer c.pc) (.int .i64 (c.d.ru : Int)) (.string (tx c.d.f1)) (.string (tx c.d.l1)) (.slice c.p c.n c.c) (.int .i64 (c'.d.kd : Int)) (.int .i64 (c'.d.at_ : Int)) (.string (tx c'.d.nm)) (.string (tx c'.d.ty)) (.int .i64 (c'.d.wd : Int)) (.int .i64 (c'.d.od : Int)) (.bool c'.d.sg) (.bool c'.d.mn) (.pointer c'.pc) (.int .i64 (c'.d.ru : Int)) (.string (tx c'.d.f1)) (.string (tx c'.d.l1)) (.slice c'.p c'.n c'.c) h.h⟩
theorem Iv.facts {w : World} {N : Nat} {c : C} (h : Iv w N c) : w.cell? ⟨N, 0, none⟩ = some (.int .i64 (c.d.kd : Int)) ∧ w.cell? ⟨N, 1, none⟩ = some (.int .i64 (c.d.at_ : Int)) ∧ w.cell? ⟨N, 2, none⟩ = some (.string (tx c.d.nm)) ∧ w.cell? ⟨N, 3, none⟩ = some (.string (tx c.d.ty)) ∧ w.cell? ⟨N, 4, none⟩ = some (.int .i64 (c.d.wd : Int)) ∧ w.cell? ⟨N, 5, none⟩ = some (.int .i64 (c.d.od : Int)) ∧ w.cell? ⟨N, 6, none⟩ = some (.bool c.d.sg) ∧ w.cell? ⟨N, 7, none⟩ = some (.bool c.d.mn) ∧ w.cell? ⟨N, 8, none⟩ = some (.pointer c.pc) ∧ w.cell? ⟨N, 9, none⟩ = some (.int .i64 (c.d.ru : Int)) ∧ w.cell? ⟨N, 10, none⟩ = some (.string (tx c.d.f1)) ∧ w.cell? ⟨N, 11, none⟩ = some (.string (tx c.d.l1)) ∧ w.cell? ⟨N, 12, none⟩ = some (.slice c.p c.n c.c) :=
  ⟨h.cell 0, h.cell 1, h.cell 2, h.cell 3, h.cell 4, h.cell 5, h.cell 6, h.cell 7, h.cell 8, h.cell 9, h.cell 10, h.cell 11, h.cell 12⟩
theorem Iv.fzs {w : World} {N : Nat} {c : C} (h : Iv w N c) : w.frozen? ⟨N, 0, none⟩ = false ∧ w.frozen? ⟨N, 1, none⟩ = false ∧ w.frozen? ⟨N, 2, none⟩ = false ∧ w.frozen? ⟨N, 3, none⟩ = false ∧ w.frozen? ⟨N, 4, none⟩ = false ∧ w.frozen? ⟨N, 5, none⟩ = false ∧ w.frozen? ⟨N, 6, none⟩ = false ∧ w.frozen? ⟨N, 7, none⟩ = false ∧ w.frozen? ⟨N, 8, none⟩ = false ∧ w.frozen? ⟨N, 9, none⟩ = false ∧ w.frozen? ⟨N, 10, none⟩ = false ∧ w.frozen? ⟨N, 11, none⟩ = false ∧ w.frozen? ⟨N, 12, none⟩ = false :=
  ⟨h.fz 0, h.fz 1, h.fz 2, h.fz 3, h.fz 4, h.fz 5, h.fz 6, h.fz 7, h.fz 8, h.fz 9, h.fz 10, h.fz 11, h.fz 12⟩
theorem st_gp {P N : Nat} {w0 w : World} {c : C} (h : Gp P w0 w) (hN : w0.heap.size ≤ N) : Gp P w0 (st13 w N c) :=
  ((((((((((((h.setNew hN _).setNew hN _).setNew hN _).setNew hN _).setNew hN _).setNew hN _).setNew hN _).setNew hN _).setNew hN _).setNew hN _).setNew hN _).setNew hN _).setNew hN _
theorem rule_is (en : Nat) (d : D) (ts : List Tk) : (ruleOf (hd en ts).t = 0 → rule en d ts = .error (3, (hd en ts).a)) ∧
    (ruleOf (hd en ts).t ≠ 0 → (∀ e, name en ts.tail = .error e → rule en d ts = .error e) ∧ ∀ a r, name en ts.tail = .ok (a, r) →
      (ruleOf (hd en ts).t ≠ 3 → rule en d ts = .ok ({ d with ru := ruleOf (hd en ts).t, f1 := a }, r)) ∧
      (ruleOf (hd en ts).t = 3 → ((hd en r).t = [59] → rule en d ts = .ok ({ d with ru := 3, f1 := a, l1 := a }, r)) ∧
        (¬ (hd en r).t = [59] → (∀ e, name en r = .error e → rule en d ts = .error e) ∧ ∀ b r', name en r = .ok (b, r') → rule en d ts = .ok ({ d with ru := 3, f1 := a, l1 := b }, r')))) := by
  unfold rule
  refine ⟨fun h => by rw [if_pos h], fun h => ?_⟩
  rw [if_neg h]
  refine ⟨fun e he => by rw [he], fun a r hr => ?_⟩
  rw [hr]
  dsimp only
  refine ⟨fun h3 => by rw [if_neg h3], fun h3 => ?_⟩
  rw [if_pos h3]
  refine ⟨fun h4 => by rw [if_pos h4], fun h4 => ?_⟩
  rw [if_neg h4]
  exact ⟨fun e he => by rw [he], fun b r' hb => by rw [hb]⟩
end Go.Proofs.Ytpanodaecjlgaaa.tm
/- A reader of a template's tokens: kind. -/
namespace Go.Proofs.Ytpanodaecjlgaaa.tm
set_option linter.unusedVariables false
open Go.ChangeShapes Go.WideShapes Go.ChangeAt Go.RowKit Go.Shelf
open mem lx ex

/-- An item's value. -/
def itV (c : C) : Value := .agg (cl c).toArray
/-- What is a number's word. -/
theorem num_is (t : List UInt8) : (numOf t = none ∧ (resv t = true → wdV t = -1)) ∨ ∃ (k : Nat) (p : List UInt8 × Nat × Nat × Bool), k < 12 ∧ numW[k]? = some p ∧ numOf t = some p.2 ∧ wdV t = (k : Int) ∧ resv t = true := by
  unfold numOf wdV resv numOf
  cases hf : numW.findIdx? (fun p => p.1 == t) with
  | none =>
    left
    have h := List.findIdx?_eq_none_iff.1 hf
    have hn : numW.find? (fun p => p.1 == t) = none := by
      rw [List.find?_eq_none]
      intro p hp
      rw [h p hp]; decide
    rw [hn]
    exact ⟨rfl, fun _ => rfl⟩
  | some k =>
    right
    obtain ⟨h1, h2, h3⟩ := List.findIdx?_eq_some_iff_getElem.1 hf
    have hn : numW.find? (fun p => p.1 == t) = some numW[k] := by
      rw [List.find?_eq_some_iff_getElem]
      exact ⟨h2, k, h1, rfl, fun j hj => by have := h3 j hj; simpa using this⟩
    rw [hn]
    refine ⟨k, numW[k], h1, List.getElem?_eq_getElem h1, rfl, rfl, ?_⟩
    simp
theorem nuL_get (k : Nat) (p : List UInt8 × Nat × Nat × Bool) (h : numW[k]? = some p) : nuL[k * 4 + 1]? = some (.int .i64 (p.2.1 : Int)) ∧ nuL[k * 4 + 2]? = some (.int .i64 (p.2.2.1 : Int)) ∧ nuL[k * 4 + 3]? = some (.bool p.2.2.2) := by
  have key : ∀ (l : List (List UInt8 × Nat × Nat × Bool)) (k : Nat), l[k]? = some p → let z := l.flatMap fun p => [Value.string (tx p.1), .int .i64 (p.2.1 : Int), .int .i64 (p.2.2.1 : Int), .bool p.2.2.2]; z[k * 4 + 1]? = some (.int .i64 (p.2.1 : Int)) ∧ z[k * 4 + 2]? = some (.int .i64 (p.2.2.1 : Int)) ∧ z[k * 4 + 3]? = some (.bool p.2.2.2) := by
    intro l
    induction l with
    | nil => intro k h; simp at h
    | cons q l ih =>
      intro k h
      cases k with
      | zero =>
        simp at h
        subst h
        exact ⟨rfl, rfl, rfl⟩
      | succ k =>
        obtain ⟨h1, h2, h3⟩ := ih k (by simpa using h)
        rw [show (k + 1) * 4 + 1 = k * 4 + 1 + 4 by omega, show (k + 1) * 4 + 2 = k * 4 + 2 + 4 by omega, show (k + 1) * 4 + 3 = k * 4 + 3 + 4 by omega]
        exact ⟨h1, h2, h3⟩
  exact key numW k h
/-- What a kind's reading answers. -/
def KV (w : World) (v : Value) (d : D) : Prop := v = itV ⟨d, none, none, 0, 0⟩ ∧ d.ct = none
theorem kind_is (en : Nat) (ts : List Tk) : (∀ w o s, numOf (hd en ts).t = some (w, o, s) → kind en ts = .ok ({ D0 with kd := 1, wd := w, od := o, sg := s }, ts.tail)) ∧
    (numOf (hd en ts).t = none → (∀ e, name en ts = .error e → kind en ts = .error e) ∧ ∀ t r, name en ts = .ok (t, r) → kind en ts = .ok ({ D0 with kd := 3, ty := t }, r)) := by
  unfold kind
  exact ⟨fun w o s h => by rw [h], fun h => by rw [h]; exact ⟨fun e he => by rw [he], fun t r hr => by rw [hr]⟩⟩
def z13 : Array Value := #[.int .i64 0, .int .i64 0, .string ⟨#[]⟩, .string ⟨#[]⟩, .int .i64 0, .int .i64 0, .bool false, .bool false, .pointer none, .int .i64 0, .string ⟨#[]⟩, .string ⟨#[]⟩, .slice none 0 0]
theorem infoI : (Try.prog.info? 42).map (·.size) = some 13 := by kernel_rfl
end Go.Proofs.Ytpanodaecjlgaaa.tm
/- A reader of a template's tokens: part. -/
namespace Go.Proofs.Ytpanodaecjlgaaa.tm
set_option linter.unusedVariables false
open Go.ChangeShapes Go.WideShapes Go.ChangeAt Go.RowKit Go.Shelf
open mem lx ex

theorem kx_item {w w' : World} {X : Nat} {c : C} (hI : Iv w X c) (hg : w.grownBy w' (some X)) : Kx w w' := fun b cs hb => by
  rw [hg.block b (lt_of_heap hb) (fun e => by
    injection e with e
    have := hI.h
    rw [← e, hb] at this
    simp at this)]
  exact hb
theorem kx_st {w : World} {N : Nat} {c c' : C} (hI : Iv w N c) : Kx w (st13 w N c') := by
  have step : ∀ (w : World) (a : Array Value) (j : Nat) (u : Value), w.heap[N]? = some (.cells a 42 (0, 0)) → Kx w (w.setCell ⟨N, j, none⟩ u) ∧ ∃ a', (w.setCell ⟨N, j, none⟩ u).heap[N]? = some (.cells a' 42 (0, 0)) := by
    intro w a j u h
    refine ⟨fun b cs hb => ?_, _, heap_set h⟩
    rw [(grown_set w N j u).block b (lt_of_heap hb) (fun e => by injection e with e; rw [e, h] at hb; simp at hb)]
    exact hb
  have go : ∀ (l : List Value) (j : Nat) (w : World) (a : Array Value), w.heap[N]? = some (.cells a 42 (0, 0)) → Kx w ((l.foldl (fun (q : World × Nat) u => (q.1.setCell ⟨N, q.2, none⟩ u, q.2 + 1)) (w, j)).1) := by
    intro l
    induction l with
    | nil => intro j w a h; exact fun b cs hb => hb
    | cons u l ih =>
      intro j w a h
      obtain ⟨k1, a', k2⟩ := step w a j u h
      exact Kx.trans k1 (ih (j + 1) _ a' k2)
  exact go (cl c') 0 w _ hI.h
/-- A world, cut short. -/
def cutW (w : World) (n : Nat) : World := { w with heap := w.heap.extract 0 n }
theorem cutW_size (w : World) (n : Nat) (h : n ≤ w.heap.size) : (cutW w n).heap.size = n := by
  show (w.heap.extract 0 n).size = n
  rw [Array.size_extract]; omega
theorem cutW_block (w : World) (n k : Nat) (h : k < n) (hn : n ≤ w.heap.size) : (cutW w n).heap[k]? = w.heap[k]? := by
  show (w.heap.extract 0 n)[k]? = _
  rw [Array.getElem?_extract]
  rw [if_pos (by omega), Nat.zero_add]
theorem cutW_gp (P : Nat) (w : World) (n : Nat) (h : n ≤ w.heap.size) : Gp P (cutW w n) w := ⟨rfl, rfl, rfl, by rw [cutW_size w n h]; exact h, fun k hk _ => by rw [cutW_size w n h] at hk; exact (cutW_block w n k hk h).symm⟩
/-- What a part's reading tells. -/
def PV (w : World) (v : Value) (d : D) : Prop := ∃ pc, v = itV ⟨d, pc, none, 0, 0⟩ ∧ IsO w pc d.ct
theorem part_is (en : Nat) (ts : List Tk) : (∀ e, kind en ts = .error e → part nb en ts = .error e) ∧ ∀ d1 r1, kind en ts = .ok (d1, r1) →
    (∀ e, name en r1 = .error e → part nb en ts = .error e) ∧ ∀ t r2, name en r1 = .ok (t, r2) →
    (∀ e, mark nb en { d1 with nm := t } r2 = .error e → part nb en ts = .error e) ∧ ∀ d3 r3, mark nb en { d1 with nm := t } r2 = .ok (d3, r3) →
    ((hd en r3).t = [59] → part nb en ts = .ok (d3, r3.tail)) ∧ (¬ (hd en r3).t = [59] → part nb en ts = .error (3, (hd en r3).a)) := by
  unfold part
  refine ⟨fun e h => by rw [h], fun d1 r1 h1 => ?_⟩
  rw [h1]
  dsimp only
  refine ⟨fun e h => by rw [h], fun t r2 h2 => ?_⟩
  rw [h2]
  dsimp only
  refine ⟨fun e h => by rw [h], fun d3 r3 h3 => ?_⟩
  rw [h3]
  dsimp only
  unfold want
  exact ⟨fun h => by rw [if_pos h], fun h => by rw [if_neg h]⟩
theorem mark_is' (en : Nat) (d : D) (ts : List Tk) : ((hd en ts).t = [91] → (∀ e, many nb en ts = .error e → mark nb en d ts = .error e) ∧ ∀ x r, many nb en ts = .ok (x, r) → mark nb en d ts = .ok ({ d with mn := true, ct := some x }, r)) ∧
    ((hd en ts).t = [61] → d.kd = 1 → mark nb en d ts = rule en d ts.tail) ∧ (¬ (hd en ts).t = [91] → ¬ ((hd en ts).t = [61] ∧ d.kd = 1) → mark nb en d ts = .ok (d, ts)) := by
  unfold mark
  refine ⟨fun h => ?_, fun h1 h2 => ?_, fun h1 h2 => by rw [if_neg h1, if_neg h2]⟩
  · rw [if_pos h]
    exact ⟨fun e he => by rw [he], fun x r hx => by rw [hx]⟩
  · rw [if_neg (by rw [h1]; decide), if_pos ⟨h1, h2⟩]
theorem rule_ct {en : Nat} {d d' : D} {ts r : List Tk} (h : rule en d ts = .ok (d', r)) : d'.ct = d.ct := by
  unfold rule at h
  split at h
  · cases h
  · split at h
    · cases h
    · split at h
      · split at h
        · injection h with h; injection h with h _; rw [← h]
        · split at h
          · cases h
          · injection h with h; injection h with h _; rw [← h]
      · injection h with h; injection h with h _; rw [← h]
end Go.Proofs.Ytpanodaecjlgaaa.tm
