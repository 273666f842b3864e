/- The tree of beginnings in memory: a row of structs, each with a map of where it leads. -/
import Derived.Test.YtehmjffbfgnijabDoorFdV
import Derived.Test.YtehmjffbfgnijabDoorFdA
import Derived.Maps.OwnSet
import Derived.Laws.OwnMore
namespace Go.Proofs.YtehmjffbfgnijabDoor.tree
set_option linter.unusedVariables false
open Go.ChangeShapes Go.WideShapes Go.ChangeAt Go.RowKit Go.Maps
open mem rows fd

theorem law8 : Keyed Tryd.prog 5 := int_keyed Tryd.underlying5
/-- A byte as a key. -/
def key (n : Int) : Lit := .int .u8 n
theorem key_wf {n : Int} (h : 0 ≤ n ∧ n < 256) : (Lit.int .u8 n).wf = true := WalkArith.wf_u8 (by omega)
theorem key_of {n : Int} (h : 0 ≤ n ∧ n < 256) : keyOf Tryd.prog 5 (.int .u8 n) = some (key n) := keyOf_int_mk Tryd.underlying5 (key_wf h)
theorem isKey (z : Int) : WideAt.IsKeyLit (key z) := trivial
theorem key_inj {a b : Int} (h : a ≠ b) : key a ≠ key b := fun e => h (by unfold key at e; injection e)
/-- A map of the call's own that leads so. -/
def Mp (w : World) (b : Nat) (f : Int → Option Nat) (n : Nat) : Prop :=
  ∃ D : DataW Unit, w.ownsMap Tryd.prog 5 (plainElem Tryd.prog 3) b n D ∧ ∀ c, 0 ≤ c ∧ c < 256 → has D (key c) = (f c).isSome ∧ D.atKey (key c) (.lit (.int .i64 0)) = .lit (.int .i64 (((f c).getD 0 : Nat) : Int))
theorem Mp.lt {w : World} {b n : Nat} {f : Int → Option Nat} (h : Mp w b f n) : b < w.heap.size := by
  obtain ⟨D, h1, _⟩ := h
  exact h1.lt
theorem Mp.kept {w w' : World} {b n : Nat} {f : Int → Option Nat} {row : Option Nat} (h : Mp w b f n) (hg : w.grownBy w' row) (hne : some b ≠ row) : Mp w' b f n := by
  obtain ⟨D, h1, h2⟩ := h
  exact ⟨D, h1.kept hg hne, h2⟩
theorem Mp.congr {w : World} {b n : Nat} {f f' : Int → Option Nat} (h : Mp w b f n) (e : ∀ c, 0 ≤ c ∧ c < 256 → f' c = f c) : Mp w b f' n := by
  obtain ⟨D, h1, h2⟩ := h
  exact ⟨D, h1, fun c hc => by rw [e c hc]; exact h2 c hc⟩
theorem zero_int (w : World) : (zeroValue 3).run Tryd.prog w = .ok (.int .i64 0) w := by kernel_rfl
set_option maxRecDepth 10000 in
theorem Mp.look {w : World} {b n : Nat} {f : Int → Option Nat} (h : Mp w b f n) (c : Int) (hc : 0 ≤ c ∧ c < 256) :
    (Instr.lookup 51 (.map (some b)) (.int .u8 c) true).run Tryd.prog w = .ok (.tuple #[.int .i64 (((f c).getD 0 : Nat) : Int), .bool (f c).isSome]) w := by
  obtain ⟨D, h1, h2⟩ := h
  obtain ⟨v, ps, hrun, hv⟩ := h1.look_ok law8 Tryd.underlying51 (zero_int w) (plainElem_int Tryd.underlying3 (a := 0) (by decide)) (key_of hc)
  obtain ⟨z, rfl, hz, _⟩ := plainElem_int_inv Tryd.underlying3 hv
  obtain ⟨e1, e2⟩ := h2 c hc
  have e3 := congrArg Prod.fst hz
  dsimp only at e3
  rw [e2] at e3
  have e4 : (((f c).getD 0 : Nat) : Int) = z := by injection e3 with e; injection e
  rw [hrun, e1, e4]
theorem nil_look (w : World) (c : Int) : (Instr.lookup 51 (.map none) (.int .u8 c) true).run Tryd.prog w = .ok (.tuple #[.int .i64 0, .bool false]) w := by kernel_rfl
set_option maxRecDepth 10000 in
theorem Mp.put {w : World} {b n : Nat} {f : Int → Option Nat} (h : Mp w b f n) (c : Int) (j : Nat) (hc : 0 ≤ c ∧ c < 256) (hn : n ≤ 5000) (hj : j ≤ 1000000) :
    ∃ w', (Instr.mapUpdate 51 (.map (some b)) (.int .u8 c) (.int .i64 (j : Int))).run Tryd.prog w = .ok () w' ∧ Mp w' b (fun d => if d = c then some j else f d) (n + 1) ∧ w.grownBy w' (some b) := by
  obtain ⟨D, h1, h2⟩ := h
  obtain ⟨w', hr, ho, hg⟩ := h1.update law8 Tryd.underlying51 (by unfold maxLen; omega) (key_of hc) (plainElem_int Tryd.underlying3 (a := (j : Int)) (WalkArith.wf_i64 (by omega)))
  refine ⟨w', hr, ⟨_, ho, fun d hd => ?_⟩, hg⟩
  by_cases e : d = c
  · subst e
    rw [has_put_same h1.isMap (isKey d), atKey_put_same h1.isMap (isKey d)]
    dsimp only
    rw [if_pos rfl]
    exact ⟨rfl, rfl⟩
  · rw [has_put_other (key_inj e), atKey_put_other (key_inj e)]
    dsimp only
    rw [if_neg e]
    exact h2 d hd
theorem made_has (z : Int) : has (.map [] : DataW Unit) (key z) = false := by
  rw [has_eq]
  simp
theorem Mp.made (w : World) : Mp (w.alloc (.map #[] 0)) w.heap.size (fun _ => none) 0 :=
  ⟨_, World.ownsMap_made w Tryd.prog 5 _, fun c _ => ⟨made_has c, rfl⟩⟩
/-- Where a beginning leads. -/
def Ld (w : World) (base : Nat) (v : Value) (f : Int → Option Nat) (n : Nat) : Prop :=
  (v = .map none ∧ ∀ c, 0 ≤ c ∧ c < 256 → f c = none) ∨ ∃ b, v = .map (some b) ∧ base ≤ b ∧ Mp w b f n
theorem Ld.look {w : World} {base n : Nat} {v : Value} {f : Int → Option Nat} (h : Ld w base v f n) (c : Int) (hc : 0 ≤ c ∧ c < 256) :
    (Instr.lookup 51 v (.int .u8 c) true).run Tryd.prog w = .ok (.tuple #[.int .i64 (((f c).getD 0 : Nat) : Int), .bool (f c).isSome]) w := by
  rcases h with ⟨rfl, h⟩ | ⟨b, rfl, _, h⟩
  · rw [nil_look, h c hc]; rfl
  · exact h.look c hc
/-- The cells of the first m. -/
def rowT (lv : Nat → Value) (E W : Nat → Nat) : Nat → List Value
  | 0 => []
  | m + 1 => rowT lv E W m ++ [lv m, .int .i64 (E m : Int), .int .u64 (W m : Int)]
theorem rowT_len (lv : Nat → Value) (E W : Nat → Nat) (m : Nat) : (rowT lv E W m).length = m * 3 := by
  induction m with
  | zero => rfl
  | succ m ih => rw [rowT, List.length_append, ih]; simp; omega
theorem rowT_get (lv : Nat → Value) (E W : Nat → Nat) (m i : Nat) (h : i < m) : (rowT lv E W m)[i * 3]? = some (lv i) ∧ (rowT lv E W m)[i * 3 + 1]? = some (.int .i64 (E i : Int)) ∧ (rowT lv E W m)[i * 3 + 2]? = some (.int .u64 (W i : Int)) := by
  induction m with
  | zero => exact absurd h (Nat.not_lt_zero _)
  | succ m ih =>
    have hl := rowT_len lv E W m
    rw [rowT]
    rcases Nat.lt_or_ge i m with h' | h'
    · rw [List.getElem?_append_left (by omega), List.getElem?_append_left (by omega), List.getElem?_append_left (by omega)]
      exact ih h'
    · obtain rfl : i = m := by omega
      rw [List.getElem?_append_right (by omega), List.getElem?_append_right (by omega), List.getElem?_append_right (by omega), hl]
      simp
theorem rowT_congr {lv lv' : Nat → Value} {E E' W W' : Nat → Nat} {m : Nat} (h1 : ∀ i, i < m → lv i = lv' i) (h2 : ∀ i, i < m → E i = E' i) (h3 : ∀ i, i < m → W i = W' i) : rowT lv E W m = rowT lv' E' W' m := by
  induction m with
  | zero => rfl
  | succ m ih => rw [rowT, rowT, ih (fun i hi => h1 i (by omega)) (fun i hi => h2 i (by omega)) (fun i hi => h3 i (by omega)), h1 m (by omega), h2 m (by omega), h3 m (by omega)]
theorem infoT : (Tryd.prog.info? 54).map (fun i => (i.zero, i.size, i.bytes)) = some (some (.agg #[.map none, .int .i64 0, .int .u64 0]), 3, 24) := by kernel_rfl
theorem infoT' : ∃ i, Tryd.prog.info? 54 = some i ∧ i.zero = some (.agg #[.map none, .int .i64 0, .int .u64 0]) ∧ i.size = 3 ∧ i.bytes = 24 := by
  obtain ⟨i, h1, h2⟩ := Option.map_eq_some_iff.1 infoT
  simp only [Prod.mk.injEq] at h2
  exact ⟨i, h1, h2.1, h2.2.1, h2.2.2⟩
/-- A row of the call's own that holds just these beginnings. -/
def OwnT (w : World) (base : Nat) (v : Value) (m : Nat) (lv : Nat → Value) (E W : Nat → Nat) : Prop := w.ownsRow base 54 3 v m (rowT lv E W m)
theorem OwnT.shape {w : World} {base m : Nat} {v : Value} {lv : Nat → Value} {E W : Nat → Nat} (h : OwnT w base v m lv E W) (hm : 0 < m) :
    ∃ g cap, v = .slice (some ⟨g, 0, none⟩) m cap ∧ base ≤ g ∧ g < w.heap.size ∧ (∃ cur, w.heap[g]? = some (.cells cur 54 (0, 0))) ∧
      ∀ i, i < m → w.cell? ⟨g, i * 3, none⟩ = some (lv i) ∧ w.cell? ⟨g, i * 3 + 1, none⟩ = some (.int .i64 (E i : Int)) ∧ w.cell? ⟨g, i * 3 + 2, none⟩ = some (.int .u64 (W i : Int)) := by
  rcases h.2 with ⟨_, h2⟩ | ⟨g, cap, cur, rfl, hbg, hg, hnc, hcm, hcs, htake⟩
  · omega
  · refine ⟨g, cap, rfl, hbg, (Array.getElem?_eq_some_iff.1 hg).1, ⟨cur, hg⟩, fun i hi => ?_⟩
    obtain ⟨h0, h1, h2⟩ := rowT_get lv E W m i hi
    rw [← htake, List.getElem?_take, if_pos (by omega)] at h0 h1 h2
    simp only [World.cell?, hg]
    exact ⟨by simpa using h0, by simpa using h1, by simpa using h2⟩
theorem OwnT.kept {w w' : World} {base m : Nat} {v : Value} {lv : Nat → Value} {E W : Nat → Nat} {row : Option Nat} (h : OwnT w base v m lv E W) (hg : w.grownBy w' row) (hne : ∀ k, v.ownBlock = some k → row ≠ some k) : OwnT w' base v m lv E W :=
  World.ownsRow.kept h hg (by
    cases e : v.ownBlock with
    | none => exact Or.inl rfl
    | some k => exact Or.inr (fun e' => hne k e e'.symm))
theorem OwnT.step {w w' : World} {base m : Nat} {v : Value} {lv : Nat → Value} {E W : Nat → Nat} (h : OwnT w base v m lv E W) (hb : Bl w w') : OwnT w' base v m lv E W :=
  h.kept (row := none) ⟨hb.os, hb.tape, hb.output, hb.size, fun k hk _ => hb.block k hk⟩ (fun _ _ h => by cases h)
theorem OwnT.frozen {w : World} {base m g c : Nat} {lv : Nat → Value} {E W : Nat → Nat} (h : OwnT w base (.slice (some ⟨g, 0, none⟩) m c) m lv E W) (k : Nat) : w.frozen? ⟨g, k, none⟩ = false := by
  rcases h.2 with ⟨h1, _⟩ | ⟨g', cap, cur, h1, h2, h3, _⟩
  · cases h1
  · injection h1 with e1
    injection e1 with e1
    injection e1 with e1
    subst e1
    simp [World.frozen?, h3]
/-- One cell of it is written. -/
theorem OwnT.set {w : World} {base m g c : Nat} {lv lv' : Nat → Value} {E E' W W' : Nat → Nat} (h : OwnT w base (.slice (some ⟨g, 0, none⟩) m c) m lv E W) (k : Nat) (v : Value) (hk : k < m * 3)
    (hv : (rowT lv E W m).set k v = rowT lv' E' W' m) : OwnT (w.setCell ⟨g, k, none⟩ v) base (.slice (some ⟨g, 0, none⟩) m c) m lv' E' W' := by
  refine ⟨rowT_len _ _ _ _, ?_⟩
  rcases h.2 with ⟨h1, _⟩ | ⟨g', cap, cur, h1, h2, h3, h4, h5, h6, h7⟩
  · cases h1
  · injection h1 with e1 e2 e3
    injection e1 with e1
    injection e1 with e1
    subst e1 e3
    refine Or.inr ⟨g, c, cur.setIfInBounds k v, rfl, h2, ?_, h4, h5, by simpa using h6, ?_⟩
    · simp [World.setCell, Array.getElem?_modify, h3]
    · rw [Array.toList_setIfInBounds, List.take_set, h7, hv]
theorem rowT_set0 (lv : Nat → Value) (E W : Nat → Nat) (m i : Nat) (v : Value) (h : i < m) : (rowT lv E W m).set (i * 3) v = rowT (fun j => if j = i then v else lv j) E W m := by
  induction m with
  | zero => exact absurd h (Nat.not_lt_zero _)
  | succ m ih =>
    have hl := rowT_len lv E W m
    rw [rowT, rowT]
    rcases Nat.lt_or_ge i m with h' | h'
    · rw [List.set_append_left _ _ (by omega), ih h', if_neg (by omega)]
    · obtain rfl : i = m := by omega
      rw [List.set_append_right _ _ (by omega), hl, Nat.sub_self, if_pos rfl]
      rw [rowT_congr (lv := lv) (lv' := fun j => if j = i then v else lv j) (fun j hj => (if_neg (by omega)).symm) (fun _ _ => rfl) (fun _ _ => rfl)]
      rfl
theorem rowT_set2 (lv : Nat → Value) (E W : Nat → Nat) (m i z : Nat) (h : i < m) : (rowT lv E W m).set (i * 3 + 2) (.int .u64 (z : Int)) = rowT lv E (fun j => if j = i then z else W j) m := by
  induction m with
  | zero => exact absurd h (Nat.not_lt_zero _)
  | succ m ih =>
    have hl := rowT_len lv E W m
    rw [rowT, rowT]
    rcases Nat.lt_or_ge i m with h' | h'
    · rw [List.set_append_left _ _ (by omega), ih h', if_neg (by omega)]
    · obtain rfl : i = m := by omega
      rw [List.set_append_right _ _ (by omega), hl, show i * 3 + 2 - i * 3 = 2 by omega, if_pos rfl]
      rw [rowT_congr (lv := lv) (W' := fun j => if j = i then z else W j) (fun _ _ => rfl) (fun _ _ => rfl) (fun j hj => (if_neg (by omega)).symm)]
      rfl
set_option maxRecDepth 10000 in
/-- A beginning more. -/
theorem appT_one (w : World) (base m : Nat) (v : Value) (lv : Nat → Value) (E W : Nat → Nat) (e z X : Nat) (hown : OwnT w base v m lv E W) (hX : w.cell? ⟨X, 0, none⟩ = some (.map none)) (hX1 : w.cell? ⟨X, 1, none⟩ = some (.int .i64 (e : Int))) (hX2 : w.cell? ⟨X, 2, none⟩ = some (.int .u64 (z : Int))) (hn : m ≤ 5000) (hb : base ≤ w.heap.size) :
    ∃ v' w', (Builtin.append_ #[48, 48] 48 #[v, .slice (some ⟨X, 0, none⟩) 1 1]).run Tryd.prog w = .ok v' w' ∧
      OwnT w' base v' (m + 1) (fun j => if j = m then .map none else lv j) (fun j => if j = m then e else E j) (fun j => if j = m then z else W j) ∧ w.grownBy w' v.ownBlock := by
  obtain ⟨i, hi, hz, h1, h2⟩ := infoT'
  obtain ⟨v', w', hr, ho, hg, _⟩ := run_append_own (P := Tryd.prog) w base 48 48 54 i (.agg #[.map none, .int .i64 0, .int .u64 0]) 3 24 Tryd.underlying48 hi hz h1 h2 rfl (by decide) v m (rowT lv E W m) hown
    ⟨X, 0, none⟩ 1 1 [.map none, .int .i64 (e : Int), .int .u64 (z : Int)] rfl (fun j u hu => by
      rcases j with _ | _ | _ | j
      · simp at hu; subst hu; simpa [Addr.add] using hX
      · simp at hu; subst hu; simpa [Addr.add] using hX1
      · simp at hu; subst hu; simpa [Addr.add] using hX2
      · simp at hu) (fun u hu => by simp at hu; rcases hu with rfl | rfl | rfl <;> rfl) (by simp [maxLen]; omega) (by omega) hb
  refine ⟨v', w', hr, ?_, hg⟩
  unfold OwnT
  rw [rowT, if_pos rfl, if_pos rfl, if_pos rfl, ← rowT_congr (lv := lv) (E := E) (W := W) (fun j hj => (if_neg (by omega)).symm) (fun j hj => (if_neg (by omega)).symm) (fun j hj => (if_neg (by omega)).symm)]
  exact ho
end Go.Proofs.YtehmjffbfgnijabDoor.tree
