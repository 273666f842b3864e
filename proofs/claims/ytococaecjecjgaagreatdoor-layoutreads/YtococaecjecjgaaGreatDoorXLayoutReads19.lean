/- Texts laid together: FdV, ByRow, TmX, TmY, TmZ. -/
import Derived.Test.YtococaecjecjgaaGreatDoorXLayoutReads18
import Derived.Deep.QuietTactic
import Derived.WalkSpells
import Derived.Lib.AppendStr
import Derived.Deep.RegionHeld3
import Derived.Test.YtococaecjecjgaaGreatDoorXLayoutReads10
/- Bytes of a text; numbers that a slice reads as; pick of the laws. -/
namespace Go.Proofs.YtococaecjecjgaaGreatDoor.rows
set_option linter.unusedVariables false
open Go.ChangeShapes Go.WideShapes Go.ChangeAt Go.RowKit
open mem

/-- Byte j of a text. -/
def sb (s : ByteArray) (j : Nat) : Int := ((s.data.toList.getD j 0).toNat : Int)
theorem sb_bd (s : ByteArray) (j : Nat) : 0 ≤ sb s j ∧ sb s j < 256 := by
  unfold sb
  have := (s.data.toList.getD j 0).toNat_lt
  omega
theorem sb_get (s : ByteArray) (j : Nat) (h : j < s.size) : sb s j = ((s[j]'h).toNat : Int) := by
  unfold sb
  have h' : j < s.data.toList.length := by simpa using h
  rw [List.getD_eq_getElem?_getD, List.getElem?_eq_getElem h']
  rfl
theorem isEmpty_at (s : ByteArray) : s.toList.isEmpty = decide (s.size = 0) := by
  rw [ByteArray.toList_eq]
  have e : s.size = s.data.toList.length := rfl
  rw [e]
  cases s.data.toList <;> simp
theorem at_bl {w w' : World} (h : Bl w w') {a : Addr} {v : Value} (hc : w.cell? a = some v) : w'.cell? a = some v := by
  have hlt : a.block < w.heap.size := by
    rcases Nat.lt_or_ge a.block w.heap.size with h1 | h1
    · exact h1
    · simp [World.cell?, Array.getElem?_eq_none h1] at hc
  unfold World.cell? at hc ⊢
  rw [Below.block h _ hlt]
  exact hc
/-- These numbers lie at p. -/
def In (w : World) (p : Option Addr) (l : List Int) : Prop :=
  l = [] ∨ ∃ x : Addr, p = some x ∧ ∀ k, k < l.length → w.cell? (x.add k) = some (.int .i64 (l.getD k 0))
theorem In.step {w w' : World} {p : Option Addr} {l : List Int} (h : In w p l) (hb : Bl w w') : In w' p l := by
  rcases h with h | ⟨x, h1, h2⟩
  · exact Or.inl h
  · exact Or.inr ⟨x, h1, fun k hk => at_bl hb (h2 k hk)⟩
theorem In.at {w : World} {p : Option Addr} {l : List Int} (h : In w p l) (k : Nat) (hk : k < l.length) : ∃ x : Addr, p = some x ∧ w.cell? (x.add k) = some (.int .i64 (l.getD k 0)) := by
  rcases h with h | ⟨x, h1, h2⟩
  · rw [h] at hk; exact absurd hk (Nat.not_lt_zero _)
  · exact ⟨x, h1, h2 k hk⟩
/-- A slice that reads so. -/
def View (w : World) (v : Value) (l : List Int) : Prop := ∃ p c, v = .slice p l.length c ∧ In w p l
theorem View.step {w w' : World} {v : Value} {l : List Int} (h : View w v l) (hb : Bl w w') : View w' v l := by
  obtain ⟨p, c, h1, h2⟩ := h
  exact ⟨p, c, h1, h2.step hb⟩
theorem ret_int {x y : Int} {k : IntKind} (h : x = y) : Ending.returned (.int k x) = .returned (.int k y) := by rw [h]
theorem ret_bool {x y : Bool} (h : x = y) : Ending.returned (.bool x) = .returned (.bool y) := by rw [h]
/-- Block B holds just these numbers, and may be written. -/
def RowI (w : World) (B : Nat) (l : List Int) : Prop := w.heap[B]? = some (.cells (rowI l).toArray 3 (0, 0))
theorem RowI.cell {w : World} {B : Nat} {l : List Int} (h : RowI w B l) {j : Nat} (hj : j < l.length) : w.cell? ⟨B, j, none⟩ = some (.int .i64 (l.getD j 0)) := by
  unfold RowI at h
  have := rowI_get l j hj
  simp only [World.cell?, h]
  simpa using this
theorem RowI.frozen {w : World} {B : Nat} {l : List Int} (h : RowI w B l) (j : Nat) : w.frozen? ⟨B, j, none⟩ = false := by
  unfold RowI at h
  simp [World.frozen?, h]
theorem RowI.lt {w : World} {B : Nat} {l : List Int} (h : RowI w B l) : B < w.heap.size := by
  unfold RowI at h
  rcases Nat.lt_or_ge B w.heap.size with h' | h'
  · exact h'
  · rw [Array.getElem?_eq_none h'] at h; cases h
theorem RowI.set {w : World} {B : Nat} {l : List Int} (h : RowI w B l) (j : Nat) (v : Int) : RowI (w.setCell ⟨B, j, none⟩ (.int .i64 v)) B (l.set j v) := by
  unfold RowI at h ⊢
  simp [World.setCell, Array.getElem?_modify, h, rowI]
theorem RowI.step {w w' : World} {B : Nat} {l : List Int} (h : RowI w B l) (hb : Bl w w') : RowI w' B l := by
  have := h.lt
  unfold RowI at h ⊢
  rw [Below.block hb B this]
  exact h
theorem RowI.made (w : World) (n : Nat) : RowI (w.alloc (.cells (madeCells #[.int .i64 0] n) 3)) w.heap.size (List.replicate n 0) := by
  have hl : madeCells #[Value.int .i64 0] n = (rowI (List.replicate n (0 : Int))).toArray := by
    apply Array.ext'
    rw [toList_madeCells_one]
    simp [rowI]
  unfold RowI
  show (w.heap.push _)[w.heap.size]? = _
  rw [Array.getElem?_push, if_pos rfl, hl]
theorem RowI.own {w : World} {B base : Nat} {l : List Int} (h : RowI w B l) (hb : base ≤ B) (hl : l.length ≤ 1000000) : Own w base (.slice (some ⟨B, 0, none⟩) l.length l.length) l := by
  refine ⟨by simp [rowI], Or.inr ⟨B, l.length, (rowI l).toArray, rfl, hb, h, Nat.le_refl _, by unfold maxLen; omega, by simp [rowI], ?_⟩⟩
  rw [Nat.mul_one]
  exact List.take_of_length_le (by simp [rowI])
theorem RowI.view {w : World} {B : Nat} {l : List Int} (h : RowI w B l) (c : Nat) : View w (.slice (some ⟨B, 0, none⟩) l.length c) l :=
  ⟨_, _, rfl, Or.inr ⟨_, rfl, fun k hk => by rw [Addr.add_lit, Nat.zero_add]; exact h.cell hk⟩⟩
end Go.Proofs.YtococaecjecjgaaGreatDoor.rows
/- A row of bytes that grows: bytes and texts put behind it, its text, its cells; a variable of one cell that holds it. -/
namespace Go.Proofs.YtococaecjecjgaaGreatDoor.rows
set_option linter.unusedVariables false
open Go.ChangeShapes Go.WideShapes Go.ChangeAt Go.RowKit
open mem

/-- A text's bytes, as numbers. -/
def bs (t : ByteArray) : List Int := t.data.toList.map fun b => (b.toNat : Int)
/-- A row of the call's own that holds just these bytes. -/
def BOwn (w : World) (base : Nat) (v : Value) (l : List Int) : Prop := w.ownsRow base 5 1 v l.length (l.map (Value.int .u8))
theorem BOwn.nil (w : World) (base : Nat) : BOwn w base (.slice none 0 0) [] := World.ownsRow_nil _ _ _ _
theorem BOwn.block {w : World} {base : Nat} {v : Value} {l : List Int} (h : BOwn w base v l) : ∀ k, v.ownBlock = some k → base ≤ k ∧ k < w.heap.size := World.ownsRow.lt h
theorem BOwn.slice {w : World} {base : Nat} {v : Value} {l : List Int} (h : BOwn w base v l) : ∃ p c, v = .slice p l.length c := by
  rcases h.2 with ⟨h1, h2⟩ | ⟨g, cap, cur, h1, _⟩
  · exact ⟨_, _, by rw [h1, h2]⟩
  · exact ⟨_, _, h1⟩
theorem BOwn.step {w w' : World} {base : Nat} {v : Value} {l : List Int} (h : BOwn w base v l) (hb : Bl w w') : BOwn w' base v l := by
  refine ⟨h.1, ?_⟩
  rcases h.2 with h | ⟨g, cap, cur, h1, h2, h3, h4⟩
  · exact Or.inl h
  · refine Or.inr ⟨g, cap, cur, h1, h2, ?_, h4⟩
    have hg : g < w.heap.size := by
      rcases Nat.lt_or_ge g w.heap.size with h | h
      · exact h
      · rw [Array.getElem?_eq_none h] at h3; cases h3
    rw [Below.block hb g hg]
    exact h3
theorem BOwn.set_other {w : World} {base : Nat} {v : Value} {l : List Int} (h : BOwn w base v l) {a : Addr} (ha : v.ownBlock ≠ some a.block) (x : Value) : BOwn (w.setCell a x) base v l := by
  refine ⟨h.1, ?_⟩
  rcases h.2 with h | ⟨g, cap, cur, h1, h2, h3, h4⟩
  · exact Or.inl h
  · refine Or.inr ⟨g, cap, cur, h1, h2, ?_, h4⟩
    have hne : ¬ a.block = g := fun e => ha (by rw [h1, e]; rfl)
    simp [World.setCell, Array.getElem?_modify, hne, h3]
/-- Its block bears bytes. -/
theorem BOwn.typed {w : World} {base : Nat} {v : Value} {l : List Int} (h : BOwn w base v l) {k : Nat} (hk : v.ownBlock = some k) : ∃ c, w.heap[k]? = some (.cells c 5 (0, 0)) := by
  rcases h.2 with ⟨h1, _⟩ | ⟨g, cap, cur, h1, h2, h3, h4⟩
  · rw [h1] at hk; cases hk
  · rw [h1] at hk
    have e : g = k := by simpa [Value.ownBlock] using hk
    rw [← e]
    exact ⟨cur, h3⟩
theorem BOwn.cells {w : World} {base : Nat} {v : Value} {l : List Int} (h : BOwn w base v l) {j : Nat} (hj : j < l.length) : ∃ g c, v = .slice (some ⟨g, 0, none⟩) l.length c ∧ w.cell? ⟨g, j, none⟩ = some (.int .u8 (l.getD j 0)) ∧ w.frozen? ⟨g, j, none⟩ = false := by
  rcases h.2 with ⟨_, h0⟩ | ⟨g, cap, cur, h1, _, h3, _, _, hcs, htake⟩
  · omega
  · refine ⟨g, cap, h1, ?_, ?_⟩
    · have : (l.map (Value.int .u8))[j]? = some (.int .u8 (l.getD j 0)) := by simp [hj]
      rw [← htake, Nat.mul_one, List.getElem?_take, if_pos hj] at this
      simp only [World.cell?, h3]
      simpa using this
    · simp [World.frozen?, h3]
/-- Its text. -/
theorem BOwn.text {w : World} {base : Nat} {v : Value} {l : List Int} (h : BOwn w base v l) : (convert 79 9 v).run Tryz.prog w = .ok (.string (strOfNums l)) w := by
  rcases h.2 with ⟨rfl, h0⟩ | ⟨g, cap, cur, rfl, _, h3, _, _, hcs, htake⟩
  · have : l = [] := List.eq_nil_of_length_eq_zero h0
    subst this
    show (convert 79 9 (.slice none 0 0)).run Tryz.prog w = .ok (.string (strOfNums [])) w
    kernel_rfl
  · refine run_convert_bytes_arg w 79 5 Tryz.underlying79 Tryz.underlying5 g 0 l.length cap l rfl (fun i hi => ?_) 9 Tryz.underlying9
    have : (l.map (Value.int .u8))[i]? = some (.int .u8 (l.getD i 0)) := by simp [hi]
    rw [← htake, Nat.mul_one, List.getElem?_take, if_pos hi] at this
    simp only [World.cell?, h3, Nat.zero_add]
    simpa using this
/-- An append whose run is known, in a region that draws. -/
theorem step_append_run {P : Program} {ops : Array Oper} {o : Oper} {a : Act} {w : World} {K : Act → World → Prop} {Q : Exit → Act → World → Prop} {E : Prop}
    (hg : o.guard = none) (s x : Operand) (t tx : TypeId) (hop : o.op = Op.call { callee := Callee.builtin Builtin.append, args := #[s, x], argTypes := #[t, tx] })
    (vs vx : Value) (hs : a.eval s = vs) (hx : a.eval x = vx) (v' : Value) (w' : World) (hr : (Builtin.append_ #[t, tx] o.type #[vs, vx]).run P w = .ok v' w') (hK : K (a.put o.dst v') w') :
    if Region.wanted o (yielded ops a.tmps) = true then Oper.wp P o a w K Q else E := by
  have hw : Region.wanted o (yielded ops a.tmps) = true := by simp [Region.wanted, hg]
  rw [if_pos hw]
  exact Lib.wp_append_run w s x t tx hop vs vx hs hx v' w' hr hK
theorem lt_of_some {w : World} {k : Nat} {o : Obj} (h : w.heap[k]? = some o) : k < w.heap.size := by
  rcases Nat.lt_or_ge k w.heap.size with h' | h'
  · exact h'
  · rw [Array.getElem?_eq_none h'] at h; cases h
/-- A variable of one cell. -/
def Vr (w : World) (b : Nat) (v : Value) (t : TypeId) : Prop := w.heap[b]? = some (.cells #[v] t (0, 0))
theorem Vr.lt {w : World} {b : Nat} {v : Value} {t : TypeId} (h : Vr w b v t) : b < w.heap.size := lt_of_some h
theorem Vr.cell {w : World} {b : Nat} {v : Value} {t : TypeId} (h : Vr w b v t) : w.cell? ⟨b, 0, none⟩ = some v := by
  unfold Vr at h
  simp [World.cell?, h]
theorem Vr.frozen {w : World} {b : Nat} {v : Value} {t : TypeId} (h : Vr w b v t) : w.frozen? ⟨b, 0, none⟩ = false := by
  unfold Vr at h
  simp [World.frozen?, h]
theorem Vr.new (w : World) (v : Value) (t : TypeId) : Vr (w.alloc (.cells #[v] t)) w.heap.size v t := by
  show (w.heap.push _)[w.heap.size]? = _
  rw [Array.getElem?_push, if_pos rfl]
theorem Vr.step {w w' : World} {b : Nat} {v : Value} {t : TypeId} (h : Vr w b v t) (hb : Bl w w') : Vr w' b v t := by
  have := h.lt
  unfold Vr at h ⊢
  rw [Below.block hb _ this]
  exact h
theorem Vr.set {w : World} {b : Nat} {v : Value} {t : TypeId} (h : Vr w b v t) (x : Value) : Vr (w.setCell ⟨b, 0, none⟩ x) b x t := by
  unfold Vr at h ⊢
  simp [World.setCell, Array.getElem?_modify, h]
theorem Vr.set_other {w : World} {b c j : Nat} {v : Value} {t : TypeId} (h : Vr w b v t) (hne : c ≠ b) (x : Value) : Vr (w.setCell ⟨c, j, none⟩ x) b v t := by
  unfold Vr at h ⊢
  simp [World.setCell, Array.getElem?_modify, hne, h]
theorem Vr.grown {w w' : World} {b : Nat} {v : Value} {t : TypeId} {row : Option Nat} (h : Vr w b v t) (hg : w.grownBy w' row) (hne : row ≠ some b) : Vr w' b v t := by
  have := h.lt
  unfold Vr at h ⊢
  rw [hg.block b this (fun e => hne e.symm)]
  exact h
/-- A row of bytes never lies in a variable of another type. -/
theorem BOwn.ne {w : World} {base b : Nat} {v x : Value} {l : List Int} {t : TypeId} (h : BOwn w base v l) (k : Vr w b x t) (ht : t ≠ 5) : v.ownBlock ≠ some b := by
  intro e
  obtain ⟨c, hc⟩ := h.typed e
  unfold Vr at k
  rw [k] at hc
  injection hc with hc
  injection hc with _ h2 _
  exact ht h2
end Go.Proofs.YtococaecjecjgaaGreatDoor.rows
/- Templates, written: their tokens (pure). -/
namespace Go.Proofs.YtococaecjecjgaaGreatDoor.tm
set_option linter.unusedVariables false
open lx ex

/-- The tokens of a text, whatever stands behind it. -/
def CutF (t : List UInt8) (l : List (List UInt8)) : Prop := ∀ (y : List UInt8) (a : Nat), ∃ us : List Tk, us.map Tk.t = l ∧ lx (t ++ y) a = (us ++ (lx y (a + t.length)).1, (lx y (a + t.length)).2)
theorem CutF.cut {t : List UInt8} {l : List (List UInt8)} (h : CutF t l) : Cut t l := fun y a _ => h y a
theorem CutF.nil : CutF [] [] := fun y a => ⟨[], rfl, by simp⟩
theorem CutF.app {t u : List UInt8} {l m : List (List UInt8)} (h : CutF t l) (k : CutF u m) : CutF (t ++ u) (l ++ m) := by
  intro y a
  obtain ⟨us, h1, h2⟩ := h (u ++ y) a
  obtain ⟨vs, k1, k2⟩ := k y (a + t.length)
  refine ⟨us ++ vs, by simp [h1, k1], ?_⟩
  rw [List.append_assoc, h2, k2, List.length_append, Nat.add_assoc]
  simp
theorem CutF.then {t u : List UInt8} {l m : List (List UInt8)} (h : CutF t l) (k : Cut u m) : Cut (t ++ u) (l ++ m) := by
  intro y a hy
  obtain ⟨us, h1, h2⟩ := h (u ++ y) a
  obtain ⟨vs, k1, k2⟩ := k y (a + t.length) hy
  refine ⟨us ++ vs, by simp [h1, k1], ?_⟩
  rw [List.append_assoc, h2, k2, List.length_append, Nat.add_assoc]
  simp
end Go.Proofs.YtococaecjecjgaaGreatDoor.tm
namespace Go.Proofs.YtococaecjecjgaaGreatDoor.ex
open lx tm
theorem Cut.then {t : List UInt8} {c : UInt8} {u : List UInt8} {l m : List (List UInt8)} (h : Cut t l) (hc : isW c = false) (k : Cut (c :: u) m) : Cut (t ++ (c :: u)) (l ++ m) := by
  intro y a hy
  obtain ⟨us, h1, h2⟩ := h ((c :: u) ++ y) a (fun d hd => by simp at hd; rw [← hd]; exact hc)
  obtain ⟨vs, k1, k2⟩ := k y (a + t.length) hy
  refine ⟨us ++ vs, by simp [h1, k1], ?_⟩
  rw [List.append_assoc, h2, k2, List.length_append, Nat.add_assoc]
  simp
end Go.Proofs.YtococaecjecjgaaGreatDoor.ex
namespace Go.Proofs.YtococaecjecjgaaGreatDoor.tm
open lx ex
theorem ru_wr {d : D} (h : WD d) (hr : d.ru ≠ 0) : WR d ∧ d.kd = 1 ∧ d.mn = false ∧ d.ct = none := by
  rcases h with h | h | h | h
  · exact absurd h.2.2.2.2.1 hr
  · exact absurd h.2.2.2.2.1 hr
  · exact absurd h.2.2.2.2.2.2.1 hr
  · rcases h.2.2.2.2 with h' | h'
    · exact absurd h'.2.2.1 hr
    · exact ⟨h'.2.2, h.1, h'.1, h'.2.1⟩
theorem wd_nm {d : D} (h : WD d) (h4 : d.kd ≠ 4) : NM d.nm := by
  rcases h with h | h | h | h
  · exact absurd h.1 h4
  · exact h.2.1
  · exact h.2.2.1
  · exact h.2.2.2.1
end Go.Proofs.YtococaecjecjgaaGreatDoor.tm
/- Templates: what reading tells; what is written is read (pure). -/
namespace Go.Proofs.YtococaecjecjgaaGreatDoor.tm
set_option linter.unusedVariables false
open lx ex
section
variable {en : Nat}
def TS (ts : List Tk) : Prop := ∀ t ∈ ts, IsT t.t
/-- What is left was there. -/
def Sb_ (r ts : List Tk) : Prop := ∀ t ∈ r, t ∈ ts
theorem Sb_.trans {a b c : List Tk} (h : Sb_ a b) (k : Sb_ b c) : Sb_ a c := fun t ht => k t (h t ht)
theorem sb_tail (ts : List Tk) : Sb_ ts.tail ts := fun t ht => List.mem_of_mem_tail ht
theorem TS.sb {r ts : List Tk} (h : TS ts) (k : Sb_ r ts) : TS r := fun t ht => h t (k t ht)
theorem name_told {ts r : List Tk} {t : List UInt8} (hT : TS ts) (h : name en ts = .ok (t, r)) : NM t ∧ Sb_ r ts := by
  unfold name at h
  split at h
  · cases h
  · rename_i h1
    split at h
    · cases h
    · rename_i h2
      injection h with h
      injection h with h3 h4
      subst h3 h4
      have n1 : isN (hd en ts).t = true := by
        cases hn : isN (hd en ts).t with
        | true => rfl
        | false => exact absurd (Or.inr hn) h1
      have n2 : resv (hd en ts).t = false := by
        cases hr : resv (hd en ts).t with
        | false => rfl
        | true => exact absurd (Or.inl hr) h1
      refine ⟨⟨n2, n1, by omega, ?_⟩, sb_tail ts⟩
      cases ts with
      | nil => exact absurd n1 (by show ¬ isN [] = true; decide)
      | cons u us => exact (word_of (hT u (by simp)) n1).1
theorem rx_told {m : List UInt8} {ts r : List Tk} {x : Ex} (hT : TS ts) (h : rx nb en m ts = .ok (x, r)) : WX x ∧ Sb_ r ts := by
  obtain ⟨h1, _⟩ := rx_is h
  obtain ⟨w1, w2⟩ := (told_all (dec := Lib.itoa) told_hdec _).1 _ _ _ _ _ (by omega) (by omega) (by omega) h1
  obtain ⟨n1, _⟩ := (nw_all _).1 _ _ _ _ _ hT h1
  rw [sd_one w1.okb] at w2
  exact ⟨⟨w1, n1, by omega⟩, (mem_all _).1 _ _ _ _ _ h1⟩
theorem want_told {m : List UInt8} {ts r : List Tk} (h : want en m ts = .ok r) : Sb_ r ts := by
  unfold want at h
  split at h
  · injection h with h; rw [← h]; exact sb_tail ts
  · cases h
theorem many_told {ts r : List Tk} {x : Ex} (hT : TS ts) (h : many nb en ts = .ok (x, r)) : WX x ∧ Sb_ r ts := by
  unfold many at h
  split at h
  · cases h
  · rename_i r1 h1
    split at h
    · cases h
    · rename_i x1 r2 h2
      injection h with h
      injection h with h3 h4
      subst h3 h4
      have s1 := want_told h1
      obtain ⟨w, s2⟩ := rx_told (hT.sb s1) h2
      exact ⟨w, (sb_tail _).trans (s2.trans s1)⟩
theorem rule_told {d e : D} {ts r : List Tk} (hT : TS ts) (h : rule en d ts = .ok (e, r)) (h0 : d.ru = 0 ∧ d.f1 = [] ∧ d.l1 = []) : WR e ∧ e.kd = d.kd ∧ e.nm = d.nm ∧ e.ty = d.ty ∧ e.wd = d.wd ∧ e.od = d.od ∧ e.sg = d.sg ∧ e.mn = d.mn ∧ e.ct = d.ct ∧ Sb_ r ts := by
  unfold rule at h
  split at h
  · cases h
  · rename_i h1
    have hru : ruleOf (hd en ts).t = 1 ∨ ruleOf (hd en ts).t = 2 ∨ ruleOf (hd en ts).t = 3 := by
      unfold ruleOf at h1 ⊢
      split
      · exact Or.inl rfl
      · split
        · exact Or.inr (Or.inl rfl)
        · split
          · exact Or.inr (Or.inr rfl)
          · rename_i a b c; rw [if_neg a, if_neg b, if_neg c] at h1; exact absurd rfl h1
    split at h
    · cases h
    · rename_i a r1 h2
      obtain ⟨n1, s1⟩ := name_told (hT.sb (sb_tail ts)) h2
      have s1' := s1.trans (sb_tail ts)
      split at h
      · rename_i h3
        split at h
        · injection h with h; injection h with h4 h5; subst h4 h5
          exact ⟨Or.inr (Or.inr ⟨rfl, n1, n1⟩), rfl, rfl, rfl, rfl, rfl, rfl, rfl, rfl, s1'⟩
        · split at h
          · cases h
          · rename_i b r2 h4
            obtain ⟨n2, s2⟩ := name_told (hT.sb s1') h4
            injection h with h; injection h with h5 h6; subst h5 h6
            exact ⟨Or.inr (Or.inr ⟨rfl, n1, n2⟩), rfl, rfl, rfl, rfl, rfl, rfl, rfl, rfl, s2.trans s1'⟩
      · rename_i h3
        injection h with h; injection h with h4 h5; subst h4 h5
        refine ⟨Or.inr (Or.inl ⟨?_, n1, h0.2.2⟩), rfl, rfl, rfl, rfl, rfl, rfl, rfl, rfl, s1'⟩
        show ruleOf (hd en ts).t = 1 ∨ ruleOf (hd en ts).t = 2
        omega
theorem part_told {ts r : List Tk} {e : D} (hT : TS ts) (h : part nb en ts = .ok (e, r)) : WD e ∧ e.kd ≠ 4 ∧ Sb_ r ts := by
  cases hk : kind en ts with
  | error e' => unfold part at h; rw [hk] at h; cases h
  | ok dr =>
    obtain ⟨d1, r1⟩ := dr
    unfold part at h
    rw [hk] at h
    dsimp only at h
    have hd1 : ((d1 = { D0 with kd := 1, wd := d1.wd, od := d1.od, sg := d1.sg } ∧ ∃ t, numOf t = some (d1.wd, d1.od, d1.sg)) ∨ (d1 = { D0 with kd := 3, ty := d1.ty } ∧ NM d1.ty)) ∧ Sb_ r1 ts := by
      unfold kind at hk
      split at hk
      · rename_i w o s hn
        injection hk with hk; injection hk with h1 h2; subst h1 h2
        exact ⟨Or.inl ⟨rfl, _, hn⟩, sb_tail ts⟩
      · split at hk
        · cases hk
        · rename_i t r' hn
          obtain ⟨n1, s1⟩ := name_told hT hn
          injection hk with hk; injection hk with h1 h2; subst h1 h2
          exact ⟨Or.inr ⟨rfl, n1⟩, s1⟩
    obtain ⟨hd1, s1⟩ := hd1
    have k4 : d1.kd ≠ 4 := by
      rcases hd1 with ⟨e1, _⟩ | ⟨e1, _⟩
      · have := congrArg D.kd e1
        rw [this]; show (1 : Nat) ≠ 4; decide
      · have := congrArg D.kd e1
        rw [this]; show (3 : Nat) ≠ 4; decide
    split at h
    · cases h
    · rename_i t r2 h2
      obtain ⟨n2, s2⟩ := name_told (hT.sb s1) h2
      have s2' := s2.trans s1
      split at h
      · cases h
      · rename_i d3 r3 h3
        split at h
        · cases h
        · rename_i r4 h4
          injection h with h; injection h with h5 h6; subst h5 h6
          have s4 := want_told h4
          unfold mark at h3
          split at h3
          · split at h3
            · cases h3
            · rename_i x r5 h5
              obtain ⟨w5, s5⟩ := many_told (hT.sb s2') h5
              injection h3 with h3; injection h3 with h6 h7; subst h6 h7
              refine ⟨?_, k4, s4.trans (s5.trans s2')⟩
              · rcases hd1 with ⟨e1, e2⟩ | ⟨e1, e2⟩
                · rw [e1]; exact Or.inr (Or.inr (Or.inr ⟨rfl, rfl, e2, n2, Or.inl ⟨rfl, ⟨x, rfl, w5⟩, rfl, rfl, rfl⟩⟩))
                · rw [e1]; exact Or.inr (Or.inr (Or.inl ⟨rfl, e2, n2, rfl, rfl, rfl, rfl, rfl, rfl, Or.inl ⟨rfl, x, rfl, w5⟩⟩))
          · split at h3
            · rename_i hc
              have hkd : d1.kd = 1 := hc.2
              rcases hd1 with ⟨e1, e2⟩ | ⟨e1, e2⟩
              · obtain ⟨w, f1, f2, f3, f4, f5, f6, f7, f8, s5⟩ := rule_told (hT.sb ((sb_tail _).trans s2')) h3 (by rw [e1]; exact ⟨rfl, rfl, rfl⟩)
                refine ⟨Or.inr (Or.inr (Or.inr ⟨by rw [f1]; exact hkd, by rw [f3, e1]; rfl, ?_, by rw [f2]; exact n2, Or.inr ⟨by rw [f7, e1]; rfl, by rw [f8, e1]; rfl, w⟩⟩)), by rw [f1]; exact k4, s4.trans (s5.trans ((sb_tail _).trans s2'))⟩
                rw [f4, f5, f6]; exact e2
              · rw [e1] at hkd; exact absurd hkd (by show ¬ (3 : Nat) = 1; decide)
            · injection h3 with h3; injection h3 with h6 h7; subst h6 h7
              refine ⟨?_, k4, s4.trans s2'⟩
              · rcases hd1 with ⟨e1, e2⟩ | ⟨e1, e2⟩
                · rw [e1]; exact Or.inr (Or.inr (Or.inr ⟨rfl, rfl, e2, n2, Or.inr ⟨rfl, rfl, Or.inl ⟨rfl, rfl, rfl⟩⟩⟩))
                · rw [e1]; exact Or.inr (Or.inr (Or.inl ⟨rfl, e2, n2, rfl, rfl, rfl, rfl, rfl, rfl, Or.inr ⟨rfl, rfl⟩⟩))
theorem byts_told {ts r : List Tk} {e : D} (hT : TS ts) (h : byts nb en ts = .ok (e, r)) : WD e ∧ e.kd ≠ 4 ∧ Sb_ r ts := by
  unfold byts at h
  split at h
  · cases h
  · rename_i t r1 h1
    obtain ⟨n1, s1⟩ := name_told hT h1
    split at h
    · cases h
    · rename_i x r2 h2
      obtain ⟨w2, s2⟩ := many_told (hT.sb s1) h2
      split at h
      · cases h
      · rename_i r3 h3
        injection h with h; injection h with h4 h5; subst h4 h5
        exact ⟨Or.inr (Or.inl ⟨rfl, n1, ⟨x, rfl, w2⟩, rfl, rfl, rfl, rfl, rfl, rfl, rfl, rfl⟩), by show (2 : Nat) ≠ 4; decide, (want_told h3).trans (s2.trans s1)⟩
/-- Where an item stands is nothing to it. -/
theorem wd_at {d : D} (h : WD d) (a : Nat) : WD { d with at_ := a } := h
theorem item_told {k : Nat} {ts r : List Tk} {d : D} {s : Its} (hT : TS ts) (hi : ∀ ts l r, TS ts → blk nb en k ts = .ok (l, r) → 0 < k ∧ l.len ≤ 16 ∧ WI (k - 1) l ∧ Sb_ r ts) (h : item nb en (blk nb en k) ts = .ok ((d, s), r)) : WD d ∧ (d.kd ≠ 4 → noSub s = true) ∧ (d.kd = 4 → 0 < k ∧ s.len ≤ 16 ∧ WI (k - 1) s) ∧ Sb_ r ts := by
  unfold item at h
  split at h
  · split at h
    · cases h
    · rename_i x r1 h1
      obtain ⟨w1, s1⟩ := rx_told (hT.sb (sb_tail ts)) h1
      have s1' := s1.trans (sb_tail ts)
      split at h
      · cases h
      · rename_i l r2 h2
        obtain ⟨g1, g2, g3, g4⟩ := hi _ _ _ (hT.sb s1') h2
        injection h with h; injection h with h3 h4; injection h3 with h5 h6; subst h5 h6 h4
        exact ⟨Or.inl ⟨rfl, ⟨x, rfl, w1⟩, rfl, rfl, rfl, rfl, rfl, rfl, rfl, rfl, rfl⟩, fun hn => absurd rfl hn, fun _ => ⟨g1, g2, g3⟩, g4.trans s1'⟩
  · split at h
    · split at h
      · cases h
      · rename_i d1 r1 h1
        obtain ⟨w1, w2, s1⟩ := byts_told (hT.sb (sb_tail ts)) h1
        injection h with h; injection h with h3 h4; injection h3 with h5 h6; subst h5 h6 h4
        exact ⟨wd_at w1 _, fun _ => rfl, fun h4 => absurd h4 w2, s1.trans (sb_tail ts)⟩
    · split at h
      · cases h
      · rename_i d1 r1 h1
        obtain ⟨w1, w2, s1⟩ := part_told hT h1
        injection h with h; injection h with h3 h4; injection h3 with h5 h6; subst h5 h6 h4
        exact ⟨wd_at w1 _, fun _ => rfl, fun h4 => absurd h4 w2, s1⟩
theorem loop_told {k : Nat} (hi : ∀ ts l r, TS ts → blk nb en k ts = .ok (l, r) → 0 < k ∧ l.len ≤ 16 ∧ WI (k - 1) l ∧ Sb_ r ts) (n : Nat) : ∀ (ts : List Tk) (l : Its) (r : List Tk), TS ts → loop nb en (blk nb en k) n ts = .ok (l, r) → l.len ≤ n ∧ WI k l ∧ Sb_ r ts := by
  induction n with
  | zero =>
    intro ts l r hT h
    rw [loop] at h
    split at h
    · injection h with h; injection h with h1 h2; subst h1 h2
      exact ⟨Nat.le_refl _, trivial, sb_tail ts⟩
    · cases h
  | succ n ih =>
    intro ts l r hT h
    rw [loop] at h
    split at h
    · injection h with h; injection h with h1 h2; subst h1 h2
      exact ⟨Nat.zero_le _, trivial, sb_tail ts⟩
    · split at h
      · cases h
      · rename_i d s r1 h1
        obtain ⟨g1, g2, g3, s1⟩ := item_told hT hi h1
        split at h
        · cases h
        · rename_i l1 r2 h2
          obtain ⟨k1, k2, s2⟩ := ih _ _ _ (hT.sb s1) h2
          injection h with h; injection h with h3 h4; subst h3 h4
          exact ⟨by show l1.len + 1 ≤ n + 1; omega, ⟨g1, g2, g3, k2⟩, s2.trans s1⟩
theorem blk_told (k : Nat) : ∀ (ts : List Tk) (l : Its) (r : List Tk), TS ts → blk nb en k ts = .ok (l, r) → 0 < k ∧ l.len ≤ 16 ∧ WI (k - 1) l ∧ Sb_ r ts := by
  induction k with
  | zero =>
    intro ts l r hT h
    rw [blk] at h
    split at h <;> cases h
  | succ k ih =>
    intro ts l r hT h
    rw [blk] at h
    split at h
    · obtain ⟨g1, g2, g3⟩ := loop_told ih 16 _ _ _ (hT.sb (sb_tail ts)) h
      exact ⟨Nat.succ_pos _, g1, g2, g3.trans (sb_tail ts)⟩
    · cases h
theorem typs_told (n : Nat) : ∀ (ts : List Tk) (l : List Ty), TS ts → typs nb en n ts = .ok l → l.length ≤ n ∧ ∀ t ∈ l, NM t.nm ∧ t.l.len ≤ 16 ∧ WI 7 t.l := by
  induction n with
  | zero =>
    intro ts l hT h
    cases ts with
    | nil => cases h; exact ⟨Nat.le_refl _, fun t ht => by cases ht⟩
    | cons t r => rw [typs] at h; split at h <;> cases h
  | succ n ih =>
    intro ts l hT h
    cases ts with
    | nil => cases h; exact ⟨Nat.zero_le _, fun t ht => by cases ht⟩
    | cons t r =>
      have hT' : TS r := fun u hu => hT u (by simp [hu])
      rw [typs] at h
      split at h
      · split at h
        · cases h
        · rename_i m r1 h1
          obtain ⟨n1, s1⟩ := name_told hT' h1
          split at h
          · cases h
          · rename_i it r2 h2
            obtain ⟨_, g2, g3, s2⟩ := blk_told 8 _ _ _ (hT'.sb s1) h2
            split at h
            · cases h
            · rename_i q h3
              obtain ⟨k1, k2⟩ := ih _ _ (hT'.sb (s2.trans s1)) h3
              injection h with h
              subst h
              refine ⟨by simp; omega, fun u hu => ?_⟩
              rw [List.mem_cons] at hu
              rcases hu with rfl | hu
              · exact ⟨n1, g2, g3⟩
              · exact k2 u hu
      · cases h
end
end Go.Proofs.YtococaecjecjgaaGreatDoor.tm
/- Templates: what is written is read (pure). -/
namespace Go.Proofs.YtococaecjecjgaaGreatDoor.tm
set_option linter.unusedVariables false
open lx ex

section
variable {en : Nat}
end
end Go.Proofs.YtococaecjecjgaaGreatDoor.tm
