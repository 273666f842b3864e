/- Texts laid together: Mem, LxP, ExP, TmP. -/
import Derived.WalkKit
import Derived.ProofKit
import Derived.OpenShut
import Derived.Deep.OwnRows
import Derived.Deep.RegionWith
import Derived.Laws.BytesArg
import Derived.Deep.QuietTactic
import Derived.BigQuiet
import Derived.Laws.IdiomStrings
/- Plain facts of memory and of bytes that the walks of this seat share: a row of bytes in a block of its own; the world with new blocks alone. -/
namespace Go.Proofs.Ytpanodaecjlgaaa.mem
open Go.RowKit

/-- The world w' is w with new blocks, and what was there is as it was. -/
structure Gb (w w' : World) : Prop where
  g : Grown w w'
  b : Below w.heap.size w w'

theorem Gb.refl (w : World) : Gb w w := ⟨Grown.refl _, Below.refl _ _⟩
theorem Gb.drew {w w' : World} (h : Gb w w') : Gb w w'.drew := ⟨h.g.drew, h.b.drew⟩
theorem Gb.size {w w' : World} (h : Gb w w') : w.heap.size ≤ w'.heap.size := h.b.size
theorem Gb.alloc {w w' : World} (h : Gb w w') (c : Array Value) (t : TypeId) : Gb w (w'.alloc (.cells c t)) := ⟨h.g.alloc c t, h.b.alloc h.size _⟩
theorem Gb.setCell {w w' : World} (h : Gb w w') {a : Addr} (ha : w.heap.size ≤ a.block) (v : Value) : Gb w (w'.setCell a v) := ⟨h.g.setCell ha v, h.b.setCell ha v⟩
theorem Gb.trans {a b c : World} (h : Gb a b) (k : Gb b c) : Gb a c :=
  ⟨⟨World.keptBut_trans h.g.1 k.g.1, fun x => (k.g.2.1 x).trans (h.g.2.1 x), Nat.le_trans h.g.2.2 k.g.2.2⟩, h.b.trans (k.b.mono h.size)⟩
theorem Gb.drewN {w w' : World} (n : Nat) (h : Gb w w') : Gb w (w'.drewN n) := ⟨h.g, ⟨h.b.os, h.b.tape, h.b.output, h.b.size, h.b.block⟩⟩

/-- The world w' is w, but for draws. -/
def Dr (w w' : World) : Prop := ∃ q, w' = w.drewN q
theorem Dr.refl (w : World) : Dr w w := ⟨0, rfl⟩
theorem Dr.drewN {w w' : World} (n : Nat) (h : Dr w w') : Dr w (w'.drewN n) := by
  obtain ⟨q, rfl⟩ := h
  refine ⟨q + n, ?_⟩
  simp [World.drewN, Nat.add_assoc]
theorem Dr.gb {w w' : World} (h : Dr w w') : Gb w w' := by
  obtain ⟨q, rfl⟩ := h
  exact Gb.drewN q (Gb.refl w)

/-- Block B of the world holds just these bytes (elements of type e), and may be written. -/
def Row (w : World) (e : TypeId) (B : Nat) (zs : List Int) : Prop := w.heap[B]? = some (.cells (zs.map (Value.int .u8)).toArray e (0, 0))

theorem Row.cell {w : World} {e : TypeId} {B : Nat} {zs : List Int} (h : Row w e B zs) {j : Nat} (hj : j < zs.length) : w.cell? ⟨B, j, none⟩ = some (.int .u8 (zs.getD j 0)) := by
  unfold Row at h
  simp [World.cell?, h, hj]
theorem Row.frozen {w : World} {e : TypeId} {B : Nat} {zs : List Int} (h : Row w e B zs) (j : Nat) : w.frozen? ⟨B, j, none⟩ = false := by
  unfold Row at h
  simp [World.frozen?, h]
theorem Row.drew {w : World} {e : TypeId} {B : Nat} {zs : List Int} (h : Row w e B zs) : Row w.drew e B zs := h
theorem Row.set {w : World} {e : TypeId} {B : Nat} {zs : List Int} (h : Row w e B zs) (j : Nat) (v : Int) : Row (w.setCell ⟨B, j, none⟩ (.int .u8 v)) e B (zs.set j v) := by
  unfold Row at h ⊢
  simp [World.setCell, Array.getElem?_modify, h]
theorem Row.made (w : World) (e : TypeId) (n : Nat) : Row (w.alloc (.cells (madeCells #[.int .u8 0] n) e)) e w.heap.size (List.replicate n 0) := by
  have hl : madeCells #[Value.int .u8 0] n = ((List.replicate n (0 : Int)).map (Value.int .u8)).toArray := by
    apply Array.ext'
    rw [toList_madeCells_one]
    simp
  unfold Row
  show (w.heap.push _)[w.heap.size]? = _
  rw [Array.getElem?_push, if_pos rfl, hl]
theorem Row.text {P : Program} {w : World} {e : TypeId} {B : Nat} {zs : List Int} (h : Row w e B zs) {src dst : TypeId} (hs : P.underlying src = some (.slice e)) (he : P.underlying e = some (.int .u8))
    (hd : P.underlying dst = some .string) (n : Nat) (hn : zs.length = n) : (convert src dst (.slice (some ⟨B, 0, none⟩) n n)).run P w = .ok (.string (strOfNums zs)) w :=
  run_convert_bytes_arg w src e hs he B 0 n n zs hn (fun i hi => by rw [Nat.zero_add]; exact h.cell (by omega)) dst hd

/-- What was there is as it was. -/
def Bl (w w' : World) : Prop := Below w.heap.size w w'
theorem Bl.refl (w : World) : Bl w w := Below.refl _ _
theorem Gb.bl {w w' : World} (h : Gb w w') : Bl w w' := h.b
theorem Bl.size {w w' : World} (h : Bl w w') : w.heap.size ≤ w'.heap.size := Below.size h
theorem Bl.drew {w w' : World} (h : Bl w w') : Bl w w'.drew := Below.drew h
theorem Bl.drewN {w w' : World} (n : Nat) (h : Bl w w') : Bl w (w'.drewN n) := by
  obtain ⟨h1, h2, h3, h4, h5⟩ := h
  exact ⟨h1, h2, h3, h4, h5⟩
theorem Bl.alloc {w w' : World} (h : Bl w w') (o : Obj) : Bl w (w'.alloc o) := Below.alloc h (Bl.size h) o
theorem Bl.setCell {w w' : World} (h : Bl w w') {a : Addr} (ha : w.heap.size ≤ a.block) (v : Value) : Bl w (w'.setCell a v) := Below.setCell h ha v
theorem Bl.trans {a b c : World} (h : Bl a b) (k : Bl b c) : Bl a c := Below.trans h (Below.mono k (Bl.size h))
theorem Dr.bl {w w' : World} (h : Dr w w') : Bl w w' := h.gb.bl

/-- Block B of the world begins with just these bytes (elements of type e), and they may be written. -/
def Rw (w : World) (e : TypeId) (B : Nat) (zs : List Int) : Prop :=
  ∃ (arr : Array Value) (fr : Nat × Nat), w.heap[B]? = some (.cells arr e fr) ∧ (∀ j, j < zs.length → arr[j]? = some (.int .u8 (zs.getD j 0))) ∧ (zs.length ≤ fr.1 ∨ fr = (0, 0))
theorem Row.rw {w : World} {e : TypeId} {B : Nat} {zs : List Int} (h : Row w e B zs) : Rw w e B zs :=
  ⟨_, _, h, fun j hj => by simp [hj], Or.inr rfl⟩
theorem Rw.cell {w : World} {e : TypeId} {B : Nat} {zs : List Int} (h : Rw w e B zs) {j : Nat} (hj : j < zs.length) : w.cell? ⟨B, j, none⟩ = some (.int .u8 (zs.getD j 0)) := by
  obtain ⟨arr, fr, h1, h2, _⟩ := h
  simp [World.cell?, h1, h2 j hj]
theorem Rw.frozen {w : World} {e : TypeId} {B : Nat} {zs : List Int} (h : Rw w e B zs) {j : Nat} (hj : j < zs.length) : w.frozen? ⟨B, j, none⟩ = false := by
  obtain ⟨arr, fr, h1, _, h3⟩ := h
  rcases h3 with h3 | h3
  · simp [World.frozen?, h1]; omega
  · subst h3
    simp [World.frozen?, h1]
theorem Rw.drew {w : World} {e : TypeId} {B : Nat} {zs : List Int} (h : Rw w e B zs) : Rw w.drew e B zs := h
theorem Rw.drewN {w : World} {e : TypeId} {B : Nat} {zs : List Int} (n : Nat) (h : Rw w e B zs) : Rw (w.drewN n) e B zs := h
theorem Rw.set {w : World} {e : TypeId} {B : Nat} {zs : List Int} (h : Rw w e B zs) (j : Nat) (v : Int) (hj : j < zs.length) : Rw (w.setCell ⟨B, j, none⟩ (.int .u8 v)) e B (zs.set j v) := by
  obtain ⟨arr, fr, h1, h2, h3⟩ := h
  refine ⟨arr.setIfInBounds j (.int .u8 v), fr, ?_, ?_, by rw [List.length_set]; exact h3⟩
  · simp [World.setCell, Array.getElem?_modify, h1]
  · intro i hi
    rw [List.length_set] at hi
    have hs : j < arr.size := by
      rcases Nat.lt_or_ge j arr.size with hlt | hge
      · exact hlt
      · have := h2 j hj
        rw [Array.getElem?_eq_none hge] at this
        cases this
    rw [Array.getElem?_setIfInBounds]
    by_cases e' : j = i
    · subst e'
      simp [hs, hj, List.getD_eq_getElem?_getD]
    · rw [if_neg e', h2 i hi]
      simp [List.getD_eq_getElem?_getD, List.getElem?_set_ne e']
theorem Rw.text {P : Program} {w : World} {e : TypeId} {B : Nat} {zs : List Int} (h : Rw w e B zs) {src dst : TypeId} (hs : P.underlying src = some (.slice e)) (he : P.underlying e = some (.int .u8))
    (hd : P.underlying dst = some .string) (n c : Nat) (hn : zs.length = n) : (convert src dst (.slice (some ⟨B, 0, none⟩) n c)).run P w = .ok (.string (strOfNums zs)) w :=
  run_convert_bytes_arg w src e hs he B 0 n c zs hn (fun i hi => by rw [Nat.zero_add]; exact h.cell (by omega)) dst hd
theorem Rw.of_text (w : World) (e : TypeId) (s : ByteArray) (c : Nat) :
    Rw (w.alloc (.cells (bytesRow s c) e ((bytesRow s c).size, (bytesRow s c).size + 1))) e w.heap.size (s.data.toList.map fun b => (b.toNat : Int)) := by
  refine ⟨bytesRow s c, ((bytesRow s c).size, (bytesRow s c).size + 1), ?_, ?_, Or.inl ?_⟩
  · show (w.heap.push _)[w.heap.size]? = _
    rw [Array.getElem?_push, if_pos rfl]
  · intro j hj
    have hj' : j < s.data.size := by simpa using hj
    rw [bytesRow_at s c j hj']
    simp [List.getD_eq_getElem?_getD]
    rw [Array.getElem?_eq_getElem hj']
    rfl
  · simp [bytesRow]
end Go.Proofs.Ytpanodaecjlgaaa.mem
/- Texts, cut into tokens (pure). -/
namespace Go.Proofs.Ytpanodaecjlgaaa.lx
set_option linter.unusedVariables false

/-- Letters, digits. -/
def lt (x : Int) : Bool := decide (97 ≤ x) && decide (x ≤ 122) || decide (65 ≤ x) && decide (x ≤ 90) || decide (x = 95)
def dg (x : Int) : Bool := decide (48 ≤ x) && decide (x ≤ 57)
def isL (c : UInt8) : Bool := lt (c.toNat : Int)
def isD (c : UInt8) : Bool := dg (c.toNat : Int)
def isW (c : UInt8) : Bool := isL c || isD c
/-- A blank, a line feed, a tab. -/
def isB (c : UInt8) : Bool := c == 32 || c == 10 || c == 9
/-- Marks of one byte. -/
def singles : List UInt8 := [123, 125, 91, 93, 40, 41, 59, 44, 61, 43, 45, 42, 38, 124, 60, 62]
def isM (c : UInt8) : Bool := singles.contains c
/-- How many bytes are gone over at a time. -/
def rl (l : List UInt8) : Nat := (l.takeWhile (· != 10)).length
def gap : List UInt8 → Nat
  | [] => 0
  | c :: r => if isB c then 1 else if c == 35 then rl (c :: r) else 0
theorem gap_cons (c : UInt8) (r : List UInt8) : gap (c :: r) = if isB c then 1 else if c == 35 then rl (c :: r) else 0 := rfl
/-- The mark that a text begins with: how long it is. -/
def mk : List UInt8 → Nat
  | [] => 0
  | c :: r => if (c == 61 || c == 33) && r.head? == some 61 then 2 else if isM c then 1 else 0
theorem mk_cons (c : UInt8) (r : List UInt8) : mk (c :: r) = if (c == 61 || c == 33) && r.head? == some 61 then 2 else if isM c then 1 else 0 := rfl
/-- The word that a text begins with: how long it is. -/
def wl (l : List UInt8) : Nat := (l.takeWhile isW).length
/-- The token. -/
def tl (l : List UInt8) : Nat := if wl l = 0 then mk l else wl l
/-- A token. -/
structure Tk where
  t : List UInt8
  a : Nat
deriving DecidableEq, Inhabited
/-- All tokens; where none begins. -/
def lxn : Nat → List UInt8 → Nat → List Tk × Option Nat
  | 0, _, _ => ([], none)
  | _ + 1, [], _ => ([], none)
  | n + 1, c :: r, a =>
    if 0 < gap (c :: r) then lxn n ((c :: r).drop (gap (c :: r))) (a + gap (c :: r))
    else if 0 < tl (c :: r) then (⟨(c :: r).take (tl (c :: r)), a⟩ :: (lxn n ((c :: r).drop (tl (c :: r))) (a + tl (c :: r))).1, (lxn n ((c :: r).drop (tl (c :: r))) (a + tl (c :: r))).2)
    else ([], some a)
def lx (l : List UInt8) (a : Nat) : List Tk × Option Nat := lxn (l.length + 1) l a
theorem tw_le {α : Type} (p : α → Bool) (l : List α) : (l.takeWhile p).length ≤ l.length := (List.takeWhile_prefix p).length_le
theorem gap_le (l : List UInt8) : gap l ≤ l.length := by
  cases l with
  | nil => exact Nat.le_refl _
  | cons c r =>
    rw [gap_cons]
    split
    · simp
    · split
      · exact tw_le _ _
      · exact Nat.zero_le _
theorem mk_le (l : List UInt8) : mk l ≤ l.length := by
  cases l with
  | nil => exact Nat.le_refl _
  | cons c r =>
    rw [mk_cons]
    split
    · rename_i h
      cases r with
      | nil => simp at h
      | cons d r => simp
    · split <;> simp
theorem wl_le (l : List UInt8) : wl l ≤ l.length := tw_le _ _
theorem tl_le (l : List UInt8) : tl l ≤ l.length := by
  unfold tl
  split
  · exact mk_le l
  · exact wl_le l
theorem lxn_more (n : Nat) : ∀ (l : List UInt8) (a m : Nat), l.length < n → l.length < m → lxn n l a = lxn m l a := by
  induction n with
  | zero => intro l a m h; omega
  | succ n ih =>
    intro l a m hn hm
    cases m with
    | zero => omega
    | succ m =>
      cases l with
      | nil => rfl
      | cons c r =>
        simp only [lxn]
        by_cases hg : 0 < gap (c :: r)
        · rw [if_pos hg, if_pos hg]
          exact ih _ _ _ (by rw [List.length_drop]; simp only [List.length_cons] at *; omega) (by rw [List.length_drop]; simp only [List.length_cons] at *; omega)
        · rw [if_neg hg, if_neg hg]
          by_cases ht : 0 < tl (c :: r)
          · rw [if_pos ht, if_pos ht]
            rw [ih _ _ m (by rw [List.length_drop]; simp only [List.length_cons] at *; omega) (by rw [List.length_drop]; simp only [List.length_cons] at *; omega)]
          · rw [if_neg ht, if_neg ht]
theorem lx_nil (a : Nat) : lx [] a = ([], none) := rfl
theorem lx_gap (l : List UInt8) (a : Nat) (h : 0 < gap l) : lx l a = lx (l.drop (gap l)) (a + gap l) := by
  cases l with
  | nil => exact absurd h (Nat.lt_irrefl _)
  | cons c r =>
    have e : lx (c :: r) a = lxn (r.length + 1) ((c :: r).drop (gap (c :: r))) (a + gap (c :: r)) := by
      show lxn (r.length + 1 + 1) (c :: r) a = _
      simp only [lxn]
      rw [if_pos h]
    rw [e]
    exact lxn_more _ _ _ _ (by rw [List.length_drop]; simp; omega) (by omega)
theorem lx_tok (l : List UInt8) (a : Nat) (hg : gap l = 0) (h : 0 < tl l) : lx l a = (⟨l.take (tl l), a⟩ :: (lx (l.drop (tl l)) (a + tl l)).1, (lx (l.drop (tl l)) (a + tl l)).2) := by
  cases l with
  | nil => exact absurd h (Nat.lt_irrefl _)
  | cons c r =>
    have e : lxn (r.length + 1) ((c :: r).drop (tl (c :: r))) (a + tl (c :: r)) = lx ((c :: r).drop (tl (c :: r))) (a + tl (c :: r)) :=
      lxn_more _ _ _ _ (by rw [List.length_drop]; simp; omega) (by omega)
    show lxn (r.length + 1 + 1) (c :: r) a = _
    simp only [lxn]
    rw [if_neg (by omega), if_pos h, e]
theorem lx_bad (l : List UInt8) (a : Nat) (hl : l ≠ []) (hg : gap l = 0) (h : tl l = 0) : lx l a = ([], some a) := by
  cases l with
  | nil => exact absurd rfl hl
  | cons c r =>
    show lxn (r.length + 1 + 1) (c :: r) a = _
    simp only [lxn]
    rw [if_neg (by omega), if_neg (by omega)]
/-- What is a token. -/
def IsT (x : List UInt8) : Prop := (x ≠ [] ∧ ∀ c ∈ x, isW c = true) ∨ (∃ c, x = [c] ∧ isM c = true) ∨ x = [61, 61] ∨ x = [33, 61]
set_option maxRecDepth 100000 in
theorem isW_not (c : UInt8) (h : isW c = true) : isB c = false ∧ (c == 35) = false ∧ isM c = false ∧ (c == 61 || c == 33) = false := by
  have key : ∀ c : Fin 256, isW (UInt8.ofNat c.1) = true → isB (UInt8.ofNat c.1) = false ∧ (UInt8.ofNat c.1 == 35) = false ∧ isM (UInt8.ofNat c.1) = false ∧ (UInt8.ofNat c.1 == 61 || UInt8.ofNat c.1 == 33) = false := by decide
  have := key ⟨c.toNat, c.toNat_lt⟩
  simp only [UInt8.ofNat_toNat] at this
  exact this h
set_option maxRecDepth 100000 in
theorem isM_not (c : UInt8) (h : isM c = true ∨ (c == 61 || c == 33) = true) : isB c = false ∧ (c == 35) = false ∧ isW c = false := by
  have key : ∀ c : Fin 256, isM (UInt8.ofNat c.1) = true ∨ (UInt8.ofNat c.1 == 61 || UInt8.ofNat c.1 == 33) = true → isB (UInt8.ofNat c.1) = false ∧ (UInt8.ofNat c.1 == 35) = false ∧ isW (UInt8.ofNat c.1) = false := by decide
  have := key ⟨c.toNat, c.toNat_lt⟩
  simp only [UInt8.ofNat_toNat] at this
  exact this h
theorem tw_mem {p : UInt8 → Bool} {l : List UInt8} {c : UInt8} (h : c ∈ l.takeWhile p) : p c = true := by
  induction l with
  | nil => simp at h
  | cons d l ih =>
    by_cases hd : p d = true
    · rw [List.takeWhile_cons_of_pos hd, List.mem_cons] at h
      rcases h with rfl | h
      · exact hd
      · exact ih h
    · rw [List.takeWhile_cons_of_neg hd] at h
      simp at h
theorem tl_isT (l : List UInt8) (h : 0 < tl l) : IsT (l.take (tl l)) := by
  unfold tl at h ⊢
  by_cases hw : wl l = 0
  · rw [if_pos hw] at h ⊢
    cases l with
    | nil => exact absurd h (Nat.lt_irrefl _)
    | cons c r =>
      rw [mk_cons] at h ⊢
      by_cases h2 : ((c == 61 || c == 33) && r.head? == some 61) = true
      · rw [if_pos h2]
        simp only [Bool.and_eq_true, Bool.or_eq_true, beq_iff_eq] at h2
        cases r with
        | nil => simp at h2
        | cons d r =>
          simp at h2
          obtain ⟨h3, rfl⟩ := h2
          rcases h3 with rfl | rfl
          · exact Or.inr (Or.inr (Or.inl rfl))
          · exact Or.inr (Or.inr (Or.inr rfl))
      · rw [if_neg h2] at h ⊢
        by_cases h1 : isM c = true
        · rw [if_pos h1]
          exact Or.inr (Or.inl ⟨c, rfl, h1⟩)
        · rw [if_neg h1] at h
          exact absurd h (Nat.lt_irrefl _)
  · rw [if_neg hw]
    have e : l.take (wl l) = l.takeWhile isW := by
      unfold wl
      exact (List.prefix_iff_eq_take.1 (List.takeWhile_prefix isW)).symm
    rw [e]
    refine Or.inl ⟨?_, ?_⟩
    · intro e2
      unfold wl at hw
      rw [e2] at hw
      exact hw rfl
    · intro c hc
      exact tw_mem hc
theorem wl_app (x y : List UInt8) (hx : ∀ c ∈ x, isW c = true) (hy : ∀ c, y.head? = some c → isW c = false) : wl (x ++ y) = x.length := by
  unfold wl
  rw [List.takeWhile_append_of_pos hx, List.length_append]
  cases y with
  | nil => rfl
  | cons c y => rw [List.takeWhile_cons_of_neg (by rw [hy c rfl]; decide)]; rfl
/-- A token, and what may stand right behind it. -/
theorem tok_app (x y : List UInt8) (hx : IsT x) (h1 : (∀ c ∈ x, isW c = true) → ∀ c, y.head? = some c → isW c = false) (h2 : x = [61] → y.head? ≠ some 61) : gap (x ++ y) = 0 ∧ tl (x ++ y) = x.length ∧ 0 < x.length := by
  rcases hx with ⟨hx0, hx⟩ | ⟨c, rfl, hc⟩ | rfl | rfl
  · cases x with
    | nil => exact absurd rfl hx0
    | cons c x =>
      obtain ⟨g1, g2, g3, g4⟩ := isW_not c (hx c (by simp))
      have hw := wl_app _ _ hx (h1 hx)
      refine ⟨?_, ?_, by simp⟩
      · show gap (c :: (x ++ y)) = 0
        rw [gap_cons]
        rw [if_neg (by rw [g1]; decide), if_neg (by rw [g2]; decide)]
      · unfold tl
        rw [hw, if_neg (by simp)]
  · obtain ⟨g1, g2, g3⟩ := isM_not c (Or.inl hc)
    refine ⟨?_, ?_, by simp⟩
    · show gap (c :: y) = 0
      rw [gap_cons]
      rw [if_neg (by rw [g1]; decide), if_neg (by rw [g2]; decide)]
    · show tl (c :: y) = 1
      have hw : wl (c :: y) = 0 := by unfold wl; rw [List.takeWhile_cons_of_neg (by rw [g3]; decide)]; rfl
      unfold tl
      rw [if_pos hw]
      rw [mk_cons]
      rw [if_neg, if_pos hc]
      intro h
      simp only [Bool.and_eq_true, Bool.or_eq_true, beq_iff_eq] at h
      rcases h with ⟨rfl | rfl, h⟩
      · exact h2 rfl h
      · revert hc; decide
  · exact ⟨rfl, rfl, by simp⟩
  · exact ⟨rfl, rfl, by simp⟩
theorem lx_app (x y : List UInt8) (a : Nat) (hx : IsT x) (h1 : (∀ c ∈ x, isW c = true) → ∀ c, y.head? = some c → isW c = false) (h2 : x = [61] → y.head? ≠ some 61) :
    lx (x ++ y) a = (⟨x, a⟩ :: (lx y (a + x.length)).1, (lx y (a + x.length)).2) := by
  obtain ⟨g1, g2, g3⟩ := tok_app x y hx h1 h2
  have := lx_tok (x ++ y) a g1 (by omega)
  rw [g2] at this
  rw [this]
  simp
theorem lx_blank (c : UInt8) (y : List UInt8) (a : Nat) (h : isB c = true) : lx (c :: y) a = lx y (a + 1) := by
  have e : gap (c :: y) = 1 := by rw [gap_cons]; rw [if_pos h]
  rw [lx_gap _ _ (by omega), e]
  rfl
end Go.Proofs.Ytpanodaecjlgaaa.lx
/- Expressions: how tokens are read, in two ways (pure). -/
namespace Go.Proofs.Ytpanodaecjlgaaa.ex
set_option linter.unusedVariables false
open lx

/-- An expression. -/
inductive Ex where
  | num (a : Nat) (n : Int)
  | nam (a : Nat) (t : List UInt8)
  | bin (a : Nat) (o : List UInt8) (l r : Ex)
deriving Inhabited
/-- How much an op binds. -/
def bd (t : List UInt8) : Nat :=
  if t = [61, 61] ∨ t = [33, 61] ∨ t = [60] ∨ t = [62] then 1 else if t = [43] ∨ t = [45] ∨ t = [124] then 2 else if t = [42] ∨ t = [38] then 3 else 0
theorem bd_le (t : List UInt8) : bd t ≤ 3 := by unfold bd; split <;> (try split) <;> (try split) <;> omega
def isN (t : List UInt8) : Bool := match t.head? with | some c => isL c | none => false
def isU (t : List UInt8) : Bool := match t.head? with | some c => isD c | none => false
/-- The token that comes now. -/
def hd (en : Nat) : List Tk → Tk
  | [] => ⟨[], en⟩
  | t :: _ => t
def hb (ts : List Tk) : Nat := match ts with | [] => 0 | t :: _ => bd t.t
abbrev Res := Except (Int × Nat) (Ex × List Tk)
section
variable (nb : List UInt8 → Int × Int) (en : Nat)
mutual
def row : Nat → Nat → Nat → List Tk → Option Res
  | 0, _, _, _ => none
  | f + 1, m, d, ts =>
    if 3 < m then one f d ts
    else match row f (m + 1) d ts with
      | none => none
      | some (.error e) => some (.error e)
      | some (.ok (x, r)) => lp f m d x r
def lp : Nat → Nat → Nat → Ex → List Tk → Option Res
  | 0, _, _, _, _ => none
  | _ + 1, _, _, x, [] => some (.ok (x, []))
  | f + 1, m, d, x, t :: r =>
    if bd t.t = m then
      match row f (m + 1) d r with
      | none => none
      | some (.error e) => some (.error e)
      | some (.ok (y, r')) => lp f m d (.bin t.a t.t x y) r'
    else some (.ok (x, t :: r))
def one : Nat → Nat → List Tk → Option Res
  | 0, _, _ => none
  | _ + 1, _, [] => some (.error (3, en))
  | f + 1, d, t :: r =>
    if isN t.t then (if 12 < t.t.length then some (.error (4, t.a)) else some (.ok (.nam t.a t.t, r)))
    else if isU t.t then (if (nb t.t).2 = 0 then some (.ok (.num t.a (nb t.t).1, r)) else some (.error ((nb t.t).2, t.a)))
    else if t.t = [40] then
      (if d = 8 then some (.error (4, t.a))
      else match row f 1 (d + 1) r with
        | none => none
        | some (.error e) => some (.error e)
        | some (.ok (x, r')) => if (hd en r').t = [41] then some (.ok (x, r'.tail)) else some (.error (3, (hd en r').a)))
    else some (.error (3, t.a))
end
mutual
def ce : Nat → Nat → Nat → List Tk → Option Res
  | 0, _, _, _ => none
  | f + 1, m, d, ts =>
    match sg f d ts with
      | none => none
      | some (.error e) => some (.error e)
      | some (.ok (x, r)) => cl f m d x r
def cl : Nat → Nat → Nat → Ex → List Tk → Option Res
  | 0, _, _, _, _ => none
  | _ + 1, _, _, x, [] => some (.ok (x, []))
  | f + 1, m, d, x, t :: r =>
    if m ≤ bd t.t ∧ 0 < bd t.t then
      match ce f (bd t.t + 1) d r with
      | none => none
      | some (.error e) => some (.error e)
      | some (.ok (y, r')) => cl f m d (.bin t.a t.t x y) r'
    else some (.ok (x, t :: r))
def sg : Nat → Nat → List Tk → Option Res
  | 0, _, _ => none
  | _ + 1, _, [] => some (.error (3, en))
  | f + 1, d, t :: r =>
    if isN t.t then (if 12 < t.t.length then some (.error (4, t.a)) else some (.ok (.nam t.a t.t, r)))
    else if isU t.t then (if (nb t.t).2 = 0 then some (.ok (.num t.a (nb t.t).1, r)) else some (.error ((nb t.t).2, t.a)))
    else if t.t = [40] then
      (if d = 8 then some (.error (4, t.a))
      else match ce f 1 (d + 1) r with
        | none => none
        | some (.error e) => some (.error e)
        | some (.ok (x, r')) => if (hd en r').t = [41] then some (.ok (x, r'.tail)) else some (.error (3, (hd en r').a)))
    else some (.error (3, t.a))
end
variable {nb en}
theorem row_top (f m d : Nat) (ts : List Tk) (h : 3 < m) : row nb en (f + 1) m d ts = one nb en f d ts := by rw [row, if_pos h]
theorem row_low (f m d : Nat) (ts : List Tk) (h : ¬ 3 < m) : row nb en (f + 1) m d ts = match row nb en f (m + 1) d ts with
      | none => none
      | some (.error e) => some (.error e)
      | some (.ok (x, r)) => lp nb en f m d x r := by rw [row, if_neg h]
/-- What is read is gone. -/
theorem len_all (f : Nat) : (∀ m d ts x r, row nb en f m d ts = some (.ok (x, r)) → r.length < ts.length) ∧ (∀ m d y ts x r, lp nb en f m d y ts = some (.ok (x, r)) → r.length ≤ ts.length) ∧ (∀ d ts x r, one nb en f d ts = some (.ok (x, r)) → r.length < ts.length) := by
  induction f with
  | zero => exact ⟨fun _ _ _ _ _ h => by simp [row] at h, fun _ _ _ _ _ _ h => by simp [lp] at h, fun _ _ _ _ h => by simp [one] at h⟩
  | succ f ih =>
    obtain ⟨i1, i2, i3⟩ := ih
    refine ⟨?_, ?_, ?_⟩
    · intro m d ts x r h
      by_cases hm : 3 < m
      · rw [row_top _ _ _ _ hm] at h
        exact i3 _ _ _ _ h
      · rw [row_low _ _ _ _ hm] at h
        split at h
        · cases h
        · cases h
        · rename_i y r' hr
          have := i1 _ _ _ _ _ hr
          have := i2 _ _ _ _ _ _ h
          omega
    · intro m d y ts x r h
      cases ts with
      | nil =>
        simp only [lp, Option.some.injEq, Except.ok.injEq, Prod.mk.injEq] at h
        rw [← h.2]
        exact Nat.le_refl _
      | cons t ts =>
        rw [lp] at h
        split at h
        · split at h
          · cases h
          · cases h
          · rename_i z r' hr
            have := i1 _ _ _ _ _ hr
            have := i2 _ _ _ _ _ _ h
            simp only [List.length_cons]
            omega
        · simp only [Option.some.injEq, Except.ok.injEq, Prod.mk.injEq] at h
          rw [← h.2]
          exact Nat.le_refl _
    · intro d ts x r h
      cases ts with
      | nil => simp [one] at h
      | cons t ts =>
        rw [one] at h
        split at h
        · split at h
          · simp at h
          · simp at h; rw [← h.2]; simp
        · split at h
          · split at h
            · simp at h; rw [← h.2]; simp
            · simp at h
          · split at h
            · split at h
              · simp at h
              · split at h
                · cases h
                · cases h
                · rename_i z r' hr
                  have := i1 _ _ _ _ _ hr
                  split at h
                  · simp at h; rw [← h.2, List.length_tail]; simp; omega
                  · simp at h
            · simp at h
/-- There is always an answer. -/
theorem some_all (f : Nat) : (∀ m d ts, m ≤ 4 → 10 * ts.length + (5 - m) < f → row nb en f m d ts ≠ none) ∧ (∀ m d y ts, m ≤ 3 → 10 * ts.length + 1 < f → lp nb en f m d y ts ≠ none) ∧ (∀ d ts, 10 * ts.length < f → one nb en f d ts ≠ none) := by
  induction f with
  | zero => exact ⟨fun _ _ _ _ h => by omega, fun _ _ _ _ _ h => by omega, fun _ _ h => by omega⟩
  | succ f ih =>
    obtain ⟨i1, i2, i3⟩ := ih
    obtain ⟨l1, l2, l3⟩ := len_all (nb := nb) (en := en) f
    refine ⟨?_, ?_, ?_⟩
    · intro m d ts hm4 hf
      by_cases hm : 3 < m
      · rw [row_top _ _ _ _ hm]
        exact i3 _ _ (by omega)
      · rw [row_low _ _ _ _ hm]
        split
        · rename_i hr
          exact absurd hr (i1 _ _ _ (by omega) (by omega))
        · simp
        · rename_i y r' hr
          have := l1 _ _ _ _ _ hr
          exact i2 _ _ _ _ (by omega) (by omega)
    · intro m d y ts hm hf
      cases ts with
      | nil => simp [lp]
      | cons t ts =>
        simp only [List.length_cons] at hf
        rw [lp]
        split
        · split
          · rename_i hr
            exact absurd hr (i1 _ _ _ (by omega) (by omega))
          · simp
          · rename_i z r' hr
            have := l1 _ _ _ _ _ hr
            exact i2 _ _ _ _ (by omega) (by omega)
        · simp
    · intro d ts hf
      cases ts with
      | nil => simp [one]
      | cons t ts =>
        simp only [List.length_cons] at hf
        rw [one]
        split
        · split <;> simp
        · split
          · split <;> simp
          · split
            · split
              · simp
              · split
                · rename_i hr
                  exact absurd hr (i1 _ _ _ (by omega) (by omega))
                · simp
                · split <;> simp
            · simp
theorem up_all (f : Nat) : (∀ m d ts q, ce nb en f m d ts = some q → ce nb en (f + 1) m d ts = some q) ∧ (∀ m d y ts q, cl nb en f m d y ts = some q → cl nb en (f + 1) m d y ts = some q) ∧ (∀ d ts q, sg nb en f d ts = some q → sg nb en (f + 1) d ts = some q) := by
  induction f with
  | zero => exact ⟨fun _ _ _ _ h => by simp [ce] at h, fun _ _ _ _ _ h => by simp [cl] at h, fun _ _ _ h => by simp [sg] at h⟩
  | succ f ih =>
    obtain ⟨i1, i2, i3⟩ := ih
    refine ⟨?_, ?_, ?_⟩
    · intro m d ts q h
      rw [ce] at h ⊢
      split at h
      · cases h
      · rename_i e hr
        rw [i3 _ _ _ hr]
        exact h
      · rename_i x r hr
        rw [i3 _ _ _ hr]
        exact i2 _ _ _ _ _ h
    · intro m d y ts q h
      cases ts with
      | nil => simpa [cl] using h
      | cons t ts =>
        rw [cl] at h ⊢
        split at h
        · rename_i hc
          rw [if_pos hc]
          split at h
          · cases h
          · rename_i e hr
            rw [i1 _ _ _ _ hr]
            exact h
          · rename_i x r hr
            rw [i1 _ _ _ _ hr]
            exact i2 _ _ _ _ _ h
        · rename_i hc
          rw [if_neg hc]
          exact h
    · intro d ts q h
      cases ts with
      | nil => simpa [sg] using h
      | cons t ts =>
        rw [sg] at h ⊢
        split at h
        · rename_i h1
          rw [if_pos h1]; exact h
        · rename_i h1
          rw [if_neg h1]
          split at h
          · rename_i h2
            rw [if_pos h2]; exact h
          · rename_i h2
            rw [if_neg h2]
            split at h
            · rename_i h3
              rw [if_pos h3]
              split at h
              · rename_i h4
                rw [if_pos h4]; exact h
              · rename_i h4
                rw [if_neg h4]
                split at h
                · cases h
                · rename_i e hr
                  rw [i1 _ _ _ _ hr]; exact h
                · rename_i x r hr
                  rw [i1 _ _ _ _ hr]; exact h
            · rename_i h3
              rw [if_neg h3]; exact h
theorem up_ce {f g m d : Nat} {ts : List Tk} {q : Res} (h : ce nb en f m d ts = some q) (hg : f ≤ g) : ce nb en g m d ts = some q := by
  induction g with
  | zero => obtain rfl : f = 0 := by omega
            exact h
  | succ g ih =>
    rcases Nat.lt_or_ge g f with h1 | h1
    · obtain rfl : f = g + 1 := by omega
      exact h
    · exact (up_all g).1 _ _ _ _ (ih h1)
theorem up_cl {f g m d : Nat} {y : Ex} {ts : List Tk} {q : Res} (h : cl nb en f m d y ts = some q) (hg : f ≤ g) : cl nb en g m d y ts = some q := by
  induction g with
  | zero => obtain rfl : f = 0 := by omega
            exact h
  | succ g ih =>
    rcases Nat.lt_or_ge g f with h1 | h1
    · obtain rfl : f = g + 1 := by omega
      exact h
    · exact (up_all g).2.1 _ _ _ _ _ (ih h1)
theorem up_sg {f g d : Nat} {ts : List Tk} {q : Res} (h : sg nb en f d ts = some q) (hg : f ≤ g) : sg nb en g d ts = some q := by
  induction g with
  | zero => obtain rfl : f = 0 := by omega
            exact h
  | succ g ih =>
    rcases Nat.lt_or_ge g f with h1 | h1
    · obtain rfl : f = g + 1 := by omega
      exact h
    · exact (up_all g).2.2 _ _ _ (ih h1)
/-- Where the loop ends, what comes next binds less. -/
theorem cl_stops (f : Nat) : ∀ m d y ts x r, cl nb en f m d y ts = some (.ok (x, r)) → hb r < m ∨ hb r = 0 := by
  induction f with
  | zero => intro m d y ts x r h; simp [cl] at h
  | succ f ih =>
    intro m d y ts x r h
    cases ts with
    | nil =>
      simp only [cl, Option.some.injEq, Except.ok.injEq, Prod.mk.injEq] at h
      rw [← h.2]
      exact Or.inr rfl
    | cons t ts =>
      rw [cl] at h
      split at h
      · split at h
        · cases h
        · cases h
        · exact ih _ _ _ _ _ _ h
      · rename_i hc
        simp only [Option.some.injEq, Except.ok.injEq, Prod.mk.injEq] at h
        rw [← h.2]
        show bd t.t < m ∨ bd t.t = 0
        omega
theorem ce_stops {f m d : Nat} {ts r : List Tk} {x : Ex} (h : ce nb en f m d ts = some (.ok (x, r))) : hb r < m ∨ hb r = 0 := by
  cases f with
  | zero => simp [ce] at h
  | succ f =>
    rw [ce] at h
    split at h
    · cases h
    · cases h
    · exact cl_stops _ _ _ _ _ _ _ h
/-- What ops that bind more join, and then what others do. -/
theorem cl_err (f : Nat) : ∀ m d y ts e, cl nb en f (m + 1) d y ts = some (.error e) → cl nb en f m d y ts = some (.error e) := by
  induction f with
  | zero => intro m d y ts e h; simp [cl] at h
  | succ f ih =>
    intro m d y ts e h
    cases ts with
    | nil => simp [cl] at h
    | cons t ts =>
      rw [cl] at h ⊢
      split at h
      · rename_i hc
        rw [if_pos (by omega)]
        split at h
        · cases h
        · exact h
        · exact ih _ _ _ _ _ h
      · simp at h
theorem cl_then (f : Nat) : ∀ m d y ts x r g q, cl nb en f (m + 1) d y ts = some (.ok (x, r)) → cl nb en g m d x r = some q → cl nb en (f + g) m d y ts = some q := by
  induction f with
  | zero => intro m d y ts x r g q h; simp [cl] at h
  | succ f ih =>
    intro m d y ts x r g q h hg
    cases ts with
    | nil =>
      simp only [cl, Option.some.injEq, Except.ok.injEq, Prod.mk.injEq] at h
      obtain ⟨rfl, rfl⟩ := h
      exact up_cl hg (by omega)
    | cons t ts =>
      rw [cl] at h
      split at h
      · rename_i hc
        split at h
        · cases h
        · cases h
        · rename_i z r' hr
          have h1 := ih _ _ _ _ _ _ _ _ h hg
          have h2 := up_ce hr (show f ≤ f + g by omega)
          rw [show f + 1 + g = f + g + 1 by omega, cl, if_pos (by omega), h2]
          exact h1
      · simp only [Option.some.injEq, Except.ok.injEq, Prod.mk.injEq] at h
        obtain ⟨rfl, rfl⟩ := h
        exact up_cl hg (by omega)
/-- Both ways are one. -/
theorem both_ways (f : Nat) : (∀ m d ts q, 1 ≤ m → m ≤ 4 → row nb en f m d ts = some q → ∃ g, ce nb en g m d ts = some q) ∧ (∀ m d y ts q, 1 ≤ m → m ≤ 3 → (hb ts ≤ m) → lp nb en f m d y ts = some q → ∃ g, cl nb en g m d y ts = some q) ∧ (∀ d ts q, one nb en f d ts = some q → ∃ g, sg nb en g d ts = some q) := by
  induction f with
  | zero => exact ⟨fun _ _ _ _ _ _ h => by simp [row] at h, fun _ _ _ _ _ _ _ _ h => by simp [lp] at h, fun _ _ _ h => by simp [one] at h⟩
  | succ f ih =>
    obtain ⟨i1, i2, i3⟩ := ih
    refine ⟨?_, ?_, ?_⟩
    · intro m d ts q h1 h4 h
      by_cases hm : 3 < m
      · obtain rfl : m = 4 := by omega
        rw [row_top _ _ _ _ hm] at h
        obtain ⟨g, hg⟩ := i3 _ _ _ h
        refine ⟨g + 2, ?_⟩
        rw [ce, up_sg hg (Nat.le_succ g)]
        cases q with
        | error e => rfl
        | ok p =>
          obtain ⟨x, r⟩ := p
          show cl nb en (g + 1) 4 d x r = _
          cases r with
          | nil => rw [cl]
          | cons t r => rw [cl, if_neg (by have := bd_le t.t; omega)]
      · rw [row_low _ _ _ _ hm] at h
        split at h
        · cases h
        · rename_i e hr
          obtain ⟨g, hg⟩ := i1 _ _ _ _ (by omega) (by omega) hr
          refine ⟨g, ?_⟩
          cases g with
          | zero => simp [ce] at hg
          | succ g =>
            rw [ce] at hg ⊢
            split at hg
            · cases hg
            · rw [hg]; exact h
            · rw [cl_err _ _ _ _ _ _ hg]; exact h
        · rename_i x r hr
          obtain ⟨g, hg⟩ := i1 _ _ _ _ (by omega) (by omega) hr
          have hs := ce_stops hg
          obtain ⟨k, hk⟩ := i2 _ _ _ _ _ h1 (by omega) (by omega) h
          cases g with
          | zero => simp [ce] at hg
          | succ g =>
            rw [ce] at hg
            split at hg
            · cases hg
            · cases hg
            · rename_i y r' hsg
              refine ⟨g + k + 1, ?_⟩
              rw [ce, up_sg hsg (show g ≤ g + k by omega)]
              exact cl_then _ _ _ _ _ _ _ _ _ hg hk
    · intro m d y ts q h1 h3 hh h
      cases ts with
      | nil => exact ⟨1, by simpa [cl, lp] using h⟩
      | cons t ts =>
        rw [lp] at h
        split at h
        · rename_i hb'
          split at h
          · cases h
          · rename_i e hr
            obtain ⟨g, hg⟩ := i1 _ _ _ _ (by omega) (by omega) hr
            refine ⟨g + 1, ?_⟩
            rw [cl, if_pos (by omega), hb', hg]
            exact h
          · rename_i z r hr
            obtain ⟨g, hg⟩ := i1 _ _ _ _ (by omega) (by omega) hr
            have hs := ce_stops hg
            obtain ⟨k, hk⟩ := i2 _ _ _ _ _ h1 h3 (by omega) h
            refine ⟨g + k + 1, ?_⟩
            rw [cl, if_pos (by omega), hb', up_ce hg (show g ≤ g + k by omega)]
            exact up_cl hk (by omega)
        · rename_i hb'
          refine ⟨1, ?_⟩
          have : bd t.t ≤ m := hh
          rw [cl, if_neg (by omega)]
          exact h
    · intro d ts q h
      cases ts with
      | nil => exact ⟨1, by simpa [one, sg] using h⟩
      | cons t ts =>
        rw [one] at h
        by_cases c1 : isN t.t = true
        · exact ⟨1, by rw [sg, if_pos c1]; rw [if_pos c1] at h; exact h⟩
        · rw [if_neg c1] at h
          by_cases c2 : isU t.t = true
          · exact ⟨1, by rw [sg, if_neg c1, if_pos c2]; rw [if_pos c2] at h; exact h⟩
          · rw [if_neg c2] at h
            by_cases c3 : t.t = [40]
            · rw [if_pos c3] at h
              by_cases c4 : d = 8
              · exact ⟨1, by rw [sg, if_neg c1, if_neg c2, if_pos c3, if_pos c4]; rw [if_pos c4] at h; exact h⟩
              · rw [if_neg c4] at h
                split at h
                · cases h
                · rename_i e hr
                  obtain ⟨g, hg⟩ := i1 _ _ _ _ (by omega) (by omega) hr
                  refine ⟨g + 1, ?_⟩
                  rw [sg, if_neg c1, if_neg c2, if_pos c3, if_neg c4, hg]
                  exact h
                · rename_i x r hr
                  obtain ⟨g, hg⟩ := i1 _ _ _ _ (by omega) (by omega) hr
                  refine ⟨g + 1, ?_⟩
                  rw [sg, if_neg c1, if_neg c2, if_pos c3, if_neg c4, hg]
                  exact h
            · exact ⟨1, by rw [sg, if_neg c1, if_neg c2, if_neg c3]; rw [if_neg c3] at h; exact h⟩
end
end Go.Proofs.Ytpanodaecjlgaaa.ex
/- Templates: how tokens are read (pure). -/
namespace Go.Proofs.Ytpanodaecjlgaaa.tm
set_option linter.unusedVariables false
open lx ex

/-- What a part is, but for the parts in it. -/
structure D where
  kd : Nat
  at_ : Nat
  nm : List UInt8
  ty : List UInt8
  wd : Nat
  od : Nat
  sg : Bool
  mn : Bool
  ct : Option Ex
  ru : Nat
  f1 : List UInt8
  l1 : List UInt8
deriving Inhabited
def D0 : D := ⟨0, 0, [], [], 0, 0, false, false, none, 0, [], []⟩
/-- Parts, one behind the other. -/
inductive Its where
  | nil
  | cons (d : D) (sub tl : Its)
deriving Inhabited
def Its.len : Its → Nat
  | .nil => 0
  | .cons _ _ tl => tl.len + 1
/-- A struct. -/
structure Ty where
  nm : List UInt8
  at_ : Nat
  l : Its
deriving Inhabited
def wStruct : List UInt8 := [115, 116, 114, 117, 99, 116]
def wBytes : List UInt8 := [98, 121, 116, 101, 115]
def wWhen : List UInt8 := [119, 104, 101, 110]
def wSize : List UInt8 := [115, 105, 122, 101]
def wCount : List UInt8 := [99, 111, 117, 110, 116]
def wCheck : List UInt8 := [99, 104, 101, 99, 107]
/-- The words for numbers. -/
def numW : List (List UInt8 × Nat × Nat × Bool) :=
  [([117, 56], 1, 0, false), ([105, 56], 1, 0, true),
   ([117, 49, 54, 108, 101], 2, 0, false), ([117, 49, 54, 98, 101], 2, 1, false), ([105, 49, 54, 108, 101], 2, 0, true), ([105, 49, 54, 98, 101], 2, 1, true),
   ([117, 51, 50, 108, 101], 4, 0, false), ([117, 51, 50, 98, 101], 4, 1, false), ([105, 51, 50, 108, 101], 4, 0, true), ([105, 51, 50, 98, 101], 4, 1, true),
   ([105, 54, 52, 108, 101], 8, 0, true), ([105, 54, 52, 98, 101], 8, 1, true)]
def numOf (t : List UInt8) : Option (Nat × Nat × Bool) := (numW.find? (fun p => p.1 == t)).map (·.2)
def resv (t : List UInt8) : Bool := [wStruct, wBytes, wWhen, wSize, wCount, wCheck].contains t || (numOf t).isSome
abbrev Rs (α : Type) := Except (Int × Nat) (α × List Tk)
section
variable (nb : List UInt8 → Int × Int) (en : Nat)
def want (m : List UInt8) (ts : List Tk) : Except (Int × Nat) (List Tk) := if (hd en ts).t = m then .ok ts.tail else .error (3, (hd en ts).a)
def name (ts : List Tk) : Rs (List UInt8) :=
  if resv (hd en ts).t = true ∨ isN (hd en ts).t = false then .error (3, (hd en ts).a)
  else if 12 < (hd en ts).t.length then .error (4, (hd en ts).a)
  else .ok ((hd en ts).t, ts.tail)
/-- An expression, behind which that must stand; up to it. -/
def rx (m : List UInt8) (ts : List Tk) : Rs Ex :=
  match row nb en (10 * ts.length + 10) 1 0 ts with
  | some (.ok (x, r)) => if (hd en r).t = m then .ok (x, r) else .error (3, (hd en r).a)
  | some (.error e) => .error e
  | none => .error (0, 0)
/-- In brackets. -/
def many (ts : List Tk) : Rs Ex :=
  match want en [91] ts with
  | .error e => .error e
  | .ok r => match rx nb en [93] r with
    | .error e => .error e
    | .ok (x, r) => .ok (x, r.tail)
def ruleOf (t : List UInt8) : Nat := if t = wSize then 1 else if t = wCount then 2 else if t = wCheck then 3 else 0
def rule (d : D) (ts : List Tk) : Rs D :=
  if ruleOf (hd en ts).t = 0 then .error (3, (hd en ts).a)
  else match name en ts.tail with
    | .error e => .error e
    | .ok (a, r) =>
      if ruleOf (hd en ts).t = 3 then
        if (hd en r).t = [59] then .ok ({ d with ru := 3, f1 := a, l1 := a }, r)
        else match name en r with
          | .error e => .error e
          | .ok (b, r) => .ok ({ d with ru := 3, f1 := a, l1 := b }, r)
      else .ok ({ d with ru := ruleOf (hd en ts).t, f1 := a }, r)
/-- What a part begins with. -/
def kind (ts : List Tk) : Rs D :=
  match numOf (hd en ts).t with
  | some (w, o, s) => .ok ({ D0 with kd := 1, wd := w, od := o, sg := s }, ts.tail)
  | none => match name en ts with
    | .error e => .error e
    | .ok (t, r) => .ok ({ D0 with kd := 3, ty := t }, r)
/-- How many, or what it hangs on. -/
def mark (d : D) (ts : List Tk) : Rs D :=
  if (hd en ts).t = [91] then match many nb en ts with
    | .error e => .error e
    | .ok (x, r) => .ok ({ d with mn := true, ct := some x }, r)
  else if (hd en ts).t = [61] ∧ d.kd = 1 then rule en d ts.tail
  else .ok (d, ts)
def part (ts : List Tk) : Rs D :=
  match kind en ts with
  | .error e => .error e
  | .ok (d, r) => match name en r with
    | .error e => .error e
    | .ok (t, r) => match mark nb en { d with nm := t } r with
      | .error e => .error e
      | .ok (d, r) => match want en [59] r with
        | .error e => .error e
        | .ok r => .ok (d, r)
def byts (ts : List Tk) : Rs D :=
  match name en ts with
  | .error e => .error e
  | .ok (t, r) => match many nb en r with
    | .error e => .error e
    | .ok (x, r) => match want en [59] r with
      | .error e => .error e
      | .ok r => .ok ({ D0 with kd := 2, nm := t, ct := some x }, r)
variable (inner : List Tk → Rs Its)
def item (ts : List Tk) : Rs (D × Its) :=
  if (hd en ts).t = wWhen then
    match rx nb en [123] ts.tail with
    | .error e => .error e
    | .ok (x, r) => match inner r with
      | .error e => .error e
      | .ok (l, r) => .ok (({ D0 with kd := 4, at_ := (hd en ts).a, ct := some x }, l), r)
  else if (hd en ts).t = wBytes then
    match byts nb en ts.tail with
    | .error e => .error e
    | .ok (d, r) => .ok (({ d with at_ := (hd en ts).a }, .nil), r)
  else match part nb en ts with
    | .error e => .error e
    | .ok (d, r) => .ok (({ d with at_ := (hd en ts).a }, .nil), r)
/-- Parts, up to the bracket: so many more may come. -/
def loop : Nat → List Tk → Rs Its
  | 0, ts => if (hd en ts).t = [125] then .ok (.nil, ts.tail) else .error (4, (hd en ts).a)
  | n + 1, ts =>
    if (hd en ts).t = [125] then .ok (.nil, ts.tail)
    else match item nb en inner ts with
      | .error e => .error e
      | .ok ((d, s), r) => match loop n r with
        | .error e => .error e
        | .ok (l, r) => .ok (.cons d s l, r)
/-- Parts in their brackets: so many brackets more may be opened. -/
def blk : Nat → List Tk → Rs Its
  | 0, ts => if (hd en ts).t = [123] then .error (4, (hd en ts).a) else .error (3, (hd en ts).a)
  | k + 1, ts => if (hd en ts).t = [123] then loop nb en (blk k) 16 ts.tail else .error (3, (hd en ts).a)
/-- Structs: so many more may come. -/
def typs : Nat → List Tk → Except (Int × Nat) (List Ty)
  | _, [] => .ok []
  | 0, t :: _ => if t.t = wStruct then .error (4, t.a) else .error (3, t.a)
  | n + 1, t :: r =>
    if t.t = wStruct then
      match name en r with
      | .error e => .error e
      | .ok (m, r') => match blk nb en 8 r' with
        | .error e => .error e
        | .ok (l, r'') => match typs n r'' with
          | .error e => .error e
          | .ok q => .ok (⟨m, (hd en r).a, l⟩ :: q)
    else .error (3, t.a)
end
end Go.Proofs.Ytpanodaecjlgaaa.tm
