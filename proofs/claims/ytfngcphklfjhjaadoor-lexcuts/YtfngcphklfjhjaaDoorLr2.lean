/- The document's Lex. -/
import Derived.Test.YtfngcphklfjhjaaDoorLr1
namespace Go.Proofs.YtfngcphklfjhjaaDoor.lx
set_option linter.unusedVariables false
open Go.ChangeShapes Go.WideShapes Go.ChangeAt Go.RowKit
open mem

theorem results_tmp_cell {fn : Func} {p u : Tmp} {ty : TypeId} (h : fn.results = #[.tmp u, .cell p ty]) (tmps : Array Value) (P : Program) (w : World) (B : Nat) (v : Value) (hp : tmps.getD p undef = .pointer (some ⟨B, 0, none⟩)) (hl : (loadVar ty ⟨B, 0, none⟩).run P w = .ok v w) :
    (results fn tmps).run P w = .ok (.tuple #[tmps.getD u undef, v]) w := by
  have hp' : tmps[p]?.getD undef = .pointer (some ⟨B, 0, none⟩) := by simpa using hp
  simp only [results, h]
  simp [Result.andThen, hp', asAddr, hl]
/-- The document's tokens, under way. -/
structure Rx (w wr : World) (N : Nat) (v : Value) (l : List Tk) : Prop where
  own : tr.Own wr (N + 1) v l
  bl : Bl w wr
  fv : wr.heap[N]? = some (.cells #[.int .i64 0, .int .i64 0] 26 (0, 0))
  n : N = w.heap.size
theorem Rx.step {w wr w' : World} {N : Nat} {v : Value} {l : List Tk} (h : Rx w wr N v l) (hb : Bl wr w') : Rx w w' N v l :=
  ⟨h.own.step hb, h.bl.trans hb, by rw [Below.block hb N (lt_of_heap h.fv)]; exact h.fv, h.n⟩
theorem Rx.app {w wr : World} {N : Nat} {v : Value} {l : List Tk} (h : Rx w wr N v l) (t : List UInt8) (a : Nat) (Z : ByteArray) (hZ : Z = tx t) (hl : l.length ≤ 3000) :
    ∃ v' w7, (Builtin.append_ #[23, 23] 23 #[v, .slice (some ⟨wr.heap.size, 0, none⟩) 1 1]).run Tryd.prog (wr.alloc (.cells #[.string Z, .int .i64 (a : Int)] 35)) = .ok v' w7 ∧ Rx w w7 N v' (l ++ [⟨t, a⟩]) := by
  have hb6 : Bl wr (wr.alloc (.cells #[.string Z, .int .i64 (a : Int)] 35)) := (Bl.refl _).alloc _
  have h6 := h.step hb6
  have hx6 := new_at wr (.cells #[.string Z, .int .i64 (a : Int)] 35)
  have hN := h.n
  obtain ⟨v', w7, hr, ho, hg⟩ := tr.app_one _ (N + 1) v l ⟨t, a⟩ wr.heap.size h6.own (by rw [cell_of hx6, hZ]; rfl) (by rw [cell_of hx6]; rfl) (by omega) (by have := lt_of_heap h6.fv; omega)
  have hne : ∀ x, v.ownBlock = some x → N + 1 ≤ x := fun x hx => (h6.own.block x hx).1
  refine ⟨v', w7, hr, ho, bl_grown h6.bl hg (fun x hx => by have := hne x hx; omega), ?_, hN⟩
  rw [hg.block N (lt_of_heap h6.fv) (fun e => by have := hne N e.symm; omega)]
  exact h6.fv
/-- Where it is: within a word, a remark, or between. -/
def Pz (s : List UInt8) (l : List Tk) (i : Nat) (wd : Int) (rm : Bool) : Prop :=
  ∃ R : List Tk × Option Nat, lx s 0 = (l ++ R.1, R.2) ∧ ((rm = true ∧ wd = -1 ∧ R = Rm s i) ∨ (rm = false ∧ wd = -1 ∧ R = lx (s.drop i) i) ∨
    (rm = false ∧ ∃ p : Nat, wd = (p : Int) ∧ p < i ∧ (∀ j, p ≤ j → (h : j < i) → ∃ c, s[j]? = some c ∧ isW c = true) ∧ R = lx (s.drop p) p))
theorem Pz.len {s : List UInt8} {l : List Tk} {i : Nat} {wd : Int} {rm : Bool} (h : Pz s l i wd rm) (hs : s.length ≤ 3000) : l.length ≤ 3000 := by
  obtain ⟨R, h1, _⟩ := h
  have h2 := lx_len s _ 0 (Nat.le_refl _)
  rw [h1] at h2
  simp only [List.length_append] at h2
  omega
theorem Pz.word {s : List UInt8} {l : List Tk} {i : Nat} {wd : Int} {c : UInt8} (h : Pz s l i wd false) (hc : s[i]? = some c) (hw : isW c = true) : Pz s l (i + 1) (if wd < 0 then (i : Int) else wd) false := by
  obtain ⟨R, h1, ⟨h2, _⟩ | ⟨_, rfl, rfl⟩ | ⟨_, p, rfl, hp, hall, rfl⟩⟩ := h
  · cases h2
  · refine ⟨_, h1, Or.inr (Or.inr ⟨rfl, i, by rw [if_pos (by decide)], by omega, fun j h3 h4 => ?_, rfl⟩)⟩
    obtain rfl : j = i := by omega
    exact ⟨c, hc, hw⟩
  · refine ⟨_, h1, Or.inr (Or.inr ⟨rfl, p, by rw [if_neg (by omega)], by omega, fun j h3 h4 => ?_, rfl⟩)⟩
    rcases Nat.lt_or_ge j i with h5 | h5
    · exact hall j h3 h5
    · obtain rfl : j = i := by omega
      exact ⟨c, hc, hw⟩
/-- A word's end. -/
theorem Pz.out {s : List UInt8} {l : List Tk} {i p : Nat} {rm : Bool} (h : Pz s l i (p : Int) rm) (hi : i ≤ s.length) (he : ∀ c, s[i]? = some c → isW c = false) : p < i ∧ Pz s (l ++ [⟨(s.take i).drop p, p⟩]) i (-1) false ∧ rm = false := by
  obtain ⟨R, h1, ⟨_, h2, _⟩ | ⟨_, h2, _⟩ | ⟨hrm, q, h2, hp, hall, rfl⟩⟩ := h
  · omega
  · omega
  · obtain rfl : p = q := by omega
    refine ⟨hp, ⟨lx (s.drop i) i, ?_, Or.inr (Or.inl ⟨rfl, rfl, rfl⟩)⟩, hrm⟩
    have := word_end s p i hp hi (fun j h3 h4 => by
      obtain ⟨c, h5, h6⟩ := hall j h3 h4
      obtain ⟨h7, h8⟩ := List.getElem?_eq_some_iff.1 h5
      rw [h8]; exact h6) he
    rw [h1, this]
    simp
theorem Pz.rm_out {s : List UInt8} {l : List Tk} {i : Nat} {wd : Int} (h : Pz s l i wd true) : wd = -1 := by
  obtain ⟨R, h1, ⟨_, h2, _⟩ | ⟨h2, _⟩ | ⟨h2, _⟩⟩ := h
  · exact h2
  · cases h2
  · cases h2
theorem Pz.rm_next {s : List UInt8} {l : List Tk} {i : Nat} {wd : Int} {c : UInt8} (h : Pz s l i wd true) (hc : s[i]? = some c) : Pz s l (i + 1) (-1) (!(c == 10)) := by
  obtain ⟨R, h1, ⟨_, h2, rfl⟩ | ⟨h2, _⟩ | ⟨h2, _⟩⟩ := h
  · by_cases h10 : c = 10
    · subst h10
      exact ⟨_, h1, Or.inr (Or.inl ⟨rfl, rfl, lx.rm_out s i hc⟩)⟩
    · refine ⟨_, h1, Or.inl ⟨by simpa using h10, rfl, rm_on s i c hc h10⟩⟩
  · cases h2
  · cases h2
theorem Pz.go {s : List UInt8} {l : List Tk} {i j : Nat} {rm : Bool} (h : Pz s l i (-1) false) (hj : lx (s.drop i) i = lx (s.drop j) j) : Pz s l j (-1) false := by
  obtain ⟨R, h1, ⟨h2, _⟩ | ⟨_, _, rfl⟩ | ⟨_, p, h2, _⟩⟩ := h
  · cases h2
  · exact ⟨_, h1, Or.inr (Or.inl ⟨rfl, rfl, hj⟩)⟩
  · omega
theorem Pz.rem {s : List UInt8} {l : List Tk} {i : Nat} (h : Pz s l i (-1) false) (hc : s[i]? = some 35) : Pz s l (i + 1) (-1) true := by
  obtain ⟨R, h1, ⟨h2, _⟩ | ⟨_, _, rfl⟩ | ⟨_, p, h2, _⟩⟩ := h
  · cases h2
  · exact ⟨_, h1, Or.inl ⟨rfl, rfl, by rw [rm_in s i hc, rm_on s i 35 hc (by decide)]⟩⟩
  · omega
theorem Pz.mark {s : List UInt8} {l : List Tk} {i n : Nat} (h : Pz s l i (-1) false) (hi : i < s.length) (hg : gap (s.drop i) = 0) (hn : tl (s.drop i) = n) (h0 : 0 < n) : i + n ≤ s.length ∧ Pz s (l ++ [⟨(s.take (i + n)).drop i, i⟩]) (i + n) (-1) false := by
  obtain ⟨R, h1, ⟨h2, _⟩ | ⟨_, _, rfl⟩ | ⟨_, p, h2, _⟩⟩ := h
  · cases h2
  · obtain ⟨g1, g2⟩ := lx_mark s i n hi hg hn h0
    refine ⟨g1, _, ?_, Or.inr (Or.inl ⟨rfl, rfl, rfl⟩)⟩
    rw [h1, g2]
    simp
  · omega
theorem Pz.bad {s : List UInt8} {l : List Tk} {i : Nat} (h : Pz s l i (-1) false) (hi : i < s.length) (hg : gap (s.drop i) = 0) (hn : tl (s.drop i) = 0) : (lx s 0).2 = some i := by
  obtain ⟨R, h1, ⟨h2, _⟩ | ⟨_, _, rfl⟩ | ⟨_, p, h2, _⟩⟩ := h
  · cases h2
  · rw [h1, lx_bad _ _ (fun e => by have := congrArg List.length e; rw [List.length_drop] at this; simp at this; omega) hg hn]
  · omega
theorem Pz.end_ {s : List UInt8} {l : List Tk} {i : Nat} {rm : Bool} (h : Pz s l i (-1) rm) (hi : s.length ≤ i) : lx s 0 = (l, none) := by
  obtain ⟨R, h1, ⟨_, _, rfl⟩ | ⟨_, _, rfl⟩ | ⟨_, p, h2, _⟩⟩ := h
  · rw [h1, rm_end s i hi]; simp
  · rw [h1, lx_end s i hi]; simp
  · omega
theorem Pz.kind {s : List UInt8} {l : List Tk} {i : Nat} {wd : Int} {rm : Bool} (h : Pz s l i wd rm) : wd = -1 ∨ ∃ p : Nat, wd = (p : Int) ∧ p < i := by
  obtain ⟨R, h1, ⟨_, h2, _⟩ | ⟨_, h2, _⟩ | ⟨_, p, h2, h3, _⟩⟩ := h
  · exact Or.inl h2
  · exact Or.inl h2
  · exact Or.inr ⟨p, h2, h3⟩
/-- What the document's Lex answers. -/
def RxAns (s : ByteArray) (w : World) (e : Ending) (w' : World) : Prop :=
  Bl w w' ∧ (((lx (L s) 0).2 = none ∧ ∃ v, e = .returned (.tuple #[v, flt 0 (-1)]) ∧ tr.Own w' w.heap.size v (lx (L s) 0).1) ∨
    ∃ p : Nat, (lx (L s) 0).2 = some p ∧ e = .returned (.tuple #[.slice none 0 0, flt 3 (p : Int)]))
end Go.Proofs.YtfngcphklfjhjaaDoor.lx
