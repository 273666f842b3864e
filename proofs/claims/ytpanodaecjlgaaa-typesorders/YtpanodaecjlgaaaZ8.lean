/- Texts laid together: AsAt, TellAt, Ex2, Ex3. -/
import Derived.Test.YtpanodaecjlgaaaZ7
import Derived.Test.YtpanodaecjlgaaaZ6
import Derived.Deep.Cut
import Derived.RegionCalls
/- What errors.As, api.Tell, plain.Place and placed answer at an error with a place (*api.At). -/
namespace Go.Proofs.Ytpanodaecjlgaaa.errs
open Go.RowKit Go.Extern.Stop Go.Stop Go.Extern
open mem
end Go.Proofs.Ytpanodaecjlgaaa.errs
/- What api.Tell, plain.Place and placed answer at an error with a place, and at none. -/
namespace Go.Proofs.Ytpanodaecjlgaaa.errs
open Go.RowKit Go.Extern.Stop Go.Stop Go.Extern
open mem
theorem cell_lt {w : World} {a : Addr} {v : Value} (h : w.cell? a = some v) : a.block < w.heap.size := by
  rcases Nat.lt_or_ge a.block w.heap.size with h1 | h1
  · exact h1
  · simp [World.cell?, Array.getElem?_eq_none h1] at h
theorem cell_gb {w w' : World} (g : Gb w w') {a : Addr} {v : Value} (h : w.cell? a = some v) : w'.cell? a = some v := by
  rw [g.b.cell (p := a) (cell_lt h)]; exact h
end Go.Proofs.Ytpanodaecjlgaaa.errs
/- What stands in brackets: inner of package expr. -/
namespace Go.Proofs.Ytpanodaecjlgaaa.ex
set_option linter.unusedVariables false
open Go.ChangeShapes Go.WideShapes Go.ChangeAt Go.RowKit
open mem lx

/-- The number that a token is. -/
noncomputable def nb (t : List UInt8) : Int × Int := (Classical.choose (digs.numbered_some (tx t)), Classical.choose (Classical.choose_spec (digs.numbered_some (tx t))))
theorem nb_is (t : List UInt8) : digs.Numbered (tx t) (nb t).1 (nb t).2 := Classical.choose_spec (Classical.choose_spec (digs.numbered_some (tx t)))
/-- What brackets come to. -/
def brk (en : Nat) (a : Nat) (d : Nat) (q1 : Res) : Res :=
  if d = 8 then .error (4, a) else match q1 with
  | .error e => .error e
  | .ok (x, r') => if (hd en r').t = [41] then .ok (x, r'.tail) else .error (3, (hd en r').a)
theorem brk_err {en a d : Nat} {e : Int × Nat} (h : ¬ d = 8) : brk en a d (.error e) = .error e := by unfold brk; rw [if_neg h]
theorem brk_yes {en a d : Nat} {x : Ex} {r : List Tk} (h : ¬ d = 8) (h2 : (hd en r).t = [41]) : brk en a d (.ok (x, r)) = .ok (x, r.tail) := by
  unfold brk; rw [if_neg h]; dsimp only; rw [if_pos h2]
theorem brk_no {en a d : Nat} {x : Ex} {r : List Tk} (h : ¬ d = 8) (h2 : ¬ (hd en r).t = [41]) : brk en a d (.ok (x, r)) = .error (3, (hd en r).a) := by
  unfold brk; rw [if_neg h]; dsimp only; rw [if_neg h2]
end Go.Proofs.Ytpanodaecjlgaaa.ex
/- A number, a name, or what stands in brackets: one of package expr. -/
namespace Go.Proofs.Ytpanodaecjlgaaa.ex
set_option linter.unusedVariables false
open Go.ChangeShapes Go.WideShapes Go.ChangeAt Go.RowKit
open mem lx

theorem isN_nmb (t : List UInt8) : nmb t = isN t := rfl
theorem two_new (w : World) (o o2 : Obj) : ((w.alloc o).alloc o2).heap[w.heap.size + 1]? = some o2 := by
  have h := new_at (w.alloc o) o2
  have hs : (w.alloc o).heap.size = w.heap.size + 1 := by simp
  rw [hs] at h
  exact h
theorem one_is {f d en : Nat} {ts : List Tk} {q : Res} (hq : one nb en (f + 1) d ts = some q) :
    (isN (hd en ts).t = true → q = if 12 < (hd en ts).t.length then .error (4, (hd en ts).a) else .ok (.nam (hd en ts).a (hd en ts).t, ts.tail)) ∧
    (isN (hd en ts).t = false → isU (hd en ts).t = true → q = if (nb (hd en ts).t).2 = 0 then .ok (.num (hd en ts).a (nb (hd en ts).t).1, ts.tail) else .error ((nb (hd en ts).t).2, (hd en ts).a)) ∧
    (isN (hd en ts).t = false → isU (hd en ts).t = false → (hd en ts).t = [40] → ∃ q1, (d = 8 ∨ row nb en f 1 (d + 1) ts.tail = some q1) ∧ q = brk en (hd en ts).a d q1) ∧
    (isN (hd en ts).t = false → isU (hd en ts).t = false → ¬ (hd en ts).t = [40] → q = .error (3, (hd en ts).a)) := by
  cases ts with
  | nil =>
    rw [one] at hq
    injection hq with hq
    refine ⟨fun h => ?_, fun _ h => ?_, fun _ _ h => ?_, fun _ _ _ => hq.symm⟩
    · exact absurd h (by show ¬ isN [] = true; decide)
    · exact absurd h (by show ¬ isU [] = true; decide)
    · exact absurd h (by show ¬ ([] : List UInt8) = [40]; decide)
  | cons t r =>
    rw [show hd en (t :: r) = t from rfl, show (t :: r).tail = r from rfl]
    rw [one] at hq
    refine ⟨fun h1 => ?_, fun h1 h2 => ?_, fun h1 h2 h3 => ?_, fun h1 h2 h3 => ?_⟩
    · rw [if_pos h1] at hq
      split at hq
      · rename_i h; rw [if_pos h]; injection hq with hq; exact hq.symm
      · rename_i h; rw [if_neg h]; injection hq with hq; exact hq.symm
    · rw [if_neg (by rw [h1]; decide), if_pos h2] at hq
      split at hq
      · rename_i h; rw [if_pos h]; injection hq with hq; exact hq.symm
      · rename_i h; rw [if_neg h]; injection hq with hq; exact hq.symm
    · rw [if_neg (by rw [h1]; decide), if_neg (by rw [h2]; decide), if_pos h3] at hq
      split at hq
      · rename_i h8
        injection hq with hq
        exact ⟨.error (0, 0), Or.inl h8, by unfold brk; rw [if_pos h8]; exact hq.symm⟩
      · rename_i h8
        split at hq
        · cases hq
        · rename_i e hr
          injection hq with hq
          exact ⟨_, Or.inr hr, by rw [brk_err h8]; exact hq.symm⟩
        · rename_i x r' hr
          split at hq
          · rename_i h5
            injection hq with hq
            exact ⟨_, Or.inr hr, by rw [brk_yes h8 h5]; exact hq.symm⟩
          · rename_i h5
            injection hq with hq
            exact ⟨_, Or.inr hr, by rw [brk_no h8 h5]; exact hq.symm⟩
    · rw [if_neg (by rw [h1]; decide), if_neg (by rw [h2]; decide), if_neg h3] at hq
      injection hq with hq
      exact hq.symm
end Go.Proofs.Ytpanodaecjlgaaa.ex
