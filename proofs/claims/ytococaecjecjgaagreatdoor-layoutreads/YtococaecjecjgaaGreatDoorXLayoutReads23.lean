/- Texts laid together: TmL, Ty1, Ty2, Ty3, Ty4. -/
import Derived.Test.YtococaecjecjgaaGreatDoorXLayoutReads20
import Derived.Test.YtococaecjecjgaaGreatDoorXLayoutReads7
namespace Go.Proofs.YtococaecjecjgaaGreatDoor.tm
set_option linter.unusedVariables false
open Go.ChangeShapes Go.WideShapes Go.ChangeAt Go.RowKit Go.Shelf
open mem lx ex bld

theorem RepT.at {w : World} {ok : Nat → Prop} {l : List Ty} : ∀ {cs : List CT}, RepT w ok l cs → ∀ j, j < l.length → ∃ c t, cs[j]? = some c ∧ l[j]? = some t ∧ c.nm = t.nm ∧ c.a = t.at_ ∧ ∃ cs2, ir.Lie w ok c.p c.n c.c cs2 ∧ Rep w ok t.l cs2 := by
  induction l with
  | nil => intro cs h j hj; exact absurd hj (Nat.not_lt_zero _)
  | cons t l it =>
    intro cs h j hj
    obtain ⟨c, r, rfl, h2, h3, h4, h6⟩ := h
    cases j with
    | zero => exact ⟨c, t, rfl, rfl, h2, h3, h4⟩
    | succ j =>
      obtain ⟨c', t', k1, k2, k3⟩ := it h6 j (by simpa using hj)
      exact ⟨c', t', by simpa using k1, by simpa using k2, k3⟩
theorem lieT_low {w w' : World} {B : Nat} {p : Option Addr} {n c : Nat} {cs : List CT} (h : sr.Lie w (fun g => g < B) p n c cs) (hb : Below B w w') : sr.Lie w' (fun g => g < B) p n c cs := h.keep (fun g hg _ => hb.block g hg) hb.size
theorem lieT_at {w : World} {ok : Nat → Prop} {p : Option Addr} {n c : Nat} {l : List CT} (h : sr.Lie w ok p n c l) (k : Nat) (y : CT) (hy : l[k]? = some y) : ∃ x : Addr, p = some x ∧ ok x.block ∧ w.cell? (x.add (k * 3)) = (clT y)[0]? ∧ ∀ j u, (clT y)[j]? = some u → w.cell? ⟨(x.add (k * 3)).block, (x.add (k * 3)).off + j, none⟩ = some u := by
  obtain ⟨hk, hy'⟩ := List.getElem?_eq_some_iff.1 hy
  obtain ⟨x, e1, e2, e3, e4⟩ := h.at k hk
  rw [hy'] at e4
  refine ⟨x, e1, e3, ?_, e4⟩
  have h0 := e4 0 _ rfl
  obtain ⟨_, _, h3⟩ := h
  rcases h3 with h3 | ⟨g, e, _⟩
  · subst h3; exact absurd hk (Nat.not_lt_zero _)
  · rw [e] at e1
    injection e1 with e1
    subst e1
    rw [Addr.add_lit] at h0 ⊢
    exact h0
end Go.Proofs.YtococaecjecjgaaGreatDoor.tm
namespace Go.Proofs.YtococaecjecjgaaGreatDoor.tm
set_option linter.unusedVariables false
open Go.ChangeShapes Go.WideShapes Go.ChangeAt Go.RowKit Go.Shelf
open mem lx ex

theorem lie_bl {w w' : World} {ok : Nat → Prop} {p : Option Addr} {n c : Nat} {cs : List C} (h : ir.Lie w ok p n c cs) (hb : Bl w w') : ir.Lie w' ok p n c cs := h.keep (fun g _ hg => Below.block hb g hg) hb.size
def idx : Option Nat → Int
  | some k => (k : Int)
  | none => -1
end Go.Proofs.YtococaecjecjgaaGreatDoor.tm
namespace Go.Proofs.YtococaecjecjgaaGreatDoor.tm
set_option linter.unusedVariables false
open Go.ChangeShapes Go.WideShapes Go.ChangeAt Go.RowKit Go.Shelf
open mem lx ex

theorem ends_is (ds : List D) (d : D) : (¬ d.ru = 3 → ends ds d = (nmd ds d.f1, nmd ds d.f1)) ∧ (d.ru = 3 → ends ds d = (nmd ds d.f1, nmd ds d.l1)) := by
  unfold ends
  exact ⟨fun h => by rw [if_neg h], fun h => by rw [if_pos h]⟩
end Go.Proofs.YtococaecjecjgaaGreatDoor.tm
namespace Go.Proofs.YtococaecjecjgaaGreatDoor.tm
set_option linter.unusedVariables false
open Go.ChangeShapes Go.WideShapes Go.ChangeAt Go.RowKit Go.Shelf
open mem lx ex
open Go.Maps

theorem isO_lt {w : World} {pc : Option Addr} {o : Option Ex} (h : IsO w pc o) : o = none ∧ pc = none ∨ ∃ x, o = some x ∧ IsX w (.pointer pc) x := by
  cases o with
  | none => exact Or.inl ⟨rfl, h⟩
  | some x => exact Or.inr ⟨x, rfl, h⟩
end Go.Proofs.YtococaecjecjgaaGreatDoor.tm
namespace Go.Proofs.YtococaecjecjgaaGreatDoor.tm
set_option linter.unusedVariables false
open Go.ChangeShapes Go.WideShapes Go.ChangeAt Go.RowKit Go.Shelf
open mem lx ex

theorem nmd_lt {ds : List D} {t : List UInt8} {k : Nat} (h : nmd ds t = some k) : k < ds.length := by
  unfold nmd at h
  exact (List.findIdx?_eq_some_iff_getElem.1 h).1
theorem ends_lt {ds : List D} {d : D} {a b : Nat} (h : ends ds d = (some a, some b)) : a < ds.length ∧ b < ds.length := by
  obtain ⟨o1, o2⟩ := ends_is ds d
  by_cases h3 : d.ru = 3
  · rw [o2 h3] at h
    injection h with h1 h2
    exact ⟨nmd_lt h1, nmd_lt h2⟩
  · rw [o1 h3] at h
    injection h with h1 h2
    exact ⟨nmd_lt h1, nmd_lt h2⟩
end Go.Proofs.YtococaecjecjgaaGreatDoor.tm
