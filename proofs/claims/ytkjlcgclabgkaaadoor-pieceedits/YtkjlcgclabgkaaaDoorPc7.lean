/- Going through the pieces: walk, and the function that All and Slice range over. -/
import Derived.RangeFuncFrom
import Derived.RangeFuncBound
import Derived.RangeFuncCalls
import Derived.RangeFuncLeaves
import Derived.Shelf.Abstract
import Derived.Shelf.RegionOpen
import Derived.WalkKit
import Derived.OwnWalkIn
import Derived.TacticsInMore
import Derived.LoopNIn
import Derived.LoopIn
import Derived.Test.YtkjlcgclabgkaaaDoorPc6
namespace Go.Proofs.YtkjlcgclabgkaaaDoor.pc
set_option linter.unusedVariables false
open Go.ChangeShapes Go.WideShapes Go.ChangeAt Go.RowKit Go.Shelf
open mem

attribute [local go_sem] Oper.semAt_some

/-- What pieces have of the bytes from f on up to t. -/
def seg : Tr → Int → Int → List ByteArray
  | .leaf, _, _ => []
  | .node l s r, f, t =>
    if t ≤ 0 ∨ ((tot (Tr.node l s r).ps : Nat) : Int) ≤ f then []
    else seg l f t ++ (if max f ((tot l.ps : Nat) : Int) < min t ((tot l.ps + s.size : Nat) : Int) then [s.extract (max f ((tot l.ps : Nat) : Int) - ((tot l.ps : Nat) : Int)).toNat (min t ((tot l.ps + s.size : Nat) : Int) - ((tot l.ps : Nat) : Int)).toNat] else []) ++ seg r (f - ((tot l.ps + s.size : Nat) : Int)) (t - ((tot l.ps + s.size : Nat) : Int))
theorem seg_none {t : Tr} {f g : Int} (h : g ≤ 0 ∨ ((tot t.ps : Nat) : Int) ≤ f) : seg t f g = [] := by
  cases t with
  | leaf => rfl
  | node l s r => rw [seg, if_pos h]
theorem seg_ne {t : Tr} : ∀ {f g : Int} {x : ByteArray}, x ∈ seg t f g → 0 < x.size := by
  induction t with
  | leaf => intro f g x h; simp [seg] at h
  | node l s r ihl ihr =>
    intro f g x h
    rw [seg] at h
    split at h
    · simp at h
    · rcases List.mem_append.1 h with h | h
      · rcases List.mem_append.1 h with h | h
        · exact ihl h
        · split at h
          · next hlt =>
            simp at h
            subst h
            rw [ex_size]
            omega
          · simp at h
      · exact ihr h
theorem take_drop_app (a b : List UInt8) (f g : Nat) : ((a ++ b).take g).drop f = ((a.take g).drop f) ++ ((b.take (g - a.length)).drop (f - a.length)) := by
  rw [List.take_append, List.drop_append, List.length_take]
  by_cases h : a.length ≤ g
  · rw [show min g a.length = a.length by omega]
  · rw [show g - a.length = 0 by omega]
    simp
/-- One behind the other they are those bytes. -/
theorem seg_cat (t : Tr) : ∀ (f g : Int), cat (seg t f g) = ((cat t.ps).take g.toNat).drop f.toNat := by
  induction t with
  | leaf => intro f g; simp [seg, Tr.ps, cat]
  | node l s r ihl ihr =>
    intro f g
    rw [seg]
    have e1 : tot (Tr.node l s r).ps = tot l.ps + s.size + tot r.ps := by rw [Tr.ps, tot_app, tot]; omega
    split
    · next h =>
      rcases h with h | h
      · rw [show g.toNat = 0 by omega]; simp [cat]
      · rw [List.drop_of_length_le (by rw [List.length_take, cat_len]; omega)]; rfl
    · next h =>
      rw [cat_app, cat_app, ihl, ihr, Tr.ps, cat_app, cat, take_drop_app, take_drop_app, cat_len, bs_len, List.append_assoc]
      congr 1
      congr 1
      · split
        · next hlt =>
          rw [cat, cat, List.append_nil, ex_bytes]
          rw [show (max f ((tot l.ps : Nat) : Int) - ((tot l.ps : Nat) : Int)).toNat = f.toNat - tot l.ps by omega]
          by_cases h2 : g.toNat - tot l.ps ≤ s.size
          · rw [show (min g ((tot l.ps + s.size : Nat) : Int) - ((tot l.ps : Nat) : Int)).toNat = g.toNat - tot l.ps by omega]
          · rw [show (min g ((tot l.ps + s.size : Nat) : Int) - ((tot l.ps : Nat) : Int)).toNat = s.size by omega, List.take_of_length_le (by rw [bs_len]; omega), List.take_of_length_le (by rw [bs_len]; omega)]
        · next hlt =>
          rw [List.drop_of_length_le (by rw [List.length_take, bs_len]; omega)]; rfl
      · rw [show (g - ((tot l.ps + s.size : Nat) : Int)).toNat = g.toNat - tot l.ps - s.size by omega, show (f - ((tot l.ps + s.size : Nat) : Int)).toNat = f.toNat - tot l.ps - s.size by omega]
/-- All of them are the pieces. -/
theorem seg_all (t : Tr) (hf : fit t.ps) : ∀ (f g : Int), f ≤ 0 → ((tot t.ps : Nat) : Int) ≤ g → seg t f g = t.ps := by
  induction t with
  | leaf => intro f g _ _; rfl
  | node l s r ihl ihr =>
    intro f g h1 h2
    have h0 : 0 < s.size := hf.1 s (by simp [Tr.ps])
    have e1 : tot (Tr.node l s r).ps = tot l.ps + s.size + tot r.ps := by rw [Tr.ps, tot_app, tot]; omega
    rw [seg, if_neg (by omega), if_pos (by omega), ihl (hf.sub (by simp [Tr.ps])) f g h1 (by omega), ihr (hf.sub (by simp [Tr.ps])) _ _ (by omega) (by omega)]
    rw [show (max f ((tot l.ps : Nat) : Int) - ((tot l.ps : Nat) : Int)).toNat = 0 by omega, show (min g ((tot l.ps + s.size : Nat) : Int) - ((tot l.ps : Nat) : Int)).toNat = s.size by omega, ex_none, Tr.ps]
    simp
end Go.Proofs.YtkjlcgclabgkaaaDoor.pc
