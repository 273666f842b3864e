/- Texts laid together: Wy1, Wy2, Wy3, Wy4, Wy5. -/
import Derived.Test.YtococaecjecjgaaGreatDoorXLayoutReads18
import Derived.Test.YtococaecjecjgaaGreatDoorXLayoutReads19
import Derived.Test.YtococaecjecjgaaGreatDoorXLayoutReads20
import Derived.Lib.Builder
import Derived.Lib.UnsafeStr
import Derived.Test.YtococaecjecjgaaGreatDoorXLayoutReads14
import Derived.Test.YtococaecjecjgaaGreatDoorXLayoutReads16
namespace Go.Proofs.YtococaecjecjgaaGreatDoor.ly
set_option linter.unusedVariables false
open Go.ChangeShapes Go.WideShapes Go.ChangeAt Go.RowKit
open mem lx ex tm num bld

structure Fr (P : Nat) (w w' : World) : Prop where
  b : Below P w w'
  k : Kb P w w'
theorem Fr.refl (P : Nat) (w : World) : Fr P w w := ⟨Below.refl _ _, Kb.refl _ _⟩
theorem Fr.trans {P : Nat} {a b c : World} (h : Fr P a b) (k : Fr P b c) : Fr P a c := ⟨h.b.trans k.b, h.k.trans k.k⟩
theorem Fr.bl {P : Nat} {w w' : World} (h : Bl w w') (hP : P ≤ w.heap.size) : Fr P w w' := ⟨Below.mono h hP, Kb.bl h⟩
end Go.Proofs.YtococaecjecjgaaGreatDoor.ly
namespace Go.Proofs.YtococaecjecjgaaGreatDoor.ly
set_option linter.unusedVariables false
open Go.ChangeShapes Go.WideShapes Go.ChangeAt Go.RowKit
open mem lx ex tm num bld words

theorem Fr.iv {w w' : World} {P N : Nat} {c : C} (h : Fr P w w') (hi : Iv w N c) (hne : N ≠ P) : Iv w' N c := hi.kb h.k hne
theorem Fr.nv {w w' : World} {P N : Nat} {d : ND} {p : Option Addr} {n c : Nat} (h : Fr P w w') (hi : Nv w N d p n c) (hne : N ≠ P) : Nv w' N d p n c := h.k.same N _ hi hne (fun c fz e => by injection e with _ e2 _; exact absurd e2 (by decide))
end Go.Proofs.YtococaecjecjgaaGreatDoor.ly
namespace Go.Proofs.YtococaecjecjgaaGreatDoor.ly
set_option linter.unusedVariables false
open Go.ChangeShapes Go.WideShapes Go.ChangeAt Go.RowKit
open mem lx ex tm num bld

theorem IsNs.fr {w w' : World} {P : Nat} {p : Option Addr} {n c : Nat} {ks : Nds} (h : IsNs w (fun g => g < P) p n c ks) (hf : Fr P w w') : IsNs w' (fun g => g < P) p n c ks := h.keep (fun g hg _ => hf.b.block g hg) hf.b.size
def Nds.sz : Nds → Nat
  | .nil => 0
  | .cons _ s t => s.sz + t.sz + 1
theorem Nds.len_sz (l : Nds) : l.len ≤ l.sz := by
  induction l with
  | nil => exact Nat.le_refl _
  | cons d s t _ it => unfold Nds.len Nds.sz; omega
end Go.Proofs.YtococaecjecjgaaGreatDoor.ly


