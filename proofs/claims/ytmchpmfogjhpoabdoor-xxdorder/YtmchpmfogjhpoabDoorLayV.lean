/- The library's own texts that a call comes to, as this program has them: laid on the shelf's. -/
import Derived.Test.YtmchpmfogjhpoabDoorChecked
import Derived.Shelf.Slices.ReverseS
namespace Go.Proofs.YtmchpmfogjhpoabDoor.layV
open Go.Shelf
def rf : FuncId → FuncId
  | 17 => 10
  | x => x
def rt : TypeId → TypeId
  | 0 => 0
  | 3 => 3
  | 4 => 4
  | 9 => 9
  | 24 => 28
  | x => x
def rg : Nat → Nat

  | x => x
def ren : Ren := ⟨rf, rt, rg⟩
set_option maxRecDepth 100000 in
theorem laid17 : Lays2.n17 Tryd.prog ren where
  mixed := by kernel_rfl
  f17 := by kernel_rfl
  t0 := by kernel_rfl
  a0 := fun _ => by kernel_rfl
  z0 := fun _ => by kernel_rfl
  v0 := fun _ => by kernel_rfl
  t3 := by kernel_rfl
  a3 := fun _ => by kernel_rfl
  z3 := fun _ => by kernel_rfl
  v3 := fun _ => by kernel_rfl
  t4 := by kernel_rfl
  a4 := fun _ => by kernel_rfl
  z4 := fun _ => by kernel_rfl
  v4 := fun _ => by kernel_rfl
  t9 := by kernel_rfl
  a9 := fun _ => by kernel_rfl
  z9 := fun _ => by kernel_rfl
  v9 := fun _ => by kernel_rfl
  t24 := by kernel_rfl
  a24 := fun _ => by kernel_rfl
  z24 := fun _ => by kernel_rfl
  v24 := fun _ => by kernel_rfl
end Go.Proofs.YtmchpmfogjhpoabDoor.layV
