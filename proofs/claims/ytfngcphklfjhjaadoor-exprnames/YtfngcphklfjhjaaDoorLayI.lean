/- The library's own texts that a call comes to, as this program has them: laid on the shelf's. -/
import Derived.Test.YtfngcphklfjhjaaDoorChecked
import Derived.Shelf.Small.Strs
namespace Go.Proofs.YtfngcphklfjhjaaDoor.layI
open Go.Shelf
def rf : FuncId → FuncId
  | 137 => 77
  | 217 => 73
  | 266 => 84
  | x => x
def rt : TypeId → TypeId
  | 3 => 3
  | 5 => 5
  | 9 => 9
  | x => x
def rg : Nat → Nat

  | x => x
def ren : Ren := ⟨rf, rt, rg⟩
set_option maxRecDepth 100000 in
theorem laid : Lays.n137 Tryd.prog ren where
  mixed := by kernel_rfl
  f137 := by kernel_rfl
  f217 := by kernel_rfl
  f266 := by kernel_rfl
  t3 := by kernel_rfl
  a3 := fun _ => by kernel_rfl
  z3 := fun _ => by kernel_rfl
  v3 := fun _ => by kernel_rfl
  t5 := by kernel_rfl
  a5 := fun _ => by kernel_rfl
  z5 := fun _ => by kernel_rfl
  v5 := fun _ => by kernel_rfl
  t9 := by kernel_rfl
  a9 := fun _ => by kernel_rfl
  z9 := fun _ => by kernel_rfl
  v9 := fun _ => by kernel_rfl
end Go.Proofs.YtfngcphklfjhjaaDoor.layI
