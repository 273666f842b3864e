/- The library's own texts that a call comes to, as this program has them: laid on the shelf's. -/
import Derived.Test.YtfngcphklfjhjaaDoorChecked
import Derived.Shelf.Strings.Prefix
namespace Go.Proofs.YtfngcphklfjhjaaDoor.layP
open Go.Shelf
def rf : FuncId → FuncId
  | 99 => 28
  | 206 => 44
  | x => x
def rt : TypeId → TypeId
  | 3 => 3
  | 4 => 4
  | 9 => 9
  | x => x
def rg : Nat → Nat

  | x => x
def ren : Ren := ⟨rf, rt, rg⟩
set_option maxRecDepth 100000 in
theorem laid : Lays.n99 Tryd.prog ren where
  mixed := by kernel_rfl
  f99 := by kernel_rfl
  f206 := by kernel_rfl
  t3 := by kernel_rfl
  a3 := fun _ => by kernel_rfl
  z3 := fun _ => by kernel_rfl
  v3 := fun _ => by kernel_rfl
  t4 := by kernel_rfl
  a4 := fun _ => by kernel_rfl
  z4 := fun _ => by kernel_rfl
  v4 := fun _ => by kernel_rfl
  t9 := by kernel_rfl
  a9 := fun _ => by kernel_rfl
  z9 := fun _ => by kernel_rfl
  v9 := fun _ => by kernel_rfl
end Go.Proofs.YtfngcphklfjhjaaDoor.layP
