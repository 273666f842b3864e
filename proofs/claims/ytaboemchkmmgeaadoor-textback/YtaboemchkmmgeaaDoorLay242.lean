/- The library's own texts that a call comes to, as this program has them: laid on the shelf's. -/
import Derived.Test.YtaboemchkmmgeaaDoorChecked
import Derived.Shelf.Utf8.AppendRunePlain
namespace Go.Proofs.YtaboemchkmmgeaaDoor.lay242
open Go.Shelf
def rf : FuncId → FuncId
  | 242 => 31
  | 278 => 48
  | x => x
def rt : TypeId → TypeId
  | 4 => 4
  | 5 => 5
  | 21 => 21
  | 37 => 58
  | 46 => 66
  | 51 => 79
  | x => x
def rg : Nat → Nat

  | x => x
def ren : Ren := ⟨rf, rt, rg⟩
set_option maxRecDepth 100000 in
theorem laid : Lays.n242 Tryd.prog ren where
  mixed := by kernel_rfl
  f242 := by kernel_rfl
  f278 := by kernel_rfl
  t4 := by kernel_rfl
  a4 := fun _ => by kernel_rfl
  z4 := fun _ => by kernel_rfl
  v4 := fun _ => by kernel_rfl
  t5 := by kernel_rfl
  a5 := fun _ => by kernel_rfl
  z5 := fun _ => by kernel_rfl
  v5 := fun _ => by kernel_rfl
  t21 := by kernel_rfl
  a21 := fun _ => by kernel_rfl
  z21 := fun _ => by kernel_rfl
  v21 := fun _ => by kernel_rfl
  t37 := by kernel_rfl
  a37 := fun _ => by kernel_rfl
  z37 := fun _ => by kernel_rfl
  v37 := fun _ => by kernel_rfl
  t46 := by kernel_rfl
  a46 := fun _ => by kernel_rfl
  z46 := fun _ => by kernel_rfl
  v46 := fun _ => by kernel_rfl
  t51 := by kernel_rfl
  a51 := fun _ => by kernel_rfl
  z51 := fun _ => by kernel_rfl
  v51 := fun _ => by kernel_rfl
end Go.Proofs.YtaboemchkmmgeaaDoor.lay242
