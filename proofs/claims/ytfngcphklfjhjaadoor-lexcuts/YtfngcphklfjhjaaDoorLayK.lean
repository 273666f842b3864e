/- The library's own texts that a call comes to, as this program has them: laid on the shelf's. -/
import Derived.Test.YtfngcphklfjhjaaDoorChecked
import Derived.Shelf.Strings.Search3
namespace Go.Proofs.YtfngcphklfjhjaaDoor.layK
open Go.Shelf
def rf : FuncId → FuncId
  | 143 => 43
  | 144 => 27
  | 217 => 73
  | 219 => 60
  | 224 => 75
  | 225 => 74
  | 266 => 84
  | 267 => 76
  | 314 => 85
  | x => x
def rt : TypeId → TypeId
  | 3 => 3
  | 4 => 4
  | 5 => 5
  | 9 => 9
  | 46 => 61
  | 51 => 134
  | 146 => 135
  | x => x
def rg : Nat → Nat
  | 1 => 2
  | x => x
def ren : Ren := ⟨rf, rt, rg⟩
set_option maxRecDepth 100000 in
theorem laid : Lays.n144 Tryd.prog ren where
  mixed := by kernel_rfl
  f143 := by kernel_rfl
  f144 := by kernel_rfl
  f217 := by kernel_rfl
  f219 := by kernel_rfl
  f224 := by kernel_rfl
  f225 := by kernel_rfl
  f266 := by kernel_rfl
  f267 := by kernel_rfl
  f314 := by kernel_rfl
  t3 := by kernel_rfl
  a3 := fun _ => by kernel_rfl
  z3 := fun _ => by kernel_rfl
  v3 := fun _ => by kernel_rfl
  t4 := by kernel_rfl
  a4 := fun _ => by kernel_rfl
  z4 := fun _ => by kernel_rfl
  v4 := fun _ => by kernel_rfl
  t5 := by kernel_rfl
  a5 := fun _ => by kernel_rfl
  z5 := fun _ => by kernel_rfl
  v5 := fun _ => by kernel_rfl
  t9 := by kernel_rfl
  a9 := fun _ => by kernel_rfl
  z9 := fun _ => by kernel_rfl
  v9 := fun _ => by kernel_rfl
  t46 := by kernel_rfl
  a46 := fun _ => by kernel_rfl
  z46 := fun _ => by kernel_rfl
  v46 := fun _ => by kernel_rfl
  t51 := by kernel_rfl
  a51 := fun _ => by kernel_rfl
  z51 := fun _ => by kernel_rfl
  v51 := fun _ => by kernel_rfl
  t146 := by kernel_rfl
  a146 := fun _ => by kernel_rfl
  z146 := fun _ => by kernel_rfl
  v146 := fun _ => by kernel_rfl
  g1 := by kernel_rfl
end Go.Proofs.YtfngcphklfjhjaaDoor.layK
