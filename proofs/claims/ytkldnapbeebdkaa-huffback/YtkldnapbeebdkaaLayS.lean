/- The library's own texts that a call comes to, as this program has them: laid on the shelf's. -/
import Derived.Test.YtkldnapbeebdkaaChecked
import Derived.Shelf.SlLaysF0
namespace Go.Proofs.Ytkldnapbeebdkaa.layS
open Go.Shelf
def rf : FuncId → FuncId
  | 0 => 0
  | 1 => 1
  | 2 => 2
  | 11 => 22
  | 18 => 30
  | 20 => 33
  | 60 => 42
  | 61 => 43
  | 62 => 44
  | 63 => 45
  | 64 => 46
  | 65 => 47
  | 66 => 48
  | 67 => 49
  | 68 => 50
  | 69 => 51
  | 70 => 52
  | 71 => 53
  | 72 => 54
  | 73 => 55
  | 74 => 56
  | 75 => 58
  | x => x
def rt : TypeId → TypeId
  | 0 => 0
  | 1 => 1
  | 2 => 2
  | 3 => 3
  | 4 => 4
  | 5 => 5
  | 6 => 6
  | 7 => 7
  | 8 => 8
  | 9 => 9
  | 10 => 10
  | 11 => 11
  | 12 => 12
  | 13 => 13
  | 14 => 14
  | 15 => 15
  | 16 => 16
  | 17 => 17
  | 18 => 18
  | 19 => 19
  | 20 => 20
  | 21 => 21
  | 22 => 41
  | 23 => 46
  | 24 => 45
  | 25 => 47
  | 27 => 22
  | 29 => 32
  | 37 => 65
  | 39 => 40
  | 42 => 38
  | 44 => 64
  | 53 => 81
  | 55 => 68
  | 81 => 74
  | 82 => 75
  | 83 => 76
  | 84 => 77
  | 85 => 78
  | 86 => 79
  | 87 => 80
  | 88 => 82
  | 89 => 83
  | 90 => 84
  | 91 => 85
  | 92 => 86
  | 93 => 87
  | 94 => 88
  | 95 => 89
  | 96 => 90
  | x => x
def ren : Ren := ⟨rf, rt, fun x => x⟩
set_option maxRecDepth 100000 in
theorem laid : SlLaysF0.n20 Try.prog ren where
  mixed := by kernel_rfl
  f20 := Exists.intro "slices.insertionSortCmpFunc[escritoire/huff.group]" ⟨by kernel_rfl, by kernel_rfl⟩
  t0 := by kernel_rfl
  a0 := fun _ => by kernel_rfl
  z0 := fun _ => by kernel_rfl
  v0 := fun _ => by kernel_rfl
  t3 := by kernel_rfl
  a3 := fun _ => by kernel_rfl
  z3 := fun _ => by kernel_rfl
  v3 := fun _ => by kernel_rfl
  t4 := by kernel_rfl
  a4 := fun _ => by kernel_rfl
  z4 := fun _ => by kernel_rfl
  v4 := fun _ => by kernel_rfl
  t22 := by kernel_rfl
  a22 := fun _ => by kernel_rfl
  z22 := fun _ => by kernel_rfl
  v22 := fun _ => by kernel_rfl
  t25 := by kernel_rfl
  a25 := fun _ => by kernel_rfl
  z25 := fun _ => by kernel_rfl
  v25 := fun _ => by kernel_rfl
end Go.Proofs.Ytkldnapbeebdkaa.layS
