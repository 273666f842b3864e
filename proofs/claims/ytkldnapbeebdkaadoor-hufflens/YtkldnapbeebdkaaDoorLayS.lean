/- The library's own texts that a call comes to, as this program has them: laid on the shelf's. -/
import Derived.Test.YtkldnapbeebdkaaDoorChecked
import Derived.Shelf.SlLaysF0
namespace Go.Proofs.YtkldnapbeebdkaaDoor.layS
open Go.Shelf
def rf : FuncId → FuncId
  | 0 => 0
  | 1 => 1
  | 2 => 2
  | 11 => 22
  | 18 => 37
  | 20 => 52
  | 60 => 81
  | 61 => 82
  | 62 => 83
  | 63 => 84
  | 64 => 85
  | 65 => 86
  | 66 => 87
  | 67 => 88
  | 68 => 89
  | 69 => 90
  | 70 => 91
  | 71 => 92
  | 72 => 93
  | 73 => 96
  | 74 => 97
  | 75 => 108
  | x => x
def rt : TypeId → TypeId
  | 0 => 0
  | 1 => 1
  | 2 => 2
  | 3 => 3
  | 4 => 4
  | 5 => 5
  | 6 => 6
  | 7 => 7
  | 8 => 8
  | 9 => 9
  | 10 => 10
  | 11 => 11
  | 12 => 12
  | 13 => 13
  | 14 => 14
  | 15 => 15
  | 16 => 16
  | 17 => 17
  | 18 => 18
  | 19 => 19
  | 20 => 20
  | 21 => 21
  | 22 => 45
  | 23 => 50
  | 24 => 49
  | 25 => 52
  | 27 => 22
  | 29 => 51
  | 37 => 107
  | 39 => 59
  | 42 => 74
  | 44 => 106
  | 53 => 147
  | 55 => 54
  | 81 => 140
  | 82 => 141
  | 83 => 142
  | 84 => 143
  | 85 => 144
  | 86 => 145
  | 87 => 86
  | 88 => 148
  | 89 => 124
  | 90 => 149
  | 91 => 150
  | 92 => 151
  | 93 => 152
  | 94 => 153
  | 95 => 154
  | 96 => 76
  | x => x
def ren : Ren := ⟨rf, rt, fun x => x⟩
set_option maxRecDepth 100000 in
theorem laid : SlLaysF0.n20 Tryd.prog ren where
  mixed := by kernel_rfl
  f20 := Exists.intro "slices.insertionSortCmpFunc[escritoire/huff.group]" ⟨by kernel_rfl, by kernel_rfl⟩
  t0 := by kernel_rfl
  a0 := fun _ => by kernel_rfl
  z0 := fun _ => by kernel_rfl
  v0 := fun _ => by kernel_rfl
  t3 := by kernel_rfl
  a3 := fun _ => by kernel_rfl
  z3 := fun _ => by kernel_rfl
  v3 := fun _ => by kernel_rfl
  t4 := by kernel_rfl
  a4 := fun _ => by kernel_rfl
  z4 := fun _ => by kernel_rfl
  v4 := fun _ => by kernel_rfl
  t22 := by kernel_rfl
  a22 := fun _ => by kernel_rfl
  z22 := fun _ => by kernel_rfl
  v22 := fun _ => by kernel_rfl
  t25 := by kernel_rfl
  a25 := fun _ => by kernel_rfl
  z25 := fun _ => by kernel_rfl
  v25 := fun _ => by kernel_rfl
end Go.Proofs.YtkldnapbeebdkaaDoor.layS
