/- The library's own texts that a call comes to, as this program has them: laid on the shelf's. -/
import Derived.Test.YtkldnapbeebdkaaDoorChecked
import Derived.Shelf.GgSortMore.Lays
namespace Go.Proofs.YtkldnapbeebdkaaDoor.layT
open Go.Shelf
def rf : FuncId → FuncId
  | 0 => 0
  | 1 => 1
  | 2 => 2
  | 8 => 25
  | 13 => 39
  | 14 => 40
  | 15 => 41
  | 16 => 42
  | 20 => 55
  | 21 => 56
  | 22 => 57
  | 23 => 58
  | 24 => 59
  | 25 => 60
  | 26 => 61
  | 27 => 62
  | 28 => 63
  | 29 => 64
  | 30 => 65
  | 42 => 69
  | 49 => 77
  | 52 => 81
  | 53 => 82
  | 54 => 83
  | 55 => 84
  | 56 => 85
  | 57 => 86
  | 58 => 87
  | 59 => 88
  | 60 => 89
  | 61 => 90
  | 62 => 91
  | 63 => 92
  | 64 => 93
  | 66 => 96
  | 67 => 97
  | 74 => 99
  | 76 => 106
  | 77 => 107
  | 78 => 108
  | x => x
def rt : TypeId → TypeId
  | 0 => 0
  | 1 => 1
  | 2 => 2
  | 3 => 3
  | 4 => 4
  | 5 => 5
  | 6 => 6
  | 7 => 7
  | 8 => 8
  | 9 => 9
  | 10 => 10
  | 11 => 11
  | 12 => 12
  | 13 => 13
  | 14 => 14
  | 15 => 15
  | 16 => 16
  | 17 => 17
  | 18 => 18
  | 19 => 19
  | 20 => 20
  | 21 => 21
  | 23 => 56
  | 26 => 57
  | 28 => 22
  | 33 => 76
  | 34 => 77
  | 35 => 78
  | 36 => 79
  | 37 => 80
  | 38 => 81
  | 39 => 82
  | 40 => 83
  | 41 => 84
  | 42 => 85
  | 43 => 86
  | 47 => 59
  | 50 => 110
  | 51 => 111
  | 52 => 112
  | 53 => 113
  | 54 => 114
  | 56 => 147
  | 58 => 54
  | 76 => 140
  | 77 => 141
  | 78 => 142
  | 79 => 143
  | 80 => 144
  | 81 => 145
  | 82 => 148
  | 83 => 124
  | 84 => 149
  | 85 => 150
  | 86 => 151
  | 87 => 152
  | 88 => 153
  | 89 => 154
  | 90 => 155
  | 91 => 156
  | x => x
def ren : Ren := ⟨rf, rt, fun x => x⟩
set_option maxRecDepth 100000 in
theorem laid : LaysGt.n8 Tryd.prog ren where
  mixed := by kernel_rfl
  f8 := by kernel_rfl
  f13 := by kernel_rfl
  f14 := by kernel_rfl
  f15 := by kernel_rfl
  f16 := by kernel_rfl
  f29 := by kernel_rfl
  f30 := by kernel_rfl
  f42 := by kernel_rfl
  f49 := by kernel_rfl
  t0 := by kernel_rfl
  a0 := fun _ => by kernel_rfl
  z0 := fun _ => by kernel_rfl
  v0 := fun _ => by kernel_rfl
  i0 := by kernel_rfl
  t3 := by kernel_rfl
  a3 := fun _ => by kernel_rfl
  z3 := fun _ => by kernel_rfl
  v3 := fun _ => by kernel_rfl
  i3 := by kernel_rfl
  t4 := by kernel_rfl
  a4 := fun _ => by kernel_rfl
  z4 := fun _ => by kernel_rfl
  v4 := fun _ => by kernel_rfl
  i4 := by kernel_rfl
  t5 := by kernel_rfl
  a5 := fun _ => by kernel_rfl
  z5 := fun _ => by kernel_rfl
  v5 := fun _ => by kernel_rfl
  i5 := by kernel_rfl
  t12 := by kernel_rfl
  a12 := fun _ => by kernel_rfl
  z12 := fun _ => by kernel_rfl
  v12 := fun _ => by kernel_rfl
  i12 := by kernel_rfl
  t17 := by kernel_rfl
  a17 := fun _ => by kernel_rfl
  z17 := fun _ => by kernel_rfl
  v17 := fun _ => by kernel_rfl
  i17 := by kernel_rfl
  t20 := by kernel_rfl
  a20 := fun _ => by kernel_rfl
  z20 := fun _ => by kernel_rfl
  v20 := fun _ => by kernel_rfl
  i20 := by kernel_rfl
  t26 := by kernel_rfl
  a26 := fun _ => by kernel_rfl
  z26 := fun _ => by kernel_rfl
  v26 := fun _ => by kernel_rfl
  i26 := by kernel_rfl
  t33 := by kernel_rfl
  a33 := fun _ => by kernel_rfl
  z33 := fun _ => by kernel_rfl
  v33 := fun _ => by kernel_rfl
  i33 := by kernel_rfl
  t34 := by kernel_rfl
  a34 := fun _ => by kernel_rfl
  z34 := fun _ => by kernel_rfl
  v34 := fun _ => by kernel_rfl
  i34 := by kernel_rfl
  t36 := by kernel_rfl
  a36 := fun _ => by kernel_rfl
  z36 := fun _ => by kernel_rfl
  v36 := fun _ => by kernel_rfl
  i36 := by kernel_rfl
  t38 := by kernel_rfl
  a38 := fun _ => by kernel_rfl
  z38 := fun _ => by kernel_rfl
  v38 := fun _ => by kernel_rfl
  i38 := by kernel_rfl
  t42 := by kernel_rfl
  a42 := fun _ => by kernel_rfl
  z42 := fun _ => by kernel_rfl
  v42 := fun _ => by kernel_rfl
  i42 := by kernel_rfl
  t47 := by kernel_rfl
  a47 := fun _ => by kernel_rfl
  z47 := fun _ => by kernel_rfl
  v47 := fun _ => by kernel_rfl
  i47 := by kernel_rfl
  t56 := by kernel_rfl
  a56 := fun _ => by kernel_rfl
  z56 := fun _ => by kernel_rfl
  v56 := fun _ => by kernel_rfl
  i56 := by kernel_rfl
  t82 := by kernel_rfl
  a82 := fun _ => by kernel_rfl
  z82 := fun _ => by kernel_rfl
  v82 := fun _ => by kernel_rfl
  i82 := by kernel_rfl
  t83 := by kernel_rfl
  a83 := fun _ => by kernel_rfl
  z83 := fun _ => by kernel_rfl
  v83 := fun _ => by kernel_rfl
  i83 := by kernel_rfl
  t84 := by kernel_rfl
  a84 := fun _ => by kernel_rfl
  z84 := fun _ => by kernel_rfl
  v84 := fun _ => by kernel_rfl
  i84 := by kernel_rfl
  t85 := by kernel_rfl
  a85 := fun _ => by kernel_rfl
  z85 := fun _ => by kernel_rfl
  v85 := fun _ => by kernel_rfl
  i85 := by kernel_rfl
  t86 := by kernel_rfl
  a86 := fun _ => by kernel_rfl
  z86 := fun _ => by kernel_rfl
  v86 := fun _ => by kernel_rfl
  i86 := by kernel_rfl
  t87 := by kernel_rfl
  a87 := fun _ => by kernel_rfl
  z87 := fun _ => by kernel_rfl
  v87 := fun _ => by kernel_rfl
  i87 := by kernel_rfl
  t89 := by kernel_rfl
  a89 := fun _ => by kernel_rfl
  z89 := fun _ => by kernel_rfl
  v89 := fun _ => by kernel_rfl
  i89 := by kernel_rfl
end Go.Proofs.YtkldnapbeebdkaaDoor.layT
