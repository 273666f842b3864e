/- The library's own texts that a call comes to, as this program has them: laid on the shelf's. -/
import Derived.Test.YtehmjffbfgnijaaDoorChecked
import Derived.Shelf.SlLaysF0
namespace Go.Proofs.YtehmjffbfgnijaaDoor.layS
open Go.Shelf
def rf : FuncId → FuncId
  | 0 => 0
  | 1 => 1
  | 2 => 2
  | 6 => 35
  | 11 => 38
  | 14 => 45
  | 15 => 46
  | 18 => 47
  | 20 => 50
  | 21 => 51
  | 22 => 52
  | 23 => 53
  | 24 => 54
  | 25 => 55
  | 26 => 56
  | 27 => 57
  | 28 => 58
  | 29 => 59
  | 46 => 64
  | 47 => 65
  | 48 => 66
  | 49 => 67
  | 50 => 68
  | 57 => 72
  | 60 => 73
  | 61 => 74
  | 62 => 75
  | 63 => 76
  | 64 => 77
  | 65 => 78
  | 66 => 79
  | 67 => 80
  | 68 => 81
  | 69 => 82
  | 70 => 83
  | 71 => 84
  | 72 => 85
  | 73 => 88
  | 74 => 89
  | 75 => 95
  | x => x
def rt : TypeId → TypeId
  | 0 => 0
  | 1 => 1
  | 2 => 2
  | 3 => 3
  | 4 => 4
  | 5 => 5
  | 6 => 6
  | 7 => 7
  | 8 => 8
  | 9 => 9
  | 10 => 10
  | 11 => 11
  | 12 => 12
  | 13 => 13
  | 14 => 14
  | 15 => 15
  | 16 => 16
  | 17 => 17
  | 18 => 18
  | 19 => 19
  | 20 => 20
  | 21 => 21
  | 22 => 47
  | 23 => 79
  | 24 => 53
  | 25 => 82
  | 27 => 22
  | 29 => 81
  | 37 => 96
  | 38 => 97
  | 39 => 69
  | 42 => 98
  | 44 => 101
  | 45 => 102
  | 46 => 103
  | 47 => 104
  | 48 => 105
  | 49 => 106
  | 50 => 63
  | 51 => 107
  | 52 => 108
  | 53 => 109
  | 54 => 78
  | 55 => 66
  | 66 => 123
  | 67 => 124
  | 68 => 125
  | 69 => 126
  | 70 => 127
  | 71 => 128
  | 76 => 141
  | 77 => 142
  | 78 => 143
  | 81 => 144
  | 82 => 145
  | 83 => 146
  | 84 => 147
  | 85 => 148
  | 86 => 149
  | 87 => 150
  | 88 => 152
  | 89 => 118
  | 90 => 153
  | 91 => 154
  | 92 => 155
  | 93 => 156
  | 94 => 157
  | 95 => 158
  | 96 => 110
  | x => x
def ren : Ren := ⟨rf, rt, fun x => x⟩
set_option maxRecDepth 100000 in
theorem laid : SlLaysF0.n6 Tryd.prog ren where
  mixed := by kernel_rfl
  f6 := Exists.intro "slices.SortFunc[[]escritoire/api.Match,escritoire/api.Match]" ⟨by kernel_rfl, by kernel_rfl⟩
  f14 := Exists.intro "slices.pdqsortCmpFunc[escritoire/api.Match]" ⟨by kernel_rfl, by kernel_rfl⟩
  f15 := by kernel_rfl
  f20 := Exists.intro "slices.insertionSortCmpFunc[escritoire/api.Match]" ⟨by kernel_rfl, by kernel_rfl⟩
  f21 := Exists.intro "slices.heapSortCmpFunc[escritoire/api.Match]" ⟨by kernel_rfl, by kernel_rfl⟩
  f22 := Exists.intro "slices.breakPatternsCmpFunc[escritoire/api.Match]" ⟨by kernel_rfl, by kernel_rfl⟩
  f23 := Exists.intro "slices.choosePivotCmpFunc[escritoire/api.Match]" ⟨by kernel_rfl, by kernel_rfl⟩
  f24 := Exists.intro "slices.reverseRangeCmpFunc[escritoire/api.Match]" ⟨by kernel_rfl, by kernel_rfl⟩
  f25 := Exists.intro "slices.partialInsertionSortCmpFunc[escritoire/api.Match]" ⟨by kernel_rfl, by kernel_rfl⟩
  f26 := Exists.intro "slices.partitionEqualCmpFunc[escritoire/api.Match]" ⟨by kernel_rfl, by kernel_rfl⟩
  f27 := Exists.intro "slices.partitionCmpFunc[escritoire/api.Match]" ⟨by kernel_rfl, by kernel_rfl⟩
  f28 := by kernel_rfl
  f29 := by kernel_rfl
  f46 := Exists.intro "slices.siftDownCmpFunc[escritoire/api.Match]" ⟨by kernel_rfl, by kernel_rfl⟩
  f47 := by kernel_rfl
  f48 := by kernel_rfl
  f49 := Exists.intro "slices.medianAdjacentCmpFunc[escritoire/api.Match]" ⟨by kernel_rfl, by kernel_rfl⟩
  f50 := Exists.intro "slices.medianCmpFunc[escritoire/api.Match]" ⟨by kernel_rfl, by kernel_rfl⟩
  f57 := Exists.intro "slices.order2CmpFunc[escritoire/api.Match]" ⟨by kernel_rfl, by kernel_rfl⟩
  t0 := by kernel_rfl
  a0 := fun _ => by kernel_rfl
  z0 := fun _ => by kernel_rfl
  v0 := fun _ => by kernel_rfl
  t3 := by kernel_rfl
  a3 := fun _ => by kernel_rfl
  z3 := fun _ => by kernel_rfl
  v3 := fun _ => by kernel_rfl
  t4 := by kernel_rfl
  a4 := fun _ => by kernel_rfl
  z4 := fun _ => by kernel_rfl
  v4 := fun _ => by kernel_rfl
  t5 := by kernel_rfl
  a5 := fun _ => by kernel_rfl
  z5 := fun _ => by kernel_rfl
  v5 := fun _ => by kernel_rfl
  t9 := by kernel_rfl
  a9 := fun _ => by kernel_rfl
  z9 := fun _ => by kernel_rfl
  v9 := fun _ => by kernel_rfl
  t22 := by kernel_rfl
  a22 := fun _ => by kernel_rfl
  z22 := fun _ => by kernel_rfl
  v22 := fun _ => by kernel_rfl
  t25 := by kernel_rfl
  a25 := fun _ => by kernel_rfl
  z25 := fun _ => by kernel_rfl
  v25 := fun _ => by kernel_rfl
  t39 := by kernel_rfl
  a39 := fun _ => by kernel_rfl
  z39 := fun _ => by kernel_rfl
  v39 := fun _ => by kernel_rfl
  t45 := by kernel_rfl
  a45 := fun _ => by kernel_rfl
  z45 := fun _ => by kernel_rfl
  v45 := fun _ => by kernel_rfl
  t46 := by kernel_rfl
  a46 := fun _ => by kernel_rfl
  z46 := fun _ => by kernel_rfl
  v46 := fun _ => by kernel_rfl
  t50 := by kernel_rfl
  a50 := fun _ => by kernel_rfl
  z50 := fun _ => by kernel_rfl
  v50 := fun _ => by kernel_rfl
  t53 := by kernel_rfl
  a53 := fun _ => by kernel_rfl
  z53 := fun _ => by kernel_rfl
  v53 := fun _ => by kernel_rfl
  t55 := by kernel_rfl
  a55 := fun _ => by kernel_rfl
  z55 := fun _ => by kernel_rfl
  v55 := fun _ => by kernel_rfl
  t66 := by kernel_rfl
  a66 := fun _ => by kernel_rfl
  z66 := fun _ => by kernel_rfl
  v66 := fun _ => by kernel_rfl
  t70 := by kernel_rfl
  a70 := fun _ => by kernel_rfl
  z70 := fun _ => by kernel_rfl
  v70 := fun _ => by kernel_rfl
  t76 := by kernel_rfl
  a76 := fun _ => by kernel_rfl
  z76 := fun _ => by kernel_rfl
  v76 := fun _ => by kernel_rfl
  t77 := by kernel_rfl
  a77 := fun _ => by kernel_rfl
  z77 := fun _ => by kernel_rfl
  v77 := fun _ => by kernel_rfl
end Go.Proofs.YtehmjffbfgnijaaDoor.layS
