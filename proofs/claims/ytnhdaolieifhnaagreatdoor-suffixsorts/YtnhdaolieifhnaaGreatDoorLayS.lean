/- The library's own texts that a call comes to, as this program has them: laid on the shelf's. -/
import Derived.Test.YtnhdaolieifhnaaGreatDoorChecked
import Derived.Shelf.SlLaysF
namespace Go.Proofs.YtnhdaolieifhnaaGreatDoor.layS
open Go.Shelf
def rf : FuncId → FuncId
  | 0 => 0
  | 1 => 1
  | 2 => 2
  | 6 => 18
  | 8 => 38
  | 9 => 18
  | 11 => 38
  | 14 => 36
  | 15 => 37
  | 16 => 60
  | 17 => 36
  | 18 => 60
  | 20 => 50
  | 21 => 51
  | 22 => 52
  | 23 => 53
  | 24 => 54
  | 25 => 55
  | 26 => 56
  | 27 => 57
  | 28 => 58
  | 29 => 59
  | 30 => 50
  | 31 => 51
  | 32 => 52
  | 33 => 53
  | 34 => 54
  | 35 => 55
  | 36 => 56
  | 37 => 57
  | 46 => 93
  | 47 => 94
  | 48 => 95
  | 49 => 96
  | 50 => 97
  | 51 => 93
  | 52 => 96
  | 53 => 97
  | 57 => 111
  | 58 => 111
  | 60 => 117
  | 61 => 118
  | 62 => 119
  | 63 => 120
  | 64 => 121
  | 65 => 122
  | 66 => 123
  | 67 => 124
  | 68 => 125
  | 69 => 126
  | 70 => 127
  | 71 => 128
  | 72 => 129
  | 73 => 132
  | 74 => 133
  | 75 => 144
  | x => x
def rt : TypeId → TypeId
  | 0 => 0
  | 1 => 1
  | 2 => 2
  | 3 => 3
  | 4 => 4
  | 5 => 5
  | 6 => 6
  | 7 => 7
  | 8 => 8
  | 9 => 9
  | 10 => 10
  | 11 => 11
  | 12 => 12
  | 13 => 13
  | 14 => 14
  | 15 => 15
  | 16 => 16
  | 17 => 17
  | 18 => 18
  | 19 => 19
  | 20 => 20
  | 21 => 21
  | 22 => 22
  | 23 => 46
  | 24 => 3
  | 25 => 50
  | 26 => 57
  | 27 => 22
  | 28 => 46
  | 29 => 50
  | 30 => 57
  | 37 => 65
  | 38 => 66
  | 39 => 67
  | 40 => 55
  | 41 => 65
  | 42 => 55
  | 44 => 89
  | 45 => 90
  | 46 => 91
  | 47 => 92
  | 48 => 93
  | 49 => 94
  | 50 => 95
  | 51 => 96
  | 52 => 97
  | 53 => 98
  | 54 => 99
  | 55 => 100
  | 56 => 89
  | 57 => 92
  | 58 => 93
  | 59 => 94
  | 60 => 96
  | 66 => 121
  | 67 => 122
  | 68 => 123
  | 69 => 124
  | 70 => 125
  | 71 => 126
  | 72 => 124
  | 73 => 126
  | 76 => 140
  | 77 => 36
  | 78 => 141
  | 79 => 141
  | 81 => 154
  | 82 => 155
  | 83 => 156
  | 84 => 157
  | 85 => 158
  | 86 => 159
  | 87 => 85
  | 88 => 161
  | 89 => 132
  | 90 => 162
  | 91 => 163
  | 92 => 164
  | 93 => 165
  | 94 => 166
  | 95 => 167
  | 96 => 78
  | x => x
def ren : Ren := ⟨rf, rt, fun x => x⟩
set_option maxRecDepth 100000 in
theorem laid : SlLaysF.n6 Tryz.prog ren where
  mixed := by kernel_rfl
  f6 := Exists.intro "slices.SortFunc[[]int,int]" ⟨by kernel_rfl, by kernel_rfl⟩
  f14 := Exists.intro "slices.pdqsortCmpFunc[int]" ⟨by kernel_rfl, by kernel_rfl⟩
  f15 := by kernel_rfl
  f20 := Exists.intro "slices.insertionSortCmpFunc[int]" ⟨by kernel_rfl, by kernel_rfl⟩
  f21 := Exists.intro "slices.heapSortCmpFunc[int]" ⟨by kernel_rfl, by kernel_rfl⟩
  f22 := Exists.intro "slices.breakPatternsCmpFunc[int]" ⟨by kernel_rfl, by kernel_rfl⟩
  f23 := Exists.intro "slices.choosePivotCmpFunc[int]" ⟨by kernel_rfl, by kernel_rfl⟩
  f24 := Exists.intro "slices.reverseRangeCmpFunc[int]" ⟨by kernel_rfl, by kernel_rfl⟩
  f25 := Exists.intro "slices.partialInsertionSortCmpFunc[int]" ⟨by kernel_rfl, by kernel_rfl⟩
  f26 := Exists.intro "slices.partitionEqualCmpFunc[int]" ⟨by kernel_rfl, by kernel_rfl⟩
  f27 := Exists.intro "slices.partitionCmpFunc[int]" ⟨by kernel_rfl, by kernel_rfl⟩
  f28 := by kernel_rfl
  f29 := by kernel_rfl
  f46 := Exists.intro "slices.siftDownCmpFunc[int]" ⟨by kernel_rfl, by kernel_rfl⟩
  f47 := by kernel_rfl
  f48 := by kernel_rfl
  f49 := Exists.intro "slices.medianAdjacentCmpFunc[int]" ⟨by kernel_rfl, by kernel_rfl⟩
  f50 := Exists.intro "slices.medianCmpFunc[int]" ⟨by kernel_rfl, by kernel_rfl⟩
  f57 := Exists.intro "slices.order2CmpFunc[int]" ⟨by kernel_rfl, by kernel_rfl⟩
  t0 := by kernel_rfl
  a0 := fun _ => by kernel_rfl
  z0 := fun _ => by kernel_rfl
  v0 := fun _ => by kernel_rfl
  t3 := by kernel_rfl
  a3 := fun _ => by kernel_rfl
  z3 := fun _ => by kernel_rfl
  v3 := fun _ => by kernel_rfl
  t4 := by kernel_rfl
  a4 := fun _ => by kernel_rfl
  z4 := fun _ => by kernel_rfl
  v4 := fun _ => by kernel_rfl
  t5 := by kernel_rfl
  a5 := fun _ => by kernel_rfl
  z5 := fun _ => by kernel_rfl
  v5 := fun _ => by kernel_rfl
  t9 := by kernel_rfl
  a9 := fun _ => by kernel_rfl
  z9 := fun _ => by kernel_rfl
  v9 := fun _ => by kernel_rfl
  t22 := by kernel_rfl
  a22 := fun _ => by kernel_rfl
  z22 := fun _ => by kernel_rfl
  v22 := fun _ => by kernel_rfl
  a24 := fun _ => by kernel_rfl
  z24 := fun _ => by kernel_rfl
  t25 := by kernel_rfl
  a25 := fun _ => by kernel_rfl
  z25 := fun _ => by kernel_rfl
  v25 := fun _ => by kernel_rfl
  t39 := by kernel_rfl
  a39 := fun _ => by kernel_rfl
  z39 := fun _ => by kernel_rfl
  v39 := fun _ => by kernel_rfl
  t45 := by kernel_rfl
  a45 := fun _ => by kernel_rfl
  z45 := fun _ => by kernel_rfl
  v45 := fun _ => by kernel_rfl
  t46 := by kernel_rfl
  a46 := fun _ => by kernel_rfl
  z46 := fun _ => by kernel_rfl
  v46 := fun _ => by kernel_rfl
  t50 := by kernel_rfl
  a50 := fun _ => by kernel_rfl
  z50 := fun _ => by kernel_rfl
  v50 := fun _ => by kernel_rfl
  t53 := by kernel_rfl
  a53 := fun _ => by kernel_rfl
  z53 := fun _ => by kernel_rfl
  v53 := fun _ => by kernel_rfl
  t55 := by kernel_rfl
  a55 := fun _ => by kernel_rfl
  z55 := fun _ => by kernel_rfl
  v55 := fun _ => by kernel_rfl
  t66 := by kernel_rfl
  a66 := fun _ => by kernel_rfl
  z66 := fun _ => by kernel_rfl
  v66 := fun _ => by kernel_rfl
  t70 := by kernel_rfl
  a70 := fun _ => by kernel_rfl
  z70 := fun _ => by kernel_rfl
  v70 := fun _ => by kernel_rfl
  t76 := by kernel_rfl
  a76 := fun _ => by kernel_rfl
  z76 := fun _ => by kernel_rfl
  v76 := fun _ => by kernel_rfl
  t77 := by kernel_rfl
  a77 := fun _ => by kernel_rfl
  z77 := fun _ => by kernel_rfl
  v77 := fun _ => by kernel_rfl
end Go.Proofs.YtnhdaolieifhnaaGreatDoor.layS
