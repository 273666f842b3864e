/- The library's own texts that a call comes to, as this program has them: laid on the shelf's. -/
import Derived.Test.YtnhdaolieifhnaaGreatDoorChecked
import Derived.Shelf.SlLaysM
namespace Go.Proofs.YtnhdaolieifhnaaGreatDoor.layM
open Go.Shelf
def rf : FuncId → FuncId
  | 0 => 0
  | 1 => 1
  | 2 => 2
  | 5 => 28
  | 7 => 41
  | 8 => 37
  | 10 => 61
  | 11 => 62
  | 12 => 63
  | 13 => 64
  | 14 => 65
  | 15 => 66
  | 16 => 67
  | 17 => 68
  | 18 => 69
  | 19 => 58
  | 20 => 59
  | 30 => 98
  | 31 => 94
  | 32 => 95
  | 33 => 99
  | 34 => 100
  | 35 => 60
  | 40 => 112
  | 42 => 117
  | 43 => 118
  | 44 => 119
  | 45 => 120
  | 46 => 121
  | 47 => 122
  | 48 => 123
  | 49 => 124
  | 50 => 125
  | 51 => 126
  | 52 => 127
  | 53 => 128
  | 54 => 129
  | 55 => 132
  | 56 => 133
  | 57 => 144
  | x => x
def rt : TypeId → TypeId
  | 0 => 0
  | 1 => 1
  | 2 => 2
  | 3 => 3
  | 4 => 4
  | 5 => 5
  | 6 => 6
  | 7 => 7
  | 8 => 8
  | 9 => 9
  | 10 => 10
  | 11 => 11
  | 12 => 12
  | 13 => 13
  | 14 => 14
  | 15 => 15
  | 16 => 16
  | 17 => 17
  | 18 => 18
  | 19 => 19
  | 20 => 20
  | 21 => 21
  | 22 => 22
  | 23 => 22
  | 24 => 57
  | 25 => 3
  | 30 => 68
  | 31 => 66
  | 32 => 67
  | 34 => 101
  | 35 => 90
  | 36 => 91
  | 37 => 102
  | 38 => 103
  | 39 => 63
  | 40 => 104
  | 41 => 95
  | 42 => 105
  | 43 => 97
  | 44 => 98
  | 45 => 99
  | 46 => 100
  | 53 => 121
  | 54 => 122
  | 55 => 123
  | 56 => 127
  | 57 => 125
  | 58 => 128
  | 59 => 55
  | 63 => 140
  | 64 => 36
  | 65 => 142
  | 67 => 154
  | 68 => 155
  | 69 => 156
  | 70 => 157
  | 71 => 158
  | 72 => 159
  | 73 => 85
  | 74 => 161
  | 75 => 132
  | 76 => 162
  | 77 => 163
  | 78 => 164
  | 79 => 165
  | 80 => 166
  | 81 => 167
  | 82 => 78
  | x => x
def ren : Ren := ⟨rf, rt, fun x => x⟩
set_option maxRecDepth 100000 in
theorem laid : SlLaysM.n5 Tryz.prog ren where
  mixed := by kernel_rfl
  f5 := Exists.intro "slices.Sort[[]int,int]" ⟨by kernel_rfl, by kernel_rfl⟩
  f7 := Exists.intro "slices.pdqsortOrdered[int]" ⟨by kernel_rfl, by kernel_rfl⟩
  f8 := by kernel_rfl
  f10 := Exists.intro "slices.insertionSortOrdered[int]" ⟨by kernel_rfl, by kernel_rfl⟩
  f11 := Exists.intro "slices.heapSortOrdered[int]" ⟨by kernel_rfl, by kernel_rfl⟩
  f12 := Exists.intro "slices.breakPatternsOrdered[int]" ⟨by kernel_rfl, by kernel_rfl⟩
  f13 := Exists.intro "slices.choosePivotOrdered[int]" ⟨by kernel_rfl, by kernel_rfl⟩
  f14 := Exists.intro "slices.reverseRangeOrdered[int]" ⟨by kernel_rfl, by kernel_rfl⟩
  f15 := Exists.intro "slices.partialInsertionSortOrdered[int]" ⟨by kernel_rfl, by kernel_rfl⟩
  f16 := Exists.intro "cmp.Less[int]" ⟨by kernel_rfl, by kernel_rfl⟩
  f17 := Exists.intro "slices.partitionEqualOrdered[int]" ⟨by kernel_rfl, by kernel_rfl⟩
  f18 := Exists.intro "slices.partitionOrdered[int]" ⟨by kernel_rfl, by kernel_rfl⟩
  f19 := by kernel_rfl
  f20 := by kernel_rfl
  f30 := Exists.intro "slices.siftDownOrdered[int]" ⟨by kernel_rfl, by kernel_rfl⟩
  f31 := by kernel_rfl
  f32 := by kernel_rfl
  f33 := Exists.intro "slices.medianAdjacentOrdered[int]" ⟨by kernel_rfl, by kernel_rfl⟩
  f34 := Exists.intro "slices.medianOrdered[int]" ⟨by kernel_rfl, by kernel_rfl⟩
  f35 := Exists.intro "cmp.isNaN[int]" ⟨by kernel_rfl, by kernel_rfl⟩
  f40 := Exists.intro "slices.order2Ordered[int]" ⟨by kernel_rfl, by kernel_rfl⟩
  t0 := by kernel_rfl
  a0 := fun _ => by kernel_rfl
  z0 := fun _ => by kernel_rfl
  v0 := fun _ => by kernel_rfl
  t3 := by kernel_rfl
  a3 := fun _ => by kernel_rfl
  z3 := fun _ => by kernel_rfl
  v3 := fun _ => by kernel_rfl
  t4 := by kernel_rfl
  a4 := fun _ => by kernel_rfl
  z4 := fun _ => by kernel_rfl
  v4 := fun _ => by kernel_rfl
  t5 := by kernel_rfl
  a5 := fun _ => by kernel_rfl
  z5 := fun _ => by kernel_rfl
  v5 := fun _ => by kernel_rfl
  t9 := by kernel_rfl
  a9 := fun _ => by kernel_rfl
  z9 := fun _ => by kernel_rfl
  v9 := fun _ => by kernel_rfl
  t22 := by kernel_rfl
  a22 := fun _ => by kernel_rfl
  z22 := fun _ => by kernel_rfl
  v22 := fun _ => by kernel_rfl
  t23 := by kernel_rfl
  a23 := fun _ => by kernel_rfl
  z23 := fun _ => by kernel_rfl
  v23 := fun _ => by kernel_rfl
  t25 := by kernel_rfl
  a25 := fun _ => by kernel_rfl
  z25 := fun _ => by kernel_rfl
  v25 := fun _ => by kernel_rfl
  t32 := by kernel_rfl
  a32 := fun _ => by kernel_rfl
  z32 := fun _ => by kernel_rfl
  v32 := fun _ => by kernel_rfl
  t35 := by kernel_rfl
  a35 := fun _ => by kernel_rfl
  z35 := fun _ => by kernel_rfl
  v35 := fun _ => by kernel_rfl
  t36 := by kernel_rfl
  a36 := fun _ => by kernel_rfl
  z36 := fun _ => by kernel_rfl
  v36 := fun _ => by kernel_rfl
  t41 := by kernel_rfl
  a41 := fun _ => by kernel_rfl
  z41 := fun _ => by kernel_rfl
  v41 := fun _ => by kernel_rfl
  t44 := by kernel_rfl
  a44 := fun _ => by kernel_rfl
  z44 := fun _ => by kernel_rfl
  v44 := fun _ => by kernel_rfl
  t46 := by kernel_rfl
  a46 := fun _ => by kernel_rfl
  z46 := fun _ => by kernel_rfl
  v46 := fun _ => by kernel_rfl
  t53 := by kernel_rfl
  a53 := fun _ => by kernel_rfl
  z53 := fun _ => by kernel_rfl
  v53 := fun _ => by kernel_rfl
  t57 := by kernel_rfl
  a57 := fun _ => by kernel_rfl
  z57 := fun _ => by kernel_rfl
  v57 := fun _ => by kernel_rfl
  t63 := by kernel_rfl
  a63 := fun _ => by kernel_rfl
  z63 := fun _ => by kernel_rfl
  v63 := fun _ => by kernel_rfl
  t64 := by kernel_rfl
  a64 := fun _ => by kernel_rfl
  z64 := fun _ => by kernel_rfl
  v64 := fun _ => by kernel_rfl
end Go.Proofs.YtnhdaolieifhnaaGreatDoor.layM
