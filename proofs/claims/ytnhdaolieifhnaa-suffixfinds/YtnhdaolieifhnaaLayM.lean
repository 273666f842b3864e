/- The library's own texts that a call comes to, as this program has them: laid on the shelf's. -/
import Derived.Test.YtnhdaolieifhnaaChecked
import Derived.Shelf.SlLaysM
namespace Go.Proofs.Ytnhdaolieifhnaa.layM
open Go.Shelf
def rf : FuncId → FuncId
  | 0 => 0
  | 1 => 1
  | 2 => 2
  | 5 => 28
  | 7 => 38
  | 8 => 31
  | 10 => 52
  | 11 => 53
  | 12 => 54
  | 13 => 55
  | 14 => 56
  | 15 => 57
  | 16 => 58
  | 17 => 59
  | 18 => 60
  | 19 => 47
  | 20 => 48
  | 30 => 67
  | 31 => 62
  | 32 => 63
  | 33 => 68
  | 34 => 69
  | 35 => 49
  | 40 => 72
  | 42 => 73
  | 43 => 74
  | 44 => 75
  | 45 => 76
  | 46 => 77
  | 47 => 78
  | 48 => 79
  | 49 => 80
  | 50 => 81
  | 51 => 82
  | 52 => 83
  | 53 => 84
  | 54 => 85
  | 55 => 86
  | 56 => 87
  | 57 => 89
  | x => x
def rt : TypeId → TypeId
  | 0 => 0
  | 1 => 1
  | 2 => 2
  | 3 => 3
  | 4 => 4
  | 5 => 5
  | 6 => 6
  | 7 => 7
  | 8 => 8
  | 9 => 9
  | 10 => 10
  | 11 => 11
  | 12 => 12
  | 13 => 13
  | 14 => 14
  | 15 => 15
  | 16 => 16
  | 17 => 17
  | 18 => 18
  | 19 => 19
  | 20 => 20
  | 21 => 21
  | 22 => 23
  | 23 => 23
  | 24 => 58
  | 25 => 3
  | 30 => 70
  | 31 => 61
  | 32 => 62
  | 34 => 83
  | 35 => 72
  | 36 => 73
  | 37 => 84
  | 38 => 85
  | 39 => 82
  | 40 => 86
  | 41 => 65
  | 42 => 87
  | 43 => 78
  | 44 => 79
  | 45 => 80
  | 46 => 67
  | 53 => 88
  | 54 => 89
  | 55 => 90
  | 56 => 94
  | 57 => 92
  | 58 => 95
  | 59 => 55
  | 63 => 96
  | 64 => 97
  | 65 => 99
  | 67 => 100
  | 68 => 101
  | 69 => 102
  | 70 => 103
  | 71 => 104
  | 72 => 105
  | 73 => 106
  | 74 => 107
  | 75 => 108
  | 76 => 109
  | 77 => 110
  | 78 => 111
  | 79 => 112
  | 80 => 113
  | 81 => 114
  | 82 => 115
  | x => x
def ren : Ren := ⟨rf, rt, fun x => x⟩
set_option maxRecDepth 100000 in
theorem laid : SlLaysM.n5 Try.prog ren where
  mixed := by kernel_rfl
  f5 := Exists.intro "slices.Sort[[]int,int]" ⟨by kernel_rfl, by kernel_rfl⟩
  f7 := Exists.intro "slices.pdqsortOrdered[int]" ⟨by kernel_rfl, by kernel_rfl⟩
  f8 := by kernel_rfl
  f10 := Exists.intro "slices.insertionSortOrdered[int]" ⟨by kernel_rfl, by kernel_rfl⟩
  f11 := Exists.intro "slices.heapSortOrdered[int]" ⟨by kernel_rfl, by kernel_rfl⟩
  f12 := Exists.intro "slices.breakPatternsOrdered[int]" ⟨by kernel_rfl, by kernel_rfl⟩
  f13 := Exists.intro "slices.choosePivotOrdered[int]" ⟨by kernel_rfl, by kernel_rfl⟩
  f14 := Exists.intro "slices.reverseRangeOrdered[int]" ⟨by kernel_rfl, by kernel_rfl⟩
  f15 := Exists.intro "slices.partialInsertionSortOrdered[int]" ⟨by kernel_rfl, by kernel_rfl⟩
  f16 := Exists.intro "cmp.Less[int]" ⟨by kernel_rfl, by kernel_rfl⟩
  f17 := Exists.intro "slices.partitionEqualOrdered[int]" ⟨by kernel_rfl, by kernel_rfl⟩
  f18 := Exists.intro "slices.partitionOrdered[int]" ⟨by kernel_rfl, by kernel_rfl⟩
  f19 := by kernel_rfl
  f20 := by kernel_rfl
  f30 := Exists.intro "slices.siftDownOrdered[int]" ⟨by kernel_rfl, by kernel_rfl⟩
  f31 := by kernel_rfl
  f32 := by kernel_rfl
  f33 := Exists.intro "slices.medianAdjacentOrdered[int]" ⟨by kernel_rfl, by kernel_rfl⟩
  f34 := Exists.intro "slices.medianOrdered[int]" ⟨by kernel_rfl, by kernel_rfl⟩
  f35 := Exists.intro "cmp.isNaN[int]" ⟨by kernel_rfl, by kernel_rfl⟩
  f40 := Exists.intro "slices.order2Ordered[int]" ⟨by kernel_rfl, by kernel_rfl⟩
  t0 := by kernel_rfl
  a0 := fun _ => by kernel_rfl
  z0 := fun _ => by kernel_rfl
  v0 := fun _ => by kernel_rfl
  t3 := by kernel_rfl
  a3 := fun _ => by kernel_rfl
  z3 := fun _ => by kernel_rfl
  v3 := fun _ => by kernel_rfl
  t4 := by kernel_rfl
  a4 := fun _ => by kernel_rfl
  z4 := fun _ => by kernel_rfl
  v4 := fun _ => by kernel_rfl
  t5 := by kernel_rfl
  a5 := fun _ => by kernel_rfl
  z5 := fun _ => by kernel_rfl
  v5 := fun _ => by kernel_rfl
  t9 := by kernel_rfl
  a9 := fun _ => by kernel_rfl
  z9 := fun _ => by kernel_rfl
  v9 := fun _ => by kernel_rfl
  t22 := by kernel_rfl
  a22 := fun _ => by kernel_rfl
  z22 := fun _ => by kernel_rfl
  v22 := fun _ => by kernel_rfl
  t23 := by kernel_rfl
  a23 := fun _ => by kernel_rfl
  z23 := fun _ => by kernel_rfl
  v23 := fun _ => by kernel_rfl
  t25 := by kernel_rfl
  a25 := fun _ => by kernel_rfl
  z25 := fun _ => by kernel_rfl
  v25 := fun _ => by kernel_rfl
  t32 := by kernel_rfl
  a32 := fun _ => by kernel_rfl
  z32 := fun _ => by kernel_rfl
  v32 := fun _ => by kernel_rfl
  t35 := by kernel_rfl
  a35 := fun _ => by kernel_rfl
  z35 := fun _ => by kernel_rfl
  v35 := fun _ => by kernel_rfl
  t36 := by kernel_rfl
  a36 := fun _ => by kernel_rfl
  z36 := fun _ => by kernel_rfl
  v36 := fun _ => by kernel_rfl
  t41 := by kernel_rfl
  a41 := fun _ => by kernel_rfl
  z41 := fun _ => by kernel_rfl
  v41 := fun _ => by kernel_rfl
  t44 := by kernel_rfl
  a44 := fun _ => by kernel_rfl
  z44 := fun _ => by kernel_rfl
  v44 := fun _ => by kernel_rfl
  t46 := by kernel_rfl
  a46 := fun _ => by kernel_rfl
  z46 := fun _ => by kernel_rfl
  v46 := fun _ => by kernel_rfl
  t53 := by kernel_rfl
  a53 := fun _ => by kernel_rfl
  z53 := fun _ => by kernel_rfl
  v53 := fun _ => by kernel_rfl
  t57 := by kernel_rfl
  a57 := fun _ => by kernel_rfl
  z57 := fun _ => by kernel_rfl
  v57 := fun _ => by kernel_rfl
  t63 := by kernel_rfl
  a63 := fun _ => by kernel_rfl
  z63 := fun _ => by kernel_rfl
  v63 := fun _ => by kernel_rfl
  t64 := by kernel_rfl
  a64 := fun _ => by kernel_rfl
  z64 := fun _ => by kernel_rfl
  v64 := fun _ => by kernel_rfl
end Go.Proofs.Ytnhdaolieifhnaa.layM
