/- The library's own texts that a call comes to, as this program has them: laid on the shelf's. -/
import Derived.Test.YtehmjffbfgnijabDoorChecked
import Derived.Shelf.SlLaysF0
namespace Go.Proofs.YtehmjffbfgnijabDoor.layS
open Go.Shelf
def rf : FuncId → FuncId
  | 0 => 0
  | 1 => 1
  | 2 => 2
  | 6 => 19
  | 11 => 22
  | 14 => 29
  | 15 => 30
  | 18 => 31
  | 20 => 34
  | 21 => 35
  | 22 => 36
  | 23 => 37
  | 24 => 38
  | 25 => 39
  | 26 => 40
  | 27 => 41
  | 28 => 42
  | 29 => 43
  | 46 => 45
  | 47 => 46
  | 48 => 47
  | 49 => 48
  | 50 => 49
  | 57 => 51
  | 60 => 52
  | 61 => 53
  | 62 => 54
  | 63 => 55
  | 64 => 56
  | 65 => 57
  | 66 => 58
  | 67 => 59
  | 68 => 60
  | 69 => 61
  | 70 => 62
  | 71 => 63
  | 72 => 64
  | 73 => 65
  | 74 => 66
  | 75 => 68
  | x => x
def rt : TypeId → TypeId
  | 0 => 0
  | 1 => 1
  | 2 => 2
  | 3 => 3
  | 4 => 4
  | 5 => 5
  | 6 => 6
  | 7 => 7
  | 8 => 8
  | 9 => 9
  | 10 => 10
  | 11 => 11
  | 12 => 12
  | 13 => 13
  | 14 => 14
  | 15 => 15
  | 16 => 16
  | 17 => 17
  | 18 => 18
  | 19 => 19
  | 20 => 20
  | 21 => 21
  | 22 => 26
  | 23 => 56
  | 24 => 36
  | 25 => 58
  | 27 => 32
  | 29 => 31
  | 37 => 70
  | 38 => 71
  | 39 => 59
  | 42 => 72
  | 44 => 75
  | 45 => 76
  | 46 => 77
  | 47 => 78
  | 48 => 79
  | 49 => 80
  | 50 => 62
  | 51 => 81
  | 52 => 82
  | 53 => 83
  | 54 => 55
  | 55 => 52
  | 66 => 84
  | 67 => 85
  | 68 => 86
  | 69 => 87
  | 70 => 88
  | 71 => 89
  | 76 => 90
  | 77 => 91
  | 78 => 92
  | 81 => 93
  | 82 => 94
  | 83 => 95
  | 84 => 96
  | 85 => 97
  | 86 => 98
  | 87 => 99
  | 88 => 100
  | 89 => 101
  | 90 => 102
  | 91 => 103
  | 92 => 104
  | 93 => 105
  | 94 => 106
  | 95 => 107
  | 96 => 108
  | x => x
def ren : Ren := ⟨rf, rt, fun x => x⟩
set_option maxRecDepth 100000 in
theorem laid : SlLaysF0.n6 Tryd.prog ren where
  mixed := by kernel_rfl
  f6 := Exists.intro "slices.SortFunc[[]escritoire/api.Match,escritoire/api.Match]" ⟨by kernel_rfl, by kernel_rfl⟩
  f14 := Exists.intro "slices.pdqsortCmpFunc[escritoire/api.Match]" ⟨by kernel_rfl, by kernel_rfl⟩
  f15 := by kernel_rfl
  f20 := Exists.intro "slices.insertionSortCmpFunc[escritoire/api.Match]" ⟨by kernel_rfl, by kernel_rfl⟩
  f21 := Exists.intro "slices.heapSortCmpFunc[escritoire/api.Match]" ⟨by kernel_rfl, by kernel_rfl⟩
  f22 := Exists.intro "slices.breakPatternsCmpFunc[escritoire/api.Match]" ⟨by kernel_rfl, by kernel_rfl⟩
  f23 := Exists.intro "slices.choosePivotCmpFunc[escritoire/api.Match]" ⟨by kernel_rfl, by kernel_rfl⟩
  f24 := Exists.intro "slices.reverseRangeCmpFunc[escritoire/api.Match]" ⟨by kernel_rfl, by kernel_rfl⟩
  f25 := Exists.intro "slices.partialInsertionSortCmpFunc[escritoire/api.Match]" ⟨by kernel_rfl, by kernel_rfl⟩
  f26 := Exists.intro "slices.partitionEqualCmpFunc[escritoire/api.Match]" ⟨by kernel_rfl, by kernel_rfl⟩
  f27 := Exists.intro "slices.partitionCmpFunc[escritoire/api.Match]" ⟨by kernel_rfl, by kernel_rfl⟩
  f28 := by kernel_rfl
  f29 := by kernel_rfl
  f46 := Exists.intro "slices.siftDownCmpFunc[escritoire/api.Match]" ⟨by kernel_rfl, by kernel_rfl⟩
  f47 := by kernel_rfl
  f48 := by kernel_rfl
  f49 := Exists.intro "slices.medianAdjacentCmpFunc[escritoire/api.Match]" ⟨by kernel_rfl, by kernel_rfl⟩
  f50 := Exists.intro "slices.medianCmpFunc[escritoire/api.Match]" ⟨by kernel_rfl, by kernel_rfl⟩
  f57 := Exists.intro "slices.order2CmpFunc[escritoire/api.Match]" ⟨by kernel_rfl, by kernel_rfl⟩
  t0 := by kernel_rfl
  a0 := fun _ => by kernel_rfl
  z0 := fun _ => by kernel_rfl
  v0 := fun _ => by kernel_rfl
  t3 := by kernel_rfl
  a3 := fun _ => by kernel_rfl
  z3 := fun _ => by kernel_rfl
  v3 := fun _ => by kernel_rfl
  t4 := by kernel_rfl
  a4 := fun _ => by kernel_rfl
  z4 := fun _ => by kernel_rfl
  v4 := fun _ => by kernel_rfl
  t5 := by kernel_rfl
  a5 := fun _ => by kernel_rfl
  z5 := fun _ => by kernel_rfl
  v5 := fun _ => by kernel_rfl
  t9 := by kernel_rfl
  a9 := fun _ => by kernel_rfl
  z9 := fun _ => by kernel_rfl
  v9 := fun _ => by kernel_rfl
  t22 := by kernel_rfl
  a22 := fun _ => by kernel_rfl
  z22 := fun _ => by kernel_rfl
  v22 := fun _ => by kernel_rfl
  t25 := by kernel_rfl
  a25 := fun _ => by kernel_rfl
  z25 := fun _ => by kernel_rfl
  v25 := fun _ => by kernel_rfl
  t39 := by kernel_rfl
  a39 := fun _ => by kernel_rfl
  z39 := fun _ => by kernel_rfl
  v39 := fun _ => by kernel_rfl
  t45 := by kernel_rfl
  a45 := fun _ => by kernel_rfl
  z45 := fun _ => by kernel_rfl
  v45 := fun _ => by kernel_rfl
  t46 := by kernel_rfl
  a46 := fun _ => by kernel_rfl
  z46 := fun _ => by kernel_rfl
  v46 := fun _ => by kernel_rfl
  t50 := by kernel_rfl
  a50 := fun _ => by kernel_rfl
  z50 := fun _ => by kernel_rfl
  v50 := fun _ => by kernel_rfl
  t53 := by kernel_rfl
  a53 := fun _ => by kernel_rfl
  z53 := fun _ => by kernel_rfl
  v53 := fun _ => by kernel_rfl
  t55 := by kernel_rfl
  a55 := fun _ => by kernel_rfl
  z55 := fun _ => by kernel_rfl
  v55 := fun _ => by kernel_rfl
  t66 := by kernel_rfl
  a66 := fun _ => by kernel_rfl
  z66 := fun _ => by kernel_rfl
  v66 := fun _ => by kernel_rfl
  t70 := by kernel_rfl
  a70 := fun _ => by kernel_rfl
  z70 := fun _ => by kernel_rfl
  v70 := fun _ => by kernel_rfl
  t76 := by kernel_rfl
  a76 := fun _ => by kernel_rfl
  z76 := fun _ => by kernel_rfl
  v76 := fun _ => by kernel_rfl
  t77 := by kernel_rfl
  a77 := fun _ => by kernel_rfl
  z77 := fun _ => by kernel_rfl
  v77 := fun _ => by kernel_rfl
end Go.Proofs.YtehmjffbfgnijabDoor.layS
