/- The library's own texts that a call comes to, as this program has them: laid on the shelf's. -/
import Derived.Test.YtnhdaolieifhnaaChecked
import Derived.Shelf.SlLaysF
namespace Go.Proofs.Ytnhdaolieifhnaa.layS
open Go.Shelf
def rf : FuncId → FuncId
  | 0 => 0
  | 1 => 1
  | 2 => 2
  | 6 => 15
  | 8 => 32
  | 9 => 15
  | 11 => 32
  | 14 => 30
  | 15 => 31
  | 16 => 49
  | 17 => 30
  | 18 => 49
  | 20 => 39
  | 21 => 40
  | 22 => 41
  | 23 => 42
  | 24 => 43
  | 25 => 44
  | 26 => 45
  | 27 => 46
  | 28 => 47
  | 29 => 48
  | 30 => 39
  | 31 => 40
  | 32 => 41
  | 33 => 42
  | 34 => 43
  | 35 => 44
  | 36 => 45
  | 37 => 46
  | 46 => 61
  | 47 => 62
  | 48 => 63
  | 49 => 64
  | 50 => 65
  | 51 => 61
  | 52 => 64
  | 53 => 65
  | 57 => 70
  | 58 => 70
  | 60 => 73
  | 61 => 74
  | 62 => 75
  | 63 => 76
  | 64 => 77
  | 65 => 78
  | 66 => 79
  | 67 => 80
  | 68 => 81
  | 69 => 82
  | 70 => 83
  | 71 => 84
  | 72 => 85
  | 73 => 86
  | 74 => 87
  | 75 => 89
  | x => x
def rt : TypeId → TypeId
  | 0 => 0
  | 1 => 1
  | 2 => 2
  | 3 => 3
  | 4 => 4
  | 5 => 5
  | 6 => 6
  | 7 => 7
  | 8 => 8
  | 9 => 9
  | 10 => 10
  | 11 => 11
  | 12 => 12
  | 13 => 13
  | 14 => 14
  | 15 => 15
  | 16 => 16
  | 17 => 17
  | 18 => 18
  | 19 => 19
  | 20 => 20
  | 21 => 21
  | 22 => 23
  | 23 => 41
  | 24 => 3
  | 25 => 45
  | 26 => 58
  | 27 => 23
  | 28 => 41
  | 29 => 45
  | 30 => 58
  | 37 => 60
  | 38 => 61
  | 39 => 62
  | 40 => 55
  | 41 => 60
  | 42 => 55
  | 44 => 71
  | 45 => 72
  | 46 => 73
  | 47 => 74
  | 48 => 75
  | 49 => 76
  | 50 => 65
  | 51 => 77
  | 52 => 78
  | 53 => 79
  | 54 => 80
  | 55 => 67
  | 56 => 71
  | 57 => 74
  | 58 => 75
  | 59 => 76
  | 60 => 77
  | 66 => 88
  | 67 => 89
  | 68 => 90
  | 69 => 91
  | 70 => 92
  | 71 => 93
  | 72 => 91
  | 73 => 93
  | 76 => 96
  | 77 => 97
  | 78 => 98
  | 79 => 98
  | 81 => 100
  | 82 => 101
  | 83 => 102
  | 84 => 103
  | 85 => 104
  | 86 => 105
  | 87 => 106
  | 88 => 107
  | 89 => 108
  | 90 => 109
  | 91 => 110
  | 92 => 111
  | 93 => 112
  | 94 => 113
  | 95 => 114
  | 96 => 115
  | x => x
def ren : Ren := ⟨rf, rt, fun x => x⟩
set_option maxRecDepth 100000 in
theorem laid : SlLaysF.n6 Try.prog ren where
  mixed := by kernel_rfl
  f6 := Exists.intro "slices.SortFunc[[]int,int]" ⟨by kernel_rfl, by kernel_rfl⟩
  f14 := Exists.intro "slices.pdqsortCmpFunc[int]" ⟨by kernel_rfl, by kernel_rfl⟩
  f15 := by kernel_rfl
  f20 := Exists.intro "slices.insertionSortCmpFunc[int]" ⟨by kernel_rfl, by kernel_rfl⟩
  f21 := Exists.intro "slices.heapSortCmpFunc[int]" ⟨by kernel_rfl, by kernel_rfl⟩
  f22 := Exists.intro "slices.breakPatternsCmpFunc[int]" ⟨by kernel_rfl, by kernel_rfl⟩
  f23 := Exists.intro "slices.choosePivotCmpFunc[int]" ⟨by kernel_rfl, by kernel_rfl⟩
  f24 := Exists.intro "slices.reverseRangeCmpFunc[int]" ⟨by kernel_rfl, by kernel_rfl⟩
  f25 := Exists.intro "slices.partialInsertionSortCmpFunc[int]" ⟨by kernel_rfl, by kernel_rfl⟩
  f26 := Exists.intro "slices.partitionEqualCmpFunc[int]" ⟨by kernel_rfl, by kernel_rfl⟩
  f27 := Exists.intro "slices.partitionCmpFunc[int]" ⟨by kernel_rfl, by kernel_rfl⟩
  f28 := by kernel_rfl
  f29 := by kernel_rfl
  f46 := Exists.intro "slices.siftDownCmpFunc[int]" ⟨by kernel_rfl, by kernel_rfl⟩
  f47 := by kernel_rfl
  f48 := by kernel_rfl
  f49 := Exists.intro "slices.medianAdjacentCmpFunc[int]" ⟨by kernel_rfl, by kernel_rfl⟩
  f50 := Exists.intro "slices.medianCmpFunc[int]" ⟨by kernel_rfl, by kernel_rfl⟩
  f57 := Exists.intro "slices.order2CmpFunc[int]" ⟨by kernel_rfl, by kernel_rfl⟩
  t0 := by kernel_rfl
  a0 := fun _ => by kernel_rfl
  z0 := fun _ => by kernel_rfl
  v0 := fun _ => by kernel_rfl
  t3 := by kernel_rfl
  a3 := fun _ => by kernel_rfl
  z3 := fun _ => by kernel_rfl
  v3 := fun _ => by kernel_rfl
  t4 := by kernel_rfl
  a4 := fun _ => by kernel_rfl
  z4 := fun _ => by kernel_rfl
  v4 := fun _ => by kernel_rfl
  t5 := by kernel_rfl
  a5 := fun _ => by kernel_rfl
  z5 := fun _ => by kernel_rfl
  v5 := fun _ => by kernel_rfl
  t9 := by kernel_rfl
  a9 := fun _ => by kernel_rfl
  z9 := fun _ => by kernel_rfl
  v9 := fun _ => by kernel_rfl
  t22 := by kernel_rfl
  a22 := fun _ => by kernel_rfl
  z22 := fun _ => by kernel_rfl
  v22 := fun _ => by kernel_rfl
  a24 := fun _ => by kernel_rfl
  z24 := fun _ => by kernel_rfl
  t25 := by kernel_rfl
  a25 := fun _ => by kernel_rfl
  z25 := fun _ => by kernel_rfl
  v25 := fun _ => by kernel_rfl
  t39 := by kernel_rfl
  a39 := fun _ => by kernel_rfl
  z39 := fun _ => by kernel_rfl
  v39 := fun _ => by kernel_rfl
  t45 := by kernel_rfl
  a45 := fun _ => by kernel_rfl
  z45 := fun _ => by kernel_rfl
  v45 := fun _ => by kernel_rfl
  t46 := by kernel_rfl
  a46 := fun _ => by kernel_rfl
  z46 := fun _ => by kernel_rfl
  v46 := fun _ => by kernel_rfl
  t50 := by kernel_rfl
  a50 := fun _ => by kernel_rfl
  z50 := fun _ => by kernel_rfl
  v50 := fun _ => by kernel_rfl
  t53 := by kernel_rfl
  a53 := fun _ => by kernel_rfl
  z53 := fun _ => by kernel_rfl
  v53 := fun _ => by kernel_rfl
  t55 := by kernel_rfl
  a55 := fun _ => by kernel_rfl
  z55 := fun _ => by kernel_rfl
  v55 := fun _ => by kernel_rfl
  t66 := by kernel_rfl
  a66 := fun _ => by kernel_rfl
  z66 := fun _ => by kernel_rfl
  v66 := fun _ => by kernel_rfl
  t70 := by kernel_rfl
  a70 := fun _ => by kernel_rfl
  z70 := fun _ => by kernel_rfl
  v70 := fun _ => by kernel_rfl
  t76 := by kernel_rfl
  a76 := fun _ => by kernel_rfl
  z76 := fun _ => by kernel_rfl
  v76 := fun _ => by kernel_rfl
  t77 := by kernel_rfl
  a77 := fun _ => by kernel_rfl
  z77 := fun _ => by kernel_rfl
  v77 := fun _ => by kernel_rfl
end Go.Proofs.Ytnhdaolieifhnaa.layS
