/- The library's own texts that a call comes to, as this program has them: laid on the shelf's. -/
import Derived.Test.YtfblmfjgbbeheaaChecked
import Derived.Shelf.SlLaysF0
namespace Go.Proofs.Ytfblmfjgbbeheaa.layS
open Go.Shelf
def rf : FuncId → FuncId
  | 0 => 0
  | 1 => 1
  | 2 => 2
  | 6 => 36
  | 11 => 38
  | 14 => 40
  | 15 => 41
  | 18 => 42
  | 20 => 43
  | 21 => 44
  | 22 => 45
  | 23 => 46
  | 24 => 47
  | 25 => 48
  | 26 => 49
  | 27 => 50
  | 28 => 51
  | 29 => 52
  | 46 => 53
  | 47 => 54
  | 48 => 55
  | 49 => 56
  | 50 => 57
  | 57 => 58
  | 60 => 59
  | 61 => 60
  | 62 => 61
  | 63 => 62
  | 64 => 63
  | 65 => 64
  | 66 => 65
  | 67 => 66
  | 68 => 67
  | 69 => 68
  | 70 => 69
  | 71 => 70
  | 72 => 71
  | 73 => 72
  | 74 => 73
  | 75 => 74
  | x => x
def rt : TypeId → TypeId
  | 0 => 0
  | 1 => 1
  | 2 => 2
  | 3 => 3
  | 4 => 4
  | 5 => 5
  | 6 => 6
  | 7 => 7
  | 8 => 8
  | 9 => 9
  | 10 => 10
  | 11 => 11
  | 12 => 12
  | 13 => 13
  | 14 => 14
  | 15 => 15
  | 16 => 16
  | 17 => 17
  | 18 => 18
  | 19 => 19
  | 20 => 20
  | 21 => 21
  | 22 => 22
  | 23 => 48
  | 24 => 28
  | 25 => 49
  | 27 => 43
  | 29 => 39
  | 37 => 50
  | 38 => 51
  | 39 => 46
  | 42 => 26
  | 44 => 52
  | 45 => 53
  | 46 => 54
  | 47 => 55
  | 48 => 56
  | 49 => 57
  | 50 => 58
  | 51 => 59
  | 52 => 60
  | 53 => 61
  | 54 => 62
  | 55 => 63
  | 66 => 64
  | 67 => 65
  | 68 => 66
  | 69 => 67
  | 70 => 68
  | 71 => 69
  | 76 => 70
  | 77 => 71
  | 78 => 72
  | 81 => 73
  | 82 => 74
  | 83 => 75
  | 84 => 76
  | 85 => 77
  | 86 => 78
  | 87 => 79
  | 88 => 80
  | 89 => 81
  | 90 => 82
  | 91 => 83
  | 92 => 84
  | 93 => 85
  | 94 => 86
  | 95 => 87
  | 96 => 88
  | x => x
def ren : Ren := ⟨rf, rt, fun x => x⟩
set_option maxRecDepth 100000 in
theorem laid : SlLaysF0.n6 Try.prog ren where
  mixed := by kernel_rfl
  f6 := Exists.intro "slices.SortFunc[[]escritoire/api.Span,escritoire/api.Span]" ⟨by kernel_rfl, by kernel_rfl⟩
  f14 := Exists.intro "slices.pdqsortCmpFunc[escritoire/api.Span]" ⟨by kernel_rfl, by kernel_rfl⟩
  f15 := by kernel_rfl
  f20 := Exists.intro "slices.insertionSortCmpFunc[escritoire/api.Span]" ⟨by kernel_rfl, by kernel_rfl⟩
  f21 := Exists.intro "slices.heapSortCmpFunc[escritoire/api.Span]" ⟨by kernel_rfl, by kernel_rfl⟩
  f22 := Exists.intro "slices.breakPatternsCmpFunc[escritoire/api.Span]" ⟨by kernel_rfl, by kernel_rfl⟩
  f23 := Exists.intro "slices.choosePivotCmpFunc[escritoire/api.Span]" ⟨by kernel_rfl, by kernel_rfl⟩
  f24 := Exists.intro "slices.reverseRangeCmpFunc[escritoire/api.Span]" ⟨by kernel_rfl, by kernel_rfl⟩
  f25 := Exists.intro "slices.partialInsertionSortCmpFunc[escritoire/api.Span]" ⟨by kernel_rfl, by kernel_rfl⟩
  f26 := Exists.intro "slices.partitionEqualCmpFunc[escritoire/api.Span]" ⟨by kernel_rfl, by kernel_rfl⟩
  f27 := Exists.intro "slices.partitionCmpFunc[escritoire/api.Span]" ⟨by kernel_rfl, by kernel_rfl⟩
  f28 := by kernel_rfl
  f29 := by kernel_rfl
  f46 := Exists.intro "slices.siftDownCmpFunc[escritoire/api.Span]" ⟨by kernel_rfl, by kernel_rfl⟩
  f47 := by kernel_rfl
  f48 := by kernel_rfl
  f49 := Exists.intro "slices.medianAdjacentCmpFunc[escritoire/api.Span]" ⟨by kernel_rfl, by kernel_rfl⟩
  f50 := Exists.intro "slices.medianCmpFunc[escritoire/api.Span]" ⟨by kernel_rfl, by kernel_rfl⟩
  f57 := Exists.intro "slices.order2CmpFunc[escritoire/api.Span]" ⟨by kernel_rfl, by kernel_rfl⟩
  t0 := by kernel_rfl
  a0 := fun _ => by kernel_rfl
  z0 := fun _ => by kernel_rfl
  v0 := fun _ => by kernel_rfl
  t3 := by kernel_rfl
  a3 := fun _ => by kernel_rfl
  z3 := fun _ => by kernel_rfl
  v3 := fun _ => by kernel_rfl
  t4 := by kernel_rfl
  a4 := fun _ => by kernel_rfl
  z4 := fun _ => by kernel_rfl
  v4 := fun _ => by kernel_rfl
  t5 := by kernel_rfl
  a5 := fun _ => by kernel_rfl
  z5 := fun _ => by kernel_rfl
  v5 := fun _ => by kernel_rfl
  t9 := by kernel_rfl
  a9 := fun _ => by kernel_rfl
  z9 := fun _ => by kernel_rfl
  v9 := fun _ => by kernel_rfl
  t22 := by kernel_rfl
  a22 := fun _ => by kernel_rfl
  z22 := fun _ => by kernel_rfl
  v22 := fun _ => by kernel_rfl
  t25 := by kernel_rfl
  a25 := fun _ => by kernel_rfl
  z25 := fun _ => by kernel_rfl
  v25 := fun _ => by kernel_rfl
  t39 := by kernel_rfl
  a39 := fun _ => by kernel_rfl
  z39 := fun _ => by kernel_rfl
  v39 := fun _ => by kernel_rfl
  t45 := by kernel_rfl
  a45 := fun _ => by kernel_rfl
  z45 := fun _ => by kernel_rfl
  v45 := fun _ => by kernel_rfl
  t46 := by kernel_rfl
  a46 := fun _ => by kernel_rfl
  z46 := fun _ => by kernel_rfl
  v46 := fun _ => by kernel_rfl
  t50 := by kernel_rfl
  a50 := fun _ => by kernel_rfl
  z50 := fun _ => by kernel_rfl
  v50 := fun _ => by kernel_rfl
  t53 := by kernel_rfl
  a53 := fun _ => by kernel_rfl
  z53 := fun _ => by kernel_rfl
  v53 := fun _ => by kernel_rfl
  t55 := by kernel_rfl
  a55 := fun _ => by kernel_rfl
  z55 := fun _ => by kernel_rfl
  v55 := fun _ => by kernel_rfl
  t66 := by kernel_rfl
  a66 := fun _ => by kernel_rfl
  z66 := fun _ => by kernel_rfl
  v66 := fun _ => by kernel_rfl
  t70 := by kernel_rfl
  a70 := fun _ => by kernel_rfl
  z70 := fun _ => by kernel_rfl
  v70 := fun _ => by kernel_rfl
  t76 := by kernel_rfl
  a76 := fun _ => by kernel_rfl
  z76 := fun _ => by kernel_rfl
  v76 := fun _ => by kernel_rfl
  t77 := by kernel_rfl
  a77 := fun _ => by kernel_rfl
  z77 := fun _ => by kernel_rfl
  v77 := fun _ => by kernel_rfl
end Go.Proofs.Ytfblmfjgbbeheaa.layS
