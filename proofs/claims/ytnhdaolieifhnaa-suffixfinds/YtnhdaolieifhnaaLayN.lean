/- The library's own texts that a call comes to, as this program has them: laid on the shelf's. -/
import Derived.Test.YtnhdaolieifhnaaChecked
import Derived.Shelf.SlLaysN
namespace Go.Proofs.Ytnhdaolieifhnaa.layN
open Go.Shelf
def rf : FuncId → FuncId
  | 0 => 0
  | 1 => 1
  | 2 => 2
  | 33 => 12
  | 41 => 27
  | 53 => 28
  | 59 => 58
  | 63 => 38
  | 64 => 31
  | 68 => 49
  | 70 => 52
  | 71 => 53
  | 72 => 54
  | 73 => 55
  | 74 => 56
  | 75 => 57
  | 76 => 59
  | 77 => 60
  | 78 => 47
  | 79 => 48
  | 88 => 67
  | 89 => 62
  | 90 => 63
  | 91 => 68
  | 92 => 69
  | 96 => 72
  | 98 => 73
  | 99 => 74
  | 100 => 75
  | 101 => 76
  | 102 => 77
  | 103 => 78
  | 104 => 79
  | 105 => 80
  | 106 => 81
  | 107 => 82
  | 108 => 83
  | 109 => 84
  | 110 => 85
  | 111 => 86
  | 112 => 87
  | 113 => 89
  | x => x
def rt : TypeId → TypeId
  | 0 => 0
  | 1 => 1
  | 2 => 2
  | 3 => 3
  | 4 => 4
  | 5 => 5
  | 6 => 6
  | 7 => 7
  | 8 => 8
  | 9 => 9
  | 10 => 10
  | 11 => 11
  | 12 => 12
  | 13 => 13
  | 14 => 14
  | 15 => 15
  | 16 => 16
  | 17 => 17
  | 18 => 18
  | 19 => 19
  | 20 => 20
  | 21 => 21
  | 22 => 23
  | 23 => 3
  | 30 => 34
  | 32 => 58
  | 36 => 57
  | 44 => 65
  | 51 => 62
  | 52 => 82
  | 53 => 55
  | 56 => 70
  | 57 => 61
  | 59 => 83
  | 60 => 72
  | 61 => 73
  | 62 => 84
  | 63 => 85
  | 64 => 86
  | 65 => 87
  | 66 => 78
  | 67 => 79
  | 68 => 80
  | 69 => 67
  | 75 => 88
  | 76 => 89
  | 77 => 90
  | 78 => 94
  | 79 => 92
  | 80 => 95
  | 83 => 96
  | 84 => 97
  | 85 => 99
  | 87 => 100
  | 88 => 101
  | 89 => 102
  | 90 => 103
  | 91 => 104
  | 92 => 105
  | 93 => 106
  | 94 => 107
  | 95 => 108
  | 96 => 109
  | 97 => 110
  | 98 => 111
  | 99 => 112
  | 100 => 113
  | 101 => 114
  | 102 => 115
  | x => x
def ren : Ren := ⟨rf, rt, fun x => x⟩
set_option maxRecDepth 100000 in
theorem laid : SlLaysN.n41 Try.prog ren where
  mixed := by kernel_rfl
  f41 := Exists.intro "slices.Clone[[]int,int]" ⟨by kernel_rfl, by kernel_rfl⟩
  t4 := by kernel_rfl
  a4 := fun _ => by kernel_rfl
  z4 := fun _ => by kernel_rfl
  v4 := fun _ => by kernel_rfl
  t22 := by kernel_rfl
  a22 := fun _ => by kernel_rfl
  z22 := fun _ => by kernel_rfl
  v22 := fun _ => by kernel_rfl
  t23 := by kernel_rfl
  a23 := fun _ => by kernel_rfl
  z23 := fun _ => by kernel_rfl
  v23 := fun _ => by kernel_rfl
  i23 := by kernel_rfl
end Go.Proofs.Ytnhdaolieifhnaa.layN
