/- The library's own texts that a call comes to, as this program has them: laid on the shelf's. -/
import Derived.Test.YtnhdaolieifhnaaGreatDoorChecked
import Derived.Shelf.SlLaysN
namespace Go.Proofs.YtnhdaolieifhnaaGreatDoor.layN
open Go.Shelf
def rf : FuncId → FuncId
  | 0 => 0
  | 1 => 1
  | 2 => 2
  | 41 => 27
  | 53 => 28
  | 59 => 67
  | 63 => 41
  | 64 => 37
  | 68 => 60
  | 70 => 61
  | 71 => 62
  | 72 => 63
  | 73 => 64
  | 74 => 65
  | 75 => 66
  | 76 => 68
  | 77 => 69
  | 78 => 58
  | 79 => 59
  | 88 => 98
  | 89 => 94
  | 90 => 95
  | 91 => 99
  | 92 => 100
  | 96 => 112
  | 98 => 117
  | 99 => 118
  | 100 => 119
  | 101 => 120
  | 102 => 121
  | 103 => 122
  | 104 => 123
  | 105 => 124
  | 106 => 125
  | 107 => 126
  | 108 => 127
  | 109 => 128
  | 110 => 129
  | 111 => 132
  | 112 => 133
  | 113 => 144
  | x => x
def rt : TypeId → TypeId
  | 0 => 0
  | 1 => 1
  | 2 => 2
  | 3 => 3
  | 4 => 4
  | 5 => 5
  | 6 => 6
  | 7 => 7
  | 8 => 8
  | 9 => 9
  | 10 => 10
  | 11 => 11
  | 12 => 12
  | 13 => 13
  | 14 => 14
  | 15 => 15
  | 16 => 16
  | 17 => 17
  | 18 => 18
  | 19 => 19
  | 20 => 20
  | 21 => 21
  | 22 => 22
  | 23 => 3
  | 30 => 38
  | 32 => 57
  | 36 => 56
  | 44 => 95
  | 51 => 67
  | 52 => 63
  | 53 => 55
  | 56 => 68
  | 57 => 66
  | 59 => 101
  | 60 => 90
  | 61 => 91
  | 62 => 102
  | 63 => 103
  | 64 => 104
  | 65 => 105
  | 66 => 97
  | 67 => 98
  | 68 => 99
  | 69 => 100
  | 75 => 121
  | 76 => 122
  | 77 => 123
  | 78 => 127
  | 79 => 125
  | 80 => 128
  | 83 => 140
  | 84 => 36
  | 85 => 142
  | 87 => 154
  | 88 => 155
  | 89 => 156
  | 90 => 157
  | 91 => 158
  | 92 => 159
  | 93 => 85
  | 94 => 161
  | 95 => 132
  | 96 => 162
  | 97 => 163
  | 98 => 164
  | 99 => 165
  | 100 => 166
  | 101 => 167
  | 102 => 78
  | x => x
def ren : Ren := ⟨rf, rt, fun x => x⟩
set_option maxRecDepth 100000 in
theorem laid : SlLaysN.n41 Tryz.prog ren where
  mixed := by kernel_rfl
  f41 := Exists.intro "slices.Clone[[]int,int]" ⟨by kernel_rfl, by kernel_rfl⟩
  t4 := by kernel_rfl
  a4 := fun _ => by kernel_rfl
  z4 := fun _ => by kernel_rfl
  v4 := fun _ => by kernel_rfl
  t22 := by kernel_rfl
  a22 := fun _ => by kernel_rfl
  z22 := fun _ => by kernel_rfl
  v22 := fun _ => by kernel_rfl
  t23 := by kernel_rfl
  a23 := fun _ => by kernel_rfl
  z23 := fun _ => by kernel_rfl
  v23 := fun _ => by kernel_rfl
  i23 := by kernel_rfl
end Go.Proofs.YtnhdaolieifhnaaGreatDoor.layN
