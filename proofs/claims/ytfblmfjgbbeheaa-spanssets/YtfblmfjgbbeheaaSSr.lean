/- The last statement of SpansSets: its operations, and which of them may come up when. -/
import Derived.Test.YtfblmfjgbbeheaaCh5
import Derived.Deep.RegionHeld3
namespace Go.Proofs.Ytfblmfjgbbeheaa.ssr
open Go.RowKit
open mem rows span sp
def o0 : Oper := { dst := some 53, op := Op.load 22 (Operand.tmp 4), type := 22, pos := "law.go:260", after := #[], guard := none }
def o1 : Oper := { dst := some 54, op := Op.call { callee := Callee.value (Operand.func 15), args := #[Operand.tmp 53], argTypes := #[22] }, type := 4, pos := "law.go:260", after := #[{ on := 0, ground := Ground.data }], guard := none }
def o2 : Oper := { dst := some 55, op := Op.load 22 (Operand.tmp 4), type := 22, pos := "law.go:260", after := #[], guard := none }
def o3 : Oper := { dst := some 56, op := Op.call { callee := Callee.value (Operand.func 16), args := #[Operand.tmp 55], argTypes := #[22] }, type := 4, pos := "law.go:260", after := #[{ on := 2, ground := Ground.data }, { on := 1, ground := Ground.chain }], guard := none }
def o4 : Oper := { dst := some 57, op := Op.binOp BinOp.eql 4 (Operand.tmp 54) (Operand.tmp 56) 4, type := 4, pos := "law.go:260", after := #[{ on := 1, ground := Ground.data }, { on := 3, ground := Ground.data }], guard := none }
def o5 : Oper := { dst := some 58, op := Op.move (Operand.tmp 57), type := 4, pos := "law.go:260", after := #[{ on := 4, ground := Ground.data }, { on := 3, ground := Ground.chain }], guard := none }
def o6 : Oper := { dst := some 59, op := Op.load 22 (Operand.tmp 4), type := 22, pos := "law.go:260", after := #[{ on := 5, ground := Ground.guard }], guard := some (5, true) }
def o7 : Oper := { dst := some 60, op := Op.move (Operand.tmp 2), type := 3, pos := "law.go:260", after := #[{ on := 5, ground := Ground.guard }], guard := some (5, true) }
def o8 : Oper := { dst := some 61, op := Op.call { callee := Callee.value (Operand.func 17), args := #[Operand.tmp 59, Operand.tmp 60], argTypes := #[22, 3] }, type := 4, pos := "law.go:260", after := #[{ on := 6, ground := Ground.data }, { on := 7, ground := Ground.data }, { on := 5, ground := Ground.chain }, { on := 5, ground := Ground.guard }], guard := some (5, true) }
def o9 : Oper := { dst := some 62, op := Op.load 22 (Operand.tmp 4), type := 22, pos := "law.go:260", after := #[{ on := 5, ground := Ground.guard }], guard := some (5, true) }
def o10 : Oper := { dst := some 63, op := Op.move (Operand.tmp 2), type := 3, pos := "law.go:260", after := #[{ on := 5, ground := Ground.guard }], guard := some (5, true) }
def o11 : Oper := { dst := some 64, op := Op.call { callee := Callee.value (Operand.func 11), args := #[Operand.tmp 62, Operand.tmp 63], argTypes := #[22, 3] }, type := 4, pos := "law.go:260", after := #[{ on := 9, ground := Ground.data }, { on := 10, ground := Ground.data }, { on := 8, ground := Ground.chain }, { on := 5, ground := Ground.guard }], guard := some (5, true) }
def o12 : Oper := { dst := some 65, op := Op.binOp BinOp.eql 4 (Operand.tmp 61) (Operand.tmp 64) 4, type := 4, pos := "law.go:260", after := #[{ on := 8, ground := Ground.data }, { on := 11, ground := Ground.data }, { on := 5, ground := Ground.guard }], guard := some (5, true) }
def o13 : Oper := { dst := some 66, op := Op.pick (Operand.tmp 58) (Operand.tmp 65) (Operand.const (Value.bool false)), type := 4, pos := "law.go:260", after := #[{ on := 5, ground := Ground.data }, { on := 12, ground := Ground.data }], guard := none }
def o14 : Oper := { dst := some 67, op := Op.move (Operand.tmp 66), type := 4, pos := "law.go:260", after := #[{ on := 13, ground := Ground.data }, { on := 11, ground := Ground.chain }], guard := none }
def o15 : Oper := { dst := some 68, op := Op.load 22 (Operand.tmp 4), type := 22, pos := "law.go:260", after := #[{ on := 14, ground := Ground.guard }], guard := some (14, true) }
def o16 : Oper := { dst := some 69, op := Op.call { callee := Callee.value (Operand.func 19), args := #[Operand.tmp 68], argTypes := #[22] }, type := 22, pos := "law.go:260", after := #[{ on := 15, ground := Ground.data }, { on := 14, ground := Ground.chain }, { on := 14, ground := Ground.guard }], guard := some (14, true) }
def o17 : Oper := { dst := some 70, op := Op.load 22 (Operand.tmp 4), type := 22, pos := "law.go:260", after := #[{ on := 14, ground := Ground.guard }], guard := some (14, true) }
def o18 : Oper := { dst := some 71, op := Op.call { callee := Callee.value (Operand.func 14), args := #[Operand.tmp 70], argTypes := #[22] }, type := 22, pos := "law.go:260", after := #[{ on := 17, ground := Ground.data }, { on := 16, ground := Ground.chain }, { on := 14, ground := Ground.guard }], guard := some (14, true) }
def o19 : Oper := { dst := some 72, op := Op.call { callee := Callee.value (Operand.func 18), args := #[Operand.tmp 69, Operand.tmp 71], argTypes := #[22, 22] }, type := 4, pos := "law.go:260", after := #[{ on := 16, ground := Ground.data }, { on := 18, ground := Ground.data }, { on := 18, ground := Ground.chain }, { on := 14, ground := Ground.guard }], guard := some (14, true) }
def o20 : Oper := { dst := some 73, op := Op.pick (Operand.tmp 67) (Operand.tmp 72) (Operand.const (Value.bool false)), type := 4, pos := "law.go:260", after := #[{ on := 14, ground := Ground.data }, { on := 19, ground := Ground.data }], guard := none }
def o21 : Oper := { dst := some 74, op := Op.move (Operand.tmp 73), type := 4, pos := "law.go:260", after := #[{ on := 20, ground := Ground.data }, { on := 19, ground := Ground.chain }], guard := none }
def o22 : Oper := { dst := some 75, op := Op.load 22 (Operand.tmp 4), type := 22, pos := "law.go:260", after := #[{ on := 21, ground := Ground.guard }], guard := some (21, true) }
def o23 : Oper := { dst := some 76, op := Op.load 22 (Operand.tmp 5), type := 22, pos := "law.go:260", after := #[{ on := 21, ground := Ground.guard }], guard := some (21, true) }
def o24 : Oper := { dst := some 77, op := Op.call { callee := Callee.value (Operand.func 20), args := #[Operand.tmp 75, Operand.tmp 76], argTypes := #[22, 22] }, type := 22, pos := "law.go:260", after := #[{ on := 22, ground := Ground.data }, { on := 23, ground := Ground.data }, { on := 21, ground := Ground.chain }, { on := 21, ground := Ground.guard }], guard := some (21, true) }
def o25 : Oper := { dst := some 78, op := Op.move (Operand.tmp 9), type := 22, pos := "law.go:260", after := #[{ on := 21, ground := Ground.guard }], guard := some (21, true) }
def o26 : Oper := { dst := some 79, op := Op.call { callee := Callee.value (Operand.func 18), args := #[Operand.tmp 77, Operand.tmp 78], argTypes := #[22, 22] }, type := 4, pos := "law.go:260", after := #[{ on := 24, ground := Ground.data }, { on := 25, ground := Ground.data }, { on := 24, ground := Ground.chain }, { on := 21, ground := Ground.guard }], guard := some (21, true) }
def o27 : Oper := { dst := some 80, op := Op.pick (Operand.tmp 74) (Operand.tmp 79) (Operand.const (Value.bool false)), type := 4, pos := "law.go:260", after := #[{ on := 21, ground := Ground.data }, { on := 26, ground := Ground.data }], guard := none }
def o28 : Oper := { dst := some 81, op := Op.move (Operand.tmp 80), type := 4, pos := "law.go:260", after := #[{ on := 27, ground := Ground.data }, { on := 26, ground := Ground.chain }], guard := none }
def o29 : Oper := { dst := some 82, op := Op.load 22 (Operand.tmp 4), type := 22, pos := "law.go:260", after := #[{ on := 28, ground := Ground.guard }], guard := some (28, true) }
def o30 : Oper := { dst := some 83, op := Op.load 22 (Operand.tmp 5), type := 22, pos := "law.go:260", after := #[{ on := 28, ground := Ground.guard }], guard := some (28, true) }
def o31 : Oper := { dst := some 84, op := Op.call { callee := Callee.value (Operand.func 21), args := #[Operand.tmp 82, Operand.tmp 83], argTypes := #[22, 22] }, type := 22, pos := "law.go:260", after := #[{ on := 29, ground := Ground.data }, { on := 30, ground := Ground.data }, { on := 28, ground := Ground.chain }, { on := 28, ground := Ground.guard }], guard := some (28, true) }
def o32 : Oper := { dst := some 85, op := Op.move (Operand.tmp 10), type := 22, pos := "law.go:260", after := #[{ on := 28, ground := Ground.guard }], guard := some (28, true) }
def o33 : Oper := { dst := some 86, op := Op.call { callee := Callee.value (Operand.func 18), args := #[Operand.tmp 84, Operand.tmp 85], argTypes := #[22, 22] }, type := 4, pos := "law.go:260", after := #[{ on := 31, ground := Ground.data }, { on := 32, ground := Ground.data }, { on := 31, ground := Ground.chain }, { on := 28, ground := Ground.guard }], guard := some (28, true) }
def o34 : Oper := { dst := some 87, op := Op.pick (Operand.tmp 81) (Operand.tmp 86) (Operand.const (Value.bool false)), type := 4, pos := "law.go:260", after := #[{ on := 28, ground := Ground.data }, { on := 33, ground := Ground.data }], guard := none }
def o35 : Oper := { dst := some 88, op := Op.move (Operand.tmp 87), type := 4, pos := "law.go:260", after := #[{ on := 34, ground := Ground.data }, { on := 33, ground := Ground.chain }], guard := none }
def o36 : Oper := { dst := some 89, op := Op.load 22 (Operand.tmp 4), type := 22, pos := "law.go:260", after := #[{ on := 35, ground := Ground.guard }], guard := some (35, true) }
def o37 : Oper := { dst := some 90, op := Op.load 3 (Operand.tmp 7), type := 3, pos := "law.go:260", after := #[{ on := 35, ground := Ground.guard }], guard := some (35, true) }
def o38 : Oper := { dst := some 91, op := Op.call { callee := Callee.value (Operand.func 22), args := #[Operand.tmp 89, Operand.tmp 90], argTypes := #[22, 3] }, type := 22, pos := "law.go:260", after := #[{ on := 36, ground := Ground.data }, { on := 37, ground := Ground.data }, { on := 35, ground := Ground.chain }, { on := 35, ground := Ground.guard }], guard := some (35, true) }
def o39 : Oper := { dst := some 92, op := Op.move (Operand.tmp 11), type := 22, pos := "law.go:260", after := #[{ on := 35, ground := Ground.guard }], guard := some (35, true) }
def o40 : Oper := { dst := some 93, op := Op.call { callee := Callee.value (Operand.func 18), args := #[Operand.tmp 91, Operand.tmp 92], argTypes := #[22, 22] }, type := 4, pos := "law.go:260", after := #[{ on := 38, ground := Ground.data }, { on := 39, ground := Ground.data }, { on := 38, ground := Ground.chain }, { on := 35, ground := Ground.guard }], guard := some (35, true) }
def o41 : Oper := { dst := some 94, op := Op.pick (Operand.tmp 88) (Operand.tmp 93) (Operand.const (Value.bool false)), type := 4, pos := "law.go:260", after := #[{ on := 35, ground := Ground.data }, { on := 40, ground := Ground.data }], guard := none }
def o42 : Oper := { dst := some 95, op := Op.move (Operand.tmp 94), type := 4, pos := "law.go:260", after := #[{ on := 41, ground := Ground.data }, { on := 40, ground := Ground.chain }], guard := none }
def o43 : Oper := { dst := some 96, op := Op.load 22 (Operand.tmp 4), type := 22, pos := "law.go:260", after := #[{ on := 42, ground := Ground.guard }], guard := some (42, true) }
def o44 : Oper := { dst := some 97, op := Op.call { callee := Callee.value (Operand.func 23), args := #[Operand.tmp 96], argTypes := #[22] }, type := 3, pos := "law.go:260", after := #[{ on := 43, ground := Ground.data }, { on := 42, ground := Ground.chain }, { on := 42, ground := Ground.guard }], guard := some (42, true) }
def o45 : Oper := { dst := some 98, op := Op.move (Operand.tmp 12), type := 3, pos := "law.go:260", after := #[{ on := 42, ground := Ground.guard }], guard := some (42, true) }
def o46 : Oper := { dst := some 99, op := Op.binOp BinOp.eql 3 (Operand.tmp 97) (Operand.tmp 98) 3, type := 4, pos := "law.go:260", after := #[{ on := 44, ground := Ground.data }, { on := 45, ground := Ground.data }, { on := 42, ground := Ground.guard }], guard := some (42, true) }
def o47 : Oper := { dst := some 100, op := Op.pick (Operand.tmp 95) (Operand.tmp 99) (Operand.const (Value.bool false)), type := 4, pos := "law.go:260", after := #[{ on := 42, ground := Ground.data }, { on := 46, ground := Ground.data }], guard := none }
def o48 : Oper := { dst := some 8, op := Op.assign (Operand.tmp 100), type := 4, pos := "law.go:260", after := #[{ on := 47, ground := Ground.data }, { on := 44, ground := Ground.chain }, { on := 0, ground := Ground.phase }, { on := 1, ground := Ground.phase }, { on := 2, ground := Ground.phase }, { on := 3, ground := Ground.phase }, { on := 4, ground := Ground.phase }, { on := 5, ground := Ground.phase }, { on := 6, ground := Ground.phase }, { on := 7, ground := Ground.phase }, { on := 8, ground := Ground.phase }, { on := 9, ground := Ground.phase }, { on := 10, ground := Ground.phase }, { on := 11, ground := Ground.phase }, { on := 12, ground := Ground.phase }, { on := 13, ground := Ground.phase }, { on := 14, ground := Ground.phase }, { on := 15, ground := Ground.phase }, { on := 16, ground := Ground.phase }, { on := 17, ground := Ground.phase }, { on := 18, ground := Ground.phase }, { on := 19, ground := Ground.phase }, { on := 20, ground := Ground.phase }, { on := 21, ground := Ground.phase }, { on := 22, ground := Ground.phase }, { on := 23, ground := Ground.phase }, { on := 24, ground := Ground.phase }, { on := 25, ground := Ground.phase }, { on := 26, ground := Ground.phase }, { on := 27, ground := Ground.phase }, { on := 28, ground := Ground.phase }, { on := 29, ground := Ground.phase }, { on := 30, ground := Ground.phase }, { on := 31, ground := Ground.phase }, { on := 32, ground := Ground.phase }, { on := 33, ground := Ground.phase }, { on := 34, ground := Ground.phase }, { on := 35, ground := Ground.phase }, { on := 36, ground := Ground.phase }, { on := 37, ground := Ground.phase }, { on := 38, ground := Ground.phase }, { on := 39, ground := Ground.phase }, { on := 40, ground := Ground.phase }, { on := 41, ground := Ground.phase }, { on := 42, ground := Ground.phase }, { on := 43, ground := Ground.phase }, { on := 44, ground := Ground.phase }, { on := 45, ground := Ground.phase }, { on := 46, ground := Ground.phase }, { on := 47, ground := Ground.phase }], guard := none }
def opsR : Array Oper := #[o0, o1, o2, o3, o4, o5, o6, o7, o8, o9, o10, o11, o12, o13, o14, o15, o16, o17, o18, o19, o20, o21, o22, o23, o24, o25, o26, o27, o28, o29, o30, o31, o32, o33, o34, o35, o36, o37, o38, o39, o40, o41, o42, o43, o44, o45, o46, o47, o48]
def L0 : Array Bool := #[false, false, false, false, false, false, false, false, false, false, false, false, false, false, false, false, false, false, false, false, false, false, false, false, false, false, false, false, false, false, false, false, false, false, false, false, false, false, false, false, false, false, false, false, false, false, false, false, false]
theorem noSel : Region.noSelect opsR = true := by kernel_rfl
def L1 : Array Bool := #[true, false, false, false, false, false, false, false, false, false, false, false, false, false, false, false, false, false, false, false, false, false, false, false, false, false, false, false, false, false, false, false, false, false, false, false, false, false, false, false, false, false, false, false, false, false, false, false, false]
theorem i0 : opsR[0]? = some o0 := rfl
theorem f0 : Region.free .any opsR L0 0 = true := by kernel_rfl
theorem r0 : (Region.ready .any opsR L0).contains 0 = true := by kernel_rfl
theorem l0 : L0.setIfInBounds 0 true = L1 := by kernel_rfl
def L2 : Array Bool := #[true, false, true, false, false, false, false, false, false, false, false, false, false, false, false, false, false, false, false, false, false, false, false, false, false, false, false, false, false, false, false, false, false, false, false, false, false, false, false, false, false, false, false, false, false, false, false, false, false]
theorem i2 : opsR[2]? = some o2 := rfl
theorem f1 : Region.free .any opsR L1 2 = true := by kernel_rfl
theorem r1 : (Region.ready .any opsR L1).contains 2 = true := by kernel_rfl
theorem l1 : L1.setIfInBounds 2 true = L2 := by kernel_rfl
def L3 : Array Bool := #[true, true, true, false, false, false, false, false, false, false, false, false, false, false, false, false, false, false, false, false, false, false, false, false, false, false, false, false, false, false, false, false, false, false, false, false, false, false, false, false, false, false, false, false, false, false, false, false, false]
theorem i1 : opsR[1]? = some o1 := rfl
theorem r2 : Region.ready .any opsR L2 = [1] := by kernel_rfl
theorem l2 : L2.setIfInBounds 1 true = L3 := by kernel_rfl
def L4 : Array Bool := #[true, true, true, true, false, false, false, false, false, false, false, false, false, false, false, false, false, false, false, false, false, false, false, false, false, false, false, false, false, false, false, false, false, false, false, false, false, false, false, false, false, false, false, false, false, false, false, false, false]
theorem i3 : opsR[3]? = some o3 := rfl
theorem r3 : Region.ready .any opsR L3 = [3] := by kernel_rfl
theorem l3 : L3.setIfInBounds 3 true = L4 := by kernel_rfl
def L5 : Array Bool := #[true, true, true, true, true, false, false, false, false, false, false, false, false, false, false, false, false, false, false, false, false, false, false, false, false, false, false, false, false, false, false, false, false, false, false, false, false, false, false, false, false, false, false, false, false, false, false, false, false]
theorem i4 : opsR[4]? = some o4 := rfl
theorem f4 : Region.free .any opsR L4 4 = true := by kernel_rfl
theorem r4 : (Region.ready .any opsR L4).contains 4 = true := by kernel_rfl
theorem l4 : L4.setIfInBounds 4 true = L5 := by kernel_rfl
def L6 : Array Bool := #[true, true, true, true, true, true, false, false, false, false, false, false, false, false, false, false, false, false, false, false, false, false, false, false, false, false, false, false, false, false, false, false, false, false, false, false, false, false, false, false, false, false, false, false, false, false, false, false, false]
theorem i5 : opsR[5]? = some o5 := rfl
theorem f5 : Region.free .any opsR L5 5 = true := by kernel_rfl
theorem r5 : (Region.ready .any opsR L5).contains 5 = true := by kernel_rfl
theorem l5 : L5.setIfInBounds 5 true = L6 := by kernel_rfl
def L7 : Array Bool := #[true, true, true, true, true, true, true, false, false, false, false, false, false, false, false, false, false, false, false, false, false, false, false, false, false, false, false, false, false, false, false, false, false, false, false, false, false, false, false, false, false, false, false, false, false, false, false, false, false]
theorem i6 : opsR[6]? = some o6 := rfl
theorem f6 : Region.free .any opsR L6 6 = true := by kernel_rfl
theorem r6 : (Region.ready .any opsR L6).contains 6 = true := by kernel_rfl
theorem l6 : L6.setIfInBounds 6 true = L7 := by kernel_rfl
def L8 : Array Bool := #[true, true, true, true, true, true, true, true, false, false, false, false, false, false, false, false, false, false, false, false, false, false, false, false, false, false, false, false, false, false, false, false, false, false, false, false, false, false, false, false, false, false, false, false, false, false, false, false, false]
theorem i7 : opsR[7]? = some o7 := rfl
theorem f7 : Region.free .any opsR L7 7 = true := by kernel_rfl
theorem r7 : (Region.ready .any opsR L7).contains 7 = true := by kernel_rfl
theorem l7 : L7.setIfInBounds 7 true = L8 := by kernel_rfl
def L9 : Array Bool := #[true, true, true, true, true, true, true, true, false, true, false, false, false, false, false, false, false, false, false, false, false, false, false, false, false, false, false, false, false, false, false, false, false, false, false, false, false, false, false, false, false, false, false, false, false, false, false, false, false]
theorem i9 : opsR[9]? = some o9 := rfl
theorem f8 : Region.free .any opsR L8 9 = true := by kernel_rfl
theorem r8 : (Region.ready .any opsR L8).contains 9 = true := by kernel_rfl
theorem l8 : L8.setIfInBounds 9 true = L9 := by kernel_rfl
def L10 : Array Bool := #[true, true, true, true, true, true, true, true, false, true, true, false, false, false, false, false, false, false, false, false, false, false, false, false, false, false, false, false, false, false, false, false, false, false, false, false, false, false, false, false, false, false, false, false, false, false, false, false, false]
theorem i10 : opsR[10]? = some o10 := rfl
theorem f9 : Region.free .any opsR L9 10 = true := by kernel_rfl
theorem r9 : (Region.ready .any opsR L9).contains 10 = true := by kernel_rfl
theorem l9 : L9.setIfInBounds 10 true = L10 := by kernel_rfl
def L11 : Array Bool := #[true, true, true, true, true, true, true, true, true, true, true, false, false, false, false, false, false, false, false, false, false, false, false, false, false, false, false, false, false, false, false, false, false, false, false, false, false, false, false, false, false, false, false, false, false, false, false, false, false]
theorem i8 : opsR[8]? = some o8 := rfl
theorem r10 : Region.ready .any opsR L10 = [8] := by kernel_rfl
theorem l10 : L10.setIfInBounds 8 true = L11 := by kernel_rfl
def L12 : Array Bool := #[true, true, true, true, true, true, true, true, true, true, true, true, false, false, false, false, false, false, false, false, false, false, false, false, false, false, false, false, false, false, false, false, false, false, false, false, false, false, false, false, false, false, false, false, false, false, false, false, false]
theorem i11 : opsR[11]? = some o11 := rfl
theorem r11 : Region.ready .any opsR L11 = [11] := by kernel_rfl
theorem l11 : L11.setIfInBounds 11 true = L12 := by kernel_rfl
def L13 : Array Bool := #[true, true, true, true, true, true, true, true, true, true, true, true, true, false, false, false, false, false, false, false, false, false, false, false, false, false, false, false, false, false, false, false, false, false, false, false, false, false, false, false, false, false, false, false, false, false, false, false, false]
theorem i12 : opsR[12]? = some o12 := rfl
theorem f12 : Region.free .any opsR L12 12 = true := by kernel_rfl
theorem r12 : (Region.ready .any opsR L12).contains 12 = true := by kernel_rfl
theorem l12 : L12.setIfInBounds 12 true = L13 := by kernel_rfl
def L14 : Array Bool := #[true, true, true, true, true, true, true, true, true, true, true, true, true, true, false, false, false, false, false, false, false, false, false, false, false, false, false, false, false, false, false, false, false, false, false, false, false, false, false, false, false, false, false, false, false, false, false, false, false]
theorem i13 : opsR[13]? = some o13 := rfl
theorem f13 : Region.free .any opsR L13 13 = true := by kernel_rfl
theorem r13 : (Region.ready .any opsR L13).contains 13 = true := by kernel_rfl
theorem l13 : L13.setIfInBounds 13 true = L14 := by kernel_rfl
def L15 : Array Bool := #[true, true, true, true, true, true, true, true, true, true, true, true, true, true, true, false, false, false, false, false, false, false, false, false, false, false, false, false, false, false, false, false, false, false, false, false, false, false, false, false, false, false, false, false, false, false, false, false, false]
theorem i14 : opsR[14]? = some o14 := rfl
theorem f14 : Region.free .any opsR L14 14 = true := by kernel_rfl
theorem r14 : (Region.ready .any opsR L14).contains 14 = true := by kernel_rfl
theorem l14 : L14.setIfInBounds 14 true = L15 := by kernel_rfl
def L16 : Array Bool := #[true, true, true, true, true, true, true, true, true, true, true, true, true, true, true, true, false, false, false, false, false, false, false, false, false, false, false, false, false, false, false, false, false, false, false, false, false, false, false, false, false, false, false, false, false, false, false, false, false]
theorem i15 : opsR[15]? = some o15 := rfl
theorem f15 : Region.free .any opsR L15 15 = true := by kernel_rfl
theorem r15 : (Region.ready .any opsR L15).contains 15 = true := by kernel_rfl
theorem l15 : L15.setIfInBounds 15 true = L16 := by kernel_rfl
def L17 : Array Bool := #[true, true, true, true, true, true, true, true, true, true, true, true, true, true, true, true, false, true, false, false, false, false, false, false, false, false, false, false, false, false, false, false, false, false, false, false, false, false, false, false, false, false, false, false, false, false, false, false, false]
theorem i17 : opsR[17]? = some o17 := rfl
theorem f16 : Region.free .any opsR L16 17 = true := by kernel_rfl
theorem r16 : (Region.ready .any opsR L16).contains 17 = true := by kernel_rfl
theorem l16 : L16.setIfInBounds 17 true = L17 := by kernel_rfl
def L18 : Array Bool := #[true, true, true, true, true, true, true, true, true, true, true, true, true, true, true, true, true, true, false, false, false, false, false, false, false, false, false, false, false, false, false, false, false, false, false, false, false, false, false, false, false, false, false, false, false, false, false, false, false]
theorem i16 : opsR[16]? = some o16 := rfl
theorem r17 : Region.ready .any opsR L17 = [16] := by kernel_rfl
theorem l17 : L17.setIfInBounds 16 true = L18 := by kernel_rfl
def L19 : Array Bool := #[true, true, true, true, true, true, true, true, true, true, true, true, true, true, true, true, true, true, true, false, false, false, false, false, false, false, false, false, false, false, false, false, false, false, false, false, false, false, false, false, false, false, false, false, false, false, false, false, false]
theorem i18 : opsR[18]? = some o18 := rfl
theorem r18 : Region.ready .any opsR L18 = [18] := by kernel_rfl
theorem l18 : L18.setIfInBounds 18 true = L19 := by kernel_rfl
def L20 : Array Bool := #[true, true, true, true, true, true, true, true, true, true, true, true, true, true, true, true, true, true, true, true, false, false, false, false, false, false, false, false, false, false, false, false, false, false, false, false, false, false, false, false, false, false, false, false, false, false, false, false, false]
theorem i19 : opsR[19]? = some o19 := rfl
theorem r19 : Region.ready .any opsR L19 = [19] := by kernel_rfl
theorem l19 : L19.setIfInBounds 19 true = L20 := by kernel_rfl
def L21 : Array Bool := #[true, true, true, true, true, true, true, true, true, true, true, true, true, true, true, true, true, true, true, true, true, false, false, false, false, false, false, false, false, false, false, false, false, false, false, false, false, false, false, false, false, false, false, false, false, false, false, false, false]
theorem i20 : opsR[20]? = some o20 := rfl
theorem f20 : Region.free .any opsR L20 20 = true := by kernel_rfl
theorem r20 : (Region.ready .any opsR L20).contains 20 = true := by kernel_rfl
theorem l20 : L20.setIfInBounds 20 true = L21 := by kernel_rfl
def L22 : Array Bool := #[true, true, true, true, true, true, true, true, true, true, true, true, true, true, true, true, true, true, true, true, true, true, false, false, false, false, false, false, false, false, false, false, false, false, false, false, false, false, false, false, false, false, false, false, false, false, false, false, false]
theorem i21 : opsR[21]? = some o21 := rfl
theorem f21 : Region.free .any opsR L21 21 = true := by kernel_rfl
theorem r21 : (Region.ready .any opsR L21).contains 21 = true := by kernel_rfl
theorem l21 : L21.setIfInBounds 21 true = L22 := by kernel_rfl
def L23 : Array Bool := #[true, true, true, true, true, true, true, true, true, true, true, true, true, true, true, true, true, true, true, true, true, true, true, false, false, false, false, false, false, false, false, false, false, false, false, false, false, false, false, false, false, false, false, false, false, false, false, false, false]
theorem i22 : opsR[22]? = some o22 := rfl
theorem f22 : Region.free .any opsR L22 22 = true := by kernel_rfl
theorem r22 : (Region.ready .any opsR L22).contains 22 = true := by kernel_rfl
theorem l22 : L22.setIfInBounds 22 true = L23 := by kernel_rfl
def L24 : Array Bool := #[true, true, true, true, true, true, true, true, true, true, true, true, true, true, true, true, true, true, true, true, true, true, true, true, false, false, false, false, false, false, false, false, false, false, false, false, false, false, false, false, false, false, false, false, false, false, false, false, false]
theorem i23 : opsR[23]? = some o23 := rfl
theorem f23 : Region.free .any opsR L23 23 = true := by kernel_rfl
theorem r23 : (Region.ready .any opsR L23).contains 23 = true := by kernel_rfl
theorem l23 : L23.setIfInBounds 23 true = L24 := by kernel_rfl
def L25 : Array Bool := #[true, true, true, true, true, true, true, true, true, true, true, true, true, true, true, true, true, true, true, true, true, true, true, true, false, true, false, false, false, false, false, false, false, false, false, false, false, false, false, false, false, false, false, false, false, false, false, false, false]
theorem i25 : opsR[25]? = some o25 := rfl
theorem f24 : Region.free .any opsR L24 25 = true := by kernel_rfl
theorem r24 : (Region.ready .any opsR L24).contains 25 = true := by kernel_rfl
theorem l24 : L24.setIfInBounds 25 true = L25 := by kernel_rfl
def L26 : Array Bool := #[true, true, true, true, true, true, true, true, true, true, true, true, true, true, true, true, true, true, true, true, true, true, true, true, true, true, false, false, false, false, false, false, false, false, false, false, false, false, false, false, false, false, false, false, false, false, false, false, false]
theorem i24 : opsR[24]? = some o24 := rfl
theorem r25 : Region.ready .any opsR L25 = [24] := by kernel_rfl
theorem l25 : L25.setIfInBounds 24 true = L26 := by kernel_rfl
def L27 : Array Bool := #[true, true, true, true, true, true, true, true, true, true, true, true, true, true, true, true, true, true, true, true, true, true, true, true, true, true, true, false, false, false, false, false, false, false, false, false, false, false, false, false, false, false, false, false, false, false, false, false, false]
theorem i26 : opsR[26]? = some o26 := rfl
theorem r26 : Region.ready .any opsR L26 = [26] := by kernel_rfl
theorem l26 : L26.setIfInBounds 26 true = L27 := by kernel_rfl
def L28 : Array Bool := #[true, true, true, true, true, true, true, true, true, true, true, true, true, true, true, true, true, true, true, true, true, true, true, true, true, true, true, true, false, false, false, false, false, false, false, false, false, false, false, false, false, false, false, false, false, false, false, false, false]
theorem i27 : opsR[27]? = some o27 := rfl
theorem f27 : Region.free .any opsR L27 27 = true := by kernel_rfl
theorem r27 : (Region.ready .any opsR L27).contains 27 = true := by kernel_rfl
theorem l27 : L27.setIfInBounds 27 true = L28 := by kernel_rfl
def L29 : Array Bool := #[true, true, true, true, true, true, true, true, true, true, true, true, true, true, true, true, true, true, true, true, true, true, true, true, true, true, true, true, true, false, false, false, false, false, false, false, false, false, false, false, false, false, false, false, false, false, false, false, false]
theorem i28 : opsR[28]? = some o28 := rfl
theorem f28 : Region.free .any opsR L28 28 = true := by kernel_rfl
theorem r28 : (Region.ready .any opsR L28).contains 28 = true := by kernel_rfl
theorem l28 : L28.setIfInBounds 28 true = L29 := by kernel_rfl
def L30 : Array Bool := #[true, true, true, true, true, true, true, true, true, true, true, true, true, true, true, true, true, true, true, true, true, true, true, true, true, true, true, true, true, true, false, false, false, false, false, false, false, false, false, false, false, false, false, false, false, false, false, false, false]
theorem i29 : opsR[29]? = some o29 := rfl
theorem f29 : Region.free .any opsR L29 29 = true := by kernel_rfl
theorem r29 : (Region.ready .any opsR L29).contains 29 = true := by kernel_rfl
theorem l29 : L29.setIfInBounds 29 true = L30 := by kernel_rfl
def L31 : Array Bool := #[true, true, true, true, true, true, true, true, true, true, true, true, true, true, true, true, true, true, true, true, true, true, true, true, true, true, true, true, true, true, true, false, false, false, false, false, false, false, false, false, false, false, false, false, false, false, false, false, false]
theorem i30 : opsR[30]? = some o30 := rfl
theorem f30 : Region.free .any opsR L30 30 = true := by kernel_rfl
theorem r30 : (Region.ready .any opsR L30).contains 30 = true := by kernel_rfl
theorem l30 : L30.setIfInBounds 30 true = L31 := by kernel_rfl
def L32 : Array Bool := #[true, true, true, true, true, true, true, true, true, true, true, true, true, true, true, true, true, true, true, true, true, true, true, true, true, true, true, true, true, true, true, false, true, false, false, false, false, false, false, false, false, false, false, false, false, false, false, false, false]
theorem i32 : opsR[32]? = some o32 := rfl
theorem f31 : Region.free .any opsR L31 32 = true := by kernel_rfl
theorem r31 : (Region.ready .any opsR L31).contains 32 = true := by kernel_rfl
theorem l31 : L31.setIfInBounds 32 true = L32 := by kernel_rfl
def L33 : Array Bool := #[true, true, true, true, true, true, true, true, true, true, true, true, true, true, true, true, true, true, true, true, true, true, true, true, true, true, true, true, true, true, true, true, true, false, false, false, false, false, false, false, false, false, false, false, false, false, false, false, false]
theorem i31 : opsR[31]? = some o31 := rfl
theorem r32 : Region.ready .any opsR L32 = [31] := by kernel_rfl
theorem l32 : L32.setIfInBounds 31 true = L33 := by kernel_rfl
def L34 : Array Bool := #[true, true, true, true, true, true, true, true, true, true, true, true, true, true, true, true, true, true, true, true, true, true, true, true, true, true, true, true, true, true, true, true, true, true, false, false, false, false, false, false, false, false, false, false, false, false, false, false, false]
theorem i33 : opsR[33]? = some o33 := rfl
theorem r33 : Region.ready .any opsR L33 = [33] := by kernel_rfl
theorem l33 : L33.setIfInBounds 33 true = L34 := by kernel_rfl
def L35 : Array Bool := #[true, true, true, true, true, true, true, true, true, true, true, true, true, true, true, true, true, true, true, true, true, true, true, true, true, true, true, true, true, true, true, true, true, true, true, false, false, false, false, false, false, false, false, false, false, false, false, false, false]
theorem i34 : opsR[34]? = some o34 := rfl
theorem f34 : Region.free .any opsR L34 34 = true := by kernel_rfl
theorem r34 : (Region.ready .any opsR L34).contains 34 = true := by kernel_rfl
theorem l34 : L34.setIfInBounds 34 true = L35 := by kernel_rfl
def L36 : Array Bool := #[true, true, true, true, true, true, true, true, true, true, true, true, true, true, true, true, true, true, true, true, true, true, true, true, true, true, true, true, true, true, true, true, true, true, true, true, false, false, false, false, false, false, false, false, false, false, false, false, false]
theorem i35 : opsR[35]? = some o35 := rfl
theorem f35 : Region.free .any opsR L35 35 = true := by kernel_rfl
theorem r35 : (Region.ready .any opsR L35).contains 35 = true := by kernel_rfl
theorem l35 : L35.setIfInBounds 35 true = L36 := by kernel_rfl
def L37 : Array Bool := #[true, true, true, true, true, true, true, true, true, true, true, true, true, true, true, true, true, true, true, true, true, true, true, true, true, true, true, true, true, true, true, true, true, true, true, true, true, false, false, false, false, false, false, false, false, false, false, false, false]
theorem i36 : opsR[36]? = some o36 := rfl
theorem f36 : Region.free .any opsR L36 36 = true := by kernel_rfl
theorem r36 : (Region.ready .any opsR L36).contains 36 = true := by kernel_rfl
theorem l36 : L36.setIfInBounds 36 true = L37 := by kernel_rfl
def L38 : Array Bool := #[true, true, true, true, true, true, true, true, true, true, true, true, true, true, true, true, true, true, true, true, true, true, true, true, true, true, true, true, true, true, true, true, true, true, true, true, true, true, false, false, false, false, false, false, false, false, false, false, false]
theorem i37 : opsR[37]? = some o37 := rfl
theorem f37 : Region.free .any opsR L37 37 = true := by kernel_rfl
theorem r37 : (Region.ready .any opsR L37).contains 37 = true := by kernel_rfl
theorem l37 : L37.setIfInBounds 37 true = L38 := by kernel_rfl
def L39 : Array Bool := #[true, true, true, true, true, true, true, true, true, true, true, true, true, true, true, true, true, true, true, true, true, true, true, true, true, true, true, true, true, true, true, true, true, true, true, true, true, true, false, true, false, false, false, false, false, false, false, false, false]
theorem i39 : opsR[39]? = some o39 := rfl
theorem f38 : Region.free .any opsR L38 39 = true := by kernel_rfl
theorem r38 : (Region.ready .any opsR L38).contains 39 = true := by kernel_rfl
theorem l38 : L38.setIfInBounds 39 true = L39 := by kernel_rfl
def L40 : Array Bool := #[true, true, true, true, true, true, true, true, true, true, true, true, true, true, true, true, true, true, true, true, true, true, true, true, true, true, true, true, true, true, true, true, true, true, true, true, true, true, true, true, false, false, false, false, false, false, false, false, false]
theorem i38 : opsR[38]? = some o38 := rfl
theorem r39 : Region.ready .any opsR L39 = [38] := by kernel_rfl
theorem l39 : L39.setIfInBounds 38 true = L40 := by kernel_rfl
def L41 : Array Bool := #[true, true, true, true, true, true, true, true, true, true, true, true, true, true, true, true, true, true, true, true, true, true, true, true, true, true, true, true, true, true, true, true, true, true, true, true, true, true, true, true, true, false, false, false, false, false, false, false, false]
theorem i40 : opsR[40]? = some o40 := rfl
theorem r40 : Region.ready .any opsR L40 = [40] := by kernel_rfl
theorem l40 : L40.setIfInBounds 40 true = L41 := by kernel_rfl
def L42 : Array Bool := #[true, true, true, true, true, true, true, true, true, true, true, true, true, true, true, true, true, true, true, true, true, true, true, true, true, true, true, true, true, true, true, true, true, true, true, true, true, true, true, true, true, true, false, false, false, false, false, false, false]
theorem i41 : opsR[41]? = some o41 := rfl
theorem f41 : Region.free .any opsR L41 41 = true := by kernel_rfl
theorem r41 : (Region.ready .any opsR L41).contains 41 = true := by kernel_rfl
theorem l41 : L41.setIfInBounds 41 true = L42 := by kernel_rfl
def L43 : Array Bool := #[true, true, true, true, true, true, true, true, true, true, true, true, true, true, true, true, true, true, true, true, true, true, true, true, true, true, true, true, true, true, true, true, true, true, true, true, true, true, true, true, true, true, true, false, false, false, false, false, false]
theorem i42 : opsR[42]? = some o42 := rfl
theorem f42 : Region.free .any opsR L42 42 = true := by kernel_rfl
theorem r42 : (Region.ready .any opsR L42).contains 42 = true := by kernel_rfl
theorem l42 : L42.setIfInBounds 42 true = L43 := by kernel_rfl
def L44 : Array Bool := #[true, true, true, true, true, true, true, true, true, true, true, true, true, true, true, true, true, true, true, true, true, true, true, true, true, true, true, true, true, true, true, true, true, true, true, true, true, true, true, true, true, true, true, true, false, false, false, false, false]
theorem i43 : opsR[43]? = some o43 := rfl
theorem f43 : Region.free .any opsR L43 43 = true := by kernel_rfl
theorem r43 : (Region.ready .any opsR L43).contains 43 = true := by kernel_rfl
theorem l43 : L43.setIfInBounds 43 true = L44 := by kernel_rfl
def L45 : Array Bool := #[true, true, true, true, true, true, true, true, true, true, true, true, true, true, true, true, true, true, true, true, true, true, true, true, true, true, true, true, true, true, true, true, true, true, true, true, true, true, true, true, true, true, true, true, false, true, false, false, false]
theorem i45 : opsR[45]? = some o45 := rfl
theorem f44 : Region.free .any opsR L44 45 = true := by kernel_rfl
theorem r44 : (Region.ready .any opsR L44).contains 45 = true := by kernel_rfl
theorem l44 : L44.setIfInBounds 45 true = L45 := by kernel_rfl
def L46 : Array Bool := #[true, true, true, true, true, true, true, true, true, true, true, true, true, true, true, true, true, true, true, true, true, true, true, true, true, true, true, true, true, true, true, true, true, true, true, true, true, true, true, true, true, true, true, true, true, true, false, false, false]
theorem i44 : opsR[44]? = some o44 := rfl
theorem r45 : Region.ready .any opsR L45 = [44] := by kernel_rfl
theorem l45 : L45.setIfInBounds 44 true = L46 := by kernel_rfl
def L47 : Array Bool := #[true, true, true, true, true, true, true, true, true, true, true, true, true, true, true, true, true, true, true, true, true, true, true, true, true, true, true, true, true, true, true, true, true, true, true, true, true, true, true, true, true, true, true, true, true, true, true, false, false]
theorem i46 : opsR[46]? = some o46 := rfl
theorem f46 : Region.free .any opsR L46 46 = true := by kernel_rfl
theorem r46 : (Region.ready .any opsR L46).contains 46 = true := by kernel_rfl
theorem l46 : L46.setIfInBounds 46 true = L47 := by kernel_rfl
def L48 : Array Bool := #[true, true, true, true, true, true, true, true, true, true, true, true, true, true, true, true, true, true, true, true, true, true, true, true, true, true, true, true, true, true, true, true, true, true, true, true, true, true, true, true, true, true, true, true, true, true, true, true, false]
theorem i47 : opsR[47]? = some o47 := rfl
theorem f47 : Region.free .any opsR L47 47 = true := by kernel_rfl
theorem r47 : (Region.ready .any opsR L47).contains 47 = true := by kernel_rfl
theorem l47 : L47.setIfInBounds 47 true = L48 := by kernel_rfl
def L49 : Array Bool := #[true, true, true, true, true, true, true, true, true, true, true, true, true, true, true, true, true, true, true, true, true, true, true, true, true, true, true, true, true, true, true, true, true, true, true, true, true, true, true, true, true, true, true, true, true, true, true, true, true]
theorem i48 : opsR[48]? = some o48 := rfl
theorem f48 : Region.free .any opsR L48 48 = true := by kernel_rfl
theorem r48 : (Region.ready .any opsR L48).contains 48 = true := by kernel_rfl
theorem l48 : L48.setIfInBounds 48 true = L49 := by kernel_rfl
theorem rdone : Region.ready .any opsR L49 = [] := by kernel_rfl
theorem tk {P : Program} {Q : Exit → Act → World → Prop} {S : World → Prop} {i : Nat} {oi : Oper} {v : Value} {fuel : Nat} {listed listed' : Array Bool} {a a' : Act} {w : World} (hi : opsR[i]? = some oi) (hf : Region.free .any opsR listed i = true) (hr : (Region.ready .any opsR listed).contains i = true)
    (hl : listed.setIfInBounds i true = listed') (hQ : ∀ c a w, Q (.panic c) (a.put oi.dst v) w → Q (.panic c) a w) (hw : Region.wanted oi (yielded opsR a.tmps) = true) (hy : ∀ w, S w → (execOp a.eval oi).run P w = .ok (.value v) w) (hS : S w) (ha : a.put oi.dst v = a')
    (h : wpAnyH P .any opsR Q S fuel listed' a' w) : wpAnyH P .any opsR Q S (fuel + 1) listed a w := by
  subst hl ha
  exact wpAnyH_take hi noSel hf hr hQ (Or.inl ⟨hw, hy⟩) hS h
theorem cl {P : Program} {Q : Exit → Act → World → Prop} {S : World → Prop} {i : Nat} {oi : Oper} {fuel : Nat} {listed listed' : Array Bool} {a : Act} {w : World} (hi : opsR[i]? = some oi) (hr : Region.ready .any opsR listed = [i])
    (hl : listed.setIfInBounds i true = listed') (hw : Region.wanted oi (yielded opsR a.tmps) = true)
    (h : ∀ K' : Act → World → Prop, Shut (∀ a w, S w → (S w → wpAnyH P .any opsR Q S fuel listed' a w) → K' a w) → Oper.wp P oi a w K' Q) : wpAnyH P .any opsR Q S (fuel + 1) listed a w := by
  subst hl
  refine wpAnyH_ready hr (by simp) (AllReadyH.cons hi (fun K hK => ?_) AllReadyH.nil)
  rw [if_pos hw]
  exact h K hK
theorem start {P : Program} {Q : Exit → Act → World → Prop} {S : World → Prop} {a : Act} {w : World} (hm : P.follows .mixedOrders = true) (hS : S w.drew) (h : S w.drew → wpAnyH P .any opsR Q S 49 L0 a w.drew) : (Code.region 12 opsR true).wp P Q a w :=
  wp_region_held_drew hm hS h
end Go.Proofs.Ytfblmfjgbbeheaa.ssr
