/- Texts laid together: Mem, As, Bare, Laid, LaidV. -/
import Derived.WalkKit
import Derived.ProofKit
import Derived.OpenShut
import Derived.Deep.OwnRows
import Derived.Deep.RegionWith
import Derived.Laws.BytesArg
import Derived.Deep.QuietTactic
import Derived.BigQuiet
import Derived.Laws.IdiomStrings
import Derived.Test.YtococaecjecjgaaGreatDoorRows
import Derived.LaidEql
import Derived.Stop.Asserts
import Derived.RowKitTokens
import Derived.WalkLawsBesides
import Derived.ChangeSame
import Derived.ChangeVars
import Derived.JoinedOf
import Derived.RowKit
import Derived.LaidLaws
import Derived.LaidHandle
import Derived.Stop.Joined
import Derived.Lib.LaidU8
import Derived.Lay
import Derived.Lib.LaidIn
namespace Go.Proofs.YtococaecjecjgaaGreatDoor.mem
open Go.RowKit

structure Gb (w w' : World) : Prop where
  g : Grown w w'
  b : Below w.heap.size w w'

theorem Gb.refl (w : World) : Gb w w := ⟨Grown.refl _, Below.refl _ _⟩
theorem Gb.drew {w w' : World} (h : Gb w w') : Gb w w'.drew := ⟨h.g.drew, h.b.drew⟩
theorem Gb.size {w w' : World} (h : Gb w w') : w.heap.size ≤ w'.heap.size := h.b.size
theorem Gb.alloc {w w' : World} (h : Gb w w') (c : Array Value) (t : TypeId) : Gb w (w'.alloc (.cells c t)) := ⟨h.g.alloc c t, h.b.alloc h.size _⟩
theorem Gb.setCell {w w' : World} (h : Gb w w') {a : Addr} (ha : w.heap.size ≤ a.block) (v : Value) : Gb w (w'.setCell a v) := ⟨h.g.setCell ha v, h.b.setCell ha v⟩
theorem Gb.trans {a b c : World} (h : Gb a b) (k : Gb b c) : Gb a c :=
  ⟨⟨World.keptBut_trans h.g.1 k.g.1, fun x => (k.g.2.1 x).trans (h.g.2.1 x), Nat.le_trans h.g.2.2 k.g.2.2⟩, h.b.trans (k.b.mono h.size)⟩
theorem Gb.drewN {w w' : World} (n : Nat) (h : Gb w w') : Gb w (w'.drewN n) := ⟨h.g, ⟨h.b.os, h.b.tape, h.b.output, h.b.size, h.b.block⟩⟩

def Row (w : World) (e : TypeId) (B : Nat) (zs : List Int) : Prop := w.heap[B]? = some (.cells (zs.map (Value.int .u8)).toArray e (0, 0))

theorem Row.cell {w : World} {e : TypeId} {B : Nat} {zs : List Int} (h : Row w e B zs) {j : Nat} (hj : j < zs.length) : w.cell? ⟨B, j, none⟩ = some (.int .u8 (zs.getD j 0)) := by
  unfold Row at h
  simp [World.cell?, h, hj]
theorem Row.frozen {w : World} {e : TypeId} {B : Nat} {zs : List Int} (h : Row w e B zs) (j : Nat) : w.frozen? ⟨B, j, none⟩ = false := by
  unfold Row at h
  simp [World.frozen?, h]
theorem Row.drew {w : World} {e : TypeId} {B : Nat} {zs : List Int} (h : Row w e B zs) : Row w.drew e B zs := h
theorem Row.set {w : World} {e : TypeId} {B : Nat} {zs : List Int} (h : Row w e B zs) (j : Nat) (v : Int) : Row (w.setCell ⟨B, j, none⟩ (.int .u8 v)) e B (zs.set j v) := by
  unfold Row at h ⊢
  simp [World.setCell, Array.getElem?_modify, h]
theorem Row.made (w : World) (e : TypeId) (n : Nat) : Row (w.alloc (.cells (madeCells #[.int .u8 0] n) e)) e w.heap.size (List.replicate n 0) := by
  have hl : madeCells #[Value.int .u8 0] n = ((List.replicate n (0 : Int)).map (Value.int .u8)).toArray := by
    apply Array.ext'
    rw [toList_madeCells_one]
    simp
  unfold Row
  show (w.heap.push _)[w.heap.size]? = _
  rw [Array.getElem?_push, if_pos rfl, hl]
theorem Row.text {P : Program} {w : World} {e : TypeId} {B : Nat} {zs : List Int} (h : Row w e B zs) {src dst : TypeId} (hs : P.underlying src = some (.slice e)) (he : P.underlying e = some (.int .u8))
    (hd : P.underlying dst = some .string) (n : Nat) (hn : zs.length = n) : (convert src dst (.slice (some ⟨B, 0, none⟩) n n)).run P w = .ok (.string (strOfNums zs)) w :=
  run_convert_bytes_arg w src e hs he B 0 n n zs hn (fun i hi => by rw [Nat.zero_add]; exact h.cell (by omega)) dst hd

def Bl (w w' : World) : Prop := Below w.heap.size w w'
theorem Bl.refl (w : World) : Bl w w := Below.refl _ _
theorem Gb.bl {w w' : World} (h : Gb w w') : Bl w w' := h.b
theorem Bl.size {w w' : World} (h : Bl w w') : w.heap.size ≤ w'.heap.size := Below.size h
theorem Bl.drew {w w' : World} (h : Bl w w') : Bl w w'.drew := Below.drew h
theorem Bl.drewN {w w' : World} (n : Nat) (h : Bl w w') : Bl w (w'.drewN n) := by
  obtain ⟨h1, h2, h3, h4, h5⟩ := h
  exact ⟨h1, h2, h3, h4, h5⟩
theorem Bl.alloc {w w' : World} (h : Bl w w') (o : Obj) : Bl w (w'.alloc o) := Below.alloc h (Bl.size h) o
theorem Bl.setCell {w w' : World} (h : Bl w w') {a : Addr} (ha : w.heap.size ≤ a.block) (v : Value) : Bl w (w'.setCell a v) := Below.setCell h ha v
theorem Bl.trans {a b c : World} (h : Bl a b) (k : Bl b c) : Bl a c := Below.trans h (Below.mono k (Bl.size h))
def Rw (w : World) (e : TypeId) (B : Nat) (zs : List Int) : Prop :=
  ∃ (arr : Array Value) (fr : Nat × Nat), w.heap[B]? = some (.cells arr e fr) ∧ (∀ j, j < zs.length → arr[j]? = some (.int .u8 (zs.getD j 0))) ∧ (zs.length ≤ fr.1 ∨ fr = (0, 0))
theorem Row.rw {w : World} {e : TypeId} {B : Nat} {zs : List Int} (h : Row w e B zs) : Rw w e B zs :=
  ⟨_, _, h, fun j hj => by simp [hj], Or.inr rfl⟩
theorem Rw.cell {w : World} {e : TypeId} {B : Nat} {zs : List Int} (h : Rw w e B zs) {j : Nat} (hj : j < zs.length) : w.cell? ⟨B, j, none⟩ = some (.int .u8 (zs.getD j 0)) := by
  obtain ⟨arr, fr, h1, h2, _⟩ := h
  simp [World.cell?, h1, h2 j hj]
theorem Rw.frozen {w : World} {e : TypeId} {B : Nat} {zs : List Int} (h : Rw w e B zs) {j : Nat} (hj : j < zs.length) : w.frozen? ⟨B, j, none⟩ = false := by
  obtain ⟨arr, fr, h1, _, h3⟩ := h
  rcases h3 with h3 | h3
  · simp [World.frozen?, h1]; omega
  · subst h3
    simp [World.frozen?, h1]
theorem Rw.drew {w : World} {e : TypeId} {B : Nat} {zs : List Int} (h : Rw w e B zs) : Rw w.drew e B zs := h
theorem Rw.drewN {w : World} {e : TypeId} {B : Nat} {zs : List Int} (n : Nat) (h : Rw w e B zs) : Rw (w.drewN n) e B zs := h
theorem Rw.set {w : World} {e : TypeId} {B : Nat} {zs : List Int} (h : Rw w e B zs) (j : Nat) (v : Int) (hj : j < zs.length) : Rw (w.setCell ⟨B, j, none⟩ (.int .u8 v)) e B (zs.set j v) := by
  obtain ⟨arr, fr, h1, h2, h3⟩ := h
  refine ⟨arr.setIfInBounds j (.int .u8 v), fr, ?_, ?_, by rw [List.length_set]; exact h3⟩
  · simp [World.setCell, Array.getElem?_modify, h1]
  · intro i hi
    rw [List.length_set] at hi
    have hs : j < arr.size := by
      rcases Nat.lt_or_ge j arr.size with hlt | hge
      · exact hlt
      · have := h2 j hj
        rw [Array.getElem?_eq_none hge] at this
        cases this
    rw [Array.getElem?_setIfInBounds]
    by_cases e' : j = i
    · subst e'
      simp [hs, hj, List.getD_eq_getElem?_getD]
    · rw [if_neg e', h2 i hi]
      simp [List.getD_eq_getElem?_getD, List.getElem?_set_ne e']
theorem Rw.text {P : Program} {w : World} {e : TypeId} {B : Nat} {zs : List Int} (h : Rw w e B zs) {src dst : TypeId} (hs : P.underlying src = some (.slice e)) (he : P.underlying e = some (.int .u8))
    (hd : P.underlying dst = some .string) (n c : Nat) (hn : zs.length = n) : (convert src dst (.slice (some ⟨B, 0, none⟩) n c)).run P w = .ok (.string (strOfNums zs)) w :=
  run_convert_bytes_arg w src e hs he B 0 n c zs hn (fun i hi => by rw [Nat.zero_add]; exact h.cell (by omega)) dst hd
theorem Rw.of_text (w : World) (e : TypeId) (s : ByteArray) (c : Nat) :
    Rw (w.alloc (.cells (bytesRow s c) e ((bytesRow s c).size, (bytesRow s c).size + 1))) e w.heap.size (s.data.toList.map fun b => (b.toNat : Int)) := by
  refine ⟨bytesRow s c, ((bytesRow s c).size, (bytesRow s c).size + 1), ?_, ?_, Or.inl ?_⟩
  · show (w.heap.push _)[w.heap.size]? = _
    rw [Array.getElem?_push, if_pos rfl]
  · intro j hj
    have hj' : j < s.data.size := by simpa using hj
    rw [bytesRow_at s c j hj']
    simp [List.getD_eq_getElem?_getD]
    rw [Array.getElem?_eq_getElem hj']
    rfl
  · simp [bytesRow]
end Go.Proofs.YtococaecjecjgaaGreatDoor.mem
namespace Go.Proofs.YtococaecjecjgaaGreatDoor.errs
open Go.RowKit Go.Extern.Stop Go.Stop Go.Extern
open mem

def Laid (w : World) : Prop := w.cell? ⟨1, 0, none⟩ = some (.iface 230 (.agg #[.pointer (some ⟨8, 34, none⟩)]))

theorem valueOfP (t : Addr) (w : World) : (ReflectliteValue.unpack (.iface 171 (.pointer (some t)))).run Tryz.prog w
    = .ok (.agg #[.pointer (some ⟨8, 171, none⟩), .pointer (some ⟨w.heap.size, 0, none⟩), .int .u64 150]) (w.alloc (.cells #[.pointer (some t)] 171)) := by kernel_rfl
theorem typeP (a : Addr) (w : World) : (ReflectliteValue.methodAny (ReflectliteValue.valueError "reflectlite.Value.Type" 0) (fun t _ _ _ => ReflectliteType.toType t) #[.agg #[.pointer (some ⟨8, 171, none⟩), .pointer (some a), .int .u64 150]]).run Tryz.prog w
    = .ok (.iface 230 (.agg #[.pointer (some ⟨8, 171, none⟩)])) w := by kernel_rfl
theorem methodKind (h : Value) (w : World) : (Go.method 426 230 (.agg #[h]) "Kind").run Tryz.prog w = .ok (245, h) w := by kernel_rfl
theorem kindP (w : World) : ((ReflectliteType.abiMethod fun t => (fun a : Nat => Value.int IntKind.u8 (a : Int)) <$> Rtype.kind t) #[.pointer (some ⟨8, 171, none⟩)]).run Tryz.prog w = .ok (.int .u8 22) w := by kernel_rfl
theorem kindE (w : World) : ((ReflectliteType.abiMethod fun t => (fun a : Nat => Value.int IntKind.u8 (a : Int)) <$> Rtype.kind t) #[.pointer (some ⟨8, 28, none⟩)]).run Tryz.prog w = .ok (.int .u8 2) w := by kernel_rfl
theorem pair_case {motive : Array Value → Type} (v x : Value) (f : (v x : Value) → motive #[v, x]) (g : (x : Array Value) → motive x) : ReflectliteValue.set.match_3 motive #[v, x] f g = f v x := rfl
theorem one_case {motive : Array Value → Type} (v : Value) (f : (v : Value) → motive #[v]) (g : (x : Array Value) → motive x) : ReflectliteValue.method.match_2 motive #[v] f g = f v := rfl
theorem partsP (a : Addr) (w : World) : (ReflectliteValue.parts (.agg #[.pointer (some ⟨8, 171, none⟩), .pointer (some a), .int .u64 150])).run Tryz.prog w = .ok (some (171, a, 150)) w := by kernel_rfl
theorem isNilP (a p : Addr) (W : World) (ha : W.cell? a = some (.pointer (some p))) :
    (ReflectliteValue.method (ReflectliteValue.valueError "reflectlite.Value.IsNil" 0) ReflectliteValue.isNil #[.agg #[.pointer (some ⟨8, 171, none⟩), .pointer (some a), .int .u64 150]]).run Tryz.prog W = .ok (.bool false) W := by
  delta ReflectliteValue.method
  rw [one_case]
  simp only [Sem.run_bind, partsP, Result.andThen]
  simp [ReflectliteValue.isNil, loadVar, isAgg, underlying, Tryz.underlying171, ha, Result.andThen]
theorem methodElem (h : Value) (w : World) : (Go.method 426 230 (.agg #[h]) "Elem").run Tryz.prog w = .ok (258, .agg #[h]) w := by kernel_rfl
theorem methodImplements (h : Value) (w : World) : (Go.method 426 230 (.agg #[h]) "Implements").run Tryz.prog w = .ok (259, .agg #[h]) w := by kernel_rfl
theorem methodAssignableTo (h : Value) (w : World) : (Go.method 426 230 (.agg #[h]) "AssignableTo").run Tryz.prog w = .ok (256, .agg #[h]) w := by kernel_rfl
theorem elemP (w : World) : (ReflectliteType.method ReflectliteType.elem #[.agg #[.pointer (some ⟨8, 171, none⟩)]]).run Tryz.prog w = .ok (.iface 230 (.agg #[.pointer (some ⟨8, 28, none⟩)])) w := by kernel_rfl
theorem implementsE (w : World) : (ReflectliteType.relation "Implements" ReflectliteType.implements_ #[.agg #[.pointer (some ⟨8, 28, none⟩)], .iface 230 (.agg #[.pointer (some ⟨8, 34, none⟩)])]).run Tryz.prog w = .ok (.bool true) w := by kernel_rfl
theorem typeOfE (v : Value) (w : World) : (ReflectliteType.typeOf #[.iface 28 v]).run Tryz.prog w = .ok (.iface 230 (.agg #[.pointer (some ⟨8, 28, none⟩)])) w := by kernel_rfl
theorem assignableE (w : World) : (ReflectliteType.relation "AssignableTo" ReflectliteType.assignableTo #[.agg #[.pointer (some ⟨8, 28, none⟩)], .iface 230 (.agg #[.pointer (some ⟨8, 28, none⟩)])]).run Tryz.prog w = .ok (.bool true) w := by kernel_rfl
theorem valueOfE (n : Int) (w : World) : (ReflectliteValue.unpack (.iface 28 (.int .i64 n))).run Tryz.prog w
    = .ok (.agg #[.pointer (some ⟨8, 28, none⟩), .pointer (some ⟨w.heap.size, 0, none⟩), .int .u64 130]) (w.alloc (.cells #[.int .i64 n] 28)) := by kernel_rfl
theorem elemOfP (w : World) : (Rtype.elem? 171).run Tryz.prog w = .ok (some 28) w := by kernel_rfl
theorem mkE (p : Addr) (w : World) : (ReflectliteValue.mk 28 p ReflectliteValue.flagAddr).run Tryz.prog w = .ok (.agg #[.pointer (some ⟨8, 28, none⟩), .pointer (some p), .int .u64 386]) w := by kernel_rfl
theorem elemVP (a p : Addr) (W : World) (ha : W.cell? a = some (.pointer (some p))) :
    (ReflectliteValue.method (ReflectliteValue.valueError "reflectlite.Value.Elem" 0) ReflectliteValue.elem #[.agg #[.pointer (some ⟨8, 171, none⟩), .pointer (some a), .int .u64 150]]).run Tryz.prog W
      = .ok (.agg #[.pointer (some ⟨8, 28, none⟩), .pointer (some p), .int .u64 386]) W := by
  delta ReflectliteValue.method
  rw [one_case]
  simp only [Sem.run_bind, partsP, Result.andThen]
  simp [ReflectliteValue.elem, loadVar, isAgg, underlying, Tryz.underlying171, ha, Result.andThen, elemOfP, mkE]
theorem partsEa (a : Addr) (w : World) : (ReflectliteValue.parts (.agg #[.pointer (some ⟨8, 28, none⟩), .pointer (some a), .int .u64 386])).run Tryz.prog w = .ok (some (28, a, 386)) w := by kernel_rfl
theorem partsE (a : Addr) (w : World) : (ReflectliteValue.parts (.agg #[.pointer (some ⟨8, 28, none⟩), .pointer (some a), .int .u64 130])).run Tryz.prog w = .ok (some (28, a, 130)) w := by kernel_rfl
theorem directE (w : World) : (Rtype.directlyAssignable 28 28).run Tryz.prog w = .ok true w := by kernel_rfl
theorem setE (ta b : Addr) (n : Int) (old : Value) (W : World) (hb : W.cell? b = some (.int .i64 n)) (ht : W.cell? ta = some old) (hf : W.frozen? ta = false) :
    (ReflectliteValue.set #[.agg #[.pointer (some ⟨8, 28, none⟩), .pointer (some ta), .int .u64 386], .agg #[.pointer (some ⟨8, 28, none⟩), .pointer (some b), .int .u64 130]]).run Tryz.prog W
      = .ok (.tuple #[]) (W.setCell ta (.int .i64 n)) := by
  delta ReflectliteValue.set
  rw [pair_case]
  simp only [Sem.run_bind, partsEa, partsE, Result.andThen]
  simp [ReflectliteValue.flagAddr, loadVar, isAgg, underlying, Tryz.underlying28, hb, Result.andThen, directE, storeVar, Value.cells, storeCells, Addr.add]
  rw [run_store Tryz.prog W ta _ _ (by rfl)]
  simp [ht, hf]

def asW (w : World) (t : Addr) (n : Int) : World :=
  ((((w.alloc (.cells #[.pointer (some t)] 171)).alloc (.cells #[.pointer (some ⟨8, 171, none⟩), .pointer (some ⟨w.heap.size, 0, none⟩), .int .u64 150] 207)).alloc (.cells #[.pointer (some ⟨8, 171, none⟩), .pointer (some ⟨w.heap.size, 0, none⟩), .int .u64 150] 207)).alloc (.cells #[.int .i64 n] 28)).setCell t (.int .i64 n)

set_option maxHeartbeats 4000000 in
theorem as_hit (n : Int) (t : Addr) (old : Value) (w : World) (hg : Laid w) (ht0 : w.cell? t = some old) (hf0 : w.frozen? t = false) :
    Calls Tryz.prog 92 #[.iface 28 (.int .i64 n), .iface 171 (.pointer (some t))] w fun ev w' => ev = .returned (.bool true) ∧ w' = asW w t n := by
  unfold Laid at hg
  have h6 := @run_callFunc_extern Tryz.prog 121 _ (fun args => ReflectliteValue.unpack (args.getD 0 (.tuple #[]))) Tryz.func121 (by kernel_rfl) (by kernel_rfl) (by kernel_rfl) (by kernel_rfl)
  have h7 := @run_callFunc_extern Tryz.prog 122 _ (ReflectliteValue.methodAny (ReflectliteValue.valueError "reflectlite.Value.Type" 0) (fun t _ _ _ => ReflectliteType.toType t)) Tryz.func122 (by kernel_rfl) (by kernel_rfl) (by kernel_rfl) (by kernel_rfl)
  have h8 := @run_callFunc_extern Tryz.prog 123 _ (ReflectliteValue.method (ReflectliteValue.valueError "reflectlite.Value.IsNil" 0) ReflectliteValue.isNil) Tryz.func123 (by kernel_rfl) (by kernel_rfl) (by kernel_rfl) (by kernel_rfl)
  have h27 := @run_callFunc_extern Tryz.prog 245 _ (ReflectliteType.abiMethod fun t => do pure (.int .u8 (← Rtype.kind t))) Tryz.func245 (by kernel_rfl) (by kernel_rfl) (by kernel_rfl) (by kernel_rfl)
  have h37 := @run_callFunc_extern Tryz.prog 258 _ (ReflectliteType.method ReflectliteType.elem) Tryz.func258 (by kernel_rfl) (by kernel_rfl) (by kernel_rfl) (by kernel_rfl)
  have h38 := @run_callFunc_extern Tryz.prog 259 _ (ReflectliteType.relation "Implements" ReflectliteType.implements_) Tryz.func259 (by kernel_rfl) (by kernel_rfl) (by kernel_rfl) (by kernel_rfl)
  have h10 := @run_callFunc_extern Tryz.prog 151 _ ReflectliteType.typeOf Tryz.func151 (by kernel_rfl) (by kernel_rfl) (by kernel_rfl) (by kernel_rfl)
  have h35 := @run_callFunc_extern Tryz.prog 256 _ (ReflectliteType.relation "AssignableTo" ReflectliteType.assignableTo) Tryz.func256 (by kernel_rfl) (by kernel_rfl) (by kernel_rfl) (by kernel_rfl)
  have h11 := @run_callFunc_extern Tryz.prog 152 _ (ReflectliteValue.method (ReflectliteValue.valueError "reflectlite.Value.Elem" 0) ReflectliteValue.elem) Tryz.func152 (by kernel_rfl) (by kernel_rfl) (by kernel_rfl) (by kernel_rfl)
  have h12 := @run_callFunc_extern Tryz.prog 153 _ ReflectliteValue.set Tryz.func153 (by kernel_rfl) (by kernel_rfl) (by kernel_rfl) (by kernel_rfl)
  have tO := typeOfE
  have mA := methodAssignableTo
  have aE := assignableE
  have vE := valueOfE
  have f6 := valueOfP
  have f7 := typeP
  have mK := methodKind
  have mE := methodElem
  have mI := methodImplements
  have kP := kindP
  have kE := kindE
  have eP := elemP
  have iE := implementsE
  have n8 := isNilP ⟨w.heap.size, 0, none⟩ t ((w.alloc (.cells #[.pointer (some t)] 171)).alloc (.cells #[.pointer (some ⟨8, 171, none⟩), .pointer (some ⟨w.heap.size, 0, none⟩), .int .u64 150] 207)) (by simp)
  have hlt : 1 < w.heap.size := by
    rcases Nat.lt_or_ge 1 w.heap.size with h | h
    · exact h
    · simp [World.cell?, Array.getElem?_eq_none h] at hg
  have hg2 : ((w.alloc (.cells #[.pointer (some t)] 171)).alloc (.cells #[.pointer (some ⟨8, 171, none⟩), .pointer (some ⟨w.heap.size, 0, none⟩), .int .u64 150] 207)).cell? ⟨1, 0, none⟩ = some (.iface 230 (.agg #[.pointer (some ⟨8, 34, none⟩)])) := by
    rw [World.cell?_alloc_lt _ _ ⟨1, 0, none⟩ (by simp <;> omega), World.cell?_alloc_lt _ _ ⟨1, 0, none⟩ hlt]; exact hg
  have htl : t.block < w.heap.size := by
    rcases Nat.lt_or_ge t.block w.heap.size with h | h
    · exact h
    · simp [World.cell?, Array.getElem?_eq_none h] at ht0
  have el := elemVP ⟨w.heap.size, 0, none⟩ t (((w.alloc (.cells #[.pointer (some t)] 171)).alloc (.cells #[.pointer (some ⟨8, 171, none⟩), .pointer (some ⟨w.heap.size, 0, none⟩), .int .u64 150] 207)).alloc (.cells #[.pointer (some ⟨8, 171, none⟩), .pointer (some ⟨w.heap.size, 0, none⟩), .int .u64 150] 207)) (by rw [World.cell?_alloc_lt _ _ ⟨w.heap.size, 0, none⟩ (by simp <;> omega)]; simp)
  have st := setE t ⟨w.heap.size + 1 + 1 + 1, 0, none⟩ n old ((((w.alloc (.cells #[.pointer (some t)] 171)).alloc (.cells #[.pointer (some ⟨8, 171, none⟩), .pointer (some ⟨w.heap.size, 0, none⟩), .int .u64 150] 207)).alloc (.cells #[.pointer (some ⟨8, 171, none⟩), .pointer (some ⟨w.heap.size, 0, none⟩), .int .u64 150] 207)).alloc (.cells #[.int .i64 n] 28))
    (by rw [World.cell?_alloc_at _ _ _ _ (by simp)]; rfl)
    (by rw [World.cell?_alloc_lt _ _ t (by simp <;> omega), World.cell?_alloc_lt _ _ t (by simp <;> omega), World.cell?_alloc_lt _ _ t (by simp <;> omega), World.cell?_alloc_lt _ _ t htl]; exact ht0)
    (by rw [World.frozen?_alloc_old _ _ t (by simp <;> omega), World.frozen?_alloc_old _ _ t (by simp <;> omega), World.frozen?_alloc_old _ _ t (by simp <;> omega), World.frozen?_alloc_old _ _ t (Nat.ne_of_lt htl)]; exact hf0)
  go_enter Tryz.func92, Tryz.ntmps92
  go_wp2
  refine wp_loop_rounds 1 ?_
  rw [rounds_succ]
  go_wp2
  go_ret
  exact ⟨rfl, rfl⟩
end Go.Proofs.YtococaecjecjgaaGreatDoor.errs
namespace Go.Proofs.YtococaecjecjgaaGreatDoor.errs
open Go.RowKit Go.Extern.Stop Go.Stop Go.Extern
open mem

theorem Laid.pos {w : World} (h : Laid w) : 1 < w.heap.size := by
  unfold Laid at h
  rcases Nat.lt_or_ge 1 w.heap.size with h1 | h1
  · exact h1
  · simp [World.cell?, Array.getElem?_eq_none h1] at h
theorem Laid.gb {w w' : World} (h : Laid w) (g : Gb w w') : Laid w' := by
  have hp := h.pos
  unfold Laid at h ⊢
  rw [g.b.cell (p := ⟨1, 0, none⟩) hp]
  exact h

theorem as_new (n : Int) (w : World) (hg : Laid w) :
    Calls Tryz.prog 92 #[.iface 28 (.int .i64 n), .iface 171 (.pointer (some ⟨w.heap.size, 0, none⟩))] (w.alloc (.cells #[.int .i64 0] 28)) fun ev w' => ev = .returned (.bool true) ∧ w'.cell? ⟨w.heap.size, 0, none⟩ = some (.int .i64 n) ∧ Gb w w' := by
  refine (as_hit n ⟨w.heap.size, 0, none⟩ (.int .i64 0) (w.alloc (.cells #[.int .i64 0] 28)) (hg.gb ((Gb.refl w).alloc _ _)) (by simp) (by simp)).mono ?_
  rintro e w' ⟨rfl, rfl⟩
  refine ⟨rfl, ?_, ?_⟩
  · unfold asW
    refine World.cell?_setCell_same (u := .int .i64 0) _ _ _ ?_
    · rw [World.cell?_alloc_lt _ _ _ (by simp; omega), World.cell?_alloc_lt _ _ _ (by simp; omega), World.cell?_alloc_lt _ _ _ (by simp; omega), World.cell?_alloc_lt _ _ _ (by simp)]
      simp
  · unfold asW
    exact (((((((Gb.refl w).alloc _ _).alloc _ _).alloc _ _).alloc _ _).alloc _ _)).setCell (Nat.le_refl _) _

theorem tell_nil (w : World) : Calls Tryz.prog 55 #[.nilIface] w fun e w' => e = .returned (.int .i64 0) ∧ w' = w := by
  go_enter Tryz.func55, Tryz.ntmps55
  go_wp2
  go_ret
  exact ⟨rfl, rfl⟩
theorem tell_errno (n : Int) (w : World) (hg : Laid w) : Calls Tryz.prog 55 #[.iface 28 (.int .i64 n)] w fun e w' => e = .returned (.int .i64 n) ∧ Gb w w' := by
  have H := hg
  clear hg
  go_enter Tryz.func55, Tryz.ntmps55
  go_wp2_with (go_at_call 92; refine (as_new n w H).mono ?_; rintro e w1 ⟨rfl, hc, hgb⟩)
  go_ret
  exact ⟨rfl, hgb⟩
theorem place_nil (w : World) : Calls Tryz.prog 28 #[.nilIface] w fun e w' => e = .returned (.tuple #[.int .i64 0, .int .i64 (-1)]) ∧ w' = w := by
  go_enter Tryz.func28, Tryz.ntmps28
  go_wp2_with (go_at_call 55; refine (tell_nil _).mono ?_; rintro e w1 ⟨rfl, rfl⟩)
  refine wp_loop_rounds 1 ?_
  rw [rounds_succ]
  go_wp2
  go_ret2
  exact ⟨rfl, rfl⟩
theorem noAt (v : Value) (w : World) : (Instr.typeAssert (.iface 28 v) 34 113 true).run Tryz.prog w = .ok (.tuple #[.pointer none, .bool false]) w := by kernel_rfl
theorem noUnwrap (v : Value) (w : World) : (Instr.typeAssert (.iface 28 v) 34 117 true).run Tryz.prog w = .ok (.tuple #[.nilIface, .bool false]) w :=
  run_typeAssert_lacksB Tryz.underlying117 (by kernel_rfl) (by kernel_rfl) v 34 w
theorem place_errno (n : Int) (w : World) (hg : Laid w) : Calls Tryz.prog 28 #[.iface 28 (.int .i64 n)] w fun e w' => e = .returned (.tuple #[.int .i64 n, .int .i64 (-1)]) ∧ Gb w w' := by
  have H := hg
  clear hg
  have nA := noAt
  have nU := noUnwrap
  go_enter Tryz.func28, Tryz.ntmps28
  go_wp2_with (go_at_call 55; refine (tell_errno _ _ H).mono ?_; rintro e w1 ⟨rfl, hgb⟩)
  refine wp_loop_rounds 1 ?_
  rw [rounds_succ]
  go_wp2
  go_ret2
  exact ⟨rfl, hgb⟩
theorem Laid.bl {w w' : World} (h : Laid w) (g : Bl w w') : Laid w' := by
  have hp := h.pos
  unfold Laid at h ⊢
  unfold World.cell? at h ⊢
  rw [Below.block g _ hp]
  exact h
theorem placed_errno (n : Int) (w : World) (hg : Laid w) : Calls Tryz.prog 9 #[.iface 28 (.int .i64 n), .agg #[.int .i64 n, .int .i64 (-1)]] w fun e w' => e = .returned (.bool true) ∧ Gb w w' := by
  have ga : Gb w (w.alloc (.cells #[.int .i64 n, .int .i64 (-1)] 30)) := (Gb.refl w).alloc _ _
  have H := hg.gb ga
  clear hg
  go_enter Tryz.func9, Tryz.ntmps9
  go_wp2_with (go_at_call 28; refine (place_errno n _ H).mono ?_; rintro e w1 ⟨rfl, hgb⟩; have c0 := (hgb.b.cell (p := ⟨w.heap.size, 0, none⟩) (by simp)).trans (show _ = some (Value.int .i64 n) by simp); have c1 := (hgb.b.cell (p := ⟨w.heap.size, 1, none⟩) (by simp)).trans (show _ = some (Value.int .i64 (-1)) by simp))
  go_ret
  exact ⟨by simp, ga.trans hgb⟩
end Go.Proofs.YtococaecjecjgaaGreatDoor.errs
namespace Go.Proofs.YtococaecjecjgaaGreatDoor.laying
open Go.ChangeShapes Go.WideShapes Go.RowKit

def list : List (String × DataW Unit) := [("errors.errorType", Rows.laid_errors_errorType)]
theorem et : Tryz.prog.globalNamed "errors.errorType" = some 1 := by kernel_rfl
theorem rt : (Tryz.prog.cutTypes.find? (·.1 == "internal/reflectlite.rtype")).map (·.2) = some 230 := by kernel_rfl
theorem oneRow : ((List.range 326).filter fun t => Tryz.prog.rowNamed t [101, 114, 114, 111, 114]) = [34] := by kernel_rfl
theorem size : Tryz.prog.types.size = 326 := by kernel_rfl
theorem handle_of_laid {W : World} (h : laidMetH Tryz.prog list W) : errs.Laid W := by
  have h' : laidMet Tryz.prog [] W ∧ handlesMet Tryz.prog list W := h
  obtain ⟨name, u, ty, e1, e2, e3, e4, e5⟩ := h'.2 _ (List.mem_singleton.2 rfl)
  have en : name = [101, 114, 114, 111, 114] := (Option.some.inj e1).symm
  subst en
  obtain rfl := Option.some.inj (rt.symm.trans e2)
  have hm : ty ∈ (List.range 326).filter fun t => Tryz.prog.rowNamed t [101, 114, 114, 111, 114] := List.mem_filter.2 ⟨List.mem_range.2 (by rw [← size]; exact e3), e4⟩
  rw [oneRow] at hm
  obtain rfl := List.mem_singleton.1 hm
  have hh : typeHandle Tryz.prog 34 = .pointer (some ⟨8, 34, none⟩) := by kernel_rfl
  rw [hh] at e5
  unfold errs.Laid
  simpa using World.var?_cell et e5 0
def layCell (w0 : World) : World :=
  { w0 with heap := w0.heap.modify 1 fun
      | .cells _ t frozen => .cells #[.iface 230 (.agg #[.pointer (some ⟨8, 34, none⟩)])] t frozen
      | o => o }
theorem laidWorld_met (os : Os) (args : Array Value) : laidMetH Tryz.prog list ((layCell (World.holding Tryz.prog os ⟨#[], #[], []⟩)).forCall (fun _ _ => 0) ⟨#[], args, []⟩).memory :=
  laidMetH_of_parts (laidMet_nil _ _) (by kernel_rfl)
end Go.Proofs.YtococaecjecjgaaGreatDoor.laying
namespace Go.Proofs.YtococaecjecjgaaGreatDoor.laidv
open Go.ChangeShapes Go.WideShapes Go.RowKit

def list : List (String × DataW Unit) := [("errors.errorType", Rows.laid_errors_errorType)]
def plain : List (String × DataW Unit) := []
theorem of_laid {W : World} (h : laidMetH Tryz.prog list W) : errs.Laid W := laying.handle_of_laid h
theorem world_met (os : Os) (args : Array Value) : laidMetH Tryz.prog list ((World.layVars Tryz.prog (laying.layCell (World.holding Tryz.prog os ⟨#[], #[], []⟩)) plain).forCall (fun _ _ => 0) ⟨#[], args, []⟩).memory :=
  laying.laidWorld_met os args
end Go.Proofs.YtococaecjecjgaaGreatDoor.laidv
