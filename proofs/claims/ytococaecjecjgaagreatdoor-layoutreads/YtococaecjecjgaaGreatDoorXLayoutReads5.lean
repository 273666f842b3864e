/- Texts laid together: Digs1, Digs2, Digs3, AsAt, TellAt. -/
import Derived.Test.YtococaecjecjgaaGreatDoorRows
import Derived.Test.YtococaecjecjgaaGreatDoorXLayoutReads1
import Derived.Test.YtococaecjecjgaaGreatDoorXLayoutReads4
import Derived.WalkLawsBesides
import Derived.WalkSpells
namespace Go.Proofs.YtococaecjecjgaaGreatDoor.digs
open Go.ChangeShapes Go.WideShapes Go.ChangeAt Go.RowKit
open mem dig

theorem ret_int {k : IntKind} {a b : Int} (h : a = b) : Ending.returned (.int k a) = .returned (.int k b) := by rw [h]
def okB (b : Int) : Prop := 2 ≤ b ∧ b ≤ 16
end Go.Proofs.YtococaecjecjgaaGreatDoor.digs
namespace Go.Proofs.YtococaecjecjgaaGreatDoor.digs
open Go.ChangeShapes Go.WideShapes Go.ChangeAt Go.RowKit
open mem dig

theorem isEmpty_at (s : ByteArray) : s.toList.isEmpty = decide (s.size = 0) := by
  rw [ByteArray.toList_eq]
  have e : s.size = s.data.toList.length := rfl
  rw [e]
  cases s.data.toList <;> simp
def Parsed (b : Int) (s : ByteArray) (v : Nat) (e : Int) : Prop :=
  (¬ okB b ∧ v = 0 ∧ e = 1) ∨ (okB b ∧ ¬ okD b.toNat s ∧ v = 0 ∧ e = 3) ∨ (okB b ∧ okD b.toNat s ∧ 18446744073709551616 ≤ pv b.toNat s s.size ∧ v = 0 ∧ e = 2) ∨
    (okB b ∧ okD b.toNat s ∧ pv b.toNat s s.size < 18446744073709551616 ∧ v = pv b.toNat s s.size ∧ e = 0)
theorem parsed_some (b : Int) (s : ByteArray) : ∃ v e, Parsed b s v e := by
  by_cases h1 : okB b
  · by_cases h2 : okD b.toNat s
    · by_cases h3 : 18446744073709551616 ≤ pv b.toNat s s.size
      · exact ⟨0, 2, Or.inr (Or.inr (Or.inl ⟨h1, h2, h3, rfl, rfl⟩))⟩
      · exact ⟨_, 0, Or.inr (Or.inr (Or.inr ⟨h1, h2, by omega, rfl, rfl⟩))⟩
    · exact ⟨0, 3, Or.inr (Or.inl ⟨h1, h2, rfl, rfl⟩)⟩
  · exact ⟨0, 1, Or.inl ⟨h1, rfl, rfl⟩⟩
theorem Parsed.bd {b : Int} {s : ByteArray} {v : Nat} {e : Int} (h : Parsed b s v e) : v < 18446744073709551616 ∧ 0 ≤ e ∧ e ≤ 3 := by
  rcases h with ⟨_, rfl, rfl⟩ | ⟨_, _, rfl, rfl⟩ | ⟨_, _, _, rfl, rfl⟩ | ⟨_, _, h, rfl, rfl⟩ <;> omega
end Go.Proofs.YtococaecjecjgaaGreatDoor.digs
namespace Go.Proofs.YtococaecjecjgaaGreatDoor.digs
open Go.ChangeShapes Go.WideShapes Go.ChangeAt Go.RowKit
open mem dig

def pre (s p : ByteArray) : Bool := decide (p.size ≤ s.size) && ((s.extract 0 p.size).toList == p.toList)
def rest (s p : ByteArray) (b : Bool) : ByteArray := if b then s.extract p.size s.size else s
theorem rest_size (s p : ByteArray) (b : Bool) : (rest s p b).size ≤ s.size := by
  unfold rest
  cases b
  · simp
  · simp [ByteArray.size_extract]
def px : ByteArray := ⟨#[48, 120]⟩
def pb : ByteArray := ⟨#[48, 98]⟩
def pm : ByteArray := ⟨#[45]⟩
def Based (s t : ByteArray) (b : Int) : Prop :=
  (pre s px = true ∧ t = rest s px true ∧ b = 16) ∨ (pre s px = false ∧ pre s pb = true ∧ t = rest s pb true ∧ b = 2) ∨ (pre s px = false ∧ pre s pb = false ∧ t = s ∧ b = 10)
theorem based_some (s : ByteArray) : ∃ t b, Based s t b := by
  cases h1 : pre s px
  · cases h2 : pre s pb
    · exact ⟨s, 10, Or.inr (Or.inr ⟨h1, h2, rfl, rfl⟩)⟩
    · exact ⟨_, 2, Or.inr (Or.inl ⟨h1, h2, rfl, rfl⟩)⟩
  · exact ⟨_, 16, Or.inl ⟨h1, rfl, rfl⟩⟩
theorem Based.size {s t : ByteArray} {b : Int} (h : Based s t b) : t.size ≤ s.size := by
  rcases h with ⟨_, rfl, _⟩ | ⟨_, _, rfl, _⟩ | ⟨_, _, rfl, _⟩
  · exact rest_size _ _ _
  · exact rest_size _ _ _
  · exact Nat.le_refl _
def Told (n : Bool) (v : Nat) (f : Int) (m e : Int) : Prop :=
  (f ≠ 0 ∧ m = 0 ∧ e = f) ∨ (f = 0 ∧ (9223372036854775808 < v ∨ (v = 9223372036854775808 ∧ n = false)) ∧ m = 0 ∧ e = 2) ∨
    (f = 0 ∧ v ≤ 9223372036854775808 ∧ (v = 9223372036854775808 → n = true) ∧ m = (if n then -(v : Int) else (v : Int)) ∧ e = 0)
theorem told_some (n : Bool) (v : Nat) (f : Int) : ∃ m e, Told n v f m e := by
  by_cases h1 : f = 0
  · by_cases h2 : 9223372036854775808 < v ∨ (v = 9223372036854775808 ∧ n = false)
    · exact ⟨0, 2, Or.inr (Or.inl ⟨h1, h2, rfl, rfl⟩)⟩
    · refine ⟨_, 0, Or.inr (Or.inr ⟨h1, by omega, fun hv => ?_, rfl, rfl⟩)⟩
      cases n
      · exact absurd (Or.inr ⟨hv, rfl⟩) h2
      · rfl
  · exact ⟨0, f, Or.inl ⟨h1, rfl, rfl⟩⟩
def Numbered (s : ByteArray) (m e : Int) : Prop := ∃ n t b v f, pre s pm = n ∧ Based (rest s pm n) t b ∧ Parsed b t v f ∧ Told n v f m e
theorem numbered_some (s : ByteArray) : ∃ m e, Numbered s m e := by
  obtain ⟨t, b, hb⟩ := based_some (rest s pm (pre s pm))
  obtain ⟨v, f, hp⟩ := parsed_some b t
  obtain ⟨m, e, ht⟩ := told_some (pre s pm) v f
  exact ⟨m, e, _, t, b, v, f, rfl, hb, hp, ht⟩
end Go.Proofs.YtococaecjecjgaaGreatDoor.digs
namespace Go.Proofs.YtococaecjecjgaaGreatDoor.errs
open Go.RowKit Go.Extern.Stop Go.Stop Go.Extern
open mem
theorem typeOfA (v : Value) (w : World) : (ReflectliteType.typeOf #[.iface 113 v]).run Tryz.prog w = .ok (.iface 230 (.agg #[.pointer (some ⟨8, 113, none⟩)])) w := by kernel_rfl
theorem assignableA (w : World) : (ReflectliteType.relation "AssignableTo" ReflectliteType.assignableTo #[.agg #[.pointer (some ⟨8, 113, none⟩)], .iface 230 (.agg #[.pointer (some ⟨8, 28, none⟩)])]).run Tryz.prog w = .ok (.bool false) w := by kernel_rfl
theorem noAsA (v : Value) (w : World) : (Instr.typeAssert (.iface 113 v) 34 235 true).run Tryz.prog w = .ok (.tuple #[.nilIface, .bool false]) w :=
  run_typeAssert_lacksB Tryz.underlying235 (by kernel_rfl) (by kernel_rfl) v 34 w
theorem unwrapA (v : Value) (w : World) : (Instr.typeAssert (.iface 113 v) 34 117 true).run Tryz.prog w = .ok (.tuple #[.iface 113 v, .bool true]) w :=
  run_typeAssert_hasB Tryz.underlying117 (by kernel_rfl) v 34 w
theorem methodUnwrapA (p : Addr) (w : World) : (Go.method 426 113 (.pointer (some p)) "Unwrap").run Tryz.prog w = .ok (251, .pointer (some p)) w := by kernel_rfl
set_option maxHeartbeats 4000000 in
theorem as_at (n : Int) (b : Nat) (t : Addr) (old : Value) (w : World) (hg : Laid w) (ht0 : w.cell? t = some old) (hf0 : w.frozen? t = false) (hp0 : w.cell? ⟨b, 0, none⟩ = some (.int .i64 n)) :
    Calls Tryz.prog 92 #[.iface 113 (.pointer (some ⟨b, 0, none⟩)), .iface 171 (.pointer (some t))] w fun ev w' => ev = .returned (.bool true) ∧ w' = asW w t n := by
  unfold Laid at hg
  have h6 := @run_callFunc_extern Tryz.prog 121 _ (fun args => ReflectliteValue.unpack (args.getD 0 (.tuple #[]))) Tryz.func121 (by kernel_rfl) (by kernel_rfl) (by kernel_rfl) (by kernel_rfl)
  have h7 := @run_callFunc_extern Tryz.prog 122 _ (ReflectliteValue.methodAny (ReflectliteValue.valueError "reflectlite.Value.Type" 0) (fun t _ _ _ => ReflectliteType.toType t)) Tryz.func122 (by kernel_rfl) (by kernel_rfl) (by kernel_rfl) (by kernel_rfl)
  have h8 := @run_callFunc_extern Tryz.prog 123 _ (ReflectliteValue.method (ReflectliteValue.valueError "reflectlite.Value.IsNil" 0) ReflectliteValue.isNil) Tryz.func123 (by kernel_rfl) (by kernel_rfl) (by kernel_rfl) (by kernel_rfl)
  have h27 := @run_callFunc_extern Tryz.prog 245 _ (ReflectliteType.abiMethod fun t => do pure (.int .u8 (← Rtype.kind t))) Tryz.func245 (by kernel_rfl) (by kernel_rfl) (by kernel_rfl) (by kernel_rfl)
  have h37 := @run_callFunc_extern Tryz.prog 258 _ (ReflectliteType.method ReflectliteType.elem) Tryz.func258 (by kernel_rfl) (by kernel_rfl) (by kernel_rfl) (by kernel_rfl)
  have h38 := @run_callFunc_extern Tryz.prog 259 _ (ReflectliteType.relation "Implements" ReflectliteType.implements_) Tryz.func259 (by kernel_rfl) (by kernel_rfl) (by kernel_rfl) (by kernel_rfl)
  have h10 := @run_callFunc_extern Tryz.prog 151 _ ReflectliteType.typeOf Tryz.func151 (by kernel_rfl) (by kernel_rfl) (by kernel_rfl) (by kernel_rfl)
  have h35 := @run_callFunc_extern Tryz.prog 256 _ (ReflectliteType.relation "AssignableTo" ReflectliteType.assignableTo) Tryz.func256 (by kernel_rfl) (by kernel_rfl) (by kernel_rfl) (by kernel_rfl)
  have h11 := @run_callFunc_extern Tryz.prog 152 _ (ReflectliteValue.method (ReflectliteValue.valueError "reflectlite.Value.Elem" 0) ReflectliteValue.elem) Tryz.func152 (by kernel_rfl) (by kernel_rfl) (by kernel_rfl) (by kernel_rfl)
  have h12 := @run_callFunc_extern Tryz.prog 153 _ ReflectliteValue.set Tryz.func153 (by kernel_rfl) (by kernel_rfl) (by kernel_rfl) (by kernel_rfl)
  have tO := typeOfE
  have mA := methodAssignableTo
  have aE := assignableE
  have vE := valueOfE
  have f6 := valueOfP
  have f7 := typeP
  have mK := methodKind
  have mE := methodElem
  have mI := methodImplements
  have kP := kindP
  have kE := kindE
  have eP := elemP
  have iE := implementsE
  have n8 := isNilP ⟨w.heap.size, 0, none⟩ t ((w.alloc (.cells #[.pointer (some t)] 171)).alloc (.cells #[.pointer (some ⟨8, 171, none⟩), .pointer (some ⟨w.heap.size, 0, none⟩), .int .u64 150] 207)) (by simp)
  have hlt : 1 < w.heap.size := by
    rcases Nat.lt_or_ge 1 w.heap.size with h | h
    · exact h
    · simp [World.cell?, Array.getElem?_eq_none h] at hg
  have hg2 : ((w.alloc (.cells #[.pointer (some t)] 171)).alloc (.cells #[.pointer (some ⟨8, 171, none⟩), .pointer (some ⟨w.heap.size, 0, none⟩), .int .u64 150] 207)).cell? ⟨1, 0, none⟩ = some (.iface 230 (.agg #[.pointer (some ⟨8, 34, none⟩)])) := by
    rw [World.cell?_alloc_lt _ _ ⟨1, 0, none⟩ (by simp <;> omega), World.cell?_alloc_lt _ _ ⟨1, 0, none⟩ hlt]; exact hg
  have htl : t.block < w.heap.size := by
    rcases Nat.lt_or_ge t.block w.heap.size with h | h
    · exact h
    · simp [World.cell?, Array.getElem?_eq_none h] at ht0
  have el := elemVP ⟨w.heap.size, 0, none⟩ t (((w.alloc (.cells #[.pointer (some t)] 171)).alloc (.cells #[.pointer (some ⟨8, 171, none⟩), .pointer (some ⟨w.heap.size, 0, none⟩), .int .u64 150] 207)).alloc (.cells #[.pointer (some ⟨8, 171, none⟩), .pointer (some ⟨w.heap.size, 0, none⟩), .int .u64 150] 207)) (by rw [World.cell?_alloc_lt _ _ ⟨w.heap.size, 0, none⟩ (by simp <;> omega)]; simp)
  have st := setE t ⟨w.heap.size + 1 + 1 + 1, 0, none⟩ n old ((((w.alloc (.cells #[.pointer (some t)] 171)).alloc (.cells #[.pointer (some ⟨8, 171, none⟩), .pointer (some ⟨w.heap.size, 0, none⟩), .int .u64 150] 207)).alloc (.cells #[.pointer (some ⟨8, 171, none⟩), .pointer (some ⟨w.heap.size, 0, none⟩), .int .u64 150] 207)).alloc (.cells #[.int .i64 n] 28))
    (by rw [World.cell?_alloc_at _ _ _ _ (by simp)]; rfl)
    (by rw [World.cell?_alloc_lt _ _ t (by simp <;> omega), World.cell?_alloc_lt _ _ t (by simp <;> omega), World.cell?_alloc_lt _ _ t (by simp <;> omega), World.cell?_alloc_lt _ _ t htl]; exact ht0)
    (by rw [World.frozen?_alloc_old _ _ t (by simp <;> omega), World.frozen?_alloc_old _ _ t (by simp <;> omega), World.frozen?_alloc_old _ _ t (by simp <;> omega), World.frozen?_alloc_old _ _ t (Nat.ne_of_lt htl)]; exact hf0)
  have tA := typeOfA
  have aA := assignableA
  have nA := noAsA
  have uA := unwrapA
  have mU := methodUnwrapA
  have hbl : b < w.heap.size := by
    rcases Nat.lt_or_ge b w.heap.size with h | h
    · exact h
    · simp [World.cell?, Array.getElem?_eq_none h] at hp0
  have hpc : (((w.alloc (.cells #[.pointer (some t)] 171)).alloc (.cells #[.pointer (some ⟨8, 171, none⟩), .pointer (some ⟨w.heap.size, 0, none⟩), .int .u64 150] 207)).alloc (.cells #[.pointer (some ⟨8, 171, none⟩), .pointer (some ⟨w.heap.size, 0, none⟩), .int .u64 150] 207)).cell? ⟨b, 0, none⟩ = some (.int .i64 n) := by
    rw [World.cell?_alloc_lt _ _ ⟨b, 0, none⟩ (by simp <;> omega), World.cell?_alloc_lt _ _ ⟨b, 0, none⟩ (by simp <;> omega), World.cell?_alloc_lt _ _ ⟨b, 0, none⟩ hbl]; exact hp0
  go_enter Tryz.func92, Tryz.ntmps92
  go_wp2
  refine wp_loop_rounds 2 ?_
  rw [rounds_succ]
  go_wp2
  rw [rounds_succ]
  go_wp2
  go_ret
  exact ⟨rfl, rfl⟩
end Go.Proofs.YtococaecjecjgaaGreatDoor.errs
namespace Go.Proofs.YtococaecjecjgaaGreatDoor.errs
open Go.RowKit Go.Extern.Stop Go.Stop Go.Extern
open mem
theorem cell_lt {w : World} {a : Addr} {v : Value} (h : w.cell? a = some v) : a.block < w.heap.size := by
  rcases Nat.lt_or_ge a.block w.heap.size with h1 | h1
  · exact h1
  · simp [World.cell?, Array.getElem?_eq_none h1] at h
theorem cell_gb {w w' : World} (g : Gb w w') {a : Addr} {v : Value} (h : w.cell? a = some v) : w'.cell? a = some v := by
  rw [g.b.cell (p := a) (cell_lt h)]; exact h
theorem as_newAt (n : Int) (b : Nat) (w : World) (hg : Laid w) (hp : w.cell? ⟨b, 0, none⟩ = some (.int .i64 n)) :
    Calls Tryz.prog 92 #[.iface 113 (.pointer (some ⟨b, 0, none⟩)), .iface 171 (.pointer (some ⟨w.heap.size, 0, none⟩))] (w.alloc (.cells #[.int .i64 0] 28)) fun ev w' => ev = .returned (.bool true) ∧ w'.cell? ⟨w.heap.size, 0, none⟩ = some (.int .i64 n) ∧ Gb w w' := by
  refine (as_at n b ⟨w.heap.size, 0, none⟩ (.int .i64 0) (w.alloc (.cells #[.int .i64 0] 28)) (hg.gb ((Gb.refl w).alloc _ _)) (by simp) (by simp) (cell_gb ((Gb.refl w).alloc _ _) hp)).mono ?_
  rintro e w' ⟨rfl, rfl⟩
  refine ⟨rfl, ?_, ?_⟩
  · unfold asW
    refine World.cell?_setCell_same (u := .int .i64 0) _ _ _ ?_
    · rw [World.cell?_alloc_lt _ _ _ (by simp; omega), World.cell?_alloc_lt _ _ _ (by simp; omega), World.cell?_alloc_lt _ _ _ (by simp; omega), World.cell?_alloc_lt _ _ _ (by simp)]
      simp
  · unfold asW
    exact (((((((Gb.refl w).alloc _ _).alloc _ _).alloc _ _).alloc _ _).alloc _ _)).setCell (Nat.le_refl _) _
theorem tell_at (n : Int) (b : Nat) (w : World) (hg : Laid w) (hp : w.cell? ⟨b, 0, none⟩ = some (.int .i64 n)) : Calls Tryz.prog 55 #[.iface 113 (.pointer (some ⟨b, 0, none⟩))] w fun e w' => e = .returned (.int .i64 n) ∧ Gb w w' := by
  have H := hg
  have HP : Hid (w.cell? ⟨b, 0, none⟩ = some (.int .i64 n)) := hp
  clear hg hp
  go_enter Tryz.func55, Tryz.ntmps55
  go_wp2_with (go_at_call 92; refine (as_newAt n b w H HP.out).mono ?_; rintro e w1 ⟨rfl, hc, hgb⟩)
  go_ret
  exact ⟨rfl, hgb⟩
theorem isAt (v : Value) (w : World) : (Instr.typeAssert (.iface 113 v) 34 113 true).run Tryz.prog w = .ok (.tuple #[v, .bool true]) w := by kernel_rfl
theorem place_at (n p : Int) (b : Nat) (w : World) (hg : Laid w) (h0 : w.cell? ⟨b, 0, none⟩ = some (.int .i64 n)) (h1 : w.cell? ⟨b, 1, none⟩ = some (.int .i64 p)) :
    Calls Tryz.prog 28 #[.iface 113 (.pointer (some ⟨b, 0, none⟩))] w fun e w' => e = .returned (.tuple #[.int .i64 n, .int .i64 p]) ∧ Gb w w' := by
  have H := hg
  have iA := isAt
  have H0 : Hid (w.cell? ⟨b, 0, none⟩ = some (.int .i64 n)) := h0
  have H1 : Hid (w.cell? ⟨b, 1, none⟩ = some (.int .i64 p)) := h1
  clear hg h0 h1
  go_enter Tryz.func28, Tryz.ntmps28
  go_wp2_with (go_at_call 55; refine (tell_at n b _ H H0.out).mono ?_; rintro e w1 ⟨rfl, hgb⟩; have c1 := cell_gb hgb H1.out)
  refine wp_loop_rounds 1 ?_
  rw [rounds_succ]
  go_wp2
  go_region
  all_goals go_wp2
  all_goals go_ret2
  all_goals exact ⟨rfl, hgb.drew⟩
theorem placed_at (n p : Int) (b : Nat) (w : World) (hg : Laid w) (h0 : w.cell? ⟨b, 0, none⟩ = some (.int .i64 n)) (h1 : w.cell? ⟨b, 1, none⟩ = some (.int .i64 p)) :
    Calls Tryz.prog 9 #[.iface 113 (.pointer (some ⟨b, 0, none⟩)), .agg #[.int .i64 n, .int .i64 p]] w fun e w' => e = .returned (.bool true) ∧ Gb w w' := by
  have ga : Gb w (w.alloc (.cells #[.int .i64 n, .int .i64 p] 30)) := (Gb.refl w).alloc _ _
  have H := hg.gb ga
  have H0 : Hid ((w.alloc (.cells #[.int .i64 n, .int .i64 p] 30)).cell? ⟨b, 0, none⟩ = some (.int .i64 n)) := cell_gb ga h0
  have H1 : Hid ((w.alloc (.cells #[.int .i64 n, .int .i64 p] 30)).cell? ⟨b, 1, none⟩ = some (.int .i64 p)) := cell_gb ga h1
  clear hg h0 h1
  go_enter Tryz.func9, Tryz.ntmps9
  go_wp2_with (go_at_call 28; refine (place_at n p b _ H H0.out H1.out).mono ?_; rintro e w1 ⟨rfl, hgb⟩; have c0 := cell_gb hgb (a := ⟨w.heap.size, 0, none⟩) (v := .int .i64 n) (by simp); have c1 := cell_gb hgb (a := ⟨w.heap.size, 1, none⟩) (v := .int .i64 p) (by simp))
  go_ret
  exact ⟨by simp, ga.trans hgb⟩
theorem placed_nil (w : World) : Calls Tryz.prog 9 #[.nilIface, .agg #[.int .i64 0, .int .i64 (-1)]] w fun e w' => e = .returned (.bool true) ∧ Gb w w' := by
  go_enter Tryz.func9, Tryz.ntmps9
  go_wp2_with (go_at_call 28; refine (place_nil _).mono ?_; rintro e w1 ⟨rfl, rfl⟩)
  go_ret
  exact ⟨by simp, (Gb.refl _).alloc _ _⟩
end Go.Proofs.YtococaecjecjgaaGreatDoor.errs
