/- Texts laid together: Digs2, Digs3, As, Bare. -/
import Derived.Test.YtpanodaecjlgaaaZ6
import Derived.WalkSpells
import Derived.Test.YtpanodaecjlgaaaRows
import Derived.WalkKit
import Derived.LaidEql
import Derived.Stop.Asserts
import Derived.RowKitTokens
import Derived.Test.YtpanodaecjlgaaaZ1
import Derived.WalkLawsBesides
/- What Parse of package digits answers. -/
namespace Go.Proofs.Ytpanodaecjlgaaa.digs
open Go.ChangeShapes Go.WideShapes Go.ChangeAt Go.RowKit
open mem dig

theorem isEmpty_at (s : ByteArray) : s.toList.isEmpty = decide (s.size = 0) := by
  rw [ByteArray.toList_eq]
  have e : s.size = s.data.toList.length := rfl
  rw [e]
  cases s.data.toList <;> simp
/-- An error, as it is told: none for 0. -/
def errI (e : Int) : Value := if e = 0 then .nilIface else .iface 30 (.int .i64 e)
/-- What Parse answers: the number, and which error. -/
def Parsed (b : Int) (s : ByteArray) (v : Nat) (e : Int) : Prop :=
  (¬ okB b ∧ v = 0 ∧ e = 1) ∨ (okB b ∧ ¬ okD b.toNat s ∧ v = 0 ∧ e = 3) ∨ (okB b ∧ okD b.toNat s ∧ 18446744073709551616 ≤ pv b.toNat s s.size ∧ v = 0 ∧ e = 2) ∨
    (okB b ∧ okD b.toNat s ∧ pv b.toNat s s.size < 18446744073709551616 ∧ v = pv b.toNat s s.size ∧ e = 0)
theorem parsed_some (b : Int) (s : ByteArray) : ∃ v e, Parsed b s v e := by
  by_cases h1 : okB b
  · by_cases h2 : okD b.toNat s
    · by_cases h3 : 18446744073709551616 ≤ pv b.toNat s s.size
      · exact ⟨0, 2, Or.inr (Or.inr (Or.inl ⟨h1, h2, h3, rfl, rfl⟩))⟩
      · exact ⟨_, 0, Or.inr (Or.inr (Or.inr ⟨h1, h2, by omega, rfl, rfl⟩))⟩
    · exact ⟨0, 3, Or.inr (Or.inl ⟨h1, h2, rfl, rfl⟩)⟩
  · exact ⟨0, 1, Or.inl ⟨h1, rfl, rfl⟩⟩
theorem Parsed.bd {b : Int} {s : ByteArray} {v : Nat} {e : Int} (h : Parsed b s v e) : v < 18446744073709551616 ∧ 0 ≤ e ∧ e ≤ 3 := by
  rcases h with ⟨_, rfl, rfl⟩ | ⟨_, _, rfl, rfl⟩ | ⟨_, _, _, rfl, rfl⟩ | ⟨_, _, h, rfl, rfl⟩ <;> omega
end Go.Proofs.Ytpanodaecjlgaaa.digs
/- What Number of package digits answers. -/
namespace Go.Proofs.Ytpanodaecjlgaaa.digs
open Go.ChangeShapes Go.WideShapes Go.ChangeAt Go.RowKit
open mem dig

/-- Does a text begin so? -/
def pre (s p : ByteArray) : Bool := decide (p.size ≤ s.size) && ((s.extract 0 p.size).toList == p.toList)
def rest (s p : ByteArray) (b : Bool) : ByteArray := if b then s.extract p.size s.size else s
theorem rest_size (s p : ByteArray) (b : Bool) : (rest s p b).size ≤ s.size := by
  unfold rest
  cases b
  · simp
  · simp [ByteArray.size_extract]
def px : ByteArray := ⟨#[48, 120]⟩
def pb : ByteArray := ⟨#[48, 98]⟩
def pm : ByteArray := ⟨#[45]⟩
/-- What stands behind what tells a base, and that base. -/
def Based (s t : ByteArray) (b : Int) : Prop :=
  (pre s px = true ∧ t = rest s px true ∧ b = 16) ∨ (pre s px = false ∧ pre s pb = true ∧ t = rest s pb true ∧ b = 2) ∨ (pre s px = false ∧ pre s pb = false ∧ t = s ∧ b = 10)
theorem based_some (s : ByteArray) : ∃ t b, Based s t b := by
  cases h1 : pre s px
  · cases h2 : pre s pb
    · exact ⟨s, 10, Or.inr (Or.inr ⟨h1, h2, rfl, rfl⟩)⟩
    · exact ⟨_, 2, Or.inr (Or.inl ⟨h1, h2, rfl, rfl⟩)⟩
  · exact ⟨_, 16, Or.inl ⟨h1, rfl, rfl⟩⟩
theorem Based.size {s t : ByteArray} {b : Int} (h : Based s t b) : t.size ≤ s.size := by
  rcases h with ⟨_, rfl, _⟩ | ⟨_, _, rfl, _⟩ | ⟨_, _, rfl, _⟩
  · exact rest_size _ _ _
  · exact rest_size _ _ _
  · exact Nat.le_refl _
/-- What Number answers: of the sign, the number, and Parse's error: the number, and which error. -/
def Told (n : Bool) (v : Nat) (f : Int) (m e : Int) : Prop :=
  (f ≠ 0 ∧ m = 0 ∧ e = f) ∨ (f = 0 ∧ (9223372036854775808 < v ∨ (v = 9223372036854775808 ∧ n = false)) ∧ m = 0 ∧ e = 2) ∨
    (f = 0 ∧ v ≤ 9223372036854775808 ∧ (v = 9223372036854775808 → n = true) ∧ m = (if n then -(v : Int) else (v : Int)) ∧ e = 0)
theorem told_some (n : Bool) (v : Nat) (f : Int) : ∃ m e, Told n v f m e := by
  by_cases h1 : f = 0
  · by_cases h2 : 9223372036854775808 < v ∨ (v = 9223372036854775808 ∧ n = false)
    · exact ⟨0, 2, Or.inr (Or.inl ⟨h1, h2, rfl, rfl⟩)⟩
    · refine ⟨_, 0, Or.inr (Or.inr ⟨h1, by omega, fun hv => ?_, rfl, rfl⟩)⟩
      cases n
      · exact absurd (Or.inr ⟨hv, rfl⟩) h2
      · rfl
  · exact ⟨0, f, Or.inl ⟨h1, rfl, rfl⟩⟩
def Numbered (s : ByteArray) (m e : Int) : Prop := ∃ n t b v f, pre s pm = n ∧ Based (rest s pm n) t b ∧ Parsed b t v f ∧ Told n v f m e
theorem numbered_some (s : ByteArray) : ∃ m e, Numbered s m e := by
  obtain ⟨t, b, hb⟩ := based_some (rest s pm (pre s pm))
  obtain ⟨v, f, hp⟩ := parsed_some b t
  obtain ⟨m, e, ht⟩ := told_some (pre s pm) v f
  exact ⟨m, e, _, t, b, v, f, rfl, hb, hp, ht⟩
theorem ret_pair {a b : Int} {x : Value} (h : a = b) : Ending.returned (.tuple #[.int .i64 a, x]) = .returned (.tuple #[.int .i64 b, x]) := by rw [h]
end Go.Proofs.Ytpanodaecjlgaaa.digs
/- What errors.As, api.Tell, plain.Place and bare answer at no error and at an Errno: after the guide's worked errors.As, at a target of type Errno. -/
namespace Go.Proofs.Ytpanodaecjlgaaa.errs
open Go.RowKit Go.Extern.Stop Go.Stop Go.Extern
open mem

theorem kindE (w : World) : ((ReflectliteType.abiMethod fun t => (fun a : Nat => Value.int IntKind.u8 (a : Int)) <$> Rtype.kind t) #[.pointer (some ⟨1, 30, none⟩)]).run Try.prog w = .ok (.int .u8 2) w := by kernel_rfl
/-- A list of one value, or of two, is taken apart as it stands. -/
theorem pair_case {motive : Array Value → Type} (v x : Value) (f : (v x : Value) → motive #[v, x]) (g : (x : Array Value) → motive x) : ReflectliteValue.set.match_3 motive #[v, x] f g = f v x := rfl
theorem one_case {motive : Array Value → Type} (v : Value) (f : (v : Value) → motive #[v]) (g : (x : Array Value) → motive x) : ReflectliteValue.method.match_2 motive #[v] f g = f v := rfl
theorem valueOfE (n : Int) (w : World) : (ReflectliteValue.unpack (.iface 30 (.int .i64 n))).run Try.prog w
    = .ok (.agg #[.pointer (some ⟨1, 30, none⟩), .pointer (some ⟨w.heap.size, 0, none⟩), .int .u64 130]) (w.alloc (.cells #[.int .i64 n] 30)) := by kernel_rfl
theorem mkE (p : Addr) (w : World) : (ReflectliteValue.mk 30 p ReflectliteValue.flagAddr).run Try.prog w = .ok (.agg #[.pointer (some ⟨1, 30, none⟩), .pointer (some p), .int .u64 386]) w := by kernel_rfl
theorem partsEa (a : Addr) (w : World) : (ReflectliteValue.parts (.agg #[.pointer (some ⟨1, 30, none⟩), .pointer (some a), .int .u64 386])).run Try.prog w = .ok (some (30, a, 386)) w := by kernel_rfl
theorem partsE (a : Addr) (w : World) : (ReflectliteValue.parts (.agg #[.pointer (some ⟨1, 30, none⟩), .pointer (some a), .int .u64 130])).run Try.prog w = .ok (some (30, a, 130)) w := by kernel_rfl
theorem directE (w : World) : (Rtype.directlyAssignable 30 30).run Try.prog w = .ok true w := by kernel_rfl
theorem setE (ta b : Addr) (n : Int) (old : Value) (W : World) (hb : W.cell? b = some (.int .i64 n)) (ht : W.cell? ta = some old) (hf : W.frozen? ta = false) :
    (ReflectliteValue.set #[.agg #[.pointer (some ⟨1, 30, none⟩), .pointer (some ta), .int .u64 386], .agg #[.pointer (some ⟨1, 30, none⟩), .pointer (some b), .int .u64 130]]).run Try.prog W
      = .ok (.tuple #[]) (W.setCell ta (.int .i64 n)) := by
  delta ReflectliteValue.set
  rw [pair_case]
  simp only [Sem.run_bind, partsEa, partsE, Result.andThen]
  simp [ReflectliteValue.flagAddr, loadVar, isAgg, underlying, Try.underlying30, hb, Result.andThen, directE, storeVar, Value.cells, storeCells, Addr.add]
  rw [run_store Try.prog W ta _ _ (by rfl)]
  simp [ht, hf]

end Go.Proofs.Ytpanodaecjlgaaa.errs
/- What api.Tell, plain.Place and bare answer at no error and at an Errno. -/
namespace Go.Proofs.Ytpanodaecjlgaaa.errs
open Go.RowKit Go.Extern.Stop Go.Stop Go.Extern
open mem

end Go.Proofs.Ytpanodaecjlgaaa.errs
