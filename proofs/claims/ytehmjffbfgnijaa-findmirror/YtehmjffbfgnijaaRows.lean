/-
  No cell of these rows narrows 'for every input' (looked for: loops, veiled, ifaces, maps, wideKeys, modest, calm, conditions, laid).
  DERIVED. THE GIVEN ROWS OF THIS SEAT. 3 by the template 'for every input the law returns true; each argument reads behind the call as it read before'; 0 by the template 'total and deterministic' (their statements: YtehmjffbfgnijaaTotals.lean).
  GIVEN WITH THE SEED: the statements are not yours to turn. If you find one false, say at which input.
  Laid BY PROGRAM, IN A SANDBOX (cutbox-rows.mjs): the forced cells as the released guide's own fill.sh prints them over the translation fe1865f82d6db1d7… (all of the seat's roots in one cut). By AI agents, Wed Nov 11 2026. No macro, syntax, notation, axiom, sorry.
-/
import Derived.Test.YtehmjffbfgnijaaChecked
import GoSem.Claim
import GoSem.ClaimJoined
import GoSem.ClaimMapViews
import Derived.JoinedTies
import Derived.KernelRfl
namespace Go.Proofs.Ytehmjffbfgnijaa
/- THE CELL 'sum', in the pinned program and in every row, IS THE sha256 OF THE DUMP (.gsa) THAT YtehmjffbfgnijaaProg.lean LOADS. Nothing in Lean hashes anything: it is a label: what it is worth is what the hold of that sum in a sandbox is worth. -/
noncomputable def Try.pinned : Pinned := { name := "ytehmjffbfgnijaa", sum := "fe1865f82d6db1d7834f5b539656f329f108be43623ac66e4c6555f3e3192cdb", checked := Try.checked }
namespace Rows
def none {H : Type} : Left H := { results := [], args := [] }

/-- 'escritoirekeep.FindMirror': WHATEVER THE INPUT: true; the input reads as it did. -/
def findMirrorSpec : ChangeSpec := { name := "findMirror", fn := fun _ => fun
  | [d1, d2] => { results := [.lit (.bool true)], args := [d1, d2] }
  | _ => none }
def findMirrorRow : OpenClaim := { program := "ytehmjffbfgnijaa", sum := "fe1865f82d6db1d7834f5b539656f329f108be43623ac66e4c6555f3e3192cdb", func := "escritoire/escritoirekeep.FindMirror", spec := "findMirror", inPlace := ["internal/bytealg.IndexByteString"], apart := false }
def FindMirrorSaid : Prop := findMirrorRow.holds Try.pinned (OpenSpec.ofChange findMirrorSpec)

/-- ITS FALSE NEIGHBOUR: 'it returns false'. Refute it at one input. -/
def findMirrorWrong : ChangeSpec := { name := "findMirror", fn := fun _ => fun
  | [d1, d2] => { results := [.lit (.bool false)], args := [d1, d2] }
  | _ => none }
def FindMirrorWrongFalsely : Prop := findMirrorRow.holds Try.pinned (OpenSpec.ofChange findMirrorWrong)

/-- 'escritoirekeep.FindPeriods': WHATEVER THE INPUT: true; the input reads as it did. -/
def findPeriodsSpec : ChangeSpec := { name := "findPeriods", fn := fun _ => fun
  | [d1, d2, d3] => { results := [.lit (.bool true)], args := [d1, d2, d3] }
  | _ => none }
def findPeriodsRow : OpenClaim := { program := "ytehmjffbfgnijaa", sum := "fe1865f82d6db1d7834f5b539656f329f108be43623ac66e4c6555f3e3192cdb", func := "escritoire/escritoirekeep.FindPeriods", spec := "findPeriods", inPlace := ["internal/bytealg.IndexByteString"], apart := false }
def FindPeriodsSaid : Prop := findPeriodsRow.holds Try.pinned (OpenSpec.ofChange findPeriodsSpec)

/-- ITS FALSE NEIGHBOUR: 'it returns false'. Refute it at one input. -/
def findPeriodsWrong : ChangeSpec := { name := "findPeriods", fn := fun _ => fun
  | [d1, d2, d3] => { results := [.lit (.bool false)], args := [d1, d2, d3] }
  | _ => none }
def FindPeriodsWrongFalsely : Prop := findPeriodsRow.holds Try.pinned (OpenSpec.ofChange findPeriodsWrong)

/-- 'escritoirekeep.FindPlain': WHATEVER THE INPUT: true; the input reads as it did. -/
def findPlainSpec : ChangeSpec := { name := "findPlain", fn := fun _ => fun
  | [d1, d2, d3] => { results := [.lit (.bool true)], args := [d1, d2, d3] }
  | _ => none }
def findPlainRow : OpenClaim := { program := "ytehmjffbfgnijaa", sum := "fe1865f82d6db1d7834f5b539656f329f108be43623ac66e4c6555f3e3192cdb", func := "escritoire/escritoirekeep.FindPlain", spec := "findPlain", inPlace := ["internal/bytealg.IndexByteString"], apart := false }
def FindPlainSaid : Prop := findPlainRow.holds Try.pinned (OpenSpec.ofChange findPlainSpec)

/-- ITS FALSE NEIGHBOUR: 'it returns false'. Refute it at one input. -/
def findPlainWrong : ChangeSpec := { name := "findPlain", fn := fun _ => fun
  | [d1, d2, d3] => { results := [.lit (.bool false)], args := [d1, d2, d3] }
  | _ => none }
def FindPlainWrongFalsely : Prop := findPlainRow.holds Try.pinned (OpenSpec.ofChange findPlainWrong)

/- THE SECOND FORM. 'bulk': how many values and letters a reading holds, each counted each time it is reached (what is shared counts as often as it is met; a slice's spare places count too). A statement '..UptoSaid' is the law's where the arguments, and the package variables that the reading takes, are together of bulk at most 1048576: NARROWER than '..Said'. Prove '..Said' where nothing that the law and all that it calls make is longer than what came in: it says more and counts as full. Else prove '..UptoSaid'. A law counts once. -/
mutual
def uptoBulk {H : Type} : DataW H → Nat
  | .lit (.string bytes) => bytes.length + 1
  | .lit _ => 1
  | .nil => 1
  | .ptr d => uptoBulk d + 1
  | .slice elems spare => uptoBulkAll elems + uptoBulkAll spare + 1
  | .agg parts => uptoBulkAll parts + 1
  | .iface _ d => uptoBulk d + 1
  | .map entries => uptoBulkEntries entries + 1
  | .held _ => 1
def uptoBulkAll {H : Type} : List (DataW H) → Nat
  | [] => 0
  | d :: r => uptoBulk d + uptoBulkAll r
def uptoBulkEntries {H : Type} : List (Lit × DataW H) → Nat
  | [] => 0
  | x :: r => uptoBulkEntry x + uptoBulkEntries r
def uptoBulkEntry {H : Type} : Lit × DataW H → Nat
  | (.string bytes, d) => bytes.length + uptoBulk d + 1
  | (_, d) => uptoBulk d + 1
 end
def uptoSmall : (H : Type) → List (DataW H) → Bool := fun _ ds => decide (uptoBulkAll ds ≤ 1048576)
def OpenSpec.upto (s : _root_.Go.ChangeSpec) : _root_.Go.OpenSpec := { _root_.Go.OpenSpec.ofChange s with cond := some uptoSmall }

/-- 'escritoirekeep.FindMirror', WHERE WHAT IT READS IS OF BULK AT MOST 1048576: true; the input reads as it did. -/
def findMirrorUptoRow : OpenClaim := { program := "ytehmjffbfgnijaa", sum := "fe1865f82d6db1d7834f5b539656f329f108be43623ac66e4c6555f3e3192cdb", func := "escritoire/escritoirekeep.FindMirror", spec := "findMirror", inPlace := ["internal/bytealg.IndexByteString"], apart := false, narrowed := true }
def FindMirrorUptoSaid : Prop := findMirrorUptoRow.holds Try.pinned (OpenSpec.upto findMirrorSpec)

/-- 'escritoirekeep.FindPeriods', WHERE WHAT IT READS IS OF BULK AT MOST 1048576: true; the input reads as it did. -/
def findPeriodsUptoRow : OpenClaim := { program := "ytehmjffbfgnijaa", sum := "fe1865f82d6db1d7834f5b539656f329f108be43623ac66e4c6555f3e3192cdb", func := "escritoire/escritoirekeep.FindPeriods", spec := "findPeriods", inPlace := ["internal/bytealg.IndexByteString"], apart := false, narrowed := true }
def FindPeriodsUptoSaid : Prop := findPeriodsUptoRow.holds Try.pinned (OpenSpec.upto findPeriodsSpec)

/-- 'escritoirekeep.FindPlain', WHERE WHAT IT READS IS OF BULK AT MOST 1048576: true; the input reads as it did. -/
def findPlainUptoRow : OpenClaim := { program := "ytehmjffbfgnijaa", sum := "fe1865f82d6db1d7834f5b539656f329f108be43623ac66e4c6555f3e3192cdb", func := "escritoire/escritoirekeep.FindPlain", spec := "findPlain", inPlace := ["internal/bytealg.IndexByteString"], apart := false, narrowed := true }
def FindPlainUptoSaid : Prop := findPlainUptoRow.holds Try.pinned (OpenSpec.upto findPlainSpec)

end Rows
end Go.Proofs.Ytehmjffbfgnijaa
