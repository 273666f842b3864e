/-
  NARROWER THAN 'FOR EVERY INPUT', by the rows' own cells (each row's printed sentence says how): RealOrder: laid · RealNext: laid · RealTrue: laid · RealNearest: laid · RealRises: laid.
  DERIVED. THE GIVEN ROWS OF THIS SEAT. 5 by the template 'for every input the law returns true; each argument reads behind the call as it read before'; 0 by the template 'total and deterministic' (their statements: YtoakcdolfgghjabDoorTotals.lean).
  GIVEN WITH THE SEED: the statements are not yours to turn. If you find one false, say at which input.
  Laid BY PROGRAM, IN A SANDBOX (cutbox-rows.mjs): the forced cells as the released guide's own fill.sh prints them over the translation a0859edaeef04fbb… (all of the seat's roots in one cut). By AI agents, Wed Nov 11 2026. No macro, syntax, notation, axiom, sorry.
-/
import Derived.Test.YtoakcdolfgghjabDoorChecked
import GoSem.Claim
import GoSem.ClaimJoined
import GoSem.ClaimMapViews
import Derived.JoinedTies
import Derived.KernelRfl
namespace Go.Proofs.YtoakcdolfgghjabDoor
/- THE CELL 'sum', in the pinned program and in every row, IS THE sha256 OF THE DUMP (.gsa) THAT YtoakcdolfgghjabDoorProg.lean LOADS. Nothing in Lean hashes anything: it is a label: what it is worth is what the hold of that sum in a sandbox is worth. -/
noncomputable def Tryd.pinned : Pinned := { name := "ytoakcdolfgghjabdoor", sum := "a0859edaeef04fbbc9e05228dbfdd48e7d0137ade0bbcb72aa30c9de6e297a26", checked := Tryd.checked }
namespace Rows
def none {H : Type} : Left H := { results := [], args := [] }

/- WHAT THE LISTED PACKAGE-LEVEL VARIABLES READ AS WHEN THE CALL BEGINS. Each datum BY PROGRAM (the guide's laid-datum.mjs) off the statement by which the dump's own 'gosem.cut.vars' lays the variable. In a bare row this is a premise. The card (YtoakcdolfgghjabDoorCards.lean) ties it to the program's text. -/
def laid_escritoire_real_forms {H : Type} : DataW H := .agg [.agg [.lit (.int .i64 32), .lit (.int .i64 8), .lit (.int .i64 23)], .agg [.lit (.int .i64 64), .lit (.int .i64 11), .lit (.int .i64 52)]]
def laid_errors_errorType {H : Type} : DataW H := .iface "internal/reflectlite.rtype" (.agg [.ptr (.lit (.string [101, 114, 114, 111, 114]))])

/-- 'escritoirekeep.RealOrder': WHATEVER THE INPUT: true; the input reads as it did. -/
def realOrderSpec : ChangeSpec := { name := "realOrder", fn := fun _ => fun
  | [d1, d2] => { results := [.lit (.bool true)], args := [d1, d2] }
  | _ => none }
def realOrderRow : OpenClaim := { program := "ytoakcdolfgghjabdoor", sum := "a0859edaeef04fbbc9e05228dbfdd48e7d0137ade0bbcb72aa30c9de6e297a26", func := "escritoire/escritoirekeep.RealOrder", spec := "realOrder", inPlace := ["math.Float64frombits"], named := ["escritoire/real.forms"], apart := false, laid := [("escritoire/real.forms", laid_escritoire_real_forms)] }
def RealOrderSaid : Prop := realOrderRow.holds Tryd.pinned (OpenSpec.ofChange realOrderSpec)

/-- ITS FALSE NEIGHBOUR: 'it returns false'. Refute it at one input. -/
def realOrderWrong : ChangeSpec := { name := "realOrder", fn := fun _ => fun
  | [d1, d2] => { results := [.lit (.bool false)], args := [d1, d2] }
  | _ => none }
def RealOrderWrongFalsely : Prop := realOrderRow.holds Tryd.pinned (OpenSpec.ofChange realOrderWrong)

/-- 'escritoirekeep.RealNext': WHATEVER THE INPUT: true; the input reads as it did. -/
def realNextSpec : ChangeSpec := { name := "realNext", fn := fun _ => fun
  | [d] => { results := [.lit (.bool true)], args := [d] }
  | _ => none }
def realNextRow : OpenClaim := { program := "ytoakcdolfgghjabdoor", sum := "a0859edaeef04fbbc9e05228dbfdd48e7d0137ade0bbcb72aa30c9de6e297a26", func := "escritoire/escritoirekeep.RealNext", spec := "realNext", inPlace := ["internal/reflectlite.ValueOf", "(internal/reflectlite.Value).Type", "(internal/reflectlite.Value).IsNil", "internal/reflectlite.TypeOf", "(internal/reflectlite.Value).Elem", "(internal/reflectlite.Value).Set", "math.Float64frombits"], unfollowed := true, recurses := true, named := ["escritoire/real.forms", "errors.errorType"], apart := false, laid := [("errors.errorType", laid_errors_errorType), ("escritoire/real.forms", laid_escritoire_real_forms)] }
def RealNextSaid : Prop := realNextRow.holds Tryd.pinned (OpenSpec.ofChange realNextSpec)

/-- ITS FALSE NEIGHBOUR: 'it returns false'. Refute it at one input. -/
def realNextWrong : ChangeSpec := { name := "realNext", fn := fun _ => fun
  | [d] => { results := [.lit (.bool false)], args := [d] }
  | _ => none }
def RealNextWrongFalsely : Prop := realNextRow.holds Tryd.pinned (OpenSpec.ofChange realNextWrong)

/-- 'escritoirekeep.RealTrue': WHATEVER THE INPUT: true; the input reads as it did. -/
def realTrueSpec : ChangeSpec := { name := "realTrue", fn := fun _ => fun
  | [d] => { results := [.lit (.bool true)], args := [d] }
  | _ => none }
def realTrueRow : OpenClaim := { program := "ytoakcdolfgghjabdoor", sum := "a0859edaeef04fbbc9e05228dbfdd48e7d0137ade0bbcb72aa30c9de6e297a26", func := "escritoire/escritoirekeep.RealTrue", spec := "realTrue", inPlace := ["math.Float32frombits", "math.Float64frombits", "math.Float64bits"], named := ["escritoire/real.forms"], apart := false, laid := [("escritoire/real.forms", laid_escritoire_real_forms)] }
def RealTrueSaid : Prop := realTrueRow.holds Tryd.pinned (OpenSpec.ofChange realTrueSpec)

/-- ITS FALSE NEIGHBOUR: 'it returns false'. Refute it at one input. -/
def realTrueWrong : ChangeSpec := { name := "realTrue", fn := fun _ => fun
  | [d] => { results := [.lit (.bool false)], args := [d] }
  | _ => none }
def RealTrueWrongFalsely : Prop := realTrueRow.holds Tryd.pinned (OpenSpec.ofChange realTrueWrong)

/-- 'escritoirekeep.RealNearest': WHATEVER THE INPUT: true; the input reads as it did. -/
def realNearestSpec : ChangeSpec := { name := "realNearest", fn := fun _ => fun
  | [d] => { results := [.lit (.bool true)], args := [d] }
  | _ => none }
def realNearestRow : OpenClaim := { program := "ytoakcdolfgghjabdoor", sum := "a0859edaeef04fbbc9e05228dbfdd48e7d0137ade0bbcb72aa30c9de6e297a26", func := "escritoire/escritoirekeep.RealNearest", spec := "realNearest", inPlace := ["math.Float64frombits", "math.Float32frombits", "math.Float32bits"], named := ["escritoire/real.forms"], apart := false, laid := [("escritoire/real.forms", laid_escritoire_real_forms)] }
def RealNearestSaid : Prop := realNearestRow.holds Tryd.pinned (OpenSpec.ofChange realNearestSpec)

/-- ITS FALSE NEIGHBOUR: 'it returns false'. Refute it at one input. -/
def realNearestWrong : ChangeSpec := { name := "realNearest", fn := fun _ => fun
  | [d] => { results := [.lit (.bool false)], args := [d] }
  | _ => none }
def RealNearestWrongFalsely : Prop := realNearestRow.holds Tryd.pinned (OpenSpec.ofChange realNearestWrong)

/-- 'escritoirekeep.RealRises': WHATEVER THE INPUT: true; the input reads as it did. -/
def realRisesSpec : ChangeSpec := { name := "realRises", fn := fun _ => fun
  | [d1, d2] => { results := [.lit (.bool true)], args := [d1, d2] }
  | _ => none }
def realRisesRow : OpenClaim := { program := "ytoakcdolfgghjabdoor", sum := "a0859edaeef04fbbc9e05228dbfdd48e7d0137ade0bbcb72aa30c9de6e297a26", func := "escritoire/escritoirekeep.RealRises", spec := "realRises", inPlace := ["math.Float64frombits", "math.Float32frombits"], named := ["escritoire/real.forms"], apart := false, laid := [("escritoire/real.forms", laid_escritoire_real_forms)] }
def RealRisesSaid : Prop := realRisesRow.holds Tryd.pinned (OpenSpec.ofChange realRisesSpec)

/-- ITS FALSE NEIGHBOUR: 'it returns false'. Refute it at one input. -/
def realRisesWrong : ChangeSpec := { name := "realRises", fn := fun _ => fun
  | [d1, d2] => { results := [.lit (.bool false)], args := [d1, d2] }
  | _ => none }
def RealRisesWrongFalsely : Prop := realRisesRow.holds Tryd.pinned (OpenSpec.ofChange realRisesWrong)

/- THE SECOND FORM. 'bulk': how many values and letters a reading holds, each counted each time it is reached (what is shared counts as often as it is met; a slice's spare places count too). A statement '..UptoSaid' is the law's where the arguments, and the package variables that the reading takes, are together of bulk at most 1048576: NARROWER than '..Said'. Prove '..Said' where nothing that the law and all that it calls make is longer than what came in: it says more and counts as full. Else prove '..UptoSaid'. A law counts once. -/
mutual
def uptoBulk {H : Type} : DataW H → Nat
  | .lit (.string bytes) => bytes.length + 1
  | .lit _ => 1
  | .nil => 1
  | .ptr d => uptoBulk d + 1
  | .slice elems spare => uptoBulkAll elems + uptoBulkAll spare + 1
  | .agg parts => uptoBulkAll parts + 1
  | .iface _ d => uptoBulk d + 1
  | .map entries => uptoBulkEntries entries + 1
  | .held _ => 1
def uptoBulkAll {H : Type} : List (DataW H) → Nat
  | [] => 0
  | d :: r => uptoBulk d + uptoBulkAll r
def uptoBulkEntries {H : Type} : List (Lit × DataW H) → Nat
  | [] => 0
  | x :: r => uptoBulkEntry x + uptoBulkEntries r
def uptoBulkEntry {H : Type} : Lit × DataW H → Nat
  | (.string bytes, d) => bytes.length + uptoBulk d + 1
  | (_, d) => uptoBulk d + 1
 end
def uptoSmall : (H : Type) → List (DataW H) → Bool := fun _ ds => decide (uptoBulkAll ds ≤ 1048576)
def OpenSpec.upto (s : _root_.Go.ChangeSpec) : _root_.Go.OpenSpec := { _root_.Go.OpenSpec.ofChange s with cond := some uptoSmall }

/-- 'escritoirekeep.RealOrder', WHERE WHAT IT READS IS OF BULK AT MOST 1048576: true; the input reads as it did. -/
def realOrderUptoRow : OpenClaim := { program := "ytoakcdolfgghjabdoor", sum := "a0859edaeef04fbbc9e05228dbfdd48e7d0137ade0bbcb72aa30c9de6e297a26", func := "escritoire/escritoirekeep.RealOrder", spec := "realOrder", inPlace := ["math.Float64frombits"], named := ["escritoire/real.forms"], apart := false, laid := [("escritoire/real.forms", laid_escritoire_real_forms)], narrowed := true }
def RealOrderUptoSaid : Prop := realOrderUptoRow.holds Tryd.pinned (OpenSpec.upto realOrderSpec)

/-- 'escritoirekeep.RealNext', WHERE WHAT IT READS IS OF BULK AT MOST 1048576: true; the input reads as it did. -/
def realNextUptoRow : OpenClaim := { program := "ytoakcdolfgghjabdoor", sum := "a0859edaeef04fbbc9e05228dbfdd48e7d0137ade0bbcb72aa30c9de6e297a26", func := "escritoire/escritoirekeep.RealNext", spec := "realNext", inPlace := ["internal/reflectlite.ValueOf", "(internal/reflectlite.Value).Type", "(internal/reflectlite.Value).IsNil", "internal/reflectlite.TypeOf", "(internal/reflectlite.Value).Elem", "(internal/reflectlite.Value).Set", "math.Float64frombits"], unfollowed := true, recurses := true, named := ["escritoire/real.forms", "errors.errorType"], apart := false, laid := [("errors.errorType", laid_errors_errorType), ("escritoire/real.forms", laid_escritoire_real_forms)], narrowed := true }
def RealNextUptoSaid : Prop := realNextUptoRow.holds Tryd.pinned (OpenSpec.upto realNextSpec)

/-- 'escritoirekeep.RealTrue', WHERE WHAT IT READS IS OF BULK AT MOST 1048576: true; the input reads as it did. -/
def realTrueUptoRow : OpenClaim := { program := "ytoakcdolfgghjabdoor", sum := "a0859edaeef04fbbc9e05228dbfdd48e7d0137ade0bbcb72aa30c9de6e297a26", func := "escritoire/escritoirekeep.RealTrue", spec := "realTrue", inPlace := ["math.Float32frombits", "math.Float64frombits", "math.Float64bits"], named := ["escritoire/real.forms"], apart := false, laid := [("escritoire/real.forms", laid_escritoire_real_forms)], narrowed := true }
def RealTrueUptoSaid : Prop := realTrueUptoRow.holds Tryd.pinned (OpenSpec.upto realTrueSpec)

/-- 'escritoirekeep.RealNearest', WHERE WHAT IT READS IS OF BULK AT MOST 1048576: true; the input reads as it did. -/
def realNearestUptoRow : OpenClaim := { program := "ytoakcdolfgghjabdoor", sum := "a0859edaeef04fbbc9e05228dbfdd48e7d0137ade0bbcb72aa30c9de6e297a26", func := "escritoire/escritoirekeep.RealNearest", spec := "realNearest", inPlace := ["math.Float64frombits", "math.Float32frombits", "math.Float32bits"], named := ["escritoire/real.forms"], apart := false, laid := [("escritoire/real.forms", laid_escritoire_real_forms)], narrowed := true }
def RealNearestUptoSaid : Prop := realNearestUptoRow.holds Tryd.pinned (OpenSpec.upto realNearestSpec)

/-- 'escritoirekeep.RealRises', WHERE WHAT IT READS IS OF BULK AT MOST 1048576: true; the input reads as it did. -/
def realRisesUptoRow : OpenClaim := { program := "ytoakcdolfgghjabdoor", sum := "a0859edaeef04fbbc9e05228dbfdd48e7d0137ade0bbcb72aa30c9de6e297a26", func := "escritoire/escritoirekeep.RealRises", spec := "realRises", inPlace := ["math.Float64frombits", "math.Float32frombits"], named := ["escritoire/real.forms"], apart := false, laid := [("escritoire/real.forms", laid_escritoire_real_forms)], narrowed := true }
def RealRisesUptoSaid : Prop := realRisesUptoRow.holds Tryd.pinned (OpenSpec.upto realRisesSpec)

end Rows
end Go.Proofs.YtoakcdolfgghjabDoor
