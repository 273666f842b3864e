/-
  NARROWER THAN 'FOR EVERY INPUT', by the rows' own cells (each row's printed sentence says how): RealJoins: laid · RealSteps: laid · RealWidens: laid · RealNarrows: laid · RealNext: laid.
  DERIVED. THE GIVEN ROWS OF THIS SEAT. 5 by the template 'for every input the law returns true; each argument reads behind the call as it read before'; 0 by the template 'total and deterministic' (their statements: YtnhekkahiphlgaaDoorTotals.lean).
  GIVEN WITH THE SEED: the statements are not yours to turn. If you find one false, say at which input.
  Laid BY PROGRAM, IN A SANDBOX (cutbox-rows.mjs): the forced cells as the released guide's own fill.sh prints them over the translation afd63463d20475f7… (all of the seat's roots in one cut). By AI agents, Wed Nov 11 2026. No macro, syntax, notation, axiom, sorry.
-/
import Derived.Test.YtnhekkahiphlgaaDoorChecked
import GoSem.Claim
import GoSem.ClaimJoined
import GoSem.ClaimMapViews
import Derived.JoinedTies
import Derived.KernelRfl
namespace Go.Proofs.YtnhekkahiphlgaaDoor
/- THE CELL 'sum', in the pinned program and in every row, IS THE sha256 OF THE DUMP (.gsa) THAT YtnhekkahiphlgaaDoorProg.lean LOADS. Nothing in Lean hashes anything: it is a label: what it is worth is what the hold of that sum in a sandbox is worth. -/
noncomputable def Tryd.pinned : Pinned := { name := "ytnhekkahiphlgaadoor", sum := "afd63463d20475f734d3a077c8a75d79b866dba8820997e22c08a8aa68458af6", checked := Tryd.checked }
namespace Rows
def none {H : Type} : Left H := { results := [], args := [] }

/- WHAT THE LISTED PACKAGE-LEVEL VARIABLES READ AS WHEN THE CALL BEGINS. Each datum BY PROGRAM (the guide's laid-datum.mjs) off the statement by which the dump's own 'gosem.cut.vars' lays the variable. In a bare row this is a premise. The card (YtnhekkahiphlgaaDoorCards.lean) ties it to the program's text. -/
def laid_errors_errorType {H : Type} : DataW H := .iface "internal/reflectlite.rtype" (.agg [.ptr (.lit (.string [101, 114, 114, 111, 114]))])
def laid_escritoire_real_forms {H : Type} : DataW H := .agg [.agg [.lit (.int .i64 32), .lit (.int .i64 8), .lit (.int .i64 23)], .agg [.lit (.int .i64 64), .lit (.int .i64 11), .lit (.int .i64 52)]]

/-- 'escritoirelaw.RealJoins': WHATEVER THE INPUT: true; the input reads as it did. -/
def realJoinsSpec : ChangeSpec := { name := "realJoins", fn := fun _ => fun
  | [d1, d2] => { results := [.lit (.bool true)], args := [d1, d2] }
  | _ => none }
def realJoinsRow : OpenClaim := { program := "ytnhekkahiphlgaadoor", sum := "afd63463d20475f734d3a077c8a75d79b866dba8820997e22c08a8aa68458af6", func := "escritoire/escritoirelaw.RealJoins", spec := "realJoins", inPlace := ["internal/reflectlite.ValueOf", "(internal/reflectlite.Value).Type", "(internal/reflectlite.Value).IsNil", "internal/reflectlite.TypeOf", "(internal/reflectlite.Value).Elem", "(internal/reflectlite.Value).Set"], unfollowed := true, recurses := true, named := ["escritoire/real.forms", "errors.errorType"], apart := false, laid := [("errors.errorType", laid_errors_errorType), ("escritoire/real.forms", laid_escritoire_real_forms)] }
def RealJoinsSaid : Prop := realJoinsRow.holds Tryd.pinned (OpenSpec.ofChange realJoinsSpec)

/-- ITS FALSE NEIGHBOUR: 'it returns false'. Refute it at one input. -/
def realJoinsWrong : ChangeSpec := { name := "realJoins", fn := fun _ => fun
  | [d1, d2] => { results := [.lit (.bool false)], args := [d1, d2] }
  | _ => none }
def RealJoinsWrongFalsely : Prop := realJoinsRow.holds Tryd.pinned (OpenSpec.ofChange realJoinsWrong)

/-- 'escritoirelaw.RealSteps': WHATEVER THE INPUT: true; the input reads as it did. -/
def realStepsSpec : ChangeSpec := { name := "realSteps", fn := fun _ => fun
  | [d1, d2] => { results := [.lit (.bool true)], args := [d1, d2] }
  | _ => none }
def realStepsRow : OpenClaim := { program := "ytnhekkahiphlgaadoor", sum := "afd63463d20475f734d3a077c8a75d79b866dba8820997e22c08a8aa68458af6", func := "escritoire/escritoirelaw.RealSteps", spec := "realSteps", inPlace := ["internal/reflectlite.ValueOf", "(internal/reflectlite.Value).Type", "(internal/reflectlite.Value).IsNil", "internal/reflectlite.TypeOf", "(internal/reflectlite.Value).Elem", "(internal/reflectlite.Value).Set"], unfollowed := true, recurses := true, named := ["escritoire/real.forms", "errors.errorType"], apart := false, laid := [("errors.errorType", laid_errors_errorType), ("escritoire/real.forms", laid_escritoire_real_forms)] }
def RealStepsSaid : Prop := realStepsRow.holds Tryd.pinned (OpenSpec.ofChange realStepsSpec)

/-- ITS FALSE NEIGHBOUR: 'it returns false'. Refute it at one input. -/
def realStepsWrong : ChangeSpec := { name := "realSteps", fn := fun _ => fun
  | [d1, d2] => { results := [.lit (.bool false)], args := [d1, d2] }
  | _ => none }
def RealStepsWrongFalsely : Prop := realStepsRow.holds Tryd.pinned (OpenSpec.ofChange realStepsWrong)

/-- 'escritoirelaw.RealWidens': WHATEVER THE INPUT: true; the input reads as it did. -/
def realWidensSpec : ChangeSpec := { name := "realWidens", fn := fun _ => fun
  | [d] => { results := [.lit (.bool true)], args := [d] }
  | _ => none }
def realWidensRow : OpenClaim := { program := "ytnhekkahiphlgaadoor", sum := "afd63463d20475f734d3a077c8a75d79b866dba8820997e22c08a8aa68458af6", func := "escritoire/escritoirelaw.RealWidens", spec := "realWidens", named := ["escritoire/real.forms"], apart := false, laid := [("escritoire/real.forms", laid_escritoire_real_forms)] }
def RealWidensSaid : Prop := realWidensRow.holds Tryd.pinned (OpenSpec.ofChange realWidensSpec)

/-- ITS FALSE NEIGHBOUR: 'it returns false'. Refute it at one input. -/
def realWidensWrong : ChangeSpec := { name := "realWidens", fn := fun _ => fun
  | [d] => { results := [.lit (.bool false)], args := [d] }
  | _ => none }
def RealWidensWrongFalsely : Prop := realWidensRow.holds Tryd.pinned (OpenSpec.ofChange realWidensWrong)

/-- 'escritoirelaw.RealNarrows': WHATEVER THE INPUT: true; the input reads as it did. -/
def realNarrowsSpec : ChangeSpec := { name := "realNarrows", fn := fun _ => fun
  | [d] => { results := [.lit (.bool true)], args := [d] }
  | _ => none }
def realNarrowsRow : OpenClaim := { program := "ytnhekkahiphlgaadoor", sum := "afd63463d20475f734d3a077c8a75d79b866dba8820997e22c08a8aa68458af6", func := "escritoire/escritoirelaw.RealNarrows", spec := "realNarrows", inPlace := ["math/bits.Sub64"], named := ["escritoire/real.forms"], apart := false, laid := [("escritoire/real.forms", laid_escritoire_real_forms)] }
def RealNarrowsSaid : Prop := realNarrowsRow.holds Tryd.pinned (OpenSpec.ofChange realNarrowsSpec)

/-- ITS FALSE NEIGHBOUR: 'it returns false'. Refute it at one input. -/
def realNarrowsWrong : ChangeSpec := { name := "realNarrows", fn := fun _ => fun
  | [d] => { results := [.lit (.bool false)], args := [d] }
  | _ => none }
def RealNarrowsWrongFalsely : Prop := realNarrowsRow.holds Tryd.pinned (OpenSpec.ofChange realNarrowsWrong)

/-- 'escritoirekeep.RealNext': WHATEVER THE INPUT: true; the input reads as it did. -/
def realNextSpec : ChangeSpec := { name := "realNext", fn := fun _ => fun
  | [d] => { results := [.lit (.bool true)], args := [d] }
  | _ => none }
def realNextRow : OpenClaim := { program := "ytnhekkahiphlgaadoor", sum := "afd63463d20475f734d3a077c8a75d79b866dba8820997e22c08a8aa68458af6", func := "escritoire/escritoirekeep.RealNext", spec := "realNext", inPlace := ["internal/reflectlite.ValueOf", "(internal/reflectlite.Value).Type", "(internal/reflectlite.Value).IsNil", "internal/reflectlite.TypeOf", "(internal/reflectlite.Value).Elem", "(internal/reflectlite.Value).Set", "math.Float64frombits"], unfollowed := true, recurses := true, named := ["escritoire/real.forms", "errors.errorType"], apart := false, laid := [("errors.errorType", laid_errors_errorType), ("escritoire/real.forms", laid_escritoire_real_forms)] }
def RealNextSaid : Prop := realNextRow.holds Tryd.pinned (OpenSpec.ofChange realNextSpec)

/-- ITS FALSE NEIGHBOUR: 'it returns false'. Refute it at one input. -/
def realNextWrong : ChangeSpec := { name := "realNext", fn := fun _ => fun
  | [d] => { results := [.lit (.bool false)], args := [d] }
  | _ => none }
def RealNextWrongFalsely : Prop := realNextRow.holds Tryd.pinned (OpenSpec.ofChange realNextWrong)

/- THE SECOND FORM. 'bulk': how many values and letters a reading holds, each counted each time it is reached (what is shared counts as often as it is met; a slice's spare places count too). A statement '..UptoSaid' is the law's where the arguments, and the package variables that the reading takes, are together of bulk at most 1048576: NARROWER than '..Said'. Prove '..Said' where nothing that the law and all that it calls make is longer than what came in: it says more and counts as full. Else prove '..UptoSaid'. A law counts once. -/
mutual
def uptoBulk {H : Type} : DataW H → Nat
  | .lit (.string bytes) => bytes.length + 1
  | .lit _ => 1
  | .nil => 1
  | .ptr d => uptoBulk d + 1
  | .slice elems spare => uptoBulkAll elems + uptoBulkAll spare + 1
  | .agg parts => uptoBulkAll parts + 1
  | .iface _ d => uptoBulk d + 1
  | .map entries => uptoBulkEntries entries + 1
  | .held _ => 1
def uptoBulkAll {H : Type} : List (DataW H) → Nat
  | [] => 0
  | d :: r => uptoBulk d + uptoBulkAll r
def uptoBulkEntries {H : Type} : List (Lit × DataW H) → Nat
  | [] => 0
  | x :: r => uptoBulkEntry x + uptoBulkEntries r
def uptoBulkEntry {H : Type} : Lit × DataW H → Nat
  | (.string bytes, d) => bytes.length + uptoBulk d + 1
  | (_, d) => uptoBulk d + 1
 end
def uptoSmall : (H : Type) → List (DataW H) → Bool := fun _ ds => decide (uptoBulkAll ds ≤ 1048576)
def OpenSpec.upto (s : _root_.Go.ChangeSpec) : _root_.Go.OpenSpec := { _root_.Go.OpenSpec.ofChange s with cond := some uptoSmall }

/-- 'escritoirelaw.RealJoins', WHERE WHAT IT READS IS OF BULK AT MOST 1048576: true; the input reads as it did. -/
def realJoinsUptoRow : OpenClaim := { program := "ytnhekkahiphlgaadoor", sum := "afd63463d20475f734d3a077c8a75d79b866dba8820997e22c08a8aa68458af6", func := "escritoire/escritoirelaw.RealJoins", spec := "realJoins", inPlace := ["internal/reflectlite.ValueOf", "(internal/reflectlite.Value).Type", "(internal/reflectlite.Value).IsNil", "internal/reflectlite.TypeOf", "(internal/reflectlite.Value).Elem", "(internal/reflectlite.Value).Set"], unfollowed := true, recurses := true, named := ["escritoire/real.forms", "errors.errorType"], apart := false, laid := [("errors.errorType", laid_errors_errorType), ("escritoire/real.forms", laid_escritoire_real_forms)], narrowed := true }
def RealJoinsUptoSaid : Prop := realJoinsUptoRow.holds Tryd.pinned (OpenSpec.upto realJoinsSpec)

/-- 'escritoirelaw.RealSteps', WHERE WHAT IT READS IS OF BULK AT MOST 1048576: true; the input reads as it did. -/
def realStepsUptoRow : OpenClaim := { program := "ytnhekkahiphlgaadoor", sum := "afd63463d20475f734d3a077c8a75d79b866dba8820997e22c08a8aa68458af6", func := "escritoire/escritoirelaw.RealSteps", spec := "realSteps", inPlace := ["internal/reflectlite.ValueOf", "(internal/reflectlite.Value).Type", "(internal/reflectlite.Value).IsNil", "internal/reflectlite.TypeOf", "(internal/reflectlite.Value).Elem", "(internal/reflectlite.Value).Set"], unfollowed := true, recurses := true, named := ["escritoire/real.forms", "errors.errorType"], apart := false, laid := [("errors.errorType", laid_errors_errorType), ("escritoire/real.forms", laid_escritoire_real_forms)], narrowed := true }
def RealStepsUptoSaid : Prop := realStepsUptoRow.holds Tryd.pinned (OpenSpec.upto realStepsSpec)

/-- 'escritoirelaw.RealWidens', WHERE WHAT IT READS IS OF BULK AT MOST 1048576: true; the input reads as it did. -/
def realWidensUptoRow : OpenClaim := { program := "ytnhekkahiphlgaadoor", sum := "afd63463d20475f734d3a077c8a75d79b866dba8820997e22c08a8aa68458af6", func := "escritoire/escritoirelaw.RealWidens", spec := "realWidens", named := ["escritoire/real.forms"], apart := false, laid := [("escritoire/real.forms", laid_escritoire_real_forms)], narrowed := true }
def RealWidensUptoSaid : Prop := realWidensUptoRow.holds Tryd.pinned (OpenSpec.upto realWidensSpec)

/-- 'escritoirelaw.RealNarrows', WHERE WHAT IT READS IS OF BULK AT MOST 1048576: true; the input reads as it did. -/
def realNarrowsUptoRow : OpenClaim := { program := "ytnhekkahiphlgaadoor", sum := "afd63463d20475f734d3a077c8a75d79b866dba8820997e22c08a8aa68458af6", func := "escritoire/escritoirelaw.RealNarrows", spec := "realNarrows", inPlace := ["math/bits.Sub64"], named := ["escritoire/real.forms"], apart := false, laid := [("escritoire/real.forms", laid_escritoire_real_forms)], narrowed := true }
def RealNarrowsUptoSaid : Prop := realNarrowsUptoRow.holds Tryd.pinned (OpenSpec.upto realNarrowsSpec)

/-- 'escritoirekeep.RealNext', WHERE WHAT IT READS IS OF BULK AT MOST 1048576: true; the input reads as it did. -/
def realNextUptoRow : OpenClaim := { program := "ytnhekkahiphlgaadoor", sum := "afd63463d20475f734d3a077c8a75d79b866dba8820997e22c08a8aa68458af6", func := "escritoire/escritoirekeep.RealNext", spec := "realNext", inPlace := ["internal/reflectlite.ValueOf", "(internal/reflectlite.Value).Type", "(internal/reflectlite.Value).IsNil", "internal/reflectlite.TypeOf", "(internal/reflectlite.Value).Elem", "(internal/reflectlite.Value).Set", "math.Float64frombits"], unfollowed := true, recurses := true, named := ["escritoire/real.forms", "errors.errorType"], apart := false, laid := [("errors.errorType", laid_errors_errorType), ("escritoire/real.forms", laid_escritoire_real_forms)], narrowed := true }
def RealNextUptoSaid : Prop := realNextUptoRow.holds Tryd.pinned (OpenSpec.upto realNextSpec)

end Rows
end Go.Proofs.YtnhekkahiphlgaaDoor
