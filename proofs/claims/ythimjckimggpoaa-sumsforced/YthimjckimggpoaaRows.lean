/-
  No cell of these rows narrows 'for every input' (looked for: loops, veiled, ifaces, maps, wideKeys, modest, calm, conditions, laid).
  DERIVED. THE GIVEN ROWS OF THIS SEAT. 4 by the template 'for every input the law returns true; each argument reads behind the call as it read before'; 0 by the template 'total and deterministic' (their statements: YthimjckimggpoaaTotals.lean).
  GIVEN WITH THE SEED: the statements are not yours to turn. If you find one false, say at which input.
  Laid BY PROGRAM, IN A SANDBOX (cutbox-rows.mjs): the forced cells as the released guide's own fill.sh prints them over the translation d576ac2bb47bf42e… (all of the seat's roots in one cut). By AI agents, Wed Nov 11 2026. No macro, syntax, notation, axiom, sorry.
-/
import Derived.Test.YthimjckimggpoaaChecked
import GoSem.Claim
import GoSem.ClaimJoined
import GoSem.ClaimMapViews
import Derived.JoinedTies
import Derived.KernelRfl
namespace Go.Proofs.Ythimjckimggpoaa
/- THE CELL 'sum', in the pinned program and in every row, IS THE sha256 OF THE DUMP (.gsa) THAT YthimjckimggpoaaProg.lean LOADS. Nothing in Lean hashes anything: it is a label: what it is worth is what the hold of that sum in a sandbox is worth. -/
noncomputable def Try.pinned : Pinned := { name := "ythimjckimggpoaa", sum := "d576ac2bb47bf42ed49fd182986bec5d95f4df2cb86d050eabdf3379ea1af3fe", checked := Try.checked }
namespace Rows
def none {H : Type} : Left H := { results := [], args := [] }

/-- 'escritoirelaw.SumsPairs': WHATEVER THE INPUT: true; the input reads as it did. -/
def sumsPairsSpec : ChangeSpec := { name := "sumsPairs", fn := fun _ => fun
  | [d] => { results := [.lit (.bool true)], args := [d] }
  | _ => none }
def sumsPairsRow : OpenClaim := { program := "ythimjckimggpoaa", sum := "d576ac2bb47bf42ed49fd182986bec5d95f4df2cb86d050eabdf3379ea1af3fe", func := "escritoire/escritoirelaw.SumsPairs", spec := "sumsPairs", apart := false }
def SumsPairsSaid : Prop := sumsPairsRow.holds Try.pinned (OpenSpec.ofChange sumsPairsSpec)

/-- ITS FALSE NEIGHBOUR: 'it returns false'. Refute it at one input. -/
def sumsPairsWrong : ChangeSpec := { name := "sumsPairs", fn := fun _ => fun
  | [d] => { results := [.lit (.bool false)], args := [d] }
  | _ => none }
def SumsPairsWrongFalsely : Prop := sumsPairsRow.holds Try.pinned (OpenSpec.ofChange sumsPairsWrong)

/-- 'escritoirekeep.SumsLinear': WHATEVER THE INPUT: true; the input reads as it did. -/
def sumsLinearSpec : ChangeSpec := { name := "sumsLinear", fn := fun _ => fun
  | [d1, d2, d3, d4, d5, d6, d7, d8] => { results := [.lit (.bool true)], args := [d1, d2, d3, d4, d5, d6, d7, d8] }
  | _ => none }
def sumsLinearRow : OpenClaim := { program := "ythimjckimggpoaa", sum := "d576ac2bb47bf42ed49fd182986bec5d95f4df2cb86d050eabdf3379ea1af3fe", func := "escritoire/escritoirekeep.SumsLinear", spec := "sumsLinear", apart := false }
def SumsLinearSaid : Prop := sumsLinearRow.holds Try.pinned (OpenSpec.ofChange sumsLinearSpec)

/-- ITS FALSE NEIGHBOUR: 'it returns false'. Refute it at one input. -/
def sumsLinearWrong : ChangeSpec := { name := "sumsLinear", fn := fun _ => fun
  | [d1, d2, d3, d4, d5, d6, d7, d8] => { results := [.lit (.bool false)], args := [d1, d2, d3, d4, d5, d6, d7, d8] }
  | _ => none }
def SumsLinearWrongFalsely : Prop := sumsLinearRow.holds Try.pinned (OpenSpec.ofChange sumsLinearWrong)

/-- 'escritoirekeep.SumsBurst': WHATEVER THE INPUT: true; the input reads as it did. -/
def sumsBurstSpec : ChangeSpec := { name := "sumsBurst", fn := fun _ => fun
  | [d1, d2, d3] => { results := [.lit (.bool true)], args := [d1, d2, d3] }
  | _ => none }
def sumsBurstRow : OpenClaim := { program := "ythimjckimggpoaa", sum := "d576ac2bb47bf42ed49fd182986bec5d95f4df2cb86d050eabdf3379ea1af3fe", func := "escritoire/escritoirekeep.SumsBurst", spec := "sumsBurst", apart := false }
def SumsBurstSaid : Prop := sumsBurstRow.holds Try.pinned (OpenSpec.ofChange sumsBurstSpec)

/-- ITS FALSE NEIGHBOUR: 'it returns false'. Refute it at one input. -/
def sumsBurstWrong : ChangeSpec := { name := "sumsBurst", fn := fun _ => fun
  | [d1, d2, d3] => { results := [.lit (.bool false)], args := [d1, d2, d3] }
  | _ => none }
def SumsBurstWrongFalsely : Prop := sumsBurstRow.holds Try.pinned (OpenSpec.ofChange sumsBurstWrong)

/-- 'escritoirekeep.SumsForced': WHATEVER THE INPUT: true; the input reads as it did. -/
def sumsForcedSpec : ChangeSpec := { name := "sumsForced", fn := fun _ => fun
  | [d1, d2, d3, d4, d5, d6, d7, d8, d9] => { results := [.lit (.bool true)], args := [d1, d2, d3, d4, d5, d6, d7, d8, d9] }
  | _ => none }
def sumsForcedRow : OpenClaim := { program := "ythimjckimggpoaa", sum := "d576ac2bb47bf42ed49fd182986bec5d95f4df2cb86d050eabdf3379ea1af3fe", func := "escritoire/escritoirekeep.SumsForced", spec := "sumsForced", apart := false }
def SumsForcedSaid : Prop := sumsForcedRow.holds Try.pinned (OpenSpec.ofChange sumsForcedSpec)

/-- ITS FALSE NEIGHBOUR: 'it returns false'. Refute it at one input. -/
def sumsForcedWrong : ChangeSpec := { name := "sumsForced", fn := fun _ => fun
  | [d1, d2, d3, d4, d5, d6, d7, d8, d9] => { results := [.lit (.bool false)], args := [d1, d2, d3, d4, d5, d6, d7, d8, d9] }
  | _ => none }
def SumsForcedWrongFalsely : Prop := sumsForcedRow.holds Try.pinned (OpenSpec.ofChange sumsForcedWrong)

/- THE SECOND FORM. 'bulk': how many values and letters a reading holds, each counted each time it is reached (what is shared counts as often as it is met; a slice's spare places count too). A statement '..UptoSaid' is the law's where the arguments, and the package variables that the reading takes, are together of bulk at most 1048576: NARROWER than '..Said'. Prove '..Said' where nothing that the law and all that it calls make is longer than what came in: it says more and counts as full. Else prove '..UptoSaid'. A law counts once. -/
mutual
def uptoBulk {H : Type} : DataW H → Nat
  | .lit (.string bytes) => bytes.length + 1
  | .lit _ => 1
  | .nil => 1
  | .ptr d => uptoBulk d + 1
  | .slice elems spare => uptoBulkAll elems + uptoBulkAll spare + 1
  | .agg parts => uptoBulkAll parts + 1
  | .iface _ d => uptoBulk d + 1
  | .map entries => uptoBulkEntries entries + 1
  | .held _ => 1
def uptoBulkAll {H : Type} : List (DataW H) → Nat
  | [] => 0
  | d :: r => uptoBulk d + uptoBulkAll r
def uptoBulkEntries {H : Type} : List (Lit × DataW H) → Nat
  | [] => 0
  | x :: r => uptoBulkEntry x + uptoBulkEntries r
def uptoBulkEntry {H : Type} : Lit × DataW H → Nat
  | (.string bytes, d) => bytes.length + uptoBulk d + 1
  | (_, d) => uptoBulk d + 1
 end
def uptoSmall : (H : Type) → List (DataW H) → Bool := fun _ ds => decide (uptoBulkAll ds ≤ 1048576)
def OpenSpec.upto (s : _root_.Go.ChangeSpec) : _root_.Go.OpenSpec := { _root_.Go.OpenSpec.ofChange s with cond := some uptoSmall }

/-- 'escritoirelaw.SumsPairs', WHERE WHAT IT READS IS OF BULK AT MOST 1048576: true; the input reads as it did. -/
def sumsPairsUptoRow : OpenClaim := { program := "ythimjckimggpoaa", sum := "d576ac2bb47bf42ed49fd182986bec5d95f4df2cb86d050eabdf3379ea1af3fe", func := "escritoire/escritoirelaw.SumsPairs", spec := "sumsPairs", apart := false, narrowed := true }
def SumsPairsUptoSaid : Prop := sumsPairsUptoRow.holds Try.pinned (OpenSpec.upto sumsPairsSpec)

/-- 'escritoirekeep.SumsLinear', WHERE WHAT IT READS IS OF BULK AT MOST 1048576: true; the input reads as it did. -/
def sumsLinearUptoRow : OpenClaim := { program := "ythimjckimggpoaa", sum := "d576ac2bb47bf42ed49fd182986bec5d95f4df2cb86d050eabdf3379ea1af3fe", func := "escritoire/escritoirekeep.SumsLinear", spec := "sumsLinear", apart := false, narrowed := true }
def SumsLinearUptoSaid : Prop := sumsLinearUptoRow.holds Try.pinned (OpenSpec.upto sumsLinearSpec)

/-- 'escritoirekeep.SumsBurst', WHERE WHAT IT READS IS OF BULK AT MOST 1048576: true; the input reads as it did. -/
def sumsBurstUptoRow : OpenClaim := { program := "ythimjckimggpoaa", sum := "d576ac2bb47bf42ed49fd182986bec5d95f4df2cb86d050eabdf3379ea1af3fe", func := "escritoire/escritoirekeep.SumsBurst", spec := "sumsBurst", apart := false, narrowed := true }
def SumsBurstUptoSaid : Prop := sumsBurstUptoRow.holds Try.pinned (OpenSpec.upto sumsBurstSpec)

/-- 'escritoirekeep.SumsForced', WHERE WHAT IT READS IS OF BULK AT MOST 1048576: true; the input reads as it did. -/
def sumsForcedUptoRow : OpenClaim := { program := "ythimjckimggpoaa", sum := "d576ac2bb47bf42ed49fd182986bec5d95f4df2cb86d050eabdf3379ea1af3fe", func := "escritoire/escritoirekeep.SumsForced", spec := "sumsForced", apart := false, narrowed := true }
def SumsForcedUptoSaid : Prop := sumsForcedUptoRow.holds Try.pinned (OpenSpec.upto sumsForcedSpec)

end Rows
end Go.Proofs.Ythimjckimggpoaa
