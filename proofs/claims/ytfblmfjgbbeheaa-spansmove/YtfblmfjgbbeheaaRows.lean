/-
  No cell of these rows narrows 'for every input' (looked for: loops, veiled, ifaces, maps, wideKeys, modest, calm, conditions, laid).
  DERIVED. THE GIVEN ROWS OF THIS SEAT. 5 by the template 'for every input the law returns true; each argument reads behind the call as it read before'; 0 by the template 'total and deterministic' (their statements: YtfblmfjgbbeheaaTotals.lean).
  GIVEN WITH THE SEED: the statements are not yours to turn. If you find one false, say at which input.
  Laid BY PROGRAM, IN A SANDBOX (cutbox-rows.mjs): the forced cells as the released guide's own fill.sh prints them over the translation cea98e9a07078867… (all of the seat's roots in one cut). By AI agents, Wed Nov 11 2026. No macro, syntax, notation, axiom, sorry.
-/
import Derived.Test.YtfblmfjgbbeheaaChecked
import GoSem.Claim
import GoSem.ClaimJoined
import GoSem.ClaimMapViews
import Derived.JoinedTies
import Derived.KernelRfl
namespace Go.Proofs.Ytfblmfjgbbeheaa
/- THE CELL 'sum', in the pinned program and in every row, IS THE sha256 OF THE DUMP (.gsa) THAT YtfblmfjgbbeheaaProg.lean LOADS. Nothing in Lean hashes anything: it is a label: what it is worth is what the hold of that sum in a sandbox is worth. -/
noncomputable def Try.pinned : Pinned := { name := "ytfblmfjgbbeheaa", sum := "cea98e9a070788671ef5dc78ca8b242a29adb524d8d3630fbdb087a85ae3d822", checked := Try.checked }
namespace Rows
def none {H : Type} : Left H := { results := [], args := [] }

/-- 'escritoirelaw.SpansSets': WHATEVER THE INPUT: true; the input reads as it did. -/
def spansSetsSpec : ChangeSpec := { name := "spansSets", fn := fun _ => fun
  | [d1, d2, d3, d4] => { results := [.lit (.bool true)], args := [d1, d2, d3, d4] }
  | _ => none }
def spansSetsRow : OpenClaim := { program := "ytfblmfjgbbeheaa", sum := "cea98e9a070788671ef5dc78ca8b242a29adb524d8d3630fbdb087a85ae3d822", func := "escritoire/escritoirelaw.SpansSets", spec := "spansSets", unfollowed := true, recurses := true, apart := false }
def SpansSetsSaid : Prop := spansSetsRow.holds Try.pinned (OpenSpec.ofChange spansSetsSpec)

/-- ITS FALSE NEIGHBOUR: 'it returns false'. Refute it at one input. -/
def spansSetsWrong : ChangeSpec := { name := "spansSets", fn := fun _ => fun
  | [d1, d2, d3, d4] => { results := [.lit (.bool false)], args := [d1, d2, d3, d4] }
  | _ => none }
def SpansSetsWrongFalsely : Prop := spansSetsRow.holds Try.pinned (OpenSpec.ofChange spansSetsWrong)

/-- 'escritoirelaw.SpansMove': WHATEVER THE INPUT: true; the input reads as it did. -/
def spansMoveSpec : ChangeSpec := { name := "spansMove", fn := fun _ => fun
  | [d1, d2, d3, d4, d5] => { results := [.lit (.bool true)], args := [d1, d2, d3, d4, d5] }
  | _ => none }
def spansMoveRow : OpenClaim := { program := "ytfblmfjgbbeheaa", sum := "cea98e9a070788671ef5dc78ca8b242a29adb524d8d3630fbdb087a85ae3d822", func := "escritoire/escritoirelaw.SpansMove", spec := "spansMove", unfollowed := true, recurses := true, apart := false }
def SpansMoveSaid : Prop := spansMoveRow.holds Try.pinned (OpenSpec.ofChange spansMoveSpec)

/-- ITS FALSE NEIGHBOUR: 'it returns false'. Refute it at one input. -/
def spansMoveWrong : ChangeSpec := { name := "spansMove", fn := fun _ => fun
  | [d1, d2, d3, d4, d5] => { results := [.lit (.bool false)], args := [d1, d2, d3, d4, d5] }
  | _ => none }
def SpansMoveWrongFalsely : Prop := spansMoveRow.holds Try.pinned (OpenSpec.ofChange spansMoveWrong)

/-- 'escritoirekeep.SpansOne': WHATEVER THE INPUT: true; the input reads as it did. -/
def spansOneSpec : ChangeSpec := { name := "spansOne", fn := fun _ => fun
  | [d1, d2] => { results := [.lit (.bool true)], args := [d1, d2] }
  | _ => none }
def spansOneRow : OpenClaim := { program := "ytfblmfjgbbeheaa", sum := "cea98e9a070788671ef5dc78ca8b242a29adb524d8d3630fbdb087a85ae3d822", func := "escritoire/escritoirekeep.SpansOne", spec := "spansOne", unfollowed := true, recurses := true, apart := false }
def SpansOneSaid : Prop := spansOneRow.holds Try.pinned (OpenSpec.ofChange spansOneSpec)

/-- ITS FALSE NEIGHBOUR: 'it returns false'. Refute it at one input. -/
def spansOneWrong : ChangeSpec := { name := "spansOne", fn := fun _ => fun
  | [d1, d2] => { results := [.lit (.bool false)], args := [d1, d2] }
  | _ => none }
def SpansOneWrongFalsely : Prop := spansOneRow.holds Try.pinned (OpenSpec.ofChange spansOneWrong)

/-- 'escritoirekeep.SpansLaws': WHATEVER THE INPUT: true; the input reads as it did. -/
def spansLawsSpec : ChangeSpec := { name := "spansLaws", fn := fun _ => fun
  | [d1, d2, d3, d4] => { results := [.lit (.bool true)], args := [d1, d2, d3, d4] }
  | _ => none }
def spansLawsRow : OpenClaim := { program := "ytfblmfjgbbeheaa", sum := "cea98e9a070788671ef5dc78ca8b242a29adb524d8d3630fbdb087a85ae3d822", func := "escritoire/escritoirekeep.SpansLaws", spec := "spansLaws", unfollowed := true, recurses := true, apart := false }
def SpansLawsSaid : Prop := spansLawsRow.holds Try.pinned (OpenSpec.ofChange spansLawsSpec)

/-- ITS FALSE NEIGHBOUR: 'it returns false'. Refute it at one input. -/
def spansLawsWrong : ChangeSpec := { name := "spansLaws", fn := fun _ => fun
  | [d1, d2, d3, d4] => { results := [.lit (.bool false)], args := [d1, d2, d3, d4] }
  | _ => none }
def SpansLawsWrongFalsely : Prop := spansLawsRow.holds Try.pinned (OpenSpec.ofChange spansLawsWrong)

/-- 'escritoirekeep.SpansFollow': WHATEVER THE INPUT: true; the input reads as it did. -/
def spansFollowSpec : ChangeSpec := { name := "spansFollow", fn := fun _ => fun
  | [d1, d2, d3, d4, d5, d6] => { results := [.lit (.bool true)], args := [d1, d2, d3, d4, d5, d6] }
  | _ => none }
def spansFollowRow : OpenClaim := { program := "ytfblmfjgbbeheaa", sum := "cea98e9a070788671ef5dc78ca8b242a29adb524d8d3630fbdb087a85ae3d822", func := "escritoire/escritoirekeep.SpansFollow", spec := "spansFollow", unfollowed := true, recurses := true, apart := false }
def SpansFollowSaid : Prop := spansFollowRow.holds Try.pinned (OpenSpec.ofChange spansFollowSpec)

/-- ITS FALSE NEIGHBOUR: 'it returns false'. Refute it at one input. -/
def spansFollowWrong : ChangeSpec := { name := "spansFollow", fn := fun _ => fun
  | [d1, d2, d3, d4, d5, d6] => { results := [.lit (.bool false)], args := [d1, d2, d3, d4, d5, d6] }
  | _ => none }
def SpansFollowWrongFalsely : Prop := spansFollowRow.holds Try.pinned (OpenSpec.ofChange spansFollowWrong)

/- THE SECOND FORM. 'bulk': how many values and letters a reading holds, each counted each time it is reached (what is shared counts as often as it is met; a slice's spare places count too). A statement '..UptoSaid' is the law's where the arguments, and the package variables that the reading takes, are together of bulk at most 1048576: NARROWER than '..Said'. Prove '..Said' where nothing that the law and all that it calls make is longer than what came in: it says more and counts as full. Else prove '..UptoSaid'. A law counts once. -/
mutual
def uptoBulk {H : Type} : DataW H → Nat
  | .lit (.string bytes) => bytes.length + 1
  | .lit _ => 1
  | .nil => 1
  | .ptr d => uptoBulk d + 1
  | .slice elems spare => uptoBulkAll elems + uptoBulkAll spare + 1
  | .agg parts => uptoBulkAll parts + 1
  | .iface _ d => uptoBulk d + 1
  | .map entries => uptoBulkEntries entries + 1
  | .held _ => 1
def uptoBulkAll {H : Type} : List (DataW H) → Nat
  | [] => 0
  | d :: r => uptoBulk d + uptoBulkAll r
def uptoBulkEntries {H : Type} : List (Lit × DataW H) → Nat
  | [] => 0
  | x :: r => uptoBulkEntry x + uptoBulkEntries r
def uptoBulkEntry {H : Type} : Lit × DataW H → Nat
  | (.string bytes, d) => bytes.length + uptoBulk d + 1
  | (_, d) => uptoBulk d + 1
 end
def uptoSmall : (H : Type) → List (DataW H) → Bool := fun _ ds => decide (uptoBulkAll ds ≤ 1048576)
def OpenSpec.upto (s : _root_.Go.ChangeSpec) : _root_.Go.OpenSpec := { _root_.Go.OpenSpec.ofChange s with cond := some uptoSmall }

/-- 'escritoirelaw.SpansSets', WHERE WHAT IT READS IS OF BULK AT MOST 1048576: true; the input reads as it did. -/
def spansSetsUptoRow : OpenClaim := { program := "ytfblmfjgbbeheaa", sum := "cea98e9a070788671ef5dc78ca8b242a29adb524d8d3630fbdb087a85ae3d822", func := "escritoire/escritoirelaw.SpansSets", spec := "spansSets", unfollowed := true, recurses := true, apart := false, narrowed := true }
def SpansSetsUptoSaid : Prop := spansSetsUptoRow.holds Try.pinned (OpenSpec.upto spansSetsSpec)

/-- 'escritoirelaw.SpansMove', WHERE WHAT IT READS IS OF BULK AT MOST 1048576: true; the input reads as it did. -/
def spansMoveUptoRow : OpenClaim := { program := "ytfblmfjgbbeheaa", sum := "cea98e9a070788671ef5dc78ca8b242a29adb524d8d3630fbdb087a85ae3d822", func := "escritoire/escritoirelaw.SpansMove", spec := "spansMove", unfollowed := true, recurses := true, apart := false, narrowed := true }
def SpansMoveUptoSaid : Prop := spansMoveUptoRow.holds Try.pinned (OpenSpec.upto spansMoveSpec)

/-- 'escritoirekeep.SpansOne', WHERE WHAT IT READS IS OF BULK AT MOST 1048576: true; the input reads as it did. -/
def spansOneUptoRow : OpenClaim := { program := "ytfblmfjgbbeheaa", sum := "cea98e9a070788671ef5dc78ca8b242a29adb524d8d3630fbdb087a85ae3d822", func := "escritoire/escritoirekeep.SpansOne", spec := "spansOne", unfollowed := true, recurses := true, apart := false, narrowed := true }
def SpansOneUptoSaid : Prop := spansOneUptoRow.holds Try.pinned (OpenSpec.upto spansOneSpec)

/-- 'escritoirekeep.SpansLaws', WHERE WHAT IT READS IS OF BULK AT MOST 1048576: true; the input reads as it did. -/
def spansLawsUptoRow : OpenClaim := { program := "ytfblmfjgbbeheaa", sum := "cea98e9a070788671ef5dc78ca8b242a29adb524d8d3630fbdb087a85ae3d822", func := "escritoire/escritoirekeep.SpansLaws", spec := "spansLaws", unfollowed := true, recurses := true, apart := false, narrowed := true }
def SpansLawsUptoSaid : Prop := spansLawsUptoRow.holds Try.pinned (OpenSpec.upto spansLawsSpec)

/-- 'escritoirekeep.SpansFollow', WHERE WHAT IT READS IS OF BULK AT MOST 1048576: true; the input reads as it did. -/
def spansFollowUptoRow : OpenClaim := { program := "ytfblmfjgbbeheaa", sum := "cea98e9a070788671ef5dc78ca8b242a29adb524d8d3630fbdb087a85ae3d822", func := "escritoire/escritoirekeep.SpansFollow", spec := "spansFollow", unfollowed := true, recurses := true, apart := false, narrowed := true }
def SpansFollowUptoSaid : Prop := spansFollowUptoRow.holds Try.pinned (OpenSpec.upto spansFollowSpec)

end Rows
end Go.Proofs.Ytfblmfjgbbeheaa
