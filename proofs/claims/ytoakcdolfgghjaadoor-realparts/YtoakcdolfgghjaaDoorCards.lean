/-
  DERIVED. GIVEN WITH THE SEED: THE CARDS: each row of YtoakcdolfgghjaaDoorRows.lean that lists a variable, with what it lists TIED to the program's text (the seventh form; the later family's looks); each row that meets fmt, with fmt's text TOLD by the authors' own Lean function (tested against real Go, not proved from fmt's source: count such statements apart). THE CARD IS WHAT COUNTS. Prove the row's statement (the work); the ties are given (YtoakcdolfgghjaaDoorTie.lean); close each card by the builder's one call (the guide's Derived/Test/ToyasCard.lean, 'card_holds'). Laid BY PROGRAM, IN A SANDBOX (cutbox-door.mjs). By AI agents, Wed Nov 11 2026. No macro, syntax, notation, axiom, sorry.
-/
import Derived.Test.YtoakcdolfgghjaaDoorRows
import GoSem.ClaimSeven
namespace Go.Proofs.YtoakcdolfgghjaaDoor
namespace Rows

/-- THE TIED CARD OF 'escritoirelaw.RealParts'. -/
def realPartsCard : Claim7 := { stood := { row := realPartsRow, standIns := [], harness := (true, "be94f2366b7d1d2296b4e97ffe62a88a836956604abf9c0b563619c378c0af86"), looks := true }, kinds := [], alts := [], laidByText := true, laidKinds := [.handle, .data], laidTests := true, laidLooks := .later }
def RealPartsCardSaid : Prop := Claim7.holds Tryd.pinned (.plain (OpenSpec.ofChange realPartsSpec)) realPartsCard

/-- THE TIED CARD OF 'escritoirelaw.RealJoins'. -/
def realJoinsCard : Claim7 := { stood := { row := realJoinsRow, standIns := [], harness := (true, "be94f2366b7d1d2296b4e97ffe62a88a836956604abf9c0b563619c378c0af86"), looks := true }, kinds := [], alts := [], laidByText := true, laidKinds := [.handle, .data], laidTests := true, laidLooks := .later }
def RealJoinsCardSaid : Prop := Claim7.holds Tryd.pinned (.plain (OpenSpec.ofChange realJoinsSpec)) realJoinsCard

/-- THE TIED CARD OF 'escritoirelaw.RealSteps'. -/
def realStepsCard : Claim7 := { stood := { row := realStepsRow, standIns := [], harness := (true, "be94f2366b7d1d2296b4e97ffe62a88a836956604abf9c0b563619c378c0af86"), looks := true }, kinds := [], alts := [], laidByText := true, laidKinds := [.handle, .data], laidTests := true, laidLooks := .later }
def RealStepsCardSaid : Prop := Claim7.holds Tryd.pinned (.plain (OpenSpec.ofChange realStepsSpec)) realStepsCard

/-- THE TIED CARD OF 'escritoirelaw.RealWidens'. -/
def realWidensCard : Claim7 := { stood := { row := realWidensRow, standIns := [], harness := (true, "be94f2366b7d1d2296b4e97ffe62a88a836956604abf9c0b563619c378c0af86"), looks := true }, kinds := [], alts := [], laidByText := true, laidKinds := [.data], laidTests := true, laidLooks := .later }
def RealWidensCardSaid : Prop := Claim7.holds Tryd.pinned (.plain (OpenSpec.ofChange realWidensSpec)) realWidensCard

/-- THE TIED CARD OF 'escritoirelaw.RealNarrows'. -/
def realNarrowsCard : Claim7 := { stood := { row := realNarrowsRow, standIns := [], harness := (true, "be94f2366b7d1d2296b4e97ffe62a88a836956604abf9c0b563619c378c0af86"), looks := true }, kinds := [], alts := [], laidByText := true, laidKinds := [.data], laidTests := true, laidLooks := .later }
def RealNarrowsCardSaid : Prop := Claim7.holds Tryd.pinned (.plain (OpenSpec.ofChange realNarrowsSpec)) realNarrowsCard

/-- THE TIED CARD OF 'escritoirekeep.RealBack'. -/
def realBackCard : Claim7 := { stood := { row := realBackRow, standIns := [], harness := (true, "be94f2366b7d1d2296b4e97ffe62a88a836956604abf9c0b563619c378c0af86"), looks := true }, kinds := [], alts := [], laidByText := true, laidKinds := [.data], laidTests := true, laidLooks := .later }
def RealBackCardSaid : Prop := Claim7.holds Tryd.pinned (.plain (OpenSpec.ofChange realBackSpec)) realBackCard

/-- THE SECOND FORM's CARD OF 'escritoirelaw.RealParts'. -/
def realPartsUptoCard : Claim7 := { stood := { row := realPartsUptoRow, standIns := [], harness := (true, "be94f2366b7d1d2296b4e97ffe62a88a836956604abf9c0b563619c378c0af86"), looks := true }, kinds := [], alts := [], laidByText := true, laidKinds := [.handle, .data], laidTests := true, laidLooks := .later }
def RealPartsUptoCardSaid : Prop := Claim7.holds Tryd.pinned (.plain (OpenSpec.upto realPartsSpec)) realPartsUptoCard

/-- THE SECOND FORM's CARD OF 'escritoirelaw.RealJoins'. -/
def realJoinsUptoCard : Claim7 := { stood := { row := realJoinsUptoRow, standIns := [], harness := (true, "be94f2366b7d1d2296b4e97ffe62a88a836956604abf9c0b563619c378c0af86"), looks := true }, kinds := [], alts := [], laidByText := true, laidKinds := [.handle, .data], laidTests := true, laidLooks := .later }
def RealJoinsUptoCardSaid : Prop := Claim7.holds Tryd.pinned (.plain (OpenSpec.upto realJoinsSpec)) realJoinsUptoCard

/-- THE SECOND FORM's CARD OF 'escritoirelaw.RealSteps'. -/
def realStepsUptoCard : Claim7 := { stood := { row := realStepsUptoRow, standIns := [], harness := (true, "be94f2366b7d1d2296b4e97ffe62a88a836956604abf9c0b563619c378c0af86"), looks := true }, kinds := [], alts := [], laidByText := true, laidKinds := [.handle, .data], laidTests := true, laidLooks := .later }
def RealStepsUptoCardSaid : Prop := Claim7.holds Tryd.pinned (.plain (OpenSpec.upto realStepsSpec)) realStepsUptoCard

/-- THE SECOND FORM's CARD OF 'escritoirelaw.RealWidens'. -/
def realWidensUptoCard : Claim7 := { stood := { row := realWidensUptoRow, standIns := [], harness := (true, "be94f2366b7d1d2296b4e97ffe62a88a836956604abf9c0b563619c378c0af86"), looks := true }, kinds := [], alts := [], laidByText := true, laidKinds := [.data], laidTests := true, laidLooks := .later }
def RealWidensUptoCardSaid : Prop := Claim7.holds Tryd.pinned (.plain (OpenSpec.upto realWidensSpec)) realWidensUptoCard

/-- THE SECOND FORM's CARD OF 'escritoirelaw.RealNarrows'. -/
def realNarrowsUptoCard : Claim7 := { stood := { row := realNarrowsUptoRow, standIns := [], harness := (true, "be94f2366b7d1d2296b4e97ffe62a88a836956604abf9c0b563619c378c0af86"), looks := true }, kinds := [], alts := [], laidByText := true, laidKinds := [.data], laidTests := true, laidLooks := .later }
def RealNarrowsUptoCardSaid : Prop := Claim7.holds Tryd.pinned (.plain (OpenSpec.upto realNarrowsSpec)) realNarrowsUptoCard

/-- THE SECOND FORM's CARD OF 'escritoirekeep.RealBack'. -/
def realBackUptoCard : Claim7 := { stood := { row := realBackUptoRow, standIns := [], harness := (true, "be94f2366b7d1d2296b4e97ffe62a88a836956604abf9c0b563619c378c0af86"), looks := true }, kinds := [], alts := [], laidByText := true, laidKinds := [.data], laidTests := true, laidLooks := .later }
def RealBackUptoCardSaid : Prop := Claim7.holds Tryd.pinned (.plain (OpenSpec.upto realBackSpec)) realBackUptoCard
end Rows
end Go.Proofs.YtoakcdolfgghjaaDoor
