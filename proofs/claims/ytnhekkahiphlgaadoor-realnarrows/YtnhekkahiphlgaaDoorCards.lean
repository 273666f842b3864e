/-
  DERIVED. GIVEN WITH THE SEED: THE CARDS: each row of YtnhekkahiphlgaaDoorRows.lean that lists a variable, with what it lists TIED to the program's text (the seventh form; the later family's looks); each row that meets fmt, with fmt's text TOLD by the authors' own Lean function (tested against real Go, not proved from fmt's source: count such statements apart). THE CARD IS WHAT COUNTS. Prove the row's statement (the work); the ties are given (YtnhekkahiphlgaaDoorTie.lean); close each card by the builder's one call (the guide's Derived/Test/ToyasCard.lean, 'card_holds'). Laid BY PROGRAM, IN A SANDBOX (cutbox-door.mjs). By AI agents, Wed Nov 11 2026. No macro, syntax, notation, axiom, sorry.
-/
import Derived.Test.YtnhekkahiphlgaaDoorRows
import GoSem.ClaimSeven
namespace Go.Proofs.YtnhekkahiphlgaaDoor
namespace Rows

/-- THE TIED CARD OF 'escritoirelaw.RealJoins'. -/
def realJoinsCard : Claim7 := { stood := { row := realJoinsRow, standIns := [], harness := (true, "4b706b3ed173120a2ab539ff1f566eba9301bc3df3cc74bd56bc006d976e9e84"), looks := true }, kinds := [], alts := [], laidByText := true, laidKinds := [.handle, .data], laidTests := true, laidLooks := .later }
def RealJoinsCardSaid : Prop := Claim7.holds Tryd.pinned (.plain (OpenSpec.ofChange realJoinsSpec)) realJoinsCard

/-- THE TIED CARD OF 'escritoirelaw.RealSteps'. -/
def realStepsCard : Claim7 := { stood := { row := realStepsRow, standIns := [], harness := (true, "4b706b3ed173120a2ab539ff1f566eba9301bc3df3cc74bd56bc006d976e9e84"), looks := true }, kinds := [], alts := [], laidByText := true, laidKinds := [.handle, .data], laidTests := true, laidLooks := .later }
def RealStepsCardSaid : Prop := Claim7.holds Tryd.pinned (.plain (OpenSpec.ofChange realStepsSpec)) realStepsCard

/-- THE TIED CARD OF 'escritoirelaw.RealWidens'. -/
def realWidensCard : Claim7 := { stood := { row := realWidensRow, standIns := [], harness := (true, "4b706b3ed173120a2ab539ff1f566eba9301bc3df3cc74bd56bc006d976e9e84"), looks := true }, kinds := [], alts := [], laidByText := true, laidKinds := [.data], laidTests := true, laidLooks := .later }
def RealWidensCardSaid : Prop := Claim7.holds Tryd.pinned (.plain (OpenSpec.ofChange realWidensSpec)) realWidensCard

/-- THE TIED CARD OF 'escritoirelaw.RealNarrows'. -/
def realNarrowsCard : Claim7 := { stood := { row := realNarrowsRow, standIns := [], harness := (true, "4b706b3ed173120a2ab539ff1f566eba9301bc3df3cc74bd56bc006d976e9e84"), looks := true }, kinds := [], alts := [], laidByText := true, laidKinds := [.data], laidTests := true, laidLooks := .later }
def RealNarrowsCardSaid : Prop := Claim7.holds Tryd.pinned (.plain (OpenSpec.ofChange realNarrowsSpec)) realNarrowsCard

/-- THE TIED CARD OF 'escritoirekeep.RealNext'. -/
def realNextCard : Claim7 := { stood := { row := realNextRow, standIns := [], harness := (true, "4b706b3ed173120a2ab539ff1f566eba9301bc3df3cc74bd56bc006d976e9e84"), looks := true }, kinds := [], alts := [], laidByText := true, laidKinds := [.handle, .data], laidTests := true, laidLooks := .later }
def RealNextCardSaid : Prop := Claim7.holds Tryd.pinned (.plain (OpenSpec.ofChange realNextSpec)) realNextCard

/-- THE SECOND FORM's CARD OF 'escritoirelaw.RealJoins'. -/
def realJoinsUptoCard : Claim7 := { stood := { row := realJoinsUptoRow, standIns := [], harness := (true, "4b706b3ed173120a2ab539ff1f566eba9301bc3df3cc74bd56bc006d976e9e84"), looks := true }, kinds := [], alts := [], laidByText := true, laidKinds := [.handle, .data], laidTests := true, laidLooks := .later }
def RealJoinsUptoCardSaid : Prop := Claim7.holds Tryd.pinned (.plain (OpenSpec.upto realJoinsSpec)) realJoinsUptoCard

/-- THE SECOND FORM's CARD OF 'escritoirelaw.RealSteps'. -/
def realStepsUptoCard : Claim7 := { stood := { row := realStepsUptoRow, standIns := [], harness := (true, "4b706b3ed173120a2ab539ff1f566eba9301bc3df3cc74bd56bc006d976e9e84"), looks := true }, kinds := [], alts := [], laidByText := true, laidKinds := [.handle, .data], laidTests := true, laidLooks := .later }
def RealStepsUptoCardSaid : Prop := Claim7.holds Tryd.pinned (.plain (OpenSpec.upto realStepsSpec)) realStepsUptoCard

/-- THE SECOND FORM's CARD OF 'escritoirelaw.RealWidens'. -/
def realWidensUptoCard : Claim7 := { stood := { row := realWidensUptoRow, standIns := [], harness := (true, "4b706b3ed173120a2ab539ff1f566eba9301bc3df3cc74bd56bc006d976e9e84"), looks := true }, kinds := [], alts := [], laidByText := true, laidKinds := [.data], laidTests := true, laidLooks := .later }
def RealWidensUptoCardSaid : Prop := Claim7.holds Tryd.pinned (.plain (OpenSpec.upto realWidensSpec)) realWidensUptoCard

/-- THE SECOND FORM's CARD OF 'escritoirelaw.RealNarrows'. -/
def realNarrowsUptoCard : Claim7 := { stood := { row := realNarrowsUptoRow, standIns := [], harness := (true, "4b706b3ed173120a2ab539ff1f566eba9301bc3df3cc74bd56bc006d976e9e84"), looks := true }, kinds := [], alts := [], laidByText := true, laidKinds := [.data], laidTests := true, laidLooks := .later }
def RealNarrowsUptoCardSaid : Prop := Claim7.holds Tryd.pinned (.plain (OpenSpec.upto realNarrowsSpec)) realNarrowsUptoCard

/-- THE SECOND FORM's CARD OF 'escritoirekeep.RealNext'. -/
def realNextUptoCard : Claim7 := { stood := { row := realNextUptoRow, standIns := [], harness := (true, "4b706b3ed173120a2ab539ff1f566eba9301bc3df3cc74bd56bc006d976e9e84"), looks := true }, kinds := [], alts := [], laidByText := true, laidKinds := [.handle, .data], laidTests := true, laidLooks := .later }
def RealNextUptoCardSaid : Prop := Claim7.holds Tryd.pinned (.plain (OpenSpec.upto realNextSpec)) realNextUptoCard
end Rows
end Go.Proofs.YtnhekkahiphlgaaDoor
