/-
  DERIVED. GIVEN WITH THE SEED: THE CARDS: each row of YtncmpjdapngmpaaDoorRows.lean that lists a variable, with what it lists TIED to the program's text (the seventh form; the later family's looks); each row that meets fmt, with fmt's text TOLD by the authors' own Lean function (tested against real Go, not proved from fmt's source: count such statements apart). THE CARD IS WHAT COUNTS. Prove the row's statement (the work); the ties are given (YtncmpjdapngmpaaDoorTie.lean); close each card by the builder's one call (the guide's Derived/Test/ToyasCard.lean, 'card_holds'). Laid BY PROGRAM, IN A SANDBOX (cutbox-door.mjs). By AI agents, Wed Nov 11 2026. No macro, syntax, notation, axiom, sorry.
-/
import Derived.Test.YtncmpjdapngmpaaDoorRows
import GoSem.ClaimSeven
namespace Go.Proofs.YtncmpjdapngmpaaDoor
namespace Rows

/-- THE TIED CARD OF 'escritoirelaw.DigitsPrints'. -/
def digitsPrintsCard : Claim7 := { stood := { row := digitsPrintsRow, standIns := [], harness := (true, "b47a621a2adbcce19bb2b222f4054078daf8760fcc217c0053af485b12705170"), looks := true }, kinds := [], alts := [], laidByText := true, laidKinds := [.handle], laidTests := true, laidLooks := .later }
def DigitsPrintsCardSaid : Prop := Claim7.holds Tryd.pinned (.plain (OpenSpec.ofChange digitsPrintsSpec)) digitsPrintsCard

/-- THE TIED CARD OF 'escritoirelaw.DigitsParses'. -/
def digitsParsesCard : Claim7 := { stood := { row := digitsParsesRow, standIns := [], harness := (true, "b47a621a2adbcce19bb2b222f4054078daf8760fcc217c0053af485b12705170"), looks := true }, kinds := [], alts := [], laidByText := true, laidKinds := [.handle], laidTests := true, laidLooks := .later }
def DigitsParsesCardSaid : Prop := Claim7.holds Tryd.pinned (.plain (OpenSpec.ofChange digitsParsesSpec)) digitsParsesCard

/-- THE TIED CARD OF 'escritoirelaw.DigitsHex'. -/
def digitsHexCard : Claim7 := { stood := { row := digitsHexRow, standIns := [], harness := (true, "b47a621a2adbcce19bb2b222f4054078daf8760fcc217c0053af485b12705170"), looks := true }, kinds := [], alts := [], laidByText := true, laidKinds := [.handle], laidTests := true, laidLooks := .later }
def DigitsHexCardSaid : Prop := Claim7.holds Tryd.pinned (.plain (OpenSpec.ofChange digitsHexSpec)) digitsHexCard

/-- THE TIED CARD OF 'escritoirekeep.DigitsBack'. -/
def digitsBackCard : Claim7 := { stood := { row := digitsBackRow, standIns := [], harness := (true, "b47a621a2adbcce19bb2b222f4054078daf8760fcc217c0053af485b12705170"), looks := true }, kinds := [], alts := [], laidByText := true, laidKinds := [.data, .handle, .pinned, .pinned], laidTests := true, laidLooks := .later }
def DigitsBackCardSaid : Prop := Claim7.holds Tryd.pinned (.plain (OpenSpec.ofChange digitsBackSpec)) digitsBackCard

/-- THE TIED CARD OF 'escritoirekeep.DigitsShort'. -/
def digitsShortCard : Claim7 := { stood := { row := digitsShortRow, standIns := [], harness := (true, "b47a621a2adbcce19bb2b222f4054078daf8760fcc217c0053af485b12705170"), looks := true }, kinds := [], alts := [], laidByText := true, laidKinds := [.handle], laidTests := true, laidLooks := .later }
def DigitsShortCardSaid : Prop := Claim7.holds Tryd.pinned (.plain (OpenSpec.ofChange digitsShortSpec)) digitsShortCard

/-- THE TIED CARD OF 'escritoirekeep.DigitsPairs'. -/
def digitsPairsCard : Claim7 := { stood := { row := digitsPairsRow, standIns := [], harness := (true, "b47a621a2adbcce19bb2b222f4054078daf8760fcc217c0053af485b12705170"), looks := true }, kinds := [], alts := [], laidByText := true, laidKinds := [.handle], laidTests := true, laidLooks := .later }
def DigitsPairsCardSaid : Prop := Claim7.holds Tryd.pinned (.plain (OpenSpec.ofChange digitsPairsSpec)) digitsPairsCard

/-- THE SECOND FORM's CARD OF 'escritoirelaw.DigitsPrints'. -/
def digitsPrintsUptoCard : Claim7 := { stood := { row := digitsPrintsUptoRow, standIns := [], harness := (true, "b47a621a2adbcce19bb2b222f4054078daf8760fcc217c0053af485b12705170"), looks := true }, kinds := [], alts := [], laidByText := true, laidKinds := [.handle], laidTests := true, laidLooks := .later }
def DigitsPrintsUptoCardSaid : Prop := Claim7.holds Tryd.pinned (.plain (OpenSpec.upto digitsPrintsSpec)) digitsPrintsUptoCard

/-- THE SECOND FORM's CARD OF 'escritoirelaw.DigitsParses'. -/
def digitsParsesUptoCard : Claim7 := { stood := { row := digitsParsesUptoRow, standIns := [], harness := (true, "b47a621a2adbcce19bb2b222f4054078daf8760fcc217c0053af485b12705170"), looks := true }, kinds := [], alts := [], laidByText := true, laidKinds := [.handle], laidTests := true, laidLooks := .later }
def DigitsParsesUptoCardSaid : Prop := Claim7.holds Tryd.pinned (.plain (OpenSpec.upto digitsParsesSpec)) digitsParsesUptoCard

/-- THE SECOND FORM's CARD OF 'escritoirelaw.DigitsHex'. -/
def digitsHexUptoCard : Claim7 := { stood := { row := digitsHexUptoRow, standIns := [], harness := (true, "b47a621a2adbcce19bb2b222f4054078daf8760fcc217c0053af485b12705170"), looks := true }, kinds := [], alts := [], laidByText := true, laidKinds := [.handle], laidTests := true, laidLooks := .later }
def DigitsHexUptoCardSaid : Prop := Claim7.holds Tryd.pinned (.plain (OpenSpec.upto digitsHexSpec)) digitsHexUptoCard

/-- THE SECOND FORM's CARD OF 'escritoirekeep.DigitsBack'. -/
def digitsBackUptoCard : Claim7 := { stood := { row := digitsBackUptoRow, standIns := [], harness := (true, "b47a621a2adbcce19bb2b222f4054078daf8760fcc217c0053af485b12705170"), looks := true }, kinds := [], alts := [], laidByText := true, laidKinds := [.data, .handle, .pinned, .pinned], laidTests := true, laidLooks := .later }
def DigitsBackUptoCardSaid : Prop := Claim7.holds Tryd.pinned (.plain (OpenSpec.upto digitsBackSpec)) digitsBackUptoCard

/-- THE SECOND FORM's CARD OF 'escritoirekeep.DigitsShort'. -/
def digitsShortUptoCard : Claim7 := { stood := { row := digitsShortUptoRow, standIns := [], harness := (true, "b47a621a2adbcce19bb2b222f4054078daf8760fcc217c0053af485b12705170"), looks := true }, kinds := [], alts := [], laidByText := true, laidKinds := [.handle], laidTests := true, laidLooks := .later }
def DigitsShortUptoCardSaid : Prop := Claim7.holds Tryd.pinned (.plain (OpenSpec.upto digitsShortSpec)) digitsShortUptoCard

/-- THE SECOND FORM's CARD OF 'escritoirekeep.DigitsPairs'. -/
def digitsPairsUptoCard : Claim7 := { stood := { row := digitsPairsUptoRow, standIns := [], harness := (true, "b47a621a2adbcce19bb2b222f4054078daf8760fcc217c0053af485b12705170"), looks := true }, kinds := [], alts := [], laidByText := true, laidKinds := [.handle], laidTests := true, laidLooks := .later }
def DigitsPairsUptoCardSaid : Prop := Claim7.holds Tryd.pinned (.plain (OpenSpec.upto digitsPairsSpec)) digitsPairsUptoCard
end Rows
end Go.Proofs.YtncmpjdapngmpaaDoor
