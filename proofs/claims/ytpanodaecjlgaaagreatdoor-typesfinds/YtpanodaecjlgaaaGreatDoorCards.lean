/-
  DERIVED. GIVEN WITH THE SEED: THE CARDS: each row of YtpanodaecjlgaaaGreatDoorRows.lean that lists a variable, with what it lists TIED to the program's text (the seventh form; the later family's looks); each row that meets fmt, with fmt's text TOLD by the authors' own Lean function (tested against real Go, not proved from fmt's source: count such statements apart). THE CARD IS WHAT COUNTS. Prove the row's statement (the work); the ties are given (YtpanodaecjlgaaaGreatDoorTie.lean); close each card by the builder's one call (the guide's Derived/Test/ToyasCard.lean, 'card_holds'). Laid BY PROGRAM, IN A SANDBOX (cutbox-door.mjs). By AI agents, Wed Nov 11 2026. No macro, syntax, notation, axiom, sorry.
-/
import Derived.Test.YtpanodaecjlgaaaGreatDoorRows
import GoSem.ClaimSeven
namespace Go.Proofs.YtpanodaecjlgaaaGreatDoor
namespace Rows

/-- THE TIED CARD OF 'escritoirelaw.TmplReads'. -/
def tmplReadsCard : Claim7 := { stood := { row := tmplReadsRow, standIns := [], harness := (true, "2f2364eb04713451702a503a80ca0bf0edf764f8c70db3b4b7158c611ff48f9c"), looks := true }, kinds := [], alts := [], laidByText := true, laidKinds := [.data, .data, .data, .handle, .data, .data, .data], laidTests := true, laidLooks := .later }
def TmplReadsCardSaid : Prop := Claim7.holds Tryz.pinned (.plain (OpenSpec.ofChange tmplReadsSpec)) tmplReadsCard

/-- THE TIED CARD OF 'escritoirekeep.TmplAgain'. -/
def tmplAgainCard : Claim7 := { stood := { row := tmplAgainRow, standIns := [], harness := (true, "2f2364eb04713451702a503a80ca0bf0edf764f8c70db3b4b7158c611ff48f9c"), looks := true }, kinds := [], alts := [], laidByText := true, laidKinds := [.data, .data, .data, .handle, .data, .data, .data], laidTests := true, laidLooks := .later }
def TmplAgainCardSaid : Prop := Claim7.holds Tryz.pinned (.plain (OpenSpec.ofChange tmplAgainSpec)) tmplAgainCard

/-- THE TIED CARD OF 'escritoirekeep.TmplPieces'. -/
def tmplPiecesCard : Claim7 := { stood := { row := tmplPiecesRow, standIns := [], harness := (true, "2f2364eb04713451702a503a80ca0bf0edf764f8c70db3b4b7158c611ff48f9c"), looks := true }, kinds := [], alts := [], laidByText := true, laidKinds := [.data, .data, .data, .handle, .data, .data, .data], laidTests := true, laidLooks := .later }
def TmplPiecesCardSaid : Prop := Claim7.holds Tryz.pinned (.plain (OpenSpec.ofChange tmplPiecesSpec)) tmplPiecesCard

/-- THE TIED CARD OF 'escritoirelaw.TypesFinds'. -/
def typesFindsCard : Claim7 := { stood := { row := typesFindsRow, standIns := [], harness := (true, "2f2364eb04713451702a503a80ca0bf0edf764f8c70db3b4b7158c611ff48f9c"), looks := true }, kinds := [], alts := [], laidByText := true, laidKinds := [.handle], laidTests := true, laidLooks := .later }
def TypesFindsCardSaid : Prop := Claim7.holds Tryz.pinned (.plain (OpenSpec.ofChange typesFindsSpec)) typesFindsCard

/-- THE TIED CARD OF 'escritoirekeep.TypesNames'. -/
def typesNamesCard : Claim7 := { stood := { row := typesNamesRow, standIns := [], harness := (true, "2f2364eb04713451702a503a80ca0bf0edf764f8c70db3b4b7158c611ff48f9c"), looks := true }, kinds := [], alts := [], laidByText := true, laidKinds := [.data, .data, .data, .handle, .data, .data, .data], laidTests := true, laidLooks := .later }
def TypesNamesCardSaid : Prop := Claim7.holds Tryz.pinned (.plain (OpenSpec.ofChange typesNamesSpec)) typesNamesCard

/-- THE SECOND FORM's CARD OF 'escritoirelaw.TmplReads'. -/
def tmplReadsUptoCard : Claim7 := { stood := { row := tmplReadsUptoRow, standIns := [], harness := (true, "2f2364eb04713451702a503a80ca0bf0edf764f8c70db3b4b7158c611ff48f9c"), looks := true }, kinds := [], alts := [], laidByText := true, laidKinds := [.data, .data, .data, .handle, .data, .data, .data], laidTests := true, laidLooks := .later }
def TmplReadsUptoCardSaid : Prop := Claim7.holds Tryz.pinned (.plain (OpenSpec.upto tmplReadsSpec)) tmplReadsUptoCard

/-- THE SECOND FORM's CARD OF 'escritoirekeep.TmplAgain'. -/
def tmplAgainUptoCard : Claim7 := { stood := { row := tmplAgainUptoRow, standIns := [], harness := (true, "2f2364eb04713451702a503a80ca0bf0edf764f8c70db3b4b7158c611ff48f9c"), looks := true }, kinds := [], alts := [], laidByText := true, laidKinds := [.data, .data, .data, .handle, .data, .data, .data], laidTests := true, laidLooks := .later }
def TmplAgainUptoCardSaid : Prop := Claim7.holds Tryz.pinned (.plain (OpenSpec.upto tmplAgainSpec)) tmplAgainUptoCard

/-- THE SECOND FORM's CARD OF 'escritoirekeep.TmplPieces'. -/
def tmplPiecesUptoCard : Claim7 := { stood := { row := tmplPiecesUptoRow, standIns := [], harness := (true, "2f2364eb04713451702a503a80ca0bf0edf764f8c70db3b4b7158c611ff48f9c"), looks := true }, kinds := [], alts := [], laidByText := true, laidKinds := [.data, .data, .data, .handle, .data, .data, .data], laidTests := true, laidLooks := .later }
def TmplPiecesUptoCardSaid : Prop := Claim7.holds Tryz.pinned (.plain (OpenSpec.upto tmplPiecesSpec)) tmplPiecesUptoCard

/-- THE SECOND FORM's CARD OF 'escritoirelaw.TypesFinds'. -/
def typesFindsUptoCard : Claim7 := { stood := { row := typesFindsUptoRow, standIns := [], harness := (true, "2f2364eb04713451702a503a80ca0bf0edf764f8c70db3b4b7158c611ff48f9c"), looks := true }, kinds := [], alts := [], laidByText := true, laidKinds := [.handle], laidTests := true, laidLooks := .later }
def TypesFindsUptoCardSaid : Prop := Claim7.holds Tryz.pinned (.plain (OpenSpec.upto typesFindsSpec)) typesFindsUptoCard

/-- THE SECOND FORM's CARD OF 'escritoirekeep.TypesNames'. -/
def typesNamesUptoCard : Claim7 := { stood := { row := typesNamesUptoRow, standIns := [], harness := (true, "2f2364eb04713451702a503a80ca0bf0edf764f8c70db3b4b7158c611ff48f9c"), looks := true }, kinds := [], alts := [], laidByText := true, laidKinds := [.data, .data, .data, .handle, .data, .data, .data], laidTests := true, laidLooks := .later }
def TypesNamesUptoCardSaid : Prop := Claim7.holds Tryz.pinned (.plain (OpenSpec.upto typesNamesSpec)) typesNamesUptoCard
end Rows
end Go.Proofs.YtpanodaecjlgaaaGreatDoor
