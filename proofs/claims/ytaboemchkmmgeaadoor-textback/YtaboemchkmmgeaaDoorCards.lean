/-
  DERIVED. GIVEN WITH THE SEED: THE CARDS: each row of YtaboemchkmmgeaaDoorRows.lean that lists a variable, with what it lists TIED to the program's text (the seventh form; the later family's looks); each row that meets fmt, with fmt's text TOLD by the authors' own Lean function (tested against real Go, not proved from fmt's source: count such statements apart). THE CARD IS WHAT COUNTS. Prove the row's statement (the work); the ties are given (YtaboemchkmmgeaaDoorTie.lean); close each card by the builder's one call (the guide's Derived/Test/ToyasCard.lean, 'card_holds'). Laid BY PROGRAM, IN A SANDBOX (cutbox-door.mjs). By AI agents, Wed Nov 11 2026. No macro, syntax, notation, axiom, sorry.
-/
import Derived.Test.YtaboemchkmmgeaaDoorRows
import GoSem.ClaimSeven
namespace Go.Proofs.YtaboemchkmmgeaaDoor
namespace Rows

/-- THE TIED CARD OF 'escritoirelaw.TextDecodes'. -/
def textDecodesCard : Claim7 := { stood := { row := textDecodesRow, standIns := [], harness := (true, "da50a35cb85e1b5f2dec0d1fb941b3ff753e9b6ae2dc4309d0212b04c63d48c4"), looks := true }, kinds := [], alts := [], laidByText := true, laidKinds := [.data, .pinned], laidTests := true, laidLooks := .later }
def TextDecodesCardSaid : Prop := Claim7.holds Tryd.pinned (.plain (OpenSpec.ofChange textDecodesSpec)) textDecodesCard

/-- THE TIED CARD OF 'escritoirelaw.TextEncodes'. -/
def textEncodesCard : Claim7 := { stood := { row := textEncodesRow, standIns := [], harness := (true, "da50a35cb85e1b5f2dec0d1fb941b3ff753e9b6ae2dc4309d0212b04c63d48c4"), looks := true }, kinds := [], alts := [], laidByText := true, laidKinds := [.handle], laidTests := true, laidLooks := .later }
def TextEncodesCardSaid : Prop := Claim7.holds Tryd.pinned (.plain (OpenSpec.ofChange textEncodesSpec)) textEncodesCard

/-- THE TIED CARD OF 'escritoirelaw.TextNarrows'. -/
def textNarrowsCard : Claim7 := { stood := { row := textNarrowsRow, standIns := [], harness := (true, "da50a35cb85e1b5f2dec0d1fb941b3ff753e9b6ae2dc4309d0212b04c63d48c4"), looks := true }, kinds := [], alts := [], laidByText := true, laidKinds := [.handle], laidTests := true, laidLooks := .later }
def TextNarrowsCardSaid : Prop := Claim7.holds Tryd.pinned (.plain (OpenSpec.ofChange textNarrowsSpec)) textNarrowsCard

/-- THE TIED CARD OF 'escritoirekeep.TextBack'. -/
def textBackCard : Claim7 := { stood := { row := textBackRow, standIns := [], harness := (true, "da50a35cb85e1b5f2dec0d1fb941b3ff753e9b6ae2dc4309d0212b04c63d48c4"), looks := true }, kinds := [], alts := [], laidByText := true, laidKinds := [.data, .handle, .pinned], laidTests := true, laidLooks := .later }
def TextBackCardSaid : Prop := Claim7.holds Tryd.pinned (.plain (OpenSpec.ofChange textBackSpec)) textBackCard

/-- THE TIED CARD OF 'escritoirekeep.TextWhole'. -/
def textWholeCard : Claim7 := { stood := { row := textWholeRow, standIns := [], harness := (true, "da50a35cb85e1b5f2dec0d1fb941b3ff753e9b6ae2dc4309d0212b04c63d48c4"), looks := true }, kinds := [], alts := [], laidByText := true, laidKinds := [.data, .pinned], laidTests := true, laidLooks := .later }
def TextWholeCardSaid : Prop := Claim7.holds Tryd.pinned (.plain (OpenSpec.ofChange textWholeSpec)) textWholeCard

/-- THE SECOND FORM's CARD OF 'escritoirelaw.TextDecodes'. -/
def textDecodesUptoCard : Claim7 := { stood := { row := textDecodesUptoRow, standIns := [], harness := (true, "da50a35cb85e1b5f2dec0d1fb941b3ff753e9b6ae2dc4309d0212b04c63d48c4"), looks := true }, kinds := [], alts := [], laidByText := true, laidKinds := [.data, .pinned], laidTests := true, laidLooks := .later }
def TextDecodesUptoCardSaid : Prop := Claim7.holds Tryd.pinned (.plain (OpenSpec.upto textDecodesSpec)) textDecodesUptoCard

/-- THE SECOND FORM's CARD OF 'escritoirelaw.TextEncodes'. -/
def textEncodesUptoCard : Claim7 := { stood := { row := textEncodesUptoRow, standIns := [], harness := (true, "da50a35cb85e1b5f2dec0d1fb941b3ff753e9b6ae2dc4309d0212b04c63d48c4"), looks := true }, kinds := [], alts := [], laidByText := true, laidKinds := [.handle], laidTests := true, laidLooks := .later }
def TextEncodesUptoCardSaid : Prop := Claim7.holds Tryd.pinned (.plain (OpenSpec.upto textEncodesSpec)) textEncodesUptoCard

/-- THE SECOND FORM's CARD OF 'escritoirelaw.TextNarrows'. -/
def textNarrowsUptoCard : Claim7 := { stood := { row := textNarrowsUptoRow, standIns := [], harness := (true, "da50a35cb85e1b5f2dec0d1fb941b3ff753e9b6ae2dc4309d0212b04c63d48c4"), looks := true }, kinds := [], alts := [], laidByText := true, laidKinds := [.handle], laidTests := true, laidLooks := .later }
def TextNarrowsUptoCardSaid : Prop := Claim7.holds Tryd.pinned (.plain (OpenSpec.upto textNarrowsSpec)) textNarrowsUptoCard

/-- THE SECOND FORM's CARD OF 'escritoirekeep.TextBack'. -/
def textBackUptoCard : Claim7 := { stood := { row := textBackUptoRow, standIns := [], harness := (true, "da50a35cb85e1b5f2dec0d1fb941b3ff753e9b6ae2dc4309d0212b04c63d48c4"), looks := true }, kinds := [], alts := [], laidByText := true, laidKinds := [.data, .handle, .pinned], laidTests := true, laidLooks := .later }
def TextBackUptoCardSaid : Prop := Claim7.holds Tryd.pinned (.plain (OpenSpec.upto textBackSpec)) textBackUptoCard

/-- THE SECOND FORM's CARD OF 'escritoirekeep.TextWhole'. -/
def textWholeUptoCard : Claim7 := { stood := { row := textWholeUptoRow, standIns := [], harness := (true, "da50a35cb85e1b5f2dec0d1fb941b3ff753e9b6ae2dc4309d0212b04c63d48c4"), looks := true }, kinds := [], alts := [], laidByText := true, laidKinds := [.data, .pinned], laidTests := true, laidLooks := .later }
def TextWholeUptoCardSaid : Prop := Claim7.holds Tryd.pinned (.plain (OpenSpec.upto textWholeSpec)) textWholeUptoCard
end Rows
end Go.Proofs.YtaboemchkmmgeaaDoor
