/-
  DERIVED. GIVEN WITH THE SEED: THE CARDS: each row of YtnhdaolieifhnaaGreatDoorRows.lean that lists a variable, with what it lists TIED to the program's text (the seventh form; the later family's looks); each row that meets fmt, with fmt's text TOLD by the authors' own Lean function (tested against real Go, not proved from fmt's source: count such statements apart). THE CARD IS WHAT COUNTS. Prove the row's statement (the work); the ties are given (YtnhdaolieifhnaaGreatDoorTie.lean); close each card by the builder's one call (the guide's Derived/Test/ToyasCard.lean, 'card_holds'). Laid BY PROGRAM, IN A SANDBOX (cutbox-door.mjs). By AI agents, Wed Nov 11 2026. No macro, syntax, notation, axiom, sorry.
-/
import Derived.Test.YtnhdaolieifhnaaGreatDoorRows
import GoSem.ClaimSeven
namespace Go.Proofs.YtnhdaolieifhnaaGreatDoor
namespace Rows

/-- THE TIED CARD OF 'escritoirelaw.SuffixSorts'. -/
def suffixSortsCard : Claim7 := { stood := { row := suffixSortsRow, standIns := [], harness := (true, "f30d09e29b172c74d9edec90e66808e3b1a61234b27bdaf1ff65720ba40a06fa"), looks := true }, kinds := [], alts := [], laidByText := true, laidKinds := [.handle], laidTests := true, laidLooks := .later }
def SuffixSortsCardSaid : Prop := Claim7.holds Tryz.pinned (.plain (OpenSpec.ofChange suffixSortsSpec)) suffixSortsCard

/-- THE SECOND FORM's CARD OF 'escritoirelaw.SuffixSorts'. -/
def suffixSortsUptoCard : Claim7 := { stood := { row := suffixSortsUptoRow, standIns := [], harness := (true, "f30d09e29b172c74d9edec90e66808e3b1a61234b27bdaf1ff65720ba40a06fa"), looks := true }, kinds := [], alts := [], laidByText := true, laidKinds := [.handle], laidTests := true, laidLooks := .later }
def SuffixSortsUptoCardSaid : Prop := Claim7.holds Tryz.pinned (.plain (OpenSpec.upto suffixSortsSpec)) suffixSortsUptoCard
end Rows
end Go.Proofs.YtnhdaolieifhnaaGreatDoor
