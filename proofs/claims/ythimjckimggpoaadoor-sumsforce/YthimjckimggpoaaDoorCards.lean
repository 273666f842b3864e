/-
  DERIVED. GIVEN WITH THE SEED: THE CARDS: each row of YthimjckimggpoaaDoorRows.lean that lists a variable, with what it lists TIED to the program's text (the seventh form; the later family's looks); each row that meets fmt, with fmt's text TOLD by the authors' own Lean function (tested against real Go, not proved from fmt's source: count such statements apart). THE CARD IS WHAT COUNTS. Prove the row's statement (the work); the ties are given (YthimjckimggpoaaDoorTie.lean); close each card by the builder's one call (the guide's Derived/Test/ToyasCard.lean, 'card_holds'). Laid BY PROGRAM, IN A SANDBOX (cutbox-door.mjs). By AI agents, Wed Nov 11 2026. No macro, syntax, notation, axiom, sorry.
-/
import Derived.Test.YthimjckimggpoaaDoorRows
import GoSem.ClaimSeven
namespace Go.Proofs.YthimjckimggpoaaDoor
namespace Rows

/-- THE TIED CARD OF 'escritoirelaw.SumsOf'. -/
def sumsOfCard : Claim7 := { stood := { row := sumsOfRow, standIns := [], harness := (true, "6836811b55dadf0ff0fb84c44b35d82f34952c64247341787335a1727b425b50"), looks := true }, kinds := [], alts := [], laidByText := true, laidKinds := [.handle], laidTests := true, laidLooks := .later }
def SumsOfCardSaid : Prop := Claim7.holds Tryd.pinned (.plain (OpenSpec.ofChange sumsOfSpec)) sumsOfCard

/-- THE TIED CARD OF 'escritoirelaw.SumsForce'. -/
def sumsForceCard : Claim7 := { stood := { row := sumsForceRow, standIns := [], harness := (true, "6836811b55dadf0ff0fb84c44b35d82f34952c64247341787335a1727b425b50"), looks := true }, kinds := [], alts := [], laidByText := true, laidKinds := [.handle], laidTests := true, laidLooks := .later }
def SumsForceCardSaid : Prop := Claim7.holds Tryd.pinned (.plain (OpenSpec.ofChange sumsForceSpec)) sumsForceCard

/-- THE SECOND FORM's CARD OF 'escritoirelaw.SumsOf'. -/
def sumsOfUptoCard : Claim7 := { stood := { row := sumsOfUptoRow, standIns := [], harness := (true, "6836811b55dadf0ff0fb84c44b35d82f34952c64247341787335a1727b425b50"), looks := true }, kinds := [], alts := [], laidByText := true, laidKinds := [.handle], laidTests := true, laidLooks := .later }
def SumsOfUptoCardSaid : Prop := Claim7.holds Tryd.pinned (.plain (OpenSpec.upto sumsOfSpec)) sumsOfUptoCard

/-- THE SECOND FORM's CARD OF 'escritoirelaw.SumsForce'. -/
def sumsForceUptoCard : Claim7 := { stood := { row := sumsForceUptoRow, standIns := [], harness := (true, "6836811b55dadf0ff0fb84c44b35d82f34952c64247341787335a1727b425b50"), looks := true }, kinds := [], alts := [], laidByText := true, laidKinds := [.handle], laidTests := true, laidLooks := .later }
def SumsForceUptoCardSaid : Prop := Claim7.holds Tryd.pinned (.plain (OpenSpec.upto sumsForceSpec)) sumsForceUptoCard
end Rows
end Go.Proofs.YthimjckimggpoaaDoor
