/-
  DERIVED. GIVEN WITH THE SEED: THE CARDS: each row of YtkldnapbeebdkaaDoorRows.lean that lists a variable, with what it lists TIED to the program's text (the seventh form; the later family's looks); each row that meets fmt, with fmt's text TOLD by the authors' own Lean function (tested against real Go, not proved from fmt's source: count such statements apart). THE CARD IS WHAT COUNTS. Prove the row's statement (the work); the ties are given (YtkldnapbeebdkaaDoorTie.lean); close each card by the builder's one call (the guide's Derived/Test/ToyasCard.lean, 'card_holds'). Laid BY PROGRAM, IN A SANDBOX (cutbox-door.mjs). By AI agents, Wed Nov 11 2026. No macro, syntax, notation, axiom, sorry.
-/
import Derived.Test.YtkldnapbeebdkaaDoorRows
import GoSem.ClaimSeven
namespace Go.Proofs.YtkldnapbeebdkaaDoor
namespace Rows

/-- THE TIED CARD OF 'escritoirelaw.HuffLens'. -/
def huffLensCard : Claim7 := { stood := { row := huffLensRow, standIns := [], harness := (true, "9bd2a48bae9d6065ba0f24f285d32b47c8a701ca554457380862e08b2ba37686"), looks := true }, kinds := [], alts := [], laidByText := true, laidKinds := [.handle], laidTests := true, laidLooks := .later }
def HuffLensCardSaid : Prop := Claim7.holds Tryd.pinned (.plain (OpenSpec.ofChange huffLensSpec)) huffLensCard

/-- THE TIED CARD OF 'escritoirelaw.HuffPacks'. -/
def huffPacksCard : Claim7 := { stood := { row := huffPacksRow, standIns := [], harness := (true, "9bd2a48bae9d6065ba0f24f285d32b47c8a701ca554457380862e08b2ba37686"), looks := true }, kinds := [], alts := [], laidByText := true, laidKinds := [.handle], laidTests := true, laidLooks := .later }
def HuffPacksCardSaid : Prop := Claim7.holds Tryd.pinned (.plain (OpenSpec.ofChange huffPacksSpec)) huffPacksCard

/-- THE SECOND FORM's CARD OF 'escritoirelaw.HuffLens'. -/
def huffLensUptoCard : Claim7 := { stood := { row := huffLensUptoRow, standIns := [], harness := (true, "9bd2a48bae9d6065ba0f24f285d32b47c8a701ca554457380862e08b2ba37686"), looks := true }, kinds := [], alts := [], laidByText := true, laidKinds := [.handle], laidTests := true, laidLooks := .later }
def HuffLensUptoCardSaid : Prop := Claim7.holds Tryd.pinned (.plain (OpenSpec.upto huffLensSpec)) huffLensUptoCard

/-- THE SECOND FORM's CARD OF 'escritoirelaw.HuffPacks'. -/
def huffPacksUptoCard : Claim7 := { stood := { row := huffPacksUptoRow, standIns := [], harness := (true, "9bd2a48bae9d6065ba0f24f285d32b47c8a701ca554457380862e08b2ba37686"), looks := true }, kinds := [], alts := [], laidByText := true, laidKinds := [.handle], laidTests := true, laidLooks := .later }
def HuffPacksUptoCardSaid : Prop := Claim7.holds Tryd.pinned (.plain (OpenSpec.upto huffPacksSpec)) huffPacksUptoCard
end Rows
end Go.Proofs.YtkldnapbeebdkaaDoor
