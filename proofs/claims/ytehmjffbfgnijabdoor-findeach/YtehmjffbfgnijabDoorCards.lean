/-
  DERIVED. GIVEN WITH THE SEED: THE CARDS: each row of YtehmjffbfgnijabDoorRows.lean that lists a variable, with what it lists TIED to the program's text (the seventh form; the later family's looks); each row that meets fmt, with fmt's text TOLD by the authors' own Lean function (tested against real Go, not proved from fmt's source: count such statements apart). THE CARD IS WHAT COUNTS. Prove the row's statement (the work); the ties are given (YtehmjffbfgnijabDoorTie.lean); close each card by the builder's one call (the guide's Derived/Test/ToyasCard.lean, 'card_holds'). Laid BY PROGRAM, IN A SANDBOX (cutbox-door.mjs). By AI agents, Wed Nov 11 2026. No macro, syntax, notation, axiom, sorry.
-/
import Derived.Test.YtehmjffbfgnijabDoorRows
import GoSem.ClaimSeven
namespace Go.Proofs.YtehmjffbfgnijabDoor
namespace Rows

/-- THE TIED CARD OF 'escritoirekeep.FindEach'. -/
def findEachCard : Claim7 := { stood := { row := findEachRow, standIns := [], harness := (true, "9d9c88d5f79c4793af4e3238a30c85c6986f267a7a3a5dda0385e4c82df1560b"), looks := false }, kinds := [], alts := [], laidByText := true, laidKinds := [.data], laidTests := true, laidLooks := .later }
def FindEachCardSaid : Prop := Claim7.holds Tryd.pinned (.plain (OpenSpec.ofChange findEachSpec)) findEachCard

/-- THE SECOND FORM's CARD OF 'escritoirekeep.FindEach'. -/
def findEachUptoCard : Claim7 := { stood := { row := findEachUptoRow, standIns := [], harness := (true, "9d9c88d5f79c4793af4e3238a30c85c6986f267a7a3a5dda0385e4c82df1560b"), looks := false }, kinds := [], alts := [], laidByText := true, laidKinds := [.data], laidTests := true, laidLooks := .later }
def FindEachUptoCardSaid : Prop := Claim7.holds Tryd.pinned (.plain (OpenSpec.upto findEachSpec)) findEachUptoCard
end Rows
end Go.Proofs.YtehmjffbfgnijabDoor
