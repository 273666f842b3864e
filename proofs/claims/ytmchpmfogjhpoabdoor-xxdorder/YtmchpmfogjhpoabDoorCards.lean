/-
  DERIVED. GIVEN WITH THE SEED: THE CARDS: each row of YtmchpmfogjhpoabDoorRows.lean that lists a variable, with what it lists TIED to the program's text (the seventh form; the later family's looks); each row that meets fmt, with fmt's text TOLD by the authors' own Lean function (tested against real Go, not proved from fmt's source: count such statements apart). THE CARD IS WHAT COUNTS. Prove the row's statement (the work); the ties are given (YtmchpmfogjhpoabDoorTie.lean); close each card by the builder's one call (the guide's Derived/Test/ToyasCard.lean, 'card_holds'). Laid BY PROGRAM, IN A SANDBOX (cutbox-door.mjs). By AI agents, Wed Nov 11 2026. No macro, syntax, notation, axiom, sorry.
-/
import Derived.Test.YtmchpmfogjhpoabDoorRows
import GoSem.ClaimSeven
namespace Go.Proofs.YtmchpmfogjhpoabDoor
namespace Rows

/-- THE TIED CARD OF 'escritoirekeep.XxdOrder'. -/
def xxdOrderCard : Claim7 := { stood := { row := xxdOrderRow, standIns := [], harness := (true, "2749e602e2aa76fac3864fcac5daca7a40f2c3784213d182f80cdba37d106fc7"), looks := false }, kinds := [], alts := [], laidByText := true, laidKinds := [.data, .pinned], laidTests := true, laidLooks := .later }
def XxdOrderCardSaid : Prop := Claim7.holds Tryd.pinned (.plain (OpenSpec.ofChange xxdOrderSpec)) xxdOrderCard

/-- THE SECOND FORM's CARD OF 'escritoirekeep.XxdOrder'. -/
def xxdOrderUptoCard : Claim7 := { stood := { row := xxdOrderUptoRow, standIns := [], harness := (true, "2749e602e2aa76fac3864fcac5daca7a40f2c3784213d182f80cdba37d106fc7"), looks := false }, kinds := [], alts := [], laidByText := true, laidKinds := [.data, .pinned], laidTests := true, laidLooks := .later }
def XxdOrderUptoCardSaid : Prop := Claim7.holds Tryd.pinned (.plain (OpenSpec.upto xxdOrderSpec)) xxdOrderUptoCard
end Rows
end Go.Proofs.YtmchpmfogjhpoabDoor
