/-
  DERIVED. GIVEN WITH THE SEED: THE CARDS: each row of YtehmjffbfgnijaaDoorRows.lean that lists a variable, with what it lists TIED to the program's text (the seventh form; the later family's looks); each row that meets fmt, with fmt's text TOLD by the authors' own Lean function (tested against real Go, not proved from fmt's source: count such statements apart). THE CARD IS WHAT COUNTS. Prove the row's statement (the work); the ties are given (YtehmjffbfgnijaaDoorTie.lean); close each card by the builder's one call (the guide's Derived/Test/ToyasCard.lean, 'card_holds'). Laid BY PROGRAM, IN A SANDBOX (cutbox-door.mjs). By AI agents, Wed Nov 11 2026. No macro, syntax, notation, axiom, sorry.
-/
import Derived.Test.YtehmjffbfgnijaaDoorRows
import GoSem.ClaimSeven
namespace Go.Proofs.YtehmjffbfgnijaaDoor
namespace Rows

/-- THE TIED CARD OF 'escritoirelaw.FindAll'. -/
def findAllCard : Claim7 := { stood := { row := findAllRow, standIns := [], harness := (true, "b9520a0ef563c468aaf1ac1254ba868965ec57cea3631c2caacab1fbc9d21a87"), looks := true }, kinds := [], alts := [], laidByText := true, laidKinds := [.handle], laidTests := true, laidLooks := .later }
def FindAllCardSaid : Prop := Claim7.holds Tryd.pinned (.plain (OpenSpec.ofChange findAllSpec)) findAllCard

/-- THE TIED CARD OF 'escritoirelaw.FindLike'. -/
def findLikeCard : Claim7 := { stood := { row := findLikeRow, standIns := [], harness := (true, "b9520a0ef563c468aaf1ac1254ba868965ec57cea3631c2caacab1fbc9d21a87"), looks := true }, kinds := [], alts := [], laidByText := true, laidKinds := [.handle], laidTests := true, laidLooks := .later }
def FindLikeCardSaid : Prop := Claim7.holds Tryd.pinned (.plain (OpenSpec.ofChange findLikeSpec)) findLikeCard

/-- THE TIED CARD OF 'escritoirelaw.FindAny'. -/
def findAnyCard : Claim7 := { stood := { row := findAnyRow, standIns := [], harness := (true, "b9520a0ef563c468aaf1ac1254ba868965ec57cea3631c2caacab1fbc9d21a87"), looks := true }, kinds := [], alts := [], laidByText := true, laidKinds := [.data, .handle], laidTests := true, laidLooks := .later }
def FindAnyCardSaid : Prop := Claim7.holds Tryd.pinned (.plain (OpenSpec.ofChange findAnySpec)) findAnyCard

/-- THE SECOND FORM's CARD OF 'escritoirelaw.FindAll'. -/
def findAllUptoCard : Claim7 := { stood := { row := findAllUptoRow, standIns := [], harness := (true, "b9520a0ef563c468aaf1ac1254ba868965ec57cea3631c2caacab1fbc9d21a87"), looks := true }, kinds := [], alts := [], laidByText := true, laidKinds := [.handle], laidTests := true, laidLooks := .later }
def FindAllUptoCardSaid : Prop := Claim7.holds Tryd.pinned (.plain (OpenSpec.upto findAllSpec)) findAllUptoCard

/-- THE SECOND FORM's CARD OF 'escritoirelaw.FindLike'. -/
def findLikeUptoCard : Claim7 := { stood := { row := findLikeUptoRow, standIns := [], harness := (true, "b9520a0ef563c468aaf1ac1254ba868965ec57cea3631c2caacab1fbc9d21a87"), looks := true }, kinds := [], alts := [], laidByText := true, laidKinds := [.handle], laidTests := true, laidLooks := .later }
def FindLikeUptoCardSaid : Prop := Claim7.holds Tryd.pinned (.plain (OpenSpec.upto findLikeSpec)) findLikeUptoCard

/-- THE SECOND FORM's CARD OF 'escritoirelaw.FindAny'. -/
def findAnyUptoCard : Claim7 := { stood := { row := findAnyUptoRow, standIns := [], harness := (true, "b9520a0ef563c468aaf1ac1254ba868965ec57cea3631c2caacab1fbc9d21a87"), looks := true }, kinds := [], alts := [], laidByText := true, laidKinds := [.data, .handle], laidTests := true, laidLooks := .later }
def FindAnyUptoCardSaid : Prop := Claim7.holds Tryd.pinned (.plain (OpenSpec.upto findAnySpec)) findAnyUptoCard
end Rows
end Go.Proofs.YtehmjffbfgnijaaDoor
