/-
  DERIVED. GIVEN WITH THE SEED: THE CARDS: each row of YtmchpmfogjhpoaaDoorRows.lean that lists a variable, with what it lists TIED to the program's text (the seventh form; the later family's looks); each row that meets fmt, with fmt's text TOLD by the authors' own Lean function (tested against real Go, not proved from fmt's source: count such statements apart). THE CARD IS WHAT COUNTS. Prove the row's statement (the work); the ties are given (YtmchpmfogjhpoaaDoorTie.lean); close each card by the builder's one call (the guide's Derived/Test/ToyasCard.lean, 'card_holds'). Laid BY PROGRAM, IN A SANDBOX (cutbox-door.mjs). By AI agents, Wed Nov 11 2026. No macro, syntax, notation, axiom, sorry.
-/
import Derived.Test.YtmchpmfogjhpoaaDoorRows
import GoSem.ClaimSeven
namespace Go.Proofs.YtmchpmfogjhpoaaDoor
namespace Rows

/-- THE TIED CARD OF 'escritoirelaw.LzPacks'. -/
def lzPacksCard : Claim7 := { stood := { row := lzPacksRow, standIns := [], harness := (true, "497456aaeeebad7fa92a67af2d31cbb35d6d7cf8cc6d49a52cebeddb06e19ca6"), looks := true }, kinds := [], alts := [], laidByText := true, laidKinds := [.handle], laidTests := true, laidLooks := .later }
def LzPacksCardSaid : Prop := Claim7.holds Tryd.pinned (.plain (OpenSpec.ofChange lzPacksSpec)) lzPacksCard

/-- THE TIED CARD OF 'escritoirelaw.XxdDumps'. -/
def xxdDumpsCard : Claim7 := { stood := { row := xxdDumpsRow, standIns := [], harness := (true, "497456aaeeebad7fa92a67af2d31cbb35d6d7cf8cc6d49a52cebeddb06e19ca6"), looks := true }, kinds := [], alts := [], laidByText := true, laidKinds := [.handle], laidTests := true, laidLooks := .later }
def XxdDumpsCardSaid : Prop := Claim7.holds Tryd.pinned (.plain (OpenSpec.ofChange xxdDumpsSpec)) xxdDumpsCard

/-- THE TIED CARD OF 'escritoirelaw.XxdLoads'. -/
def xxdLoadsCard : Claim7 := { stood := { row := xxdLoadsRow, standIns := [], harness := (true, "497456aaeeebad7fa92a67af2d31cbb35d6d7cf8cc6d49a52cebeddb06e19ca6"), looks := true }, kinds := [], alts := [], laidByText := true, laidKinds := [.data, .handle, .pinned], laidTests := true, laidLooks := .later }
def XxdLoadsCardSaid : Prop := Claim7.holds Tryd.pinned (.plain (OpenSpec.ofChange xxdLoadsSpec)) xxdLoadsCard

/-- THE SECOND FORM's CARD OF 'escritoirelaw.LzPacks'. -/
def lzPacksUptoCard : Claim7 := { stood := { row := lzPacksUptoRow, standIns := [], harness := (true, "497456aaeeebad7fa92a67af2d31cbb35d6d7cf8cc6d49a52cebeddb06e19ca6"), looks := true }, kinds := [], alts := [], laidByText := true, laidKinds := [.handle], laidTests := true, laidLooks := .later }
def LzPacksUptoCardSaid : Prop := Claim7.holds Tryd.pinned (.plain (OpenSpec.upto lzPacksSpec)) lzPacksUptoCard

/-- THE SECOND FORM's CARD OF 'escritoirelaw.XxdDumps'. -/
def xxdDumpsUptoCard : Claim7 := { stood := { row := xxdDumpsUptoRow, standIns := [], harness := (true, "497456aaeeebad7fa92a67af2d31cbb35d6d7cf8cc6d49a52cebeddb06e19ca6"), looks := true }, kinds := [], alts := [], laidByText := true, laidKinds := [.handle], laidTests := true, laidLooks := .later }
def XxdDumpsUptoCardSaid : Prop := Claim7.holds Tryd.pinned (.plain (OpenSpec.upto xxdDumpsSpec)) xxdDumpsUptoCard

/-- THE SECOND FORM's CARD OF 'escritoirelaw.XxdLoads'. -/
def xxdLoadsUptoCard : Claim7 := { stood := { row := xxdLoadsUptoRow, standIns := [], harness := (true, "497456aaeeebad7fa92a67af2d31cbb35d6d7cf8cc6d49a52cebeddb06e19ca6"), looks := true }, kinds := [], alts := [], laidByText := true, laidKinds := [.data, .handle, .pinned], laidTests := true, laidLooks := .later }
def XxdLoadsUptoCardSaid : Prop := Claim7.holds Tryd.pinned (.plain (OpenSpec.upto xxdLoadsSpec)) xxdLoadsUptoCard
end Rows
end Go.Proofs.YtmchpmfogjhpoaaDoor
