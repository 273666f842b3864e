/-
  DERIVED. GIVEN WITH THE SEED: THE CARDS: each row of YtoakcdolfgghjabDoorRows.lean that lists a variable, with what it lists TIED to the program's text (the seventh form; the later family's looks); each row that meets fmt, with fmt's text TOLD by the authors' own Lean function (tested against real Go, not proved from fmt's source: count such statements apart). THE CARD IS WHAT COUNTS. Prove the row's statement (the work); the ties are given (YtoakcdolfgghjabDoorTie.lean); close each card by the builder's one call (the guide's Derived/Test/ToyasCard.lean, 'card_holds'). Laid BY PROGRAM, IN A SANDBOX (cutbox-door.mjs). By AI agents, Wed Nov 11 2026. No macro, syntax, notation, axiom, sorry.
-/
import Derived.Test.YtoakcdolfgghjabDoorRows
import GoSem.ClaimSeven
namespace Go.Proofs.YtoakcdolfgghjabDoor
namespace Rows

/-- THE TIED CARD OF 'escritoirekeep.RealOrder'. -/
def realOrderCard : Claim7 := { stood := { row := realOrderRow, standIns := [], harness := (true, "e1b03e1fa24504d072c01222f929b912ac8580ac1f5b824732123fb3fe26023f"), looks := true }, kinds := [], alts := [], laidByText := true, laidKinds := [.data], laidTests := true, laidLooks := .later }
def RealOrderCardSaid : Prop := Claim7.holds Tryd.pinned (.plain (OpenSpec.ofChange realOrderSpec)) realOrderCard

/-- THE TIED CARD OF 'escritoirekeep.RealNext'. -/
def realNextCard : Claim7 := { stood := { row := realNextRow, standIns := [], harness := (true, "e1b03e1fa24504d072c01222f929b912ac8580ac1f5b824732123fb3fe26023f"), looks := true }, kinds := [], alts := [], laidByText := true, laidKinds := [.handle, .data], laidTests := true, laidLooks := .later }
def RealNextCardSaid : Prop := Claim7.holds Tryd.pinned (.plain (OpenSpec.ofChange realNextSpec)) realNextCard

/-- THE TIED CARD OF 'escritoirekeep.RealTrue'. -/
def realTrueCard : Claim7 := { stood := { row := realTrueRow, standIns := [], harness := (true, "e1b03e1fa24504d072c01222f929b912ac8580ac1f5b824732123fb3fe26023f"), looks := true }, kinds := [], alts := [], laidByText := true, laidKinds := [.data], laidTests := true, laidLooks := .later }
def RealTrueCardSaid : Prop := Claim7.holds Tryd.pinned (.plain (OpenSpec.ofChange realTrueSpec)) realTrueCard

/-- THE TIED CARD OF 'escritoirekeep.RealNearest'. -/
def realNearestCard : Claim7 := { stood := { row := realNearestRow, standIns := [], harness := (true, "e1b03e1fa24504d072c01222f929b912ac8580ac1f5b824732123fb3fe26023f"), looks := true }, kinds := [], alts := [], laidByText := true, laidKinds := [.data], laidTests := true, laidLooks := .later }
def RealNearestCardSaid : Prop := Claim7.holds Tryd.pinned (.plain (OpenSpec.ofChange realNearestSpec)) realNearestCard

/-- THE TIED CARD OF 'escritoirekeep.RealRises'. -/
def realRisesCard : Claim7 := { stood := { row := realRisesRow, standIns := [], harness := (true, "e1b03e1fa24504d072c01222f929b912ac8580ac1f5b824732123fb3fe26023f"), looks := true }, kinds := [], alts := [], laidByText := true, laidKinds := [.data], laidTests := true, laidLooks := .later }
def RealRisesCardSaid : Prop := Claim7.holds Tryd.pinned (.plain (OpenSpec.ofChange realRisesSpec)) realRisesCard

/-- THE SECOND FORM's CARD OF 'escritoirekeep.RealOrder'. -/
def realOrderUptoCard : Claim7 := { stood := { row := realOrderUptoRow, standIns := [], harness := (true, "e1b03e1fa24504d072c01222f929b912ac8580ac1f5b824732123fb3fe26023f"), looks := true }, kinds := [], alts := [], laidByText := true, laidKinds := [.data], laidTests := true, laidLooks := .later }
def RealOrderUptoCardSaid : Prop := Claim7.holds Tryd.pinned (.plain (OpenSpec.upto realOrderSpec)) realOrderUptoCard

/-- THE SECOND FORM's CARD OF 'escritoirekeep.RealNext'. -/
def realNextUptoCard : Claim7 := { stood := { row := realNextUptoRow, standIns := [], harness := (true, "e1b03e1fa24504d072c01222f929b912ac8580ac1f5b824732123fb3fe26023f"), looks := true }, kinds := [], alts := [], laidByText := true, laidKinds := [.handle, .data], laidTests := true, laidLooks := .later }
def RealNextUptoCardSaid : Prop := Claim7.holds Tryd.pinned (.plain (OpenSpec.upto realNextSpec)) realNextUptoCard

/-- THE SECOND FORM's CARD OF 'escritoirekeep.RealTrue'. -/
def realTrueUptoCard : Claim7 := { stood := { row := realTrueUptoRow, standIns := [], harness := (true, "e1b03e1fa24504d072c01222f929b912ac8580ac1f5b824732123fb3fe26023f"), looks := true }, kinds := [], alts := [], laidByText := true, laidKinds := [.data], laidTests := true, laidLooks := .later }
def RealTrueUptoCardSaid : Prop := Claim7.holds Tryd.pinned (.plain (OpenSpec.upto realTrueSpec)) realTrueUptoCard

/-- THE SECOND FORM's CARD OF 'escritoirekeep.RealNearest'. -/
def realNearestUptoCard : Claim7 := { stood := { row := realNearestUptoRow, standIns := [], harness := (true, "e1b03e1fa24504d072c01222f929b912ac8580ac1f5b824732123fb3fe26023f"), looks := true }, kinds := [], alts := [], laidByText := true, laidKinds := [.data], laidTests := true, laidLooks := .later }
def RealNearestUptoCardSaid : Prop := Claim7.holds Tryd.pinned (.plain (OpenSpec.upto realNearestSpec)) realNearestUptoCard

/-- THE SECOND FORM's CARD OF 'escritoirekeep.RealRises'. -/
def realRisesUptoCard : Claim7 := { stood := { row := realRisesUptoRow, standIns := [], harness := (true, "e1b03e1fa24504d072c01222f929b912ac8580ac1f5b824732123fb3fe26023f"), looks := true }, kinds := [], alts := [], laidByText := true, laidKinds := [.data], laidTests := true, laidLooks := .later }
def RealRisesUptoCardSaid : Prop := Claim7.holds Tryd.pinned (.plain (OpenSpec.upto realRisesSpec)) realRisesUptoCard
end Rows
end Go.Proofs.YtoakcdolfgghjabDoor
