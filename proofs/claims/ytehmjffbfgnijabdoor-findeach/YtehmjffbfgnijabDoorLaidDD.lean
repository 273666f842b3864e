/- A world that meets the row's condition on math/bits.deBruijn64tab. -/
import Derived.Test.YtehmjffbfgnijabDoorLaidD
namespace Go.Proofs.YtehmjffbfgnijabDoor.laidd
open Go.ChangeShapes Go.WideShapes Go.RowKit
set_option maxRecDepth 100000 in
theorem world_met (os : Os) (args : Array Value) : laidMetH Tryd.prog plain ((World.layVars Tryd.prog (World.holding Tryd.prog os ⟨#[], #[], []⟩) plain).forCall (fun _ _ => 0) ⟨#[], args, []⟩).memory := by
  refine laidMetH_of_parts ?_ ?_
  · rw [none_of]
    refine laidMet_layVars (w0 := World.holding Tryd.prog os ⟨#[], #[], []⟩) ["math/bits.deBruijn64tab"] [] ?_ ?_ ?_ ?_
    · rw [names_of]; simp [World.memory, World.forCall, Input.heap]
    · rw [names_of]; kernel_rfl
    · rw [names_of]; kernel_rfl
    · rw [names_not]; exact LaidIn.none
  · rw [some_of]; kernel_rfl
end Go.Proofs.YtehmjffbfgnijabDoor.laidd
