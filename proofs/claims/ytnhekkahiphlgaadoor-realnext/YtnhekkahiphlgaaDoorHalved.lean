/- The fact that the laws ask first: one half. -/
import Derived.Test.YtnhekkahiphlgaaDoorReal4
import Derived.Test.YtnhekkahiphlgaaDoorReal6
import Derived.Test.YtnhekkahiphlgaaDoorReal8
import Derived.Laws.StructEq
namespace Go.Proofs.YtnhekkahiphlgaaDoor.rl
open Go.RowKit
open mem flt
attribute [local go_sem] World.cell?_alloc_some
theorem halved_at (w : World) (hl : FL w) : Calls Tryd.prog 20 #[] w fun e w' => e = .returned (.bool true) ∧ Gb w w' := by
  go_enter Tryd.func20, Tryd.ntmps20
  go_wp2_with (first
    | (go_at_call 44; refine (Apart32 1056964608 126 0 false (by omega) (by decide) (by omega) (by omega) _ hl).mono ?_; rintro e w1 ⟨rfl, g1⟩)
    | (go_at_call 45; refine (Class64 1 0 1 1 (by omega) (by omega) (by omega) (by decide) _ (hl.gb (g1.trans (Gb.alloc (Gb.refl w1) _ _)))).mono ?_; rintro e w2 ⟨rfl, g2⟩
       have c0 := at_gb g2 (a := ⟨w1.heap.size, 0, none⟩) (v := .bool false) (by go_simp)
       have c1 := at_gb g2 (a := ⟨w1.heap.size, 1, none⟩) (v := .int .i64 126) (by go_simp)
       have c2 := at_gb g2 (a := ⟨w1.heap.size, 2, none⟩) (v := .int .u64 0) (by go_simp))
    | (go_at_call 16; refine (Widen_at 1056964608 4602678819172646912 (by omega) (by decide) _ (hl.gb (g1.trans ((Gb.alloc (Gb.refl w1) _ _).trans g2)))).mono ?_; rintro e w3 ⟨rfl, g3⟩)
    | (go_at_call 18; refine (Narrow_at 4602678819172646912 1056964608 (by omega) (by decide) _ (hl.gb (g1.trans ((Gb.alloc (Gb.refl w1) _ _).trans (g2.trans g3))))).mono ?_; rintro e w4 ⟨rfl, g4⟩))
  go_ret
  exact ⟨rfl, g1.trans ((Gb.alloc (Gb.refl w1) _ _).trans (g2.trans (g3.trans g4)))⟩
end Go.Proofs.YtnhekkahiphlgaaDoor.rl
