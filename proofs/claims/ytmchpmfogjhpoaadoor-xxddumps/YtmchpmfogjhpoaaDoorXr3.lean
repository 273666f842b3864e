/- What Dump of package xxd answers where cols or group is wrong. -/
import Derived.Test.YtmchpmfogjhpoaaDoorXr2
namespace Go.Proofs.YtmchpmfogjhpoaaDoor.xr
set_option linter.unusedVariables false
open Go.ChangeShapes Go.WideShapes Go.ChangeAt Go.RowKit
open mem rows xd
set_option maxHeartbeats 4000000 in
set_option maxRecDepth 10000 in
theorem Dump_bad (s : ByteArray) (c g : Int) (w : World) (hno : ¬ ((1 ≤ c ∧ c ≤ 256) ∧ (1 ≤ g ∧ g ≤ c))) :
    Calls Tryd.prog 12 #[.string s, .int .i64 c, .int .i64 g] w fun e w' => e = .returned (.tuple #[.string ⟨#[]⟩, .iface 22 (.int .i64 2)]) ∧ Bl w w' := by
  have four : c < 1 ∨ (¬ c < 1 ∧ 256 < c) ∨ (¬ c < 1 ∧ ¬ 256 < c ∧ g < 1) ∨ (¬ c < 1 ∧ ¬ 256 < c ∧ ¬ g < 1 ∧ c < g) := by omega
  clear hno
  rcases four with h1 | ⟨h1, h2⟩ | ⟨h1, h2, h3⟩ | ⟨h1, h2, h3, h4⟩
  · have d1 : decide (c < 1) = true := decide_eq_true h1
    go_enter Tryd.func12, Tryd.ntmps12
    go_wp2
    refine bodyPost_ret (v := .tuple #[.string ⟨#[]⟩, .iface 22 (.int .i64 2)]) ?_ rfl ⟨rfl, ((((Bl.refl w).alloc _).alloc _).alloc _).alloc _⟩
    simp [results, Tryd.f12, go_sem]
  · have d1 : decide (c < 1) = false := decide_eq_false h1
    have d2 : decide (256 < c) = true := decide_eq_true h2
    go_enter Tryd.func12, Tryd.ntmps12
    go_wp2
    refine bodyPost_ret (v := .tuple #[.string ⟨#[]⟩, .iface 22 (.int .i64 2)]) ?_ rfl ⟨rfl, ((((Bl.refl w).alloc _).alloc _).alloc _).alloc _⟩
    simp [results, Tryd.f12, go_sem]
  · have d1 : decide (c < 1) = false := decide_eq_false h1
    have d2 : decide (256 < c) = false := decide_eq_false h2
    have d3 : decide (g < 1) = true := decide_eq_true h3
    go_enter Tryd.func12, Tryd.ntmps12
    go_wp2
    refine bodyPost_ret (v := .tuple #[.string ⟨#[]⟩, .iface 22 (.int .i64 2)]) ?_ rfl ⟨rfl, ((((Bl.refl w).alloc _).alloc _).alloc _).alloc _⟩
    simp [results, Tryd.f12, go_sem]
  · have d1 : decide (c < 1) = false := decide_eq_false h1
    have d2 : decide (256 < c) = false := decide_eq_false h2
    have d3 : decide (g < 1) = false := decide_eq_false h3
    have d4 : decide (c < g) = true := decide_eq_true h4
    go_enter Tryd.func12, Tryd.ntmps12
    go_wp2
    refine bodyPost_ret (v := .tuple #[.string ⟨#[]⟩, .iface 22 (.int .i64 2)]) ?_ rfl ⟨rfl, ((((Bl.refl w).alloc _).alloc _).alloc _).alloc _⟩
    simp [results, Tryd.f12, go_sem]
end Go.Proofs.YtmchpmfogjhpoaaDoor.xr
