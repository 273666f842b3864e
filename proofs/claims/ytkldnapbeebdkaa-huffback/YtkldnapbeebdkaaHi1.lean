/- A map of the call's own that tells which byte a sign stands for: its keys are arrays. -/
import Derived.Test.YtkldnapbeebdkaaFdV
import Derived.Maps.OwnSet
import Derived.DeepKeys4
import Derived.WideKeyPair
namespace Go.Proofs.Ytkldnapbeebdkaa.hi
set_option linter.unusedVariables false
open Go.ChangeShapes Go.WideShapes Go.ChangeAt Go.RowKit Go.Maps Go.WideMaps
open mem rows
theorem laidOut : laidOutB Try.prog = true := by kernel_rfl
theorem lawK : Keyed Try.prog 61 := Keyed.of_law (deep_law_laid laidOut (m := 5) (by omega) (by decide) (by kernel_rfl) (by kernel_rfl))
theorem arrK : ArrKey Try.prog 61 3 2 := ⟨by kernel_rfl, by kernel_rfl, by kernel_rfl, by kernel_rfl⟩
/-- A sign as a key: how many bits, and their number. -/
def kl (n v : Int) : Lit := .string (keyBytes [.int .i64 n, .int .i64 v])
def Fit (x : Int) : Prop := 0 ≤ x ∧ x ≤ 9223372036854775807
theorem wf_of {x : Int} (h : Fit x) : (Lit.int .i64 x).wf = true := WalkArith.wf_i64 (by unfold Fit at h; omega)
theorem key_of {n v : Int} (hn : Fit n) (hv : Fit v) : keyOf Try.prog 61 (.agg #[.int .i64 n, .int .i64 v]) = some (kl n v) := keyOf_pair arrK Try.underlying3 ⟨Try.prog.types.size - 1, by decide +kernel⟩ (wf_of hn) (wf_of hv)
theorem kl_inj {n v n' v' : Int} (hn : Fit n) (hv : Fit v) (hn' : Fit n') (hv' : Fit v') (h : kl n v = kl n' v') : n = n' ∧ v = v' := by
  have h1 := key_of hn hv
  rw [h] at h1
  have := lawK.inj h1 (key_of hn' hv')
  simp at this
  exact this
theorem isKl (n v : Int) : WideAt.IsKeyLit (kl n v) := trivial
/-- Which byte each sign stands for, if any. -/
def Mp (w : World) (b : Nat) (f : Int → Int → Option Int) (c : Nat) : Prop :=
  ∃ D : DataW Unit, w.ownsMap Try.prog 61 (plainElem Try.prog 5) b c D ∧ ∀ n v, Fit n → Fit v → Maps.has D (kl n v) = (f n v).isSome ∧ D.atKey (kl n v) (.lit (.int .u8 0)) = .lit (.int .u8 ((f n v).getD 0))
theorem Mp.step {w w' : World} {b c : Nat} {f : Int → Int → Option Int} {row : Option Nat} (h : Mp w b f c) (hg : w.grownBy w' row) (hne : some b ≠ row) : Mp w' b f c := by
  obtain ⟨D, h1, h2⟩ := h
  exact ⟨D, h1.kept hg hne, h2⟩
theorem Mp.made (w : World) : Mp (w.alloc (.map #[] 0)) w.heap.size (fun _ _ => none) 0 :=
  ⟨_, World.ownsMap_made w Try.prog 61 _, fun n v _ _ => ⟨rfl, rfl⟩⟩
theorem zero_u8 (w : World) : (zeroValue 5).run Try.prog w = .ok (.int .u8 0) w := by kernel_rfl
theorem Mp.look {w : World} {b c : Nat} {f : Int → Int → Option Int} (h : Mp w b f c) (n v : Int) (hn : Fit n) (hv : Fit v) :
    (Instr.lookup 53 (.map (some b)) (.agg #[.int .i64 n, .int .i64 v]) true).run Try.prog w = .ok (.tuple #[.int .u8 ((f n v).getD 0), .bool (f n v).isSome]) w := by
  obtain ⟨D, h1, h2⟩ := h
  obtain ⟨x, ps, hrun, hx⟩ := h1.look_ok lawK Try.underlying53 (zero_u8 w) (plainElem_int Try.underlying5 (a := 0) (by decide)) (key_of hn hv)
  obtain ⟨h3, h4⟩ := h2 n v hn hv
  rw [h4] at hx
  obtain ⟨a, rfl, ha, _⟩ := plainElem_int_inv Try.underlying5 hx
  simp only [Prod.mk.injEq, DataW.lit.injEq, Lit.int.injEq, true_and] at ha
  rw [hrun, h3, ha.1]
theorem Mp.put {w : World} {b c : Nat} {f : Int → Int → Option Int} (h : Mp w b f c) (n v x : Int) (hn : Fit n) (hv : Fit v) (hx : 0 ≤ x ∧ x < 256) (hc : c ≤ 5000) :
    ∃ w', (Instr.mapUpdate 53 (.map (some b)) (.agg #[.int .i64 n, .int .i64 v]) (.int .u8 x)).run Try.prog w = .ok () w' ∧ Mp w' b (fun n' v' => if n' = n ∧ v' = v then some x else f n' v') (c + 1) ∧ w.grownBy w' (some b) := by
  obtain ⟨D, h1, h2⟩ := h
  obtain ⟨w', hr, ho, hg⟩ := h1.update lawK Try.underlying53 (by unfold maxLen; omega) (key_of hn hv) (plainElem_int Try.underlying5 (a := x) (WalkArith.wf_u8 (by omega)))
  refine ⟨w', hr, ⟨_, ho, fun n' v' hn' hv' => ?_⟩, hg⟩
  by_cases e : n' = n ∧ v' = v
  · obtain ⟨rfl, rfl⟩ := e
    rw [has_put_same h1.isMap (isKl n' v'), atKey_put_same h1.isMap (isKl n' v')]
    simp
  · have hne : kl n' v' ≠ kl n v := fun h => e (kl_inj hn' hv' hn hv h)
    rw [has_put_other hne, atKey_put_other hne]
    simp only [if_neg e]
    exact h2 n' v' hn' hv'
end Go.Proofs.Ytkldnapbeebdkaa.hi
