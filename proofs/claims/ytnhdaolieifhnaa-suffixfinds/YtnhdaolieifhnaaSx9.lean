/- A map of numbers of the call's own. -/
import Derived.Test.YtnhdaolieifhnaaSx8
import Derived.Test.YtnhdaolieifhnaaSxT
import Derived.Maps.OwnSet
namespace Go.Proofs.Ytnhdaolieifhnaa.sx
set_option linter.unusedVariables false
open Go.ChangeShapes Go.WideShapes Go.ChangeAt Go.RowKit Go.Maps
open mem rows fd

theorem lawI : Keyed Try.prog 3 := int_keyed Try.underlying3
/-- A number as a key. -/
def key (n : Int) : Lit := .int .i64 n
theorem key_wf {n : Int} (h : 0 ≤ n ∧ n ≤ 5000) : (Lit.int .i64 n).wf = true := WalkArith.wf_i64 (by omega)
theorem key_of {n : Int} (h : 0 ≤ n ∧ n ≤ 5000) : keyOf Try.prog 3 (.int .i64 n) = some (key n) := keyOf_int_mk Try.underlying3 (key_wf h)
theorem isKey (z : Int) : WideAt.IsKeyLit (key z) := trivial
theorem key_inj {a b : Int} (h : a ≠ b) : key a ≠ key b := fun e => h (by unfold key at e; injection e)
/-- A map of the call's own that tells these numbers. -/
def Mp (w : World) (b : Nat) (f : Int → Int) (n : Nat) : Prop :=
  ∃ D : DataW Unit, w.ownsMap Try.prog 3 (plainElem Try.prog 3) b n D ∧ ∀ c, 0 ≤ c ∧ c ≤ 5000 → D.atKey (key c) (.lit (.int .i64 0)) = .lit (.int .i64 (f c))
theorem Mp.step {w w' : World} {b n : Nat} {f : Int → Int} {row : Option Nat} (h : Mp w b f n) (hg : w.grownBy w' row) (hne : some b ≠ row) : Mp w' b f n := by
  obtain ⟨D, h1, h2⟩ := h
  exact ⟨D, h1.kept hg hne, h2⟩
theorem zero_int (w : World) : (zeroValue 3).run Try.prog w = .ok (.int .i64 0) w := by kernel_rfl
set_option maxRecDepth 10000 in
theorem Mp.look {w : World} {b n : Nat} {f : Int → Int} (h : Mp w b f n) (c : Int) (hc : 0 ≤ c ∧ c ≤ 5000) :
    (Instr.lookup 28 (.map (some b)) (.int .i64 c) false).run Try.prog w = .ok (.int .i64 (f c)) w := by
  obtain ⟨D, h1, h2⟩ := h
  obtain ⟨z, hrun, hz, _⟩ := h1.lookup_int lawI Try.underlying28 Try.underlying3 (zero_int w) (key_of hc)
  rw [h2 c hc] at hz
  have e4 : f c = z := by injection hz with e; injection e
  rw [hrun, e4]
set_option maxRecDepth 10000 in
theorem Mp.put {w : World} {b n : Nat} {f : Int → Int} (h : Mp w b f n) (c j : Int) (hc : 0 ≤ c ∧ c ≤ 5000) (hn : n ≤ 5000) (hj : 0 ≤ j ∧ j ≤ 1000000) :
    ∃ w', (Instr.mapUpdate 28 (.map (some b)) (.int .i64 c) (.int .i64 j)).run Try.prog w = .ok () w' ∧ Mp w' b (fun d => if d = c then j else f d) (n + 1) ∧ w.grownBy w' (some b) := by
  obtain ⟨D, h1, h2⟩ := h
  obtain ⟨w', hr, ho, hg⟩ := h1.update lawI Try.underlying28 (by unfold maxLen; omega) (key_of hc) (plainElem_int Try.underlying3 (a := j) (WalkArith.wf_i64 (by omega)))
  refine ⟨w', hr, ⟨_, ho, fun d hd => ?_⟩, hg⟩
  by_cases e : d = c
  · subst e
    rw [atKey_put_same h1.isMap (isKey d)]
    dsimp only
    rw [if_pos rfl]
  · rw [atKey_put_other (key_inj e)]
    dsimp only
    rw [if_neg e]
    exact h2 d hd
theorem Mp.made (w : World) : Mp (w.alloc (.map #[] 0)) w.heap.size (fun _ => 0) 0 :=
  ⟨_, World.ownsMap_made w Try.prog 3 _, fun c _ => rfl⟩
end Go.Proofs.Ytnhdaolieifhnaa.sx
