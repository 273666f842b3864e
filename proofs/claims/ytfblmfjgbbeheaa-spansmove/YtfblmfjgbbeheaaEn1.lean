/- The ends of spans, as the document's own side gathers them: a map of numbers. -/
import Derived.Test.YtfblmfjgbbeheaaSp5
import Derived.Test.YtfblmfjgbbeheaaIntRow
import Derived.Maps.RangeWalk
import Derived.Maps.OwnSet
namespace Go.Proofs.Ytfblmfjgbbeheaa.sp
set_option linter.unusedVariables false
open Go.ChangeShapes Go.WideShapes Go.ChangeAt Go.RowKit Go.Maps
open mem rows span

theorem law3 : Keyed Try.prog 3 := int_keyed Try.underlying3
/-- A number as a key. -/
def key (n : Int) : Lit := .int .i64 n
theorem key_wf {n : Int} (h : i64 n) : (Lit.int .i64 n).wf = true := by
  unfold i64 at h
  exact WalkArith.wf_i64 (by omega)
theorem key_of {n : Int} (h : i64 n) : keyOf Try.prog 3 (.int .i64 n) = some (key n) := keyOf_int_mk Try.underlying3 (key_wf h)
/-- A map of the call's own that has just these numbers. -/
def Seen (w : World) (B n : Nat) (D : DataW Unit) (p : Int → Prop) : Prop := w.ownsMap Try.prog 3 (plainElem Try.prog 4) B n D ∧ ∀ z, has D (key z) = true ↔ p z
theorem isKey (z : Int) : WideAt.IsKeyLit (key z) := trivial
theorem has_put (D : DataW Unit) (hD : IsMap D) (m z : Int) (d : DataW Unit) : has (D.put (key m) d) (key z) = true ↔ has D (key z) = true ∨ z = m := by
  by_cases h : z = m
  · subst h
    rw [has_put_same hD (isKey z)]
    exact ⟨fun _ => Or.inr rfl, fun _ => rfl⟩
  · rw [has_put_other (fun e => h (by unfold key at e; injection e))]
    exact ⟨Or.inl, fun h' => h'.elim id fun h' => absurd h' h⟩
theorem Seen.put {w w' : World} {B n n' : Nat} {D : DataW Unit} {p : Int → Prop} {m : Int} {d : DataW Unit} (h : Seen w B n D p) (hw : w'.ownsMap Try.prog 3 (plainElem Try.prog 4) B n' (D.put (key m) d)) : Seen w' B n' (D.put (key m) d) (fun z => p z ∨ z = m) :=
  ⟨hw, fun z => by rw [has_put D h.1.isMap m z d, h.2 z]⟩
theorem Seen.alloc {w : World} {B n : Nat} {D : DataW Unit} {p : Int → Prop} (h : Seen w B n D p) (o : Obj) : Seen (w.alloc o) B n D p := ⟨h.1.alloc o, h.2⟩
theorem Seen.congr {w : World} {B n : Nat} {D : DataW Unit} {p q : Int → Prop} (h : Seen w B n D p) (e : ∀ z, p z ↔ q z) : Seen w B n D q := ⟨h.1, fun z => (h.2 z).trans (e z)⟩
theorem made_has (z : Int) : has (.map [] : DataW Unit) (key z) = true ↔ False := by
  rw [has_eq]
  simp
/-- The map with 0 in it. -/
theorem made_seen (w : World) : ∃ w' D, (Instr.mapUpdate 47 (.map (some w.heap.size)) (.int .i64 0) (.bool true)).run Try.prog (w.alloc (.map #[] 0)) = .ok () w' ∧ Seen w' w.heap.size 1 D (fun z => z = 0) ∧ Bl w w' := by
  have h0 : i64 0 := by unfold i64; omega
  obtain ⟨w', hr, ho, hg⟩ := (World.ownsMap_made (H := Unit) w Try.prog 3 (plainElem Try.prog 4)).update law3 Try.underlying47 (by unfold maxLen; omega) (key_of h0) (plainElem_bool Try.underlying4 true)
  refine ⟨w', _, hr, ⟨ho, fun z => ?_⟩, bl_grown ((Bl.refl w).alloc _) hg (fun k e => by cases e; exact Nat.le_refl _)⟩
  show has ((DataW.map []).put (key 0) _) (key z) = true ↔ z = 0
  rw [has_put _ isMap_empty, made_has]
  exact ⟨fun h => h.elim False.elim id, Or.inr⟩
end Go.Proofs.Ytfblmfjgbbeheaa.sp
