/- What the row's condition on real.forms gives a walk: the variable's six cells; and a world that meets it. -/
import Derived.Test.YtnhekkahiphlgaaDoorRows
import Derived.Test.YtnhekkahiphlgaaDoorReal3
import Derived.ChangeSame
import Derived.ChangeVars
import Derived.JoinedOf
import Derived.RowKit
import Derived.RowKitTokens
import Derived.LaidLaws
import Derived.LaidHandle
import Derived.LaidMore
import Derived.LaidOnce
import Derived.Stop.Joined
namespace Go.Proofs.YtnhekkahiphlgaaDoor.laidf
open Go.ChangeShapes Go.WideShapes Go.RowKit

/-- The list that the seat's rows lay. -/
def list : List (String × DataW Unit) := [("escritoire/real.forms", Rows.laid_escritoire_real_forms)]
theorem own : ownKnob Tryd.prog.godebug = none := by kernel_rfl
theorem gf : Tryd.prog.globalNamed "escritoire/real.forms" = some 0 := by kernel_rfl
theorem tf : (Tryd.prog.globals[0]?).map (·.type) = some 67 := by kernel_rfl
theorem c3 : Tryd.prog.cellsOf 3 = 1 := by kernel_rfl
theorem c56 : Tryd.prog.cellsOf 55 = 3 := by kernel_rfl
theorem c69 : Tryd.prog.cellsOf 67 = 6 := by kernel_rfl
theorem int_of {W : World} {fuel : Nat} {c : Value} {n : Int} {p : List MemPlace} (h : DataW.trod (fun _ => ()) Tryd.prog W 0 (fun _ => true) false fuel 3 [c] = some (.lit (.int .i64 n), p)) : c = .int .i64 n := by
  cases fuel with
  | zero => simp [DataW.trod] at h
  | succ k =>
    unfold DataW.trod at h
    simp only [Tryd.underlying3] at h
    cases c <;> simp at h
    obtain ⟨⟨rfl, _⟩, rfl, _⟩ := h
    rfl
theorem form_of {W : World} {fuel : Nat} {c0 c1 c2 : Value} {a b c : Int} {p : List MemPlace} (h : DataW.trod (fun _ => ()) Tryd.prog W 0 (fun _ => true) false fuel 55 [c0, c1, c2] = some (.agg [.lit (.int .i64 a), .lit (.int .i64 b), .lit (.int .i64 c)], p)) : c0 = .int .i64 a ∧ c1 = .int .i64 b ∧ c2 = .int .i64 c := by
  cases fuel with
  | zero => simp [DataW.trod] at h
  | succ k =>
    unfold DataW.trod at h
    simp only [Tryd.underlying55] at h
    simp [c3, c56] at h
    cases h0 : DataW.trod (fun _ => ()) Tryd.prog W 0 (fun _ => true) false k 3 [c0] with
    | none => simp [h0] at h
    | some y0 =>
      cases h1 : DataW.trod (fun _ => ()) Tryd.prog W 0 (fun _ => true) false k 3 [c1] with
      | none => simp [h0, h1] at h
      | some y1 =>
        cases h2 : DataW.trod (fun _ => ()) Tryd.prog W 0 (fun _ => true) false k 3 [c2] with
        | none => simp [h0, h1, h2] at h
        | some y2 =>
          simp [h0, h1, h2] at h
          obtain ⟨⟨e0, e1, e2⟩, _⟩ := h
          obtain ⟨d0, q0⟩ := y0
          obtain ⟨d1, q1⟩ := y1
          obtain ⟨d2, q2⟩ := y2
          subst e0 e1 e2
          exact ⟨int_of h0, int_of h1, int_of h2⟩
theorem forms_of {W : World} {fuel : Nat} {cs : List Value} {p : List MemPlace} (h : DataW.trod (fun _ => ()) Tryd.prog W 0 (fun _ => true) false fuel 67 cs = some (Rows.laid_escritoire_real_forms, p)) : cs = [.int .i64 32, .int .i64 8, .int .i64 23, .int .i64 64, .int .i64 11, .int .i64 52] := by
  cases fuel with
  | zero => simp [DataW.trod] at h
  | succ k =>
    unfold DataW.trod at h
    simp only [Tryd.underlying67] at h
    have r2 : List.range 2 = [0, 1] := rfl
    simp only [c69, c56, r2] at h
    split at h
    · rename_i hl
      match cs, hl with
      | [v0, v1, v2, v3, v4, v5], _ =>
        simp at h
        cases h0 : DataW.trod (fun _ => ()) Tryd.prog W 0 (fun _ => true) false k 55 [v0, v1, v2] with
        | none => simp [h0] at h
        | some y0 =>
          cases h1 : DataW.trod (fun _ => ()) Tryd.prog W 0 (fun _ => true) false k 55 [v3, v4, v5] with
          | none => simp [h0, h1] at h
          | some y1 =>
            simp [h0, h1, Rows.laid_escritoire_real_forms] at h
            obtain ⟨⟨e0, e1⟩, _⟩ := h
            obtain ⟨d0, q0⟩ := y0
            obtain ⟨d1, q1⟩ := y1
            subst e0 e1
            obtain ⟨rfl, rfl, rfl⟩ := form_of h0
            obtain ⟨rfl, rfl, rfl⟩ := form_of h1
            rfl
    · cases h
theorem FL_of_met {W : World} (h : laidMet Tryd.prog list W) : rl.FL W := by
  obtain ⟨ps, ⟨g, t, cs, fuel, p, q, e1, e2, e3, e4, _, _⟩, _⟩ := h
  obtain rfl := Option.some.inj (gf.symm.trans e1)
  obtain rfl := Option.some.inj (tf.symm.trans e2)
  have hcs := forms_of e4
  have hc := fun i => World.var?_cell gf e3 i
  obtain rfl : cs = #[.int .i64 32, .int .i64 8, .int .i64 23, .int .i64 64, .int .i64 11, .int .i64 52] := Array.ext' hcs
  exact ⟨hc 0, hc 1, hc 2, hc 3, hc 4, hc 5⟩
theorem FL_of_laid {W : World} (h : laidMetH Tryd.prog list W) : rl.FL W := FL_of_met h
theorem world_met (os : Os) (args : Array Value) : laidMetH Tryd.prog list ((World.doorLaid Tryd.prog 200 os).forCall (fun _ _ => 0) ⟨#[], args, []⟩).memory :=
  laidMetH_of_parts3 (fuel := 8) (laidMet_of_run' 8 (by kernel_rfl) (by kernel_rfl)) (by kernel_rfl) (by kernel_rfl)
end Go.Proofs.YtnhekkahiphlgaaDoor.laidf
