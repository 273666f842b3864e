/- Proved: 'escritoirelaw.BitsTurns' answers true at every text and every n: Count, Turn and Rotate of package bits are the document's. No condition beyond the row's own. -/
import Derived.Test.YtfebfnjmehaeiabRows
import Derived.WalkKit
import Derived.ProofKit
import Derived.OpenShut
import Derived.SizedLaws
import Derived.Test.YtfebfnjmehaeiabBits3
import Derived.Test.YtfebfnjmehaeiabRefBits2
import Derived.ShutString
namespace Go.Proofs.Ytfebfnjmehaeiab.bitsTurns
open Go.ChangeShapes Go.WideShapes Go.ChangeAt Go.RowKit
open Go.ChangeMaps (open_string shut_string)
set_option linter.unusedVariables false      -- a walk need not use every 'w<i>' (that an integer argument fits its kind)

theorem own : ownKnob Try.prog.godebug = none := by kernel_rfl

open bitw bit mem
theorem walk (a0 : ByteArray) (a1 : Int) (w0 : a0.size ≤ 140737488351232) (w1 : (Lit.int .i64 a1).wf = true) (w : World) :
    Calls Try.prog 3 #[.string a0, .int .i64 a1] w fun e w' => e = .returned (.bool true) ∧ Grown w w' := by
  clear w1
  by_cases hl : 60 < a0.size
  · go_enter Try.func3, Try.ntmps3
    go_wp2
    go_ret
    exact ⟨rfl, Grown.refl _⟩
  have hl' : a0.size ≤ 60 := by omega
  clear hl
  by_cases h0 : a0.size = 0
  · have H0 : Hid (a0.size = 0) := h0
    clear h0
    go_enter Try.func3, Try.ntmps3
    go_wp2_with (first | (go_at_call 7; refine (count_any _ _ (by omega)).mono ?_; rintro e v1 ⟨rfl, rfl⟩) | (go_at_call 8; refine (refCount_any _ _ (by omega)).mono ?_; rintro e v2 ⟨rfl, rfl⟩) | (go_at_call 9; refine (turn_any _ _ (by omega)).mono ?_; rintro e v3 ⟨rfl, hg3⟩) | (go_at_call 10; refine (refTurn_any _ _ (by omega)).mono ?_; rintro e v4 ⟨rfl, hg4⟩) | (go_at_call 11; refine (rotate_none _ _ _ H0.out).mono ?_; rintro e v5 ⟨rfl, rfl⟩) | (go_at_call 12; refine (refRotate_none _ _ _ H0.out).mono ?_; rintro e v6 ⟨rfl, rfl⟩))
    go_ret
    exact ⟨rfl, (hg3.trans hg4).g⟩
  · have h0' : 0 < a0.size := by omega
    clear h0
    go_enter Try.func3, Try.ntmps3
    go_wp2_with (first | (go_at_call 7; refine (count_any _ _ (by omega)).mono ?_; rintro e v1 ⟨rfl, rfl⟩) | (go_at_call 8; refine (refCount_any _ _ (by omega)).mono ?_; rintro e v2 ⟨rfl, rfl⟩) | (go_at_call 9; refine (turn_any _ _ (by omega)).mono ?_; rintro e v3 ⟨rfl, hg3⟩) | (go_at_call 10; refine (refTurn_any _ _ (by omega)).mono ?_; rintro e v4 ⟨rfl, hg4⟩) | (go_at_call 11; refine (rotate_any _ _ _ (by omega) (by omega)).mono ?_; rintro e v5 ⟨rfl, hg5⟩) | (go_at_call 12; refine (refRotate_any _ _ _ (by omega) (by omega)).mono ?_; rintro e v6 ⟨rfl, hg6⟩))
    go_ret
    exact ⟨rfl, (((hg3.trans hg4).trans hg5).trans hg6).g⟩

set_option maxRecDepth 100000 in
theorem lifted (os : Os) (started : os.Started) (H : Type) (enc : TypeId × Value → H) :
    ReturnsInHanded {} Try.checked os 3 .any (Rows.bitsTurnsSpec.pre6 enc Try.prog Try.f3 Rows.bitsTurnsRow.domain false) (Rows.bitsTurnsSpec.post enc Try.prog Try.f3 false true false false) := by
  refine returnsInHanded_of_change_sized (C := Try.checked) own started (by kernel_rfl) Try.func3
    (ChangeSpec.witness6 (enc := enc) (C := Try.checked) false ⟨#[], #[.string ByteArray.empty, .int .i64 0], []⟩ 8 (by kernel_rfl) (by kernel_rfl) (by kernel_rfl) (by kernel_rfl)) ?_
  intro W base args ds gs before hval0 hW hcnd hsz0 _
  have hval : ∀ (j : Nat) t v, Try.f3.params[j]? = some t → args[j]? = some v → Value.okWide Try.prog W .any base t v := hval0
  have hW' := hW
  obtain ⟨p, q, hA0, hV, rfl, hfz, hnd⟩ := hW
  have hA : DataW.TrodAll enc Try.prog W 0 (fun _ => true) true Try.f3.params.toList args.toList ds p := hA0
  have hsz : (DataW.weightsEach Try.prog (Try.f3.params.toList ++ Rows.bitsTurnsSpec.plain.varTypes Try.prog) (ds ++ gs)).all (· ≤ reachBytes) = true := hsz0
  rw [Try.params3] at hA hval hsz
  obtain ⟨v0, vs0, d0, ds0, p0, q0, hargs, rfl, rfl, h0, r0⟩ := trodAll_cons hA
  obtain ⟨v1, vs1, d1, ds1, p1, q1, rfl, rfl, rfl, h1, r1⟩ := trodAll_cons r0
  obtain ⟨rfl, rfl, rfl⟩ := trodAll_nil r1
  obtain rfl : args = #[v0, v1] := by cases args; simp_all
  obtain ⟨rfl, rfl⟩ := trodVars_none hV
  obtain ⟨a0, rfl, rfl, rfl, w0⟩ := open_string Try.underlying9 (hval 0 9 v0 rfl rfl) h0
  have z0 : a0.size ≤ 140737488351232 := sized_string hsz (j := 0) (t := 9) rfl rfl
  obtain ⟨a1, rfl, rfl, rfl, w1⟩ := open_int Try.underlying3 (hval 1 3 v1 rfl rfl) h1
  clear hA0 hval0 hsz0 hsz
  simp only [List.append_nil] at hW'
  refine (walk a0 a1 z0 w1 W).mono fun e W' ⟨he, hg⟩ => ?_
  subst he
  exact ⟨_, rfl, post_of_same (pa := []) (pv := []) hW' (fun _ _ _ => (trodAll_cons_mk (shut_bool Try.underlying4 _) trodAll_mk0)) (fun sp _ => (trodAll_cons_mk (shut_string Try.underlying9 w0) (trodAll_cons_mk (shut_int Try.underlying3 w1) trodAll_mk0))) (fun _ _ => rfl) rfl
    (hg.frame _) hg.2.1 (ok_one (by kernel_rfl) rfl (okWide_bool_mk Try.underlying4 _))⟩

theorem over : Rows.bitsTurnsRow.holds Try.pinned (OpenSpec.ofChange Rows.bitsTurnsSpec) :=
  OpenClaim.holds_of_wide 3 Try.f3 rfl rfl rfl rfl rfl rfl rfl ⟨rfl, rfl, rfl, rfl, rfl⟩ rfl rfl rfl rfl rfl (by kernel_rfl) Try.func3 (by kernel_rfl)
    (of_decide_eq_true (by kernel_rfl)) (by unfold Func.isWrapper; first | (rw [if_pos (by decide +kernel)]; kernel_rfl) | (rw [if_neg (by decide +kernel)]; exact ⟨rfl, rfl⟩))
    (fun os started H enc _ => lifted os started H enc)

end Go.Proofs.Ytfebfnjmehaeiab.bitsTurns
namespace Go.Proofs.Ytfebfnjmehaeiab
/-- The given statement. -/
theorem bitsTurns_holds : Rows.BitsTurnsSaid := bitsTurns.over
#print axioms bitsTurns_holds
end Go.Proofs.Ytfebfnjmehaeiab
