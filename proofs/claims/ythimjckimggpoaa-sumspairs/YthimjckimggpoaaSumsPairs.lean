/- For every text: Fletcher and Adler of package sums answer as the document has it, or the text has more than 1000 bytes (then nothing is asked). No condition. -/
import Derived.Test.YthimjckimggpoaaRows
import Derived.WalkKit
import Derived.ProofKit
import Derived.OpenShut
import Derived.SizedLaws
import Derived.Test.YthimjckimggpoaaRefSum2
import Derived.ShutString
namespace Go.Proofs.Ythimjckimggpoaa.sumsPairs
open Go.ChangeShapes Go.WideShapes Go.ChangeAt Go.RowKit
open Go.ChangeMaps (open_string shut_string)
set_option linter.unusedVariables false      -- a walk need not use every 'w<i>' (that an integer argument fits its kind)

theorem own : ownKnob Try.prog.godebug = none := by kernel_rfl

open sums two bit mem
theorem walk (a0 : ByteArray) (w0 : a0.size ≤ 140737488351232) (w : World) :
    Calls Try.prog 3 #[.string a0] w fun e w' => e = .returned (.bool true) ∧ Grown w w' := by
  clear w0
  by_cases hl : 1000 < a0.size
  · go_enter Try.func3, Try.ntmps3
    go_wp2
    go_ret
    exact ⟨rfl, Grown.refl _⟩
  · have hl' : a0.size ≤ 1000 := by omega
    clear hl
    have h1 := fa_lt a0 0 255 a0.size (by decide)
    have h2 := fb_lt a0 0 255 a0.size (by decide)
    have h3 := fa_lt a0 1 65521 a0.size (by decide)
    have h4 := fb_lt a0 1 65521 a0.size (by decide)
    go_enter Try.func3, Try.ntmps3
    go_wp2_with (first | (go_at_call_of 7 (Value.int .u64 255); refine (refPairs_at a0 0 255 _ (by omega) (by decide) (by decide) (by decide)).mono ?_; rintro e v1 ⟨rfl, hd1⟩) | (go_at_call 7; refine (refPairs_at a0 1 65521 _ (by omega) (by decide) (by decide) (by decide)).mono ?_; rintro e v2 ⟨rfl, hd2⟩) | (go_at_call 8; refine (Fletcher_at _ _ (by omega)).mono ?_; rintro e v3 ⟨rfl, rfl⟩) | (go_at_call 9; refine (Adler_at _ _ (by omega)).mono ?_; rintro e v4 ⟨rfl, rfl⟩))
    go_ret
    exact ⟨by simp, (hd1.gb.trans hd2.gb).g⟩

set_option maxRecDepth 100000 in
theorem lifted (os : Os) (started : os.Started) (H : Type) (enc : TypeId × Value → H) :
    ReturnsInHanded {} Try.checked os 3 .any (Rows.sumsPairsSpec.pre6 enc Try.prog Try.f3 Rows.sumsPairsRow.domain false) (Rows.sumsPairsSpec.post enc Try.prog Try.f3 false true false false) := by
  refine returnsInHanded_of_change_sized (C := Try.checked) own started (by kernel_rfl) Try.func3
    (ChangeSpec.witness6 (enc := enc) (C := Try.checked) false ⟨#[], #[.string ByteArray.empty], []⟩ 8 (by kernel_rfl) (by kernel_rfl) (by kernel_rfl) (by kernel_rfl)) ?_
  intro W base args ds gs before hval0 hW hcnd hsz0 _
  have hval : ∀ (j : Nat) t v, Try.f3.params[j]? = some t → args[j]? = some v → Value.okWide Try.prog W .any base t v := hval0
  have hW' := hW
  obtain ⟨p, q, hA0, hV, rfl, hfz, hnd⟩ := hW
  have hA : DataW.TrodAll enc Try.prog W 0 (fun _ => true) true Try.f3.params.toList args.toList ds p := hA0
  have hsz : (DataW.weightsEach Try.prog (Try.f3.params.toList ++ Rows.sumsPairsSpec.plain.varTypes Try.prog) (ds ++ gs)).all (· ≤ reachBytes) = true := hsz0
  rw [Try.params3] at hA hval hsz
  obtain ⟨v0, vs0, d0, ds0, p0, q0, hargs, rfl, rfl, h0, r0⟩ := trodAll_cons hA
  obtain ⟨rfl, rfl, rfl⟩ := trodAll_nil r0
  obtain rfl : args = #[v0] := by cases args; simp_all
  obtain ⟨rfl, rfl⟩ := trodVars_none hV
  obtain ⟨a0, rfl, rfl, rfl, w0⟩ := open_string Try.underlying9 (hval 0 9 v0 rfl rfl) h0
  have z0 : a0.size ≤ 140737488351232 := sized_string hsz (j := 0) (t := 9) rfl rfl
  clear hA0 hval0 hsz0 hsz
  simp only [List.append_nil] at hW'
  refine (walk a0 z0 W).mono fun e W' ⟨he, hg⟩ => ?_
  subst he
  exact ⟨_, rfl, post_of_same (pa := []) (pv := []) hW' (fun _ _ _ => (trodAll_cons_mk (shut_bool Try.underlying4 _) trodAll_mk0)) (fun sp _ => (trodAll_cons_mk (shut_string Try.underlying9 w0) trodAll_mk0)) (fun _ _ => rfl) rfl
    (hg.frame _) hg.2.1 (ok_one (by kernel_rfl) rfl (okWide_bool_mk Try.underlying4 _))⟩

theorem over : Rows.sumsPairsRow.holds Try.pinned (OpenSpec.ofChange Rows.sumsPairsSpec) :=
  OpenClaim.holds_of_wide 3 Try.f3 rfl rfl rfl rfl rfl rfl rfl ⟨rfl, rfl, rfl, rfl, rfl⟩ rfl rfl rfl rfl rfl (by kernel_rfl) Try.func3 (by kernel_rfl)
    (of_decide_eq_true (by kernel_rfl)) (by unfold Func.isWrapper; first | (rw [if_pos (by decide +kernel)]; kernel_rfl) | (rw [if_neg (by decide +kernel)]; exact ⟨rfl, rfl⟩))
    (fun os started H enc _ => lifted os started H enc)

end Go.Proofs.Ythimjckimggpoaa.sumsPairs
namespace Go.Proofs.Ythimjckimggpoaa
/-- The given statement. -/
theorem sumsPairs_holds : Rows.SumsPairsSaid := sumsPairs.over
#print axioms sumsPairs_holds
end Go.Proofs.Ythimjckimggpoaa
