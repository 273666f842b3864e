/- What Dump shows of a text of up to 600 bytes, by however many columns and in whichever groups, and what Plain shows of it, Load reads as that text: XxdBack answers true at every text and every two numbers. -/
import Derived.Test.YtmchpmfogjhpoaaRows
import Derived.WalkKit
import Derived.ProofKit
import Derived.OpenShut
import Derived.SizedLaws
import Derived.Test.YtmchpmfogjhpoaaXb3
import Derived.Test.YtmchpmfogjhpoaaXb4
import Derived.Test.YtmchpmfogjhpoaaXd4
import Derived.ShutString
namespace Go.Proofs.Ytmchpmfogjhpoaa.xxdBack
open Go.ChangeShapes Go.WideShapes Go.ChangeAt Go.RowKit
open Go.ChangeMaps (open_string shut_string)
set_option linter.unusedVariables false      -- a walk need not use every 'w<i>' (that an integer argument fits its kind)

theorem own : ownKnob Try.prog.godebug = none := by kernel_rfl

open mem rows xd xl xb
set_option maxHeartbeats 1000000 in
set_option maxRecDepth 10000 in
theorem walk (a0 : ByteArray) (a1 : Int) (a2 : Int) (w0 : a0.size ≤ 140737488351232) (w1 : (Lit.int .i64 a1).wf = true) (w2 : (Lit.int .i64 a2).wf = true) (w : World) :
    Calls Try.prog 5 #[.string a0, .int .i64 a1, .int .i64 a2] w fun e w' => e = .returned (.bool true) ∧ Below w.heap.size w w' := by
  clear w0
  by_cases hs0 : a0.size ≤ 600
  · have hz0 : ¬ (600 : Int) < (a0.size : Int) := by omega
    have hz0d : decide ((600 : Int) < (a0.size : Int)) = false := decide_eq_false hz0
    have cK := fun w => pick_at a1 256 w (by omega) (by omega)
    have hk := pik_lt a1 256 (by omega)
    obtain ⟨p, hp⟩ : ∃ p, p = pik a1 256 := ⟨_, rfl⟩
    rw [← hp] at cK hk
    obtain ⟨c, hc⟩ : ∃ c, c = p + 1 := ⟨_, rfl⟩
    have hcz : (1 : Int) + (p : Int) = (c : Int) := by omega
    have cQ := fun w => pick_at a2 c w (by omega) (by omega)
    have hq := pik_lt a2 c (by omega)
    obtain ⟨q, hqe⟩ : ∃ q, q = pik a2 c := ⟨_, rfl⟩
    rw [← hqe] at cQ hq
    obtain ⟨g, hg⟩ : ∃ g, g = q + 1 := ⟨_, rfl⟩
    have hgz : (1 : Int) + (q : Int) = (g : Int) := by omega
    have hc2 : c ≤ 256 := by omega
    have hg2 : g ≤ 256 := by omega
    have cD := fun w => Dump_at a0 c g w hs0 (by omega) (by omega) hc2
    have cL := fun w => Load_dump a0 c g w hs0 (by omega) (by omega) hc2
    have cP := fun w => Plain_at a0 w hs0
    have cM := fun w => Load_plain a0 w hs0
    obtain ⟨D, hD⟩ : ∃ D, D = strOfNums (dmp c g (ptl a0 c (np a0 c))) := ⟨_, rfl⟩
    obtain ⟨P, hP⟩ : ∃ P, P = strOfNums (pln (ptl a0 30 (np a0 30))) := ⟨_, rfl⟩
    rw [← hD] at cD cL
    rw [← hP] at cP cM
    clear hp hc hqe hg hD hP
    go_enter Try.func5, Try.ntmps5
    go_wp2_with (fail)
    refine (dumped_at _).mono ?_
    rintro e v1 ⟨rfl, hb1⟩
    go_wp2_with (fail)
    refine (cK _).mono ?_
    rintro e v2 ⟨rfl, hb2⟩
    subst hb2
    go_wp2_with (fail)
    refine (cQ _).mono ?_
    rintro e v2 ⟨rfl, hb2⟩
    subst hb2
    go_wp2_with (fail)
    refine (cD _).mono ?_
    rintro e v2 ⟨rfl, hb2⟩
    go_wp2_with (fail)
    refine (cL _).mono ?_
    rintro e v3 ⟨rfl, hb3⟩
    go_wp2_with (fail)
    refine (cP _).mono ?_
    rintro e v4 ⟨rfl, hb4⟩
    go_wp2_with (fail)
    refine (cM _).mono ?_
    rintro e v5 ⟨rfl, hb5⟩
    have HB : Hid (Bl w v5) := (((hb1.trans hb2).trans hb3).trans hb4).trans hb5
    clear cK cQ cD cL cP cM hb1 hb2 hb3 hb4 hb5
    go_wp2
    go_ret
    exact ⟨rfl, HB.out⟩
  · have hz0 : (600 : Int) < (a0.size : Int) := by omega
    have hz0d : decide ((600 : Int) < (a0.size : Int)) = true := decide_eq_true hz0
    go_enter Try.func5, Try.ntmps5
    go_wp2_with (fail)
    refine (dumped_at _).mono ?_
    rintro e v1 ⟨rfl, hb1⟩
    go_wp2
    go_ret
    exact ⟨rfl, hb1⟩

set_option maxRecDepth 100000 in
theorem lifted (os : Os) (started : os.Started) (H : Type) (enc : TypeId × Value → H) :
    ReturnsInHanded {} Try.checked os 5 .any (Rows.xxdBackSpec.pre6 enc Try.prog Try.f5 Rows.xxdBackRow.domain false) (Rows.xxdBackSpec.post enc Try.prog Try.f5 false true false false) := by
  refine returnsInHanded_of_change_sized (C := Try.checked) own started (by kernel_rfl) Try.func5
    (ChangeSpec.witness6 (enc := enc) (C := Try.checked) false ⟨#[], #[.string ByteArray.empty, .int .i64 0, .int .i64 0], []⟩ 8 (by kernel_rfl) (by kernel_rfl) (by kernel_rfl) (by kernel_rfl)) ?_
  intro W base args ds gs before hval0 hW hcnd hsz0 _
  have hval : ∀ (j : Nat) t v, Try.f5.params[j]? = some t → args[j]? = some v → Value.okWide Try.prog W .any base t v := hval0
  have hW' := hW
  obtain ⟨p, q, hA0, hV, rfl, hfz, hnd⟩ := hW
  have hA : DataW.TrodAll enc Try.prog W 0 (fun _ => true) true Try.f5.params.toList args.toList ds p := hA0
  have hsz : (DataW.weightsEach Try.prog (Try.f5.params.toList ++ Rows.xxdBackSpec.plain.varTypes Try.prog) (ds ++ gs)).all (· ≤ reachBytes) = true := hsz0
  rw [Try.params5] at hA hval hsz
  obtain ⟨v0, vs0, d0, ds0, p0, q0, hargs, rfl, rfl, h0, r0⟩ := trodAll_cons hA
  obtain ⟨v1, vs1, d1, ds1, p1, q1, rfl, rfl, rfl, h1, r1⟩ := trodAll_cons r0
  obtain ⟨v2, vs2, d2, ds2, p2, q2, rfl, rfl, rfl, h2, r2⟩ := trodAll_cons r1
  obtain ⟨rfl, rfl, rfl⟩ := trodAll_nil r2
  obtain rfl : args = #[v0, v1, v2] := by cases args; simp_all
  obtain ⟨rfl, rfl⟩ := trodVars_none hV
  obtain ⟨a0, rfl, rfl, rfl, w0⟩ := open_string Try.underlying9 (hval 0 9 v0 rfl rfl) h0
  have z0 : a0.size ≤ 140737488351232 := sized_string hsz (j := 0) (t := 9) rfl rfl
  obtain ⟨a1, rfl, rfl, rfl, w1⟩ := open_int Try.underlying3 (hval 1 3 v1 rfl rfl) h1
  obtain ⟨a2, rfl, rfl, rfl, w2⟩ := open_int Try.underlying3 (hval 2 3 v2 rfl rfl) h2
  clear hA0 hval0 hsz0 hsz
  simp only [List.append_nil] at hW'
  refine (walk a0 a1 a2 z0 w1 w2 W).mono fun e W' ⟨he, hg⟩ => ?_
  subst he
  exact ⟨_, rfl, _, _, _, [], [], [], hW', (trodAll_cons_mk (shut_bool Try.underlying4 _) trodAll_mk0), (trodAll_cons_mk (shut_string Try.underlying9 w0) (trodAll_cons_mk (shut_int Try.underlying3 w1) (trodAll_cons_mk (shut_int Try.underlying3 w2) trodAll_mk0))), rfl, hg.frame _, fun h => by cases h⟩

theorem over : Rows.xxdBackRow.holds Try.pinned (OpenSpec.ofChange Rows.xxdBackSpec) :=
  OpenClaim.holds_of_wide 5 Try.f5 rfl rfl rfl rfl rfl rfl rfl ⟨rfl, rfl, rfl, rfl, rfl⟩ rfl rfl rfl rfl rfl (by kernel_rfl) Try.func5 (by kernel_rfl)
    (of_decide_eq_true (by kernel_rfl)) (by unfold Func.isWrapper; first | (rw [if_pos (by decide +kernel)]; kernel_rfl) | (rw [if_neg (by decide +kernel)]; exact ⟨rfl, rfl⟩))
    (fun os started H enc _ => lifted os started H enc)

end Go.Proofs.Ytmchpmfogjhpoaa.xxdBack
namespace Go.Proofs.Ytmchpmfogjhpoaa
/-- The given statement. -/
theorem xxdBack_holds : Rows.XxdBackSaid := xxdBack.over
#print axioms xxdBack_holds
end Go.Proofs.Ytmchpmfogjhpoaa
