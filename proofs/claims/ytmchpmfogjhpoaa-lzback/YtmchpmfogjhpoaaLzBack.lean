/- What Pack tells of a text of up to 2000 bytes Unpack reads as that text, and it has no more bytes than the text and a quarter of its bytes more: LzBack answers true at every text. -/
import Derived.Test.YtmchpmfogjhpoaaRows
import Derived.WalkKit
import Derived.ProofKit
import Derived.OpenShut
import Derived.SizedLaws
import Derived.Test.YtmchpmfogjhpoaaLz9
import Derived.ShutString
namespace Go.Proofs.Ytmchpmfogjhpoaa.lzBack
open Go.ChangeShapes Go.WideShapes Go.ChangeAt Go.RowKit
open Go.ChangeMaps (open_string shut_string)
set_option linter.unusedVariables false      -- a walk need not use every 'w<i>' (that an integer argument fits its kind)

theorem own : ownKnob Try.prog.godebug = none := by kernel_rfl

open mem rows lz
set_option maxHeartbeats 1000000 in
set_option maxRecDepth 10000 in
theorem walk (a0 : ByteArray) (w0 : a0.size ≤ 140737488351232) (w : World) :
    Calls Try.prog 3 #[.string a0] w fun e w' => e = .returned (.bool true) ∧ Below w.heap.size w w' := by
  clear w0
  by_cases hs0 : a0.size ≤ 2000
  · have hz0 : ¬ (2000 : Int) < (a0.size : Int) := by omega
    have hz0d : decide ((2000 : Int) < (a0.size : Int)) = false := decide_eq_false hz0
    have cP := fun w => Pack_at a0 w (by omega)
    have hpl := packL_len a0
    have hps := packL_size a0
    have cU := fun w => Unpack_at (strOfNums (packL a0)) w (by omega)
    rw [back_is a0 (by omega)] at cU
    obtain ⟨q, hq⟩ : ∃ q, q = strOfNums (packL a0) := ⟨_, rfl⟩
    rw [← hq] at cP cU hps
    obtain ⟨d, hd⟩ : ∃ d, d = (a0.size + 3) / 4 := ⟨_, rfl⟩
    have hdz : ((a0.size : Int) + 3).tdiv 4 = (d : Int) := by rw [Int.tdiv_eq_ediv_of_nonneg (by omega)]; omega
    have hle : (q.size : Int) ≤ (a0.size : Int) + (d : Int) := by omega
    have hq2 : q.size ≤ 10000 := by omega
    have hd2 : d ≤ 1000 := by omega
    clear hpl hps hq hd
    go_enter Try.func3, Try.ntmps3
    go_wp2_with (fail)
    refine (packed_at _).mono ?_
    rintro e v1 ⟨rfl, hb1⟩
    go_wp2_with (fail)
    refine (cP _).mono ?_
    rintro e v2 ⟨rfl, hb2⟩
    go_wp2_with (fail)
    refine (cU _).mono ?_
    rintro e v3 ⟨rfl, hb3⟩
    have HB : Hid (Bl w v3) := (hb1.trans hb2).trans hb3
    clear cP cU hb1 hb2 hb3
    go_wp2
    go_ret
    exact ⟨rfl, HB.out⟩
  · have hz0 : (2000 : Int) < (a0.size : Int) := by omega
    have hz0d : decide ((2000 : Int) < (a0.size : Int)) = true := decide_eq_true hz0
    go_enter Try.func3, Try.ntmps3
    go_wp2_with (fail)
    refine (packed_at _).mono ?_
    rintro e v1 ⟨rfl, hb1⟩
    go_wp2
    go_ret
    exact ⟨rfl, hb1⟩

set_option maxRecDepth 100000 in
theorem lifted (os : Os) (started : os.Started) (H : Type) (enc : TypeId × Value → H) :
    ReturnsInHanded {} Try.checked os 3 .any (Rows.lzBackSpec.pre6 enc Try.prog Try.f3 Rows.lzBackRow.domain false) (Rows.lzBackSpec.post enc Try.prog Try.f3 false true false false) := by
  refine returnsInHanded_of_change_sized (C := Try.checked) own started (by kernel_rfl) Try.func3
    (ChangeSpec.witness6 (enc := enc) (C := Try.checked) false ⟨#[], #[.string ByteArray.empty], []⟩ 8 (by kernel_rfl) (by kernel_rfl) (by kernel_rfl) (by kernel_rfl)) ?_
  intro W base args ds gs before hval0 hW hcnd hsz0 _
  have hval : ∀ (j : Nat) t v, Try.f3.params[j]? = some t → args[j]? = some v → Value.okWide Try.prog W .any base t v := hval0
  have hW' := hW
  obtain ⟨p, q, hA0, hV, rfl, hfz, hnd⟩ := hW
  have hA : DataW.TrodAll enc Try.prog W 0 (fun _ => true) true Try.f3.params.toList args.toList ds p := hA0
  have hsz : (DataW.weightsEach Try.prog (Try.f3.params.toList ++ Rows.lzBackSpec.plain.varTypes Try.prog) (ds ++ gs)).all (· ≤ reachBytes) = true := hsz0
  rw [Try.params3] at hA hval hsz
  obtain ⟨v0, vs0, d0, ds0, p0, q0, hargs, rfl, rfl, h0, r0⟩ := trodAll_cons hA
  obtain ⟨rfl, rfl, rfl⟩ := trodAll_nil r0
  obtain rfl : args = #[v0] := by cases args; simp_all
  obtain ⟨rfl, rfl⟩ := trodVars_none hV
  obtain ⟨a0, rfl, rfl, rfl, w0⟩ := open_string Try.underlying9 (hval 0 9 v0 rfl rfl) h0
  have z0 : a0.size ≤ 140737488351232 := sized_string hsz (j := 0) (t := 9) rfl rfl
  clear hA0 hval0 hsz0 hsz
  simp only [List.append_nil] at hW'
  refine (walk a0 z0 W).mono fun e W' ⟨he, hg⟩ => ?_
  subst he
  exact ⟨_, rfl, _, _, _, [], [], [], hW', (trodAll_cons_mk (shut_bool Try.underlying4 _) trodAll_mk0), (trodAll_cons_mk (shut_string Try.underlying9 w0) trodAll_mk0), rfl, hg.frame _, fun h => by cases h⟩

theorem over : Rows.lzBackRow.holds Try.pinned (OpenSpec.ofChange Rows.lzBackSpec) :=
  OpenClaim.holds_of_wide 3 Try.f3 rfl rfl rfl rfl rfl rfl rfl ⟨rfl, rfl, rfl, rfl, rfl⟩ rfl rfl rfl rfl rfl (by kernel_rfl) Try.func3 (by kernel_rfl)
    (of_decide_eq_true (by kernel_rfl)) (by unfold Func.isWrapper; first | (rw [if_pos (by decide +kernel)]; kernel_rfl) | (rw [if_neg (by decide +kernel)]; exact ⟨rfl, rfl⟩))
    (fun os started H enc _ => lifted os started H enc)

end Go.Proofs.Ytmchpmfogjhpoaa.lzBack
namespace Go.Proofs.Ytmchpmfogjhpoaa
/-- The given statement. -/
theorem lzBack_holds : Rows.LzBackSaid := lzBack.over
#print axioms lzBack_holds
end Go.Proofs.Ytmchpmfogjhpoaa
