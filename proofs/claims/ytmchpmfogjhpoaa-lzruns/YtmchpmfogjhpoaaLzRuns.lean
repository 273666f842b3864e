/- A text of 1 to 100 bytes that stands n times, n from 1 to 30, is told by Pack in no more bytes than the text and a quarter of it, and three for each 130 bytes of what stands again, and six: LzRuns answers true at every text and number. -/
import Derived.Test.YtmchpmfogjhpoaaRows
import Derived.WalkKit
import Derived.ProofKit
import Derived.OpenShut
import Derived.SizedLaws
import Derived.Test.YtmchpmfogjhpoaaLzR
import Derived.ShutString
namespace Go.Proofs.Ytmchpmfogjhpoaa.lzRuns
open Go.ChangeShapes Go.WideShapes Go.ChangeAt Go.RowKit
open Go.ChangeMaps (open_string shut_string)
set_option linter.unusedVariables false      -- a walk need not use every 'w<i>' (that an integer argument fits its kind)

theorem own : ownKnob Try.prog.godebug = none := by kernel_rfl

open mem rows lz
theorem zero_size {a : ByteArray} (h : ¬ a.size = 0) : (a.toList == []) = false := by
  have e := isEmpty_at a
  rw [decide_eq_false h] at e
  cases hl : a.toList with
  | nil => rw [hl] at e; cases e
  | cons x y => rfl
set_option maxHeartbeats 1000000 in
set_option maxRecDepth 10000 in
theorem walk (a0 : ByteArray) (a1 : Int) (w0 : a0.size ≤ 140737488351232) (w1 : (Lit.int .i64 a1).wf = true) (w : World) :
    Calls Try.prog 4 #[.string a0, .int .i64 a1] w fun e w' => e = .returned (.bool true) ∧ Below w.heap.size w w' := by
  by_cases h0 : a0.size = 0
  · obtain rfl : a0 = ⟨#[]⟩ := by
      apply ByteArray.ext
      exact Array.eq_empty_of_size_eq_zero h0
    go_enter Try.func4, Try.ntmps4
    go_wp2_with (fail)
    refine (packed_at _).mono ?_
    rintro e v1 ⟨rfl, hb1⟩
    go_wp2
    go_ret
    exact ⟨rfl, hb1⟩
  · have hne := zero_size h0
    by_cases h1 : a0.size ≤ 100
    · have hz1 : ¬ (100 : Int) < (a0.size : Int) := by omega
      have hz1d : decide ((100 : Int) < (a0.size : Int)) = false := decide_eq_false hz1
      have cK := fun w => pick_at a1 30 w (by omega) (by omega)
      have hk := pik_lt a1 30 (by omega)
      obtain ⟨p, hp⟩ : ∃ p, p = pik a1 30 := ⟨_, rfl⟩
      rw [← hp] at cK hk
      have cR := fun w => repeat_at a0 (p + 1) w (by omega) h1
      have hsz := rp_size a0 (p + 1)
      have hm : (p + 1) * a0.size ≤ 30 * 100 := Nat.mul_le_mul (by omega) h1
      have cP := fun w => Pack_at (rp a0 (p + 1)) w (by omega)
      have hcost := rp_cost a0 p (by omega) h1
      have hps := packL_size (rp a0 (p + 1))
      obtain ⟨T, hT⟩ : ∃ T, T = rp a0 (p + 1) := ⟨_, rfl⟩
      rw [← hT] at cR cP hps hcost
      obtain ⟨q, hq⟩ : ∃ q, q = strOfNums (packL T) := ⟨_, rfl⟩
      rw [← hq] at cP hps
      obtain ⟨c, hc⟩ : ∃ c, c = p + 1 := ⟨_, rfl⟩
      rw [← hc] at cR
      have hcz : (1 : Int) + (p : Int) = (c : Int) := by omega
      have hcz2 : (c : Int) - 1 = (p : Int) := by omega
      obtain ⟨M, hM⟩ : ∃ M, M = p * a0.size := ⟨_, rfl⟩
      have hMz : (p : Int) * (a0.size : Int) = (M : Int) := by rw [hM]; exact (Int.natCast_mul _ _).symm
      have hMb : M ≤ 3000 := by rw [hM]; have : p * a0.size ≤ 30 * 100 := Nat.mul_le_mul (by omega) h1; omega
      rw [← hM] at hcost
      obtain ⟨Q, hQ⟩ : ∃ Q, Q = M / 130 := ⟨_, rfl⟩
      have hQz : (M : Int).tdiv 130 = (Q : Int) := by rw [Int.tdiv_eq_ediv_of_nonneg (by omega)]; omega
      rw [← hQ] at hcost
      obtain ⟨d, hd⟩ : ∃ d, d = (a0.size + 3) / 4 := ⟨_, rfl⟩
      have hdz : ((a0.size : Int) + 3).tdiv 4 = (d : Int) := by rw [Int.tdiv_eq_ediv_of_nonneg (by omega)]; omega
      have hle : (q.size : Int) ≤ (a0.size : Int) + (d : Int) + 3 * ((Q : Int) + 2) := by omega
      have hQb : Q ≤ 100 := by omega
      have hdb : d ≤ 100 := by omega
      have hqb : q.size ≤ 10000 := by omega
      clear hp hsz hm hcost hps hT hq hc hM hQ hd
      go_enter Try.func4, Try.ntmps4
      go_wp2_with (fail)
      refine (packed_at _).mono ?_
      rintro e v1 ⟨rfl, hb1⟩
      go_wp2_with (fail)
      refine (cK _).mono ?_
      rintro e v2 ⟨rfl, rfl⟩
      go_wp2_with (fail)
      refine (cR _).mono ?_
      rintro e v3 ⟨rfl, hb3⟩
      go_wp2_with (fail)
      refine (cP _).mono ?_
      rintro e v4 ⟨rfl, hb4⟩
      have HB : Hid (Bl w v4) := (hb1.trans hb3).trans hb4
      clear cK cR cP hb1 hb3 hb4
      go_wp2
      go_ret
      exact ⟨rfl, HB.out⟩
    · have hz1 : (100 : Int) < (a0.size : Int) := by omega
      have hz1d : decide ((100 : Int) < (a0.size : Int)) = true := decide_eq_true hz1
      go_enter Try.func4, Try.ntmps4
      go_wp2_with (fail)
      refine (packed_at _).mono ?_
      rintro e v1 ⟨rfl, hb1⟩
      go_wp2
      go_ret
      exact ⟨rfl, hb1⟩

set_option maxRecDepth 100000 in
theorem lifted (os : Os) (started : os.Started) (H : Type) (enc : TypeId × Value → H) :
    ReturnsInHanded {} Try.checked os 4 .any (Rows.lzRunsSpec.pre6 enc Try.prog Try.f4 Rows.lzRunsRow.domain false) (Rows.lzRunsSpec.post enc Try.prog Try.f4 false true false false) := by
  refine returnsInHanded_of_change_sized (C := Try.checked) own started (by kernel_rfl) Try.func4
    (ChangeSpec.witness6 (enc := enc) (C := Try.checked) false ⟨#[], #[.string ByteArray.empty, .int .i64 0], []⟩ 8 (by kernel_rfl) (by kernel_rfl) (by kernel_rfl) (by kernel_rfl)) ?_
  intro W base args ds gs before hval0 hW hcnd hsz0 _
  have hval : ∀ (j : Nat) t v, Try.f4.params[j]? = some t → args[j]? = some v → Value.okWide Try.prog W .any base t v := hval0
  have hW' := hW
  obtain ⟨p, q, hA0, hV, rfl, hfz, hnd⟩ := hW
  have hA : DataW.TrodAll enc Try.prog W 0 (fun _ => true) true Try.f4.params.toList args.toList ds p := hA0
  have hsz : (DataW.weightsEach Try.prog (Try.f4.params.toList ++ Rows.lzRunsSpec.plain.varTypes Try.prog) (ds ++ gs)).all (· ≤ reachBytes) = true := hsz0
  rw [Try.params4] at hA hval hsz
  obtain ⟨v0, vs0, d0, ds0, p0, q0, hargs, rfl, rfl, h0, r0⟩ := trodAll_cons hA
  obtain ⟨v1, vs1, d1, ds1, p1, q1, rfl, rfl, rfl, h1, r1⟩ := trodAll_cons r0
  obtain ⟨rfl, rfl, rfl⟩ := trodAll_nil r1
  obtain rfl : args = #[v0, v1] := by cases args; simp_all
  obtain ⟨rfl, rfl⟩ := trodVars_none hV
  obtain ⟨a0, rfl, rfl, rfl, w0⟩ := open_string Try.underlying9 (hval 0 9 v0 rfl rfl) h0
  have z0 : a0.size ≤ 140737488351232 := sized_string hsz (j := 0) (t := 9) rfl rfl
  obtain ⟨a1, rfl, rfl, rfl, w1⟩ := open_int Try.underlying3 (hval 1 3 v1 rfl rfl) h1
  clear hA0 hval0 hsz0 hsz
  simp only [List.append_nil] at hW'
  refine (walk a0 a1 z0 w1 W).mono fun e W' ⟨he, hg⟩ => ?_
  subst he
  exact ⟨_, rfl, _, _, _, [], [], [], hW', (trodAll_cons_mk (shut_bool Try.underlying4 _) trodAll_mk0), (trodAll_cons_mk (shut_string Try.underlying9 w0) (trodAll_cons_mk (shut_int Try.underlying3 w1) trodAll_mk0)), rfl, hg.frame _, fun h => by cases h⟩

theorem over : Rows.lzRunsRow.holds Try.pinned (OpenSpec.ofChange Rows.lzRunsSpec) :=
  OpenClaim.holds_of_wide 4 Try.f4 rfl rfl rfl rfl rfl rfl rfl ⟨rfl, rfl, rfl, rfl, rfl⟩ rfl rfl rfl rfl rfl (by kernel_rfl) Try.func4 (by kernel_rfl)
    (of_decide_eq_true (by kernel_rfl)) (by unfold Func.isWrapper; first | (rw [if_pos (by decide +kernel)]; kernel_rfl) | (rw [if_neg (by decide +kernel)]; exact ⟨rfl, rfl⟩))
    (fun os started H enc _ => lifted os started H enc)

end Go.Proofs.Ytmchpmfogjhpoaa.lzRuns
namespace Go.Proofs.Ytmchpmfogjhpoaa
/-- The given statement. -/
theorem lzRuns_holds : Rows.LzRunsSaid := lzRuns.over
#print axioms lzRuns_holds
end Go.Proofs.Ytmchpmfogjhpoaa
