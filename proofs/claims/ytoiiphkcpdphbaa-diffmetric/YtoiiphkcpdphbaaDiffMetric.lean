/- How far one of any three texts of up to 300 bytes together is from another one is nothing just for a text and itself, the same there as back, no greater than the way round by the third one, and even or odd as their bytes together are: DiffMetric answers true at every three texts. -/
import Derived.Test.YtoiiphkcpdphbaaRows
import Derived.WalkKit
import Derived.ProofKit
import Derived.OpenShut
import Derived.SizedLaws
import Derived.Test.YtoiiphkcpdphbaaDfK
import Derived.ShutString
namespace Go.Proofs.Ytoiiphkcpdphbaa.diffMetric
open Go.ChangeShapes Go.WideShapes Go.ChangeAt Go.RowKit
open Go.ChangeMaps (open_string shut_string)
set_option linter.unusedVariables false      -- a walk need not use every 'w<i>' (that an integer argument fits its kind)

theorem own : ownKnob Try.prog.godebug = none := by kernel_rfl

open mem df
theorem tl_eq {a b : ByteArray} : a.toList = b.toList ↔ a = b := by
  rw [ByteArray.toList_eq, ByteArray.toList_eq]
  constructor
  · intro h
    exact ByteArray.ext (Array.ext' h)
  · intro h
    rw [h]
set_option maxHeartbeats 1000000 in
set_option maxRecDepth 10000 in
theorem walk (a0 : ByteArray) (a1 : ByteArray) (a2 : ByteArray) (w0 : a0.size ≤ 140737488351232) (w1 : a1.size ≤ 140737488351232) (w2 : a2.size ≤ 140737488351232) (w : World) :
    Calls Try.prog 4 #[.string a0, .string a1, .string a2] w fun e w' => e = .returned (.bool true) ∧ Below w.heap.size w w' := by
  obtain ⟨Q, hQ⟩ : ∃ Q : Nat, Q = 140737488351232 := ⟨_, rfl⟩
  have hs : ∀ s ∈ [a0, a1, a2], s.size ≤ Q := by
    intro s hs
    simp only [List.mem_cons, List.not_mem_nil, or_false] at hs
    rcases hs with rfl | rfl | rfl <;> omega
  have cN := fun (Z : Nat) (w : World) h => near_at Q (by omega) [a0, a1, a2] Z w 9 (by simp) hs h
  clear hs hQ
  by_cases ht : tot [a0, a1, a2] ≤ 300
  · rw [decide_eq_true ht] at cN
    have hsz : a0.size + a1.size + a2.size ≤ 300 := by simp only [tot] at ht; omega
    clear ht
    have hf1 := far_comm (L a0) (L a1)
    have hf2 := far_zero (L a0) (L a1)
    have hf3 := far_tri (L a0) (L a1) (L a2)
    have hf4 := far_eq (L a0) (L a1)
    rw [L_len, L_len] at hf4
    have hf5 := far_le (L a0) (L a1)
    have hf6 := far_le (L a1) (L a2)
    have hf7 := far_le (L a0) (L a2)
    rw [L_len, L_len] at hf5 hf6 hf7
    have c01 := fun w => Far_at a0 a1 w (by omega)
    have c10 := fun w => Far_at a1 a0 w (by omega)
    have c12 := fun w => Far_at a1 a2 w (by omega)
    have c02 := fun w => Far_at a0 a2 w (by omega)
    rw [← hf1] at c10
    have hmod : ((far (L a0) (L a1) : Int) - (a0.size : Int) - (a1.size : Int)).tmod 2 = 0 := by
      rw [hf4, show (a0.size : Int) + (a1.size : Int) - 2 * (lcs (L a0) (L a1) : Int) - (a0.size : Int) - (a1.size : Int) = 2 * -(lcs (L a0) (L a1) : Int) by omega]
      exact Int.mul_tmod_right _ _
    have hsame : (((far (L a0) (L a1) : Nat) : Int) == 0) = (a0.toList == a1.toList) := by
      by_cases h : a0 = a1
      · have e := hf2.2 (by rw [h])
        rw [e, h]; simp
      · have e : far (L a0) (L a1) ≠ 0 := fun e => h (L_inj (hf2.1 e))
        have e2 : (a0.toList == a1.toList) = false := by rw [beq_eq_false_iff_ne]; exact fun e3 => h (tl_eq.1 e3)
        rw [e2, beq_eq_false_iff_ne]; omega
    clear hf1 hf2 hf4
    generalize far (L a0) (L a1) = x at *
    generalize far (L a1) (L a2) = y at *
    generalize far (L a0) (L a2) = z at *
    have hle : (z : Int) ≤ (x : Int) + (y : Int) := by omega
    go_enter Try.func4, Try.ntmps4
    go_wp2_with fail
    refine (differed_at _).mono ?_
    rintro e v1 ⟨rfl, hb1⟩
    go_wp2_with fail
    refine (cN v1.heap.size _ (heap_alloc_new v1 _)).mono ?_
    rintro e v2 ⟨rfl, rfl⟩
    go_wp2_with fail
    refine (c01 _).mono ?_
    rintro e v3 ⟨rfl, hb3⟩
    go_wp2_with fail
    refine (c10 _).mono ?_
    rintro e v4 ⟨rfl, hb4⟩
    go_wp2_with fail
    refine (c12 _).mono ?_
    rintro e v5 ⟨rfl, hb5⟩
    go_wp2_with fail
    refine (c02 _).mono ?_
    rintro e v6 ⟨rfl, hb6⟩
    go_wp2
    go_ret
    exact ⟨rfl, ((((hb1.trans ((Bl.refl _).alloc _)).trans hb3).trans hb4).trans hb5).trans hb6⟩
  · rw [decide_eq_false ht] at cN
    go_enter Try.func4, Try.ntmps4
    go_wp2_with fail
    refine (differed_at _).mono ?_
    rintro e v1 ⟨rfl, hb1⟩
    go_wp2_with fail
    refine (cN v1.heap.size _ (heap_alloc_new v1 _)).mono ?_
    rintro e v2 ⟨rfl, rfl⟩
    go_wp2
    go_ret
    exact ⟨rfl, hb1.trans ((Bl.refl _).alloc _)⟩

set_option maxRecDepth 100000 in
theorem lifted (os : Os) (started : os.Started) (H : Type) (enc : TypeId × Value → H) :
    ReturnsInHanded {} Try.checked os 4 .any (Rows.diffMetricSpec.pre6 enc Try.prog Try.f4 Rows.diffMetricRow.domain false) (Rows.diffMetricSpec.post enc Try.prog Try.f4 false true false false) := by
  refine returnsInHanded_of_change_sized (C := Try.checked) own started (by kernel_rfl) Try.func4
    (ChangeSpec.witness6 (enc := enc) (C := Try.checked) false ⟨#[], #[.string ByteArray.empty, .string ByteArray.empty, .string ByteArray.empty], []⟩ 8 (by kernel_rfl) (by kernel_rfl) (by kernel_rfl) (by kernel_rfl)) ?_
  intro W base args ds gs before hval0 hW hcnd hsz0 _
  have hval : ∀ (j : Nat) t v, Try.f4.params[j]? = some t → args[j]? = some v → Value.okWide Try.prog W .any base t v := hval0
  have hW' := hW
  obtain ⟨p, q, hA0, hV, rfl, hfz, hnd⟩ := hW
  have hA : DataW.TrodAll enc Try.prog W 0 (fun _ => true) true Try.f4.params.toList args.toList ds p := hA0
  have hsz : (DataW.weightsEach Try.prog (Try.f4.params.toList ++ Rows.diffMetricSpec.plain.varTypes Try.prog) (ds ++ gs)).all (· ≤ reachBytes) = true := hsz0
  rw [Try.params4] at hA hval hsz
  obtain ⟨v0, vs0, d0, ds0, p0, q0, hargs, rfl, rfl, h0, r0⟩ := trodAll_cons hA
  obtain ⟨v1, vs1, d1, ds1, p1, q1, rfl, rfl, rfl, h1, r1⟩ := trodAll_cons r0
  obtain ⟨v2, vs2, d2, ds2, p2, q2, rfl, rfl, rfl, h2, r2⟩ := trodAll_cons r1
  obtain ⟨rfl, rfl, rfl⟩ := trodAll_nil r2
  obtain rfl : args = #[v0, v1, v2] := by cases args; simp_all
  obtain ⟨rfl, rfl⟩ := trodVars_none hV
  obtain ⟨a0, rfl, rfl, rfl, w0⟩ := open_string Try.underlying9 (hval 0 9 v0 rfl rfl) h0
  have z0 : a0.size ≤ 140737488351232 := sized_string hsz (j := 0) (t := 9) rfl rfl
  obtain ⟨a1, rfl, rfl, rfl, w1⟩ := open_string Try.underlying9 (hval 1 9 v1 rfl rfl) h1
  have z1 : a1.size ≤ 140737488351232 := sized_string hsz (j := 1) (t := 9) rfl rfl
  obtain ⟨a2, rfl, rfl, rfl, w2⟩ := open_string Try.underlying9 (hval 2 9 v2 rfl rfl) h2
  have z2 : a2.size ≤ 140737488351232 := sized_string hsz (j := 2) (t := 9) rfl rfl
  clear hA0 hval0 hsz0 hsz
  simp only [List.append_nil] at hW'
  refine (walk a0 a1 a2 z0 z1 z2 W).mono fun e W' ⟨he, hg⟩ => ?_
  subst he
  exact ⟨_, rfl, _, _, _, [], [], [], hW', (trodAll_cons_mk (shut_bool Try.underlying4 _) trodAll_mk0), (trodAll_cons_mk (shut_string Try.underlying9 w0) (trodAll_cons_mk (shut_string Try.underlying9 w1) (trodAll_cons_mk (shut_string Try.underlying9 w2) trodAll_mk0))), rfl, hg.frame _, fun h => by cases h⟩

theorem over : Rows.diffMetricRow.holds Try.pinned (OpenSpec.ofChange Rows.diffMetricSpec) :=
  OpenClaim.holds_of_wide 4 Try.f4 rfl rfl rfl rfl rfl rfl rfl ⟨rfl, rfl, rfl, rfl, rfl⟩ rfl rfl rfl rfl rfl (by kernel_rfl) Try.func4 (by kernel_rfl)
    (of_decide_eq_true (by kernel_rfl)) (by unfold Func.isWrapper; first | (rw [if_pos (by decide +kernel)]; kernel_rfl) | (rw [if_neg (by decide +kernel)]; exact ⟨rfl, rfl⟩))
    (fun os started H enc _ => lifted os started H enc)

end Go.Proofs.Ytoiiphkcpdphbaa.diffMetric
namespace Go.Proofs.Ytoiiphkcpdphbaa
/-- The given statement. -/
theorem diffMetric_holds : Rows.DiffMetricSaid := diffMetric.over
#print axioms diffMetric_holds
end Go.Proofs.Ytoiiphkcpdphbaa
