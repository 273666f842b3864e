/- A text of up to 600 bytes that Pack writes is read again by Unpack as itself, and what Unpack reads of any bytes (up to 500) Pack writes as just those bytes: HuffBack answers true at every two texts. -/
import Derived.Test.YtkldnapbeebdkaaRows
import Derived.WalkKit
import Derived.ProofKit
import Derived.OpenShut
import Derived.SizedLaws
import Derived.Test.YtkldnapbeebdkaaHi6
import Derived.Test.YtkldnapbeebdkaaHg3
import Derived.ShutString
namespace Go.Proofs.Ytkldnapbeebdkaa.huffBack
open Go.ChangeShapes Go.WideShapes Go.ChangeAt Go.RowKit
open Go.ChangeMaps (open_string shut_string)
set_option linter.unusedVariables false      -- a walk need not use every 'w<i>' (that an integer argument fits its kind)

theorem own : ownKnob Try.prog.godebug = none := by kernel_rfl

open mem rows hg hh hi
set_option maxHeartbeats 4000000 in
set_option maxRecDepth 100000 in
theorem walk (a0 : ByteArray) (a1 : ByteArray) (w0 : a0.size ≤ 140737488351232) (w1 : a1.size ≤ 140737488351232) (w : World) :
    Calls Try.prog 6 #[.string a0, .string a1] w fun e w' => e = .returned (.bool true) ∧ Below w.heap.size w w' := by
  clear w0 w1
  by_cases hs0 : a0.size ≤ 600
  · have hz0 : ¬ (600 : Int) < (a0.size : Int) := by omega
    have hz0d : decide ((600 : Int) < (a0.size : Int)) = false := decide_eq_false hz0
    by_cases hs1 : a1.size ≤ 500
    · have hz1 : ¬ (500 : Int) < (a1.size : Int) := by omega
      have hz1d : decide ((500 : Int) < (a1.size : Int)) = false := decide_eq_false hz1
      have cP := fun w => Pack_at a0 w (by omega)
      have hps : (packT a0).size ≤ 100000 := by
        rw [packT_size (by omega)]
        have := bits_len (s := a0) (by omega)
        omega
      have cU := fun w => Unpack_at (packT a0) w hps
      have HW : Hid (¬ Why (packT a0) ∧ ∀ t : ByteArray, t.size ≤ 4000 → packT t = packT a0 → t = a0) := ⟨why_not (by omega), fun t h1 h2 => packT_inj h1 (by omega) h2⟩
      have cV := fun w => Unpack_at a1 w (by omega)
      generalize packT a0 = q at *
      go_enter Try.func6, Try.ntmps6
      go_wp2_with (fail)
      refine (coded_at _).mono ?_
      rintro e v1 ⟨rfl, hb1⟩
      go_wp2_with (fail)
      refine (cP _).mono ?_
      rintro e v2 ⟨rfl, hb2⟩
      go_wp2_with (fail)
      refine (cU _).mono ?_
      rintro e v3 ⟨hb3, ⟨t, ht, hpt, rfl⟩ | ⟨hno, rfl⟩⟩
      · obtain rfl := HW.out.2 t ht hpt
        have HB : Hid (Bl w v3) := (hb1.trans hb2).trans hb3
        clear cP cU HW hb1 hb2 hb3 hpt ht hps
        go_wp2_with (fail)
        refine (cV _).mono ?_
        clear cV
        rintro e v4 ⟨hb4, ⟨u, hu, hpu, rfl⟩ | ⟨hno, rfl⟩⟩
        · have cQ := Pack_at u v4 hu
          rw [hpu] at cQ
          go_wp2_with (fail)
          refine cQ.mono ?_
          clear cQ
          rintro e v5 ⟨rfl, hb5⟩
          have HB5 : Hid (Bl w v5) := (HB.out.trans hb4).trans hb5
          clear hb4 hb5 hpu
          go_wp2
          go_ret
          exact ⟨rfl, HB5.out⟩
        · have HB5 : Hid (Bl w v4) := HB.out.trans hb4
          clear hb4 hno
          go_wp2
          go_ret
          exact ⟨rfl, HB5.out⟩
      · exact absurd hno HW.out.1
    · have hz1 : (500 : Int) < (a1.size : Int) := by omega
      have hz1d : decide ((500 : Int) < (a1.size : Int)) = true := decide_eq_true hz1
      go_enter Try.func6, Try.ntmps6
      go_wp2_with (fail)
      refine (coded_at _).mono ?_
      rintro e v1 ⟨rfl, hb1⟩
      go_wp2
      go_ret
      exact ⟨rfl, hb1⟩
  · have hz0 : (600 : Int) < (a0.size : Int) := by omega
    have hz0d : decide ((600 : Int) < (a0.size : Int)) = true := decide_eq_true hz0
    go_enter Try.func6, Try.ntmps6
    go_wp2_with (fail)
    refine (coded_at _).mono ?_
    rintro e v1 ⟨rfl, hb1⟩
    go_wp2
    go_ret
    exact ⟨rfl, hb1⟩

set_option maxRecDepth 100000 in
theorem lifted (os : Os) (started : os.Started) (H : Type) (enc : TypeId × Value → H) :
    ReturnsInHanded {} Try.checked os 6 .any (Rows.huffBackSpec.pre6 enc Try.prog Try.f6 Rows.huffBackRow.domain false) (Rows.huffBackSpec.post enc Try.prog Try.f6 false true false false) := by
  refine returnsInHanded_of_change_sized (C := Try.checked) own started (by kernel_rfl) Try.func6
    (ChangeSpec.witness6 (enc := enc) (C := Try.checked) false ⟨#[], #[.string ByteArray.empty, .string ByteArray.empty], []⟩ 8 (by kernel_rfl) (by kernel_rfl) (by kernel_rfl) (by kernel_rfl)) ?_
  intro W base args ds gs before hval0 hW hcnd hsz0 _
  have hval : ∀ (j : Nat) t v, Try.f6.params[j]? = some t → args[j]? = some v → Value.okWide Try.prog W .any base t v := hval0
  have hW' := hW
  obtain ⟨p, q, hA0, hV, rfl, hfz, hnd⟩ := hW
  have hA : DataW.TrodAll enc Try.prog W 0 (fun _ => true) true Try.f6.params.toList args.toList ds p := hA0
  have hsz : (DataW.weightsEach Try.prog (Try.f6.params.toList ++ Rows.huffBackSpec.plain.varTypes Try.prog) (ds ++ gs)).all (· ≤ reachBytes) = true := hsz0
  rw [Try.params6] at hA hval hsz
  obtain ⟨v0, vs0, d0, ds0, p0, q0, hargs, rfl, rfl, h0, r0⟩ := trodAll_cons hA
  obtain ⟨v1, vs1, d1, ds1, p1, q1, rfl, rfl, rfl, h1, r1⟩ := trodAll_cons r0
  obtain ⟨rfl, rfl, rfl⟩ := trodAll_nil r1
  obtain rfl : args = #[v0, v1] := by cases args; simp_all
  obtain ⟨rfl, rfl⟩ := trodVars_none hV
  obtain ⟨a0, rfl, rfl, rfl, w0⟩ := open_string Try.underlying9 (hval 0 9 v0 rfl rfl) h0
  have z0 : a0.size ≤ 140737488351232 := sized_string hsz (j := 0) (t := 9) rfl rfl
  obtain ⟨a1, rfl, rfl, rfl, w1⟩ := open_string Try.underlying9 (hval 1 9 v1 rfl rfl) h1
  have z1 : a1.size ≤ 140737488351232 := sized_string hsz (j := 1) (t := 9) rfl rfl
  clear hA0 hval0 hsz0 hsz
  simp only [List.append_nil] at hW'
  refine (walk a0 a1 z0 z1 W).mono fun e W' ⟨he, hg⟩ => ?_
  subst he
  exact ⟨_, rfl, _, _, _, [], [], [], hW', (trodAll_cons_mk (shut_bool Try.underlying4 _) trodAll_mk0), (trodAll_cons_mk (shut_string Try.underlying9 w0) (trodAll_cons_mk (shut_string Try.underlying9 w1) trodAll_mk0)), rfl, hg.frame _, fun h => by cases h⟩

theorem over : Rows.huffBackRow.holds Try.pinned (OpenSpec.ofChange Rows.huffBackSpec) :=
  OpenClaim.holds_of_wide 6 Try.f6 rfl rfl rfl rfl rfl rfl rfl ⟨rfl, rfl, rfl, rfl, rfl⟩ rfl rfl rfl rfl rfl (by kernel_rfl) Try.func6 (by kernel_rfl)
    (of_decide_eq_true (by kernel_rfl)) (by unfold Func.isWrapper; first | (rw [if_pos (by decide +kernel)]; kernel_rfl) | (rw [if_neg (by decide +kernel)]; exact ⟨rfl, rfl⟩))
    (fun os started H enc _ => lifted os started H enc)

end Go.Proofs.Ytkldnapbeebdkaa.huffBack
namespace Go.Proofs.Ytkldnapbeebdkaa
/-- The given statement. -/
theorem huffBack_holds : Rows.HuffBackSaid := huffBack.over
#print axioms huffBack_holds
end Go.Proofs.Ytkldnapbeebdkaa
