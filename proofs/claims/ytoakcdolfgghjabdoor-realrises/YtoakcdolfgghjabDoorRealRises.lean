/- RealRises: for any two numbers of 64 bits, as floating numbers: where the first is not greater, neither is its Narrow, as floating numbers of 32 bits. Condition: real.forms lies as the text of the program lays it (the card ties it). -/
import Derived.Test.YtoakcdolfgghjabDoorRows
import Derived.WalkKit
import Derived.ProofKit
import Derived.OpenShut
import Derived.SizedLaws
import Derived.Test.YtoakcdolfgghjabDoorLaidF
import Derived.Test.YtoakcdolfgghjabDoorTie
import Derived.Test.YtoakcdolfgghjabDoorCards
import Derived.SevenTiedAt
import Derived.Test.YtoakcdolfgghjabDoorFlo
import Derived.ShutString
namespace Go.Proofs.YtoakcdolfgghjabDoor.realRises
open Go.ChangeShapes Go.WideShapes Go.ChangeAt Go.RowKit
open Go.ChangeMaps (open_string shut_string)
set_option linter.unusedVariables false      -- a walk need not use every 'w<i>' (that an integer argument fits its kind)

theorem own : ownKnob Tryd.prog.godebug = none := by kernel_rfl

open mem rl flt
theorem walk (a0 : Int) (a1 : Int) (w0 : (Lit.int .u64 a0).wf = true) (w1 : (Lit.int .u64 a1).wf = true) (w : World) (hl : rl.FL w) :
    Calls Tryd.prog 7 #[.int .u64 a0, .int .u64 a1] w fun e w' => e = .returned (.bool true) ∧ Grown w w' := by
  have b0 := bounds_u64 w0
  have b1 := bounds_u64 w1
  clear w0 w1
  obtain ⟨a, rfl⟩ := Int.eq_ofNat_of_zero_le (show 0 ≤ a0 by omega)
  obtain ⟨b, rfl⟩ := Int.eq_ofNat_of_zero_le (show 0 ≤ a1 by omega)
  have F1 := f64from
  have F2 := f32from
  obtain ⟨p, hp⟩ : ∃ p, narW a = p := ⟨_, rfl⟩
  obtain ⟨q, hq⟩ : ∃ q, narW b = q := ⟨_, rfl⟩
  have HP := hide hp
  have HQ := hide hq
  by_cases hle : (FloatKind.f64.format.order a b == some .lt || FloatKind.f64.format.order a b == some .eq) = true
  · have hle2 : (FloatKind.f32.format.order p q == some .lt || FloatKind.f32.format.order p q == some .eq) = true := by
      by_cases na : a % 2 ^ 63 ≤ 2047 * 2 ^ 52
      · by_cases nb : b % 2 ^ 63 ≤ 2047 * 2 ^ 52
        · have hsv : sv Ieee.double a ≤ sv Ieee.double b := by
            rcases Int.lt_or_le (sv Ieee.double b) (sv Ieee.double a) with h | h
            · rw [ord64 a b na nb, cmp_gt h] at hle
              exact absurd hle (by decide)
            · exact h
          have h2 := rises a b na nb hsv
          obtain ⟨_, m1, _⟩ := narW_num a na
          obtain ⟨_, m2, _⟩ := narW_num b nb
          rw [← hp, ← hq, ord32 _ _ (by omega) (by omega)]
          rcases cmp_le h2 with h | h <;> rw [h] <;> decide
        · rw [nan64 a b (by omega)] at hle
          exact absurd hle (by decide)
      · rw [nan64 a b (by omega)] at hle
        exact absurd hle (by decide)
    clear hp hq
    go_enter Tryd.func7, Tryd.ntmps7
    go_wp2_with (first
      | (go_at_call 8; refine (halved_at _ hl).mono ?_; rintro e v1 ⟨rfl, g1⟩)
      | (go_at_call_of 17 (Value.int IntKind.u64 (a : Int)); refine (Narrow_at a p (by omega) HP.out _ (hl.gb g1)).mono ?_; rintro e v2 ⟨rfl, g2⟩)
      | (go_at_call_of 17 (Value.int IntKind.u64 (b : Int)); refine (Narrow_at b q (by omega) HQ.out _ (hl.gb (g1.trans g2))).mono ?_; rintro e v3 ⟨rfl, g3⟩))
    go_ret
    exact ⟨rfl, (g1.trans (g2.trans g3)).g⟩
  · clear hp hq
    go_enter Tryd.func7, Tryd.ntmps7
    go_wp2_with (first
      | (go_at_call 8; refine (halved_at _ hl).mono ?_; rintro e v1 ⟨rfl, g1⟩))
    go_ret
    exact ⟨rfl, g1.g⟩

set_option maxRecDepth 100000 in
theorem lifted (os : Os) (started : os.Started) (H : Type) (enc : TypeId × Value → H) :
    ReturnsInHanded {} Tryd.checked os 7 .any (fun w args => (Rows.realRisesSpec.pre enc Tryd.prog Tryd.f7 [] false w args ∧ laidMetH Tryd.prog laidf.list w) ∧ sizedMet enc Tryd.prog Tryd.f7 (OpenSpec.ofChange Rows.realRisesSpec) false w args) (Rows.realRisesSpec.post enc Tryd.prog Tryd.f7 false true false false) := by
  refine returnsInHanded_of_change_and (C := Tryd.checked) (X := fun w _ => laidMetH Tryd.prog laidf.list w) (fun _ _ _ hh h => h.of_heap hh) own started (by kernel_rfl) Tryd.func7
    (ChangeSpec.witness_shaped (enc := enc) (C := Tryd.checked) (os := os) (X := fun w _ => laidMetH Tryd.prog laidf.list w) false (World.doorLaid Tryd.prog 200 os) #[.int .u64 0, .int .u64 0] 8 rfl (World.shaped_of_RefB (by kernel_rfl) (by kernel_rfl)) (by kernel_rfl) (by kernel_rfl) (by kernel_rfl) (laidf.world_met os _)) ?_
  intro W base args ds gs before hval0 hW hcnd hsz0 hL _
  have hval : ∀ (j : Nat) t v, Tryd.f7.params[j]? = some t → args[j]? = some v → Value.okWide Tryd.prog W .any base t v := hval0
  have hW' := hW
  obtain ⟨p, q, hA0, hV, rfl, hfz, hnd⟩ := hW
  have hA : DataW.TrodAll enc Tryd.prog W 0 (fun _ => true) true Tryd.f7.params.toList args.toList ds p := hA0
  have hsz : (DataW.weightsEach Tryd.prog (Tryd.f7.params.toList ++ Rows.realRisesSpec.plain.varTypes Tryd.prog) (ds ++ gs)).all (· ≤ reachBytes) = true := hsz0
  rw [Tryd.params7] at hA hval hsz
  obtain ⟨v0, vs0, d0, ds0, p0, q0, hargs, rfl, rfl, h0, r0⟩ := trodAll_cons hA
  obtain ⟨v1, vs1, d1, ds1, p1, q1, rfl, rfl, rfl, h1, r1⟩ := trodAll_cons r0
  obtain ⟨rfl, rfl, rfl⟩ := trodAll_nil r1
  obtain rfl : args = #[v0, v1] := by cases args; simp_all
  obtain ⟨rfl, rfl⟩ := trodVars_none hV
  obtain ⟨a0, rfl, rfl, rfl, w0⟩ := open_int Tryd.underlying22 (hval 0 22 v0 rfl rfl) h0
  obtain ⟨a1, rfl, rfl, rfl, w1⟩ := open_int Tryd.underlying22 (hval 1 22 v1 rfl rfl) h1
  clear hA0 hval0 hsz0 hsz
  simp only [List.append_nil] at hW'
  refine (walk a0 a1 w0 w1 W (laidf.FL_of_laid hL)).mono fun e W' ⟨he, hg⟩ => ?_
  subst he
  exact ⟨_, rfl, post_of_same (pa := []) (pv := []) hW' (fun _ _ _ => (trodAll_cons_mk (shut_bool Tryd.underlying4 _) trodAll_mk0)) (fun sp _ => (trodAll_cons_mk (shut_int Tryd.underlying22 w0) (trodAll_cons_mk (shut_int Tryd.underlying22 w1) trodAll_mk0))) (fun _ _ => rfl) rfl
    (hg.frame _) hg.2.1 (ok_one (by kernel_rfl) rfl (okWide_bool_mk Tryd.underlying4 _))⟩

theorem over : Rows.realRisesRow.holds Tryd.pinned (OpenSpec.ofChange Rows.realRisesSpec) :=
  OpenClaim.holds_of_wide 7 Tryd.f7 rfl rfl rfl rfl rfl rfl rfl ⟨rfl, rfl, rfl, rfl, rfl⟩ rfl rfl rfl rfl rfl (by kernel_rfl) Tryd.func7 (by kernel_rfl)
    (of_decide_eq_true (by kernel_rfl)) (by unfold Func.isWrapper; first | (rw [if_pos (by decide +kernel)]; kernel_rfl) | (rw [if_neg (by decide +kernel)]; exact ⟨rfl, rfl⟩))
    (fun os started H enc _ => lifted os started H enc)

theorem tied : Rows.RealRisesCardSaid :=
  Claim7.holds_tied_plain_at .later [] [.data] true (true, "e1b03e1fa24504d072c01222f929b912ac8580ac1f5b824732123fb3fe26023f") true
    over (fun _ h => by cases h) (by kernel_rfl) (fun _ h => by cases h) realRises_row_tie rfl ⟨rfl, rfl⟩ (by kernel_rfl) rfl
    (fun f fn hf hfn => by
      obtain rfl : f = 7 := Option.some.inj ((show Tryd.prog.funcNamed "escritoire/escritoirekeep.RealRises" = some 7 by kernel_rfl).symm.trans hf) |>.symm
      obtain rfl : fn = Tryd.f7 := (Option.some.inj (Tryd.func7.symm.trans hfn)).symm
      exact ⟨by kernel_rfl, fun j t ht => by
        rw [Tryd.params7] at ht
        rcases j with _ | j
        · obtain rfl : t = 22 := by simpa using ht.symm
          exact (show Tryd.prog.wantsStandIn 22 = false by kernel_rfl)
        · rcases j with _ | j
          · obtain rfl : t = 22 := by simpa using ht.symm
            exact (show Tryd.prog.wantsStandIn 22 = false by kernel_rfl)
          · simp at ht⟩)
    (by kernel_rfl)
end Go.Proofs.YtoakcdolfgghjabDoor.realRises
namespace Go.Proofs.YtoakcdolfgghjabDoor
/-- The given statement. -/
theorem realRises_holds : Rows.RealRisesCardSaid := realRises.tied
#print axioms realRises_holds
end Go.Proofs.YtoakcdolfgghjabDoor
