/- RealTrue: for any number of 32 bits: Widen gives the bits of the very same floating number of 64 bits, which Narrow takes back; of a NaN, a NaN. Condition: real.forms lies as the text of the program lays it (the card ties it). -/
import Derived.Test.YtoakcdolfgghjabDoorRows
import Derived.WalkKit
import Derived.ProofKit
import Derived.OpenShut
import Derived.SizedLaws
import Derived.Test.YtoakcdolfgghjabDoorLaidF
import Derived.Test.YtoakcdolfgghjabDoorTie
import Derived.Test.YtoakcdolfgghjabDoorCards
import Derived.SevenTiedAt
import Derived.Test.YtoakcdolfgghjabDoorFlo
import Derived.Test.YtoakcdolfgghjabDoorFltT
import Derived.ShutString
namespace Go.Proofs.YtoakcdolfgghjabDoor.realTrue
open Go.ChangeShapes Go.WideShapes Go.ChangeAt Go.RowKit
open Go.ChangeMaps (open_string shut_string)
set_option linter.unusedVariables false      -- a walk need not use every 'w<i>' (that an integer argument fits its kind)

theorem own : ownKnob Tryd.prog.godebug = none := by kernel_rfl

open mem rl flt
theorem conv_at (b : Nat) (hn : b % 2 ^ 31 ≤ 255 * 2 ^ 23) (w : World) : (convert 37 24 (.float .f32 b)).run Tryd.prog w = .ok (.float .f64 (widW b)) w :=
  run_convert_float_float w 37 24 .f32 .f64 b (widW b) (by kernel_rfl) (by kernel_rfl) (conv64 b hn)
set_option maxHeartbeats 1000000 in
theorem walk (a0 : Int) (w0 : (Lit.int .u32 a0).wf = true) (w : World) (hl : rl.FL w) :
    Calls Tryd.prog 5 #[.int .u32 a0] w fun e w' => e = .returned (.bool true) ∧ Grown w w' := by
  have b0 := bounds_u32 w0
  clear w0
  obtain ⟨b, rfl⟩ := Int.eq_ofNat_of_zero_le (show 0 ≤ a0 by omega)
  have hbl : b < 2 ^ 32 := by omega
  have F1 := f64from
  have F2 := f32from
  have F3 := f64bits
  obtain ⟨r, hr⟩ : ∃ r, widW b = r := ⟨_, rfl⟩
  have HR := hide hr
  obtain ⟨_, hm, hrl⟩ := widW_parts b
  rw [hr] at hm hrl
  by_cases nb : b % 2 ^ 31 ≤ 255 * 2 ^ 23
  · have obb : FloatKind.f32.format.order b b = some .eq := by rw [ord32 b b nb nb, cmp_eq]
    have C1 : ∀ w, (convert 37 24 (.float .f32 b)).run Tryd.prog w = .ok (.float .f64 r) w := fun w => by rw [← hr]; exact conv_at b nb w
    have HN : Hid (narW r = b) := by rw [← hr]; exact narW_widW b hbl nb
    clear hr hm nb
    go_enter Tryd.func5, Tryd.ntmps5
    go_wp2_with (first
      | (go_at_call 8; refine (halved_at _ hl).mono ?_; rintro e v1 ⟨rfl, g1⟩)
      | (go_at_call 15; refine (Widen_at b r hbl HR.out _ (hl.gb g1)).mono ?_; rintro e v2 ⟨rfl, g2⟩)
      | (go_at_call 17; refine (Narrow_at r b hrl HN.out _ (hl.gb (g1.trans g2))).mono ?_; rintro e v3 ⟨rfl, g3⟩))
    go_ret
    exact ⟨by simp, (g1.trans (g2.trans g3)).g⟩
  · have obb : FloatKind.f32.format.order b b = none := nan32 b b (by omega)
    have hmw := wid_top' (b % 2 ^ 31) (by omega)
    have orr : FloatKind.f64.format.order r r = none := nan64 r r (by omega)
    clear hr hm nb hmw
    go_enter Tryd.func5, Tryd.ntmps5
    go_wp2_with (first
      | (go_at_call 8; refine (halved_at _ hl).mono ?_; rintro e v1 ⟨rfl, g1⟩)
      | (go_at_call 15; refine (Widen_at b r hbl HR.out _ (hl.gb g1)).mono ?_; rintro e v2 ⟨rfl, g2⟩))
    go_ret
    exact ⟨by simp, (g1.trans g2).g⟩

set_option maxRecDepth 100000 in
theorem lifted (os : Os) (started : os.Started) (H : Type) (enc : TypeId × Value → H) :
    ReturnsInHanded {} Tryd.checked os 5 .any (fun w args => (Rows.realTrueSpec.pre enc Tryd.prog Tryd.f5 [] false w args ∧ laidMetH Tryd.prog laidf.list w) ∧ sizedMet enc Tryd.prog Tryd.f5 (OpenSpec.ofChange Rows.realTrueSpec) false w args) (Rows.realTrueSpec.post enc Tryd.prog Tryd.f5 false true false false) := by
  refine returnsInHanded_of_change_and (C := Tryd.checked) (X := fun w _ => laidMetH Tryd.prog laidf.list w) (fun _ _ _ hh h => h.of_heap hh) own started (by kernel_rfl) Tryd.func5
    (ChangeSpec.witness_shaped (enc := enc) (C := Tryd.checked) (os := os) (X := fun w _ => laidMetH Tryd.prog laidf.list w) false (World.doorLaid Tryd.prog 200 os) #[.int .u32 0] 8 rfl (World.shaped_of_RefB (by kernel_rfl) (by kernel_rfl)) (by kernel_rfl) (by kernel_rfl) (by kernel_rfl) (laidf.world_met os _)) ?_
  intro W base args ds gs before hval0 hW hcnd hsz0 hL _
  have hval : ∀ (j : Nat) t v, Tryd.f5.params[j]? = some t → args[j]? = some v → Value.okWide Tryd.prog W .any base t v := hval0
  have hW' := hW
  obtain ⟨p, q, hA0, hV, rfl, hfz, hnd⟩ := hW
  have hA : DataW.TrodAll enc Tryd.prog W 0 (fun _ => true) true Tryd.f5.params.toList args.toList ds p := hA0
  have hsz : (DataW.weightsEach Tryd.prog (Tryd.f5.params.toList ++ Rows.realTrueSpec.plain.varTypes Tryd.prog) (ds ++ gs)).all (· ≤ reachBytes) = true := hsz0
  rw [Tryd.params5] at hA hval hsz
  obtain ⟨v0, vs0, d0, ds0, p0, q0, hargs, rfl, rfl, h0, r0⟩ := trodAll_cons hA
  obtain ⟨rfl, rfl, rfl⟩ := trodAll_nil r0
  obtain rfl : args = #[v0] := by cases args; simp_all
  obtain ⟨rfl, rfl⟩ := trodVars_none hV
  obtain ⟨a0, rfl, rfl, rfl, w0⟩ := open_int Tryd.underlying36 (hval 0 36 v0 rfl rfl) h0
  clear hA0 hval0 hsz0 hsz
  simp only [List.append_nil] at hW'
  refine (walk a0 w0 W (laidf.FL_of_laid hL)).mono fun e W' ⟨he, hg⟩ => ?_
  subst he
  exact ⟨_, rfl, post_of_same (pa := []) (pv := []) hW' (fun _ _ _ => (trodAll_cons_mk (shut_bool Tryd.underlying4 _) trodAll_mk0)) (fun sp _ => (trodAll_cons_mk (shut_int Tryd.underlying36 w0) trodAll_mk0)) (fun _ _ => rfl) rfl
    (hg.frame _) hg.2.1 (ok_one (by kernel_rfl) rfl (okWide_bool_mk Tryd.underlying4 _))⟩

theorem over : Rows.realTrueRow.holds Tryd.pinned (OpenSpec.ofChange Rows.realTrueSpec) :=
  OpenClaim.holds_of_wide 5 Tryd.f5 rfl rfl rfl rfl rfl rfl rfl ⟨rfl, rfl, rfl, rfl, rfl⟩ rfl rfl rfl rfl rfl (by kernel_rfl) Tryd.func5 (by kernel_rfl)
    (of_decide_eq_true (by kernel_rfl)) (by unfold Func.isWrapper; first | (rw [if_pos (by decide +kernel)]; kernel_rfl) | (rw [if_neg (by decide +kernel)]; exact ⟨rfl, rfl⟩))
    (fun os started H enc _ => lifted os started H enc)

theorem tied : Rows.RealTrueCardSaid :=
  Claim7.holds_tied_plain_at .later [] [.data] true (true, "e1b03e1fa24504d072c01222f929b912ac8580ac1f5b824732123fb3fe26023f") true
    over (fun _ h => by cases h) (by kernel_rfl) (fun _ h => by cases h) realTrue_row_tie rfl ⟨rfl, rfl⟩ (by kernel_rfl) rfl
    (fun f fn hf hfn => by
      obtain rfl : f = 5 := Option.some.inj ((show Tryd.prog.funcNamed "escritoire/escritoirekeep.RealTrue" = some 5 by kernel_rfl).symm.trans hf) |>.symm
      obtain rfl : fn = Tryd.f5 := (Option.some.inj (Tryd.func5.symm.trans hfn)).symm
      exact ⟨by kernel_rfl, fun j t ht => by
        rw [Tryd.params5] at ht
        rcases j with _ | j
        · obtain rfl : t = 36 := by simpa using ht.symm
          exact (show Tryd.prog.wantsStandIn 36 = false by kernel_rfl)
        · simp at ht⟩)
    (by kernel_rfl)
end Go.Proofs.YtoakcdolfgghjabDoor.realTrue
namespace Go.Proofs.YtoakcdolfgghjabDoor
/-- The given statement. -/
theorem realTrue_holds : Rows.RealTrueCardSaid := realTrue.tied
#print axioms realTrue_holds
end Go.Proofs.YtoakcdolfgghjabDoor
