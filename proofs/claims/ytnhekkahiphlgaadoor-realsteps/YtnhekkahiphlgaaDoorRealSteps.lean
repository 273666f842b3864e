/- RealSteps: where bits stand in the order of reals, and the next ones, are what the document has; at all bits and widths. -/
import Derived.Test.YtnhekkahiphlgaaDoorRows
import Derived.WalkKit
import Derived.ProofKit
import Derived.OpenShut
import Derived.SizedLaws
import Derived.Test.YtnhekkahiphlgaaDoorLaidB
import Derived.Test.YtnhekkahiphlgaaDoorTie
import Derived.Test.YtnhekkahiphlgaaDoorCards
import Derived.SevenTiedAt
import Derived.Test.YtnhekkahiphlgaaDoorRefReal7
import Derived.Laws.Bits64b
import Derived.ShutString
namespace Go.Proofs.YtnhekkahiphlgaaDoor.realSteps
open Go.ChangeShapes Go.WideShapes Go.ChangeAt Go.RowKit
open Go.ChangeMaps (open_string shut_string)
set_option linter.unusedVariables false      -- a walk need not use every 'w<i>' (that an integer argument fits its kind)

theorem own : ownKnob Tryd.prog.godebug = none := by kernel_rfl

open mem rl errs
theorem and32 (a : Nat) (ha : a < 18446744073709551616) : bits .and .u64 (a : Int) 4294967295 = ((a % 4294967296 : Nat) : Int) := by
  have h := bits_and_u64_nat a 4294967295 ha (by omega)
  rw [show a &&& 4294967295 = a % 4294967296 from Nat.and_two_pow_sub_one_eq_mod a 32] at h
  exact h
set_option maxHeartbeats 1000000 in
theorem walk (a0 : Int) (a1 : Int) (w0 : (Lit.int .u64 a0).wf = true) (w1 : (Lit.int .i64 a1).wf = true) (w : World) (hl : rl.FL w) (hg : errs.Laid w) :
    Calls Tryd.prog 4 #[.int .u64 a0, .int .i64 a1] w fun e w' => e = .returned (.bool true) ∧ Grown w w' := by
  have b0 := bounds_u64 w0
  clear w0 w1
  have HG : Hid (Laid w) := hg
  have HL : Hid (FL w) := hl
  clear hg hl
  obtain ⟨b, rfl⟩ := Int.eq_ofNat_of_zero_le (show 0 ≤ a0 by omega)
  have hbl : b < 18446744073709551616 := by omega
  have kk : Gb w w := Gb.refl w
  by_cases h32 : a1 = 32
  · subst h32
    have hand := and32 b hbl
    obtain ⟨B, hB⟩ : ∃ B, b % 4294967296 = B := ⟨_, rfl⟩
    have hBl : B < 2 ^ 64 := by omega
    rw [hB] at hand
    clear hB
    have cK := fun w => refKey32 B _ hBl rfl w
    have dK := fun w => Key32 B _ hBl rfl w
    generalize keyN (2 ^ 31) B = K at cK dK
    obtain ⟨u, eu, cU, dU⟩ := next32 B hBl false 1 (Or.inl ⟨rfl, rfl⟩)
    obtain ⟨v, ev, cD, dD⟩ := next32 B hBl true (-1) (Or.inr ⟨rfl, rfl⟩)
    have bU := bareI eu
    have bD := bareI ev
    generalize errI eu = EU at cU bU
    generalize errI ev = EV at cD bD
    go_enter Tryd.func4, Tryd.ntmps4
    go_wp2_with (first | (go_at_call 11; refine (cK _).mono ?_; rintro x v1 ⟨rfl, g1⟩; replace kk := kk.trans g1) | (go_at_call 12; refine (dK _ (HL.out.gb kk)).mono ?_; rintro x v2 ⟨rfl, g2⟩; replace kk := kk.trans g2) | (go_at_call_of 13 (Value.int IntKind.i64 1); refine (dU _).mono ?_; rintro x v3 ⟨rfl, g3⟩; replace kk := kk.trans g3) | (go_at_call 14; refine (Up_of (cU _ (HL.out.gb kk))).mono ?_; rintro x v4 ⟨rfl, g4⟩; replace kk := kk.trans g4) | (go_at_call 13; refine (dD _).mono ?_; rintro x v5 ⟨rfl, g5⟩; replace kk := kk.trans g5) | (go_at_call 15; refine (Down_of (cD _ (HL.out.gb kk))).mono ?_; rintro x v6 ⟨rfl, g6⟩; replace kk := kk.trans g6) | (go_at_call_of 10 Value.nilIface; refine (bare_nil _ _).mono ?_; rintro x v7 ⟨rfl, rfl⟩) | (go_at_call_of 10 EU; refine (bU _ (HG.out.gb kk)).mono ?_; rintro x v8 ⟨rfl, g8⟩; replace kk := kk.trans g8) | (go_at_call_of 10 EV; refine (bD _ (HG.out.gb kk)).mono ?_; rintro x v9 ⟨rfl, g9⟩; replace kk := kk.trans g9))
    go_ret
    exact ⟨by simp, kk.g⟩
  · by_cases h64 : a1 = 64
    · subst h64
      have cK := fun w => refKey64 b _ hbl rfl w
      have dK := fun w => Key64 b _ hbl rfl w
      generalize keyN (2 ^ 63) b = K at cK dK
      obtain ⟨u, eu, cU, dU⟩ := next64 b hbl false 1 (Or.inl ⟨rfl, rfl⟩)
      obtain ⟨v, ev, cD, dD⟩ := next64 b hbl true (-1) (Or.inr ⟨rfl, rfl⟩)
      have bU := bareI eu
      have bD := bareI ev
      generalize errI eu = EU at cU bU
      generalize errI ev = EV at cD bD
      obtain ⟨B, hB⟩ : ∃ B, B = b := ⟨_, rfl⟩
      subst hB
      go_enter Tryd.func4, Tryd.ntmps4
      go_wp2_with (first | (go_at_call 11; refine (cK _).mono ?_; rintro x v1 ⟨rfl, g1⟩; replace kk := kk.trans g1) | (go_at_call 12; refine (dK _ (HL.out.gb kk)).mono ?_; rintro x v2 ⟨rfl, g2⟩; replace kk := kk.trans g2) | (go_at_call_of 13 (Value.int IntKind.i64 1); refine (dU _).mono ?_; rintro x v3 ⟨rfl, g3⟩; replace kk := kk.trans g3) | (go_at_call 14; refine (Up_of (cU _ (HL.out.gb kk))).mono ?_; rintro x v4 ⟨rfl, g4⟩; replace kk := kk.trans g4) | (go_at_call 13; refine (dD _).mono ?_; rintro x v5 ⟨rfl, g5⟩; replace kk := kk.trans g5) | (go_at_call 15; refine (Down_of (cD _ (HL.out.gb kk))).mono ?_; rintro x v6 ⟨rfl, g6⟩; replace kk := kk.trans g6) | (go_at_call_of 10 Value.nilIface; refine (bare_nil _ _).mono ?_; rintro x v7 ⟨rfl, rfl⟩) | (go_at_call_of 10 EU; refine (bU _ (HG.out.gb kk)).mono ?_; rintro x v8 ⟨rfl, g8⟩; replace kk := kk.trans g8) | (go_at_call_of 10 EV; refine (bD _ (HG.out.gb kk)).mono ?_; rintro x v9 ⟨rfl, g9⟩; replace kk := kk.trans g9))
      go_ret
      exact ⟨by simp, kk.g⟩
    · have hd : a1 ≠ 32 ∧ a1 ≠ 64 := ⟨h32, h64⟩
      have e32 : (a1 == 32) = false := by simpa using h32
      have cK := fun w => refKeyNo b a1 hd w
      have dK := fun w => KeyNo b a1 hd w
      have dU := fun w => refNextNo b a1 1 hd w
      have cU := fun w => besideNo b a1 1 hd w
      have dD := fun w => refNextNo b a1 (-1) hd w
      have cD := fun w => besideNo b a1 (-1) hd w
      clear hd h32 h64
      go_enter Tryd.func4, Tryd.ntmps4
      go_wp2_with (first | (go_at_call 11; refine (cK _).mono ?_; rintro x v1 ⟨rfl, g1⟩; replace kk := kk.trans g1) | (go_at_call 12; refine (dK _ (HL.out.gb kk)).mono ?_; rintro x v2 ⟨rfl, g2⟩; replace kk := kk.trans g2) | (go_at_call_of 13 (Value.int IntKind.i64 1); refine (dU _).mono ?_; rintro x v3 ⟨rfl, g3⟩; replace kk := kk.trans g3) | (go_at_call 14; refine (Up_of (cU _ (HL.out.gb kk))).mono ?_; rintro x v4 ⟨rfl, g4⟩; replace kk := kk.trans g4) | (go_at_call 13; refine (dD _).mono ?_; rintro x v5 ⟨rfl, g5⟩; replace kk := kk.trans g5) | (go_at_call 15; refine (Down_of (cD _ (HL.out.gb kk))).mono ?_; rintro x v6 ⟨rfl, g6⟩; replace kk := kk.trans g6) | (go_at_call 10; refine (bare_errno 1 1 _ (HG.out.gb kk)).mono ?_; rintro x v7 ⟨rfl, g7⟩; replace kk := kk.trans g7))
      go_ret
      exact ⟨by simp, kk.g⟩

set_option maxRecDepth 100000 in
theorem lifted (os : Os) (started : os.Started) (H : Type) (enc : TypeId × Value → H) :
    ReturnsInHanded {} Tryd.checked os 4 .any (fun w args => (Rows.realStepsSpec.pre enc Tryd.prog Tryd.f4 [] false w args ∧ laidMetH Tryd.prog laidb.list w) ∧ sizedMet enc Tryd.prog Tryd.f4 (OpenSpec.ofChange Rows.realStepsSpec) false w args) (Rows.realStepsSpec.post enc Tryd.prog Tryd.f4 false true false false) := by
  refine returnsInHanded_of_change_and (C := Tryd.checked) (X := fun w _ => laidMetH Tryd.prog laidb.list w) (fun _ _ _ hh h => h.of_heap hh) own started (by kernel_rfl) Tryd.func4
    (ChangeSpec.witness_shaped (enc := enc) (C := Tryd.checked) (os := os) (X := fun w _ => laidMetH Tryd.prog laidb.list w) false (World.doorLaid Tryd.prog 200 os) #[.int .u64 0, .int .i64 0] 8 rfl (World.shaped_of_RefB (by kernel_rfl) (by kernel_rfl)) (by kernel_rfl) (by kernel_rfl) (by kernel_rfl) (laidb.world_met os _)) ?_
  intro W base args ds gs before hval0 hW hcnd hsz0 hL _
  have hval : ∀ (j : Nat) t v, Tryd.f4.params[j]? = some t → args[j]? = some v → Value.okWide Tryd.prog W .any base t v := hval0
  have hW' := hW
  obtain ⟨p, q, hA0, hV, rfl, hfz, hnd⟩ := hW
  have hA : DataW.TrodAll enc Tryd.prog W 0 (fun _ => true) true Tryd.f4.params.toList args.toList ds p := hA0
  have hsz : (DataW.weightsEach Tryd.prog (Tryd.f4.params.toList ++ Rows.realStepsSpec.plain.varTypes Tryd.prog) (ds ++ gs)).all (· ≤ reachBytes) = true := hsz0
  rw [Tryd.params4] at hA hval hsz
  obtain ⟨v0, vs0, d0, ds0, p0, q0, hargs, rfl, rfl, h0, r0⟩ := trodAll_cons hA
  obtain ⟨v1, vs1, d1, ds1, p1, q1, rfl, rfl, rfl, h1, r1⟩ := trodAll_cons r0
  obtain ⟨rfl, rfl, rfl⟩ := trodAll_nil r1
  obtain rfl : args = #[v0, v1] := by cases args; simp_all
  obtain ⟨rfl, rfl⟩ := trodVars_none hV
  obtain ⟨a0, rfl, rfl, rfl, w0⟩ := open_int Tryd.underlying22 (hval 0 22 v0 rfl rfl) h0
  obtain ⟨a1, rfl, rfl, rfl, w1⟩ := open_int Tryd.underlying3 (hval 1 3 v1 rfl rfl) h1
  clear hA0 hval0 hsz0 hsz
  simp only [List.append_nil] at hW'
  refine (walk a0 a1 w0 w1 W (laidb.FL_of_laid hL) (laidb.handle_of_laid hL)).mono fun e W' ⟨he, hg⟩ => ?_
  subst he
  exact ⟨_, rfl, post_of_same (pa := []) (pv := []) hW' (fun _ _ _ => (trodAll_cons_mk (shut_bool Tryd.underlying4 _) trodAll_mk0)) (fun sp _ => (trodAll_cons_mk (shut_int Tryd.underlying22 w0) (trodAll_cons_mk (shut_int Tryd.underlying3 w1) trodAll_mk0))) (fun _ _ => rfl) rfl
    (hg.frame _) hg.2.1 (ok_one (by kernel_rfl) rfl (okWide_bool_mk Tryd.underlying4 _))⟩

theorem over : Rows.realStepsRow.holds Tryd.pinned (OpenSpec.ofChange Rows.realStepsSpec) :=
  OpenClaim.holds_of_wide 4 Tryd.f4 rfl rfl rfl rfl rfl rfl rfl ⟨rfl, rfl, rfl, rfl, rfl⟩ rfl rfl rfl rfl rfl (by kernel_rfl) Tryd.func4 (by kernel_rfl)
    (of_decide_eq_true (by kernel_rfl)) (by unfold Func.isWrapper; first | (rw [if_pos (by decide +kernel)]; kernel_rfl) | (rw [if_neg (by decide +kernel)]; exact ⟨rfl, rfl⟩))
    (fun os started H enc _ => lifted os started H enc)

theorem tied : Rows.RealStepsCardSaid :=
  Claim7.holds_tied_plain_at .later [] [.handle, .data] true (true, "4b706b3ed173120a2ab539ff1f566eba9301bc3df3cc74bd56bc006d976e9e84") true
    over (fun _ h => by cases h) (by kernel_rfl) (fun _ h => by cases h) realSteps_row_tie rfl ⟨rfl, rfl⟩ (by kernel_rfl) rfl
    (fun f fn hf hfn => by
      obtain rfl : f = 4 := Option.some.inj ((show Tryd.prog.funcNamed "escritoire/escritoirelaw.RealSteps" = some 4 by kernel_rfl).symm.trans hf) |>.symm
      obtain rfl : fn = Tryd.f4 := (Option.some.inj (Tryd.func4.symm.trans hfn)).symm
      exact ⟨by kernel_rfl, fun j t ht => by
        rw [Tryd.params4] at ht
        rcases j with _ | j
        · obtain rfl : t = 22 := by simpa using ht.symm
          exact (show Tryd.prog.wantsStandIn 22 = false by kernel_rfl)
        · rcases j with _ | j
          · obtain rfl : t = 3 := by simpa using ht.symm
            exact (show Tryd.prog.wantsStandIn 3 = false by kernel_rfl)
          · simp at ht⟩)
    (by kernel_rfl)
end Go.Proofs.YtnhekkahiphlgaaDoor.realSteps
namespace Go.Proofs.YtnhekkahiphlgaaDoor
/-- The given statement. -/
theorem realSteps_holds : Rows.RealStepsCardSaid := realSteps.tied
#print axioms realSteps_holds
end Go.Proofs.YtnhekkahiphlgaaDoor
