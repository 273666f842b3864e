/- RealBack: for every number of bits, of 64 or of 32: what real.Apart takes apart real.Join puts together again, without an error. Condition: real.forms lies as the text of the program lays it (the card ties it). -/
import Derived.Test.YtoakcdolfgghjaaDoorRows
import Derived.WalkKit
import Derived.ProofKit
import Derived.OpenShut
import Derived.SizedLaws
import Derived.Test.YtoakcdolfgghjaaDoorLaidF
import Derived.Test.YtoakcdolfgghjaaDoorTie
import Derived.Test.YtoakcdolfgghjaaDoorCards
import Derived.SevenTiedAt
import Derived.Test.YtoakcdolfgghjaaDoorHalved
import Derived.Test.YtoakcdolfgghjaaDoorReal4j
import Derived.ShutString
namespace Go.Proofs.YtoakcdolfgghjaaDoor.realBack
open Go.ChangeShapes Go.WideShapes Go.ChangeAt Go.RowKit
open Go.ChangeMaps (open_string shut_string)
set_option linter.unusedVariables false      -- a walk need not use every 'w<i>' (that an integer argument fits its kind)

theorem own : ownKnob Tryd.prog.godebug = none := by kernel_rfl

open mem rl
theorem walk (a0 : Int) (a1 : Bool) (w0 : (Lit.int .u64 a0).wf = true) (w : World) (hl : rl.FL w) :
    Calls Tryd.prog 8 #[.int .u64 a0, .bool a1] w fun e w' => e = .returned (.bool true) ∧ Grown w w' := by
  have b0 := bounds_u64 w0
  clear w0
  obtain ⟨b, rfl⟩ := Int.eq_ofNat_of_zero_le (show 0 ≤ a0 by omega)
  cases a1 with
  | false =>
    obtain ⟨x, hx⟩ : ∃ x, b / 2 ^ 52 % 2048 = x := ⟨_, rfl⟩
    obtain ⟨f, hf⟩ : ∃ f, b % 2 ^ 52 = f := ⟨_, rfl⟩
    obtain ⟨n, hn⟩ : ∃ n, (b / 2 ^ 63 % 2 == 1) = n := ⟨_, rfl⟩
    have hj : (if n then 2 ^ 63 else 0) + x * 2 ^ 52 + f = b := by
      rw [← hn]
      by_cases h : b / 2 ^ 63 % 2 = 1
      · simp [h]; omega
      · have : (b / 2 ^ 63 % 2 == 1) = false := by simp; omega
        rw [this]; simp; omega
    have HN := hide hn
    have HX := hide hx
    have HF := hide hf
    have HJ := hide hj
    have hxl : x < 2048 := by omega
    have hfl : f < 2 ^ 52 := by omega
    clear hn hx hf hj
    go_enter Tryd.func8, Tryd.ntmps8
    go_wp2_with (first
      | (go_at_call 25; refine (halved_at _ hl).mono ?_; rintro e v1 ⟨rfl, g1⟩)
      | (go_at_call 10; refine (Apart64 b x f n (by omega) HN.out HX.out HF.out _ (hl.gb g1)).mono ?_; rintro e v2 ⟨rfl, g2⟩)
      | (go_at_call 15; refine (Join64 n x f b hxl hfl HJ.out _ (hl.gb (g1.trans (g2.trans (Gb.alloc (Gb.refl _) _ _))))).mono ?_; rintro e v3 ⟨rfl, g3⟩))
    go_ret
    exact ⟨by simp, (g1.trans (g2.trans ((Gb.alloc (Gb.refl _) _ _).trans g3))).g⟩
  | true =>
    obtain ⟨c, hc⟩ : ∃ c, c = b % 2 ^ 32 := ⟨_, rfl⟩
    have ha : bits .and .u64 (b : Int) 4294967295 = (c : Int) := by rw [hc]; exact and_mask64 b 32 (by omega) (by omega)
    have hcl : c < 2 ^ 32 := by omega
    clear hc
    obtain ⟨x, hx⟩ : ∃ x, c / 2 ^ 23 % 256 = x := ⟨_, rfl⟩
    obtain ⟨f, hf⟩ : ∃ f, c % 2 ^ 23 = f := ⟨_, rfl⟩
    obtain ⟨n, hn⟩ : ∃ n, (c / 2 ^ 31 % 2 == 1) = n := ⟨_, rfl⟩
    have hj : (if n then 2 ^ 31 else 0) + x * 2 ^ 23 + f = c := by
      rw [← hn]
      by_cases h : c / 2 ^ 31 % 2 = 1
      · simp [h]; omega
      · have : (c / 2 ^ 31 % 2 == 1) = false := by simp; omega
        rw [this]; simp; omega
    have HN := hide hn
    have HX := hide hx
    have HF := hide hf
    have HJ := hide hj
    have hxl : x < 256 := by omega
    have hfl : f < 2 ^ 23 := by omega
    clear hn hx hf hj
    go_enter Tryd.func8, Tryd.ntmps8
    go_wp2_with (first
      | (go_at_call 25; refine (halved_at _ hl).mono ?_; rintro e v1 ⟨rfl, g1⟩)
      | (go_at_call 10; refine (Apart32 c x f n (by omega) HN.out HX.out HF.out _ (hl.gb g1)).mono ?_; rintro e v2 ⟨rfl, g2⟩)
      | (go_at_call 15; refine (Join32 n x f c hxl hfl HJ.out _ (hl.gb (g1.trans (g2.trans (Gb.alloc (Gb.refl _) _ _))))).mono ?_; rintro e v3 ⟨rfl, g3⟩))
    go_ret
    exact ⟨by simp, (g1.trans (g2.trans ((Gb.alloc (Gb.refl _) _ _).trans g3))).g⟩

set_option maxRecDepth 100000 in
theorem lifted (os : Os) (started : os.Started) (H : Type) (enc : TypeId × Value → H) :
    ReturnsInHanded {} Tryd.checked os 8 .any (fun w args => (Rows.realBackSpec.pre enc Tryd.prog Tryd.f8 [] false w args ∧ laidMetH Tryd.prog laidf.list w) ∧ sizedMet enc Tryd.prog Tryd.f8 (OpenSpec.ofChange Rows.realBackSpec) false w args) (Rows.realBackSpec.post enc Tryd.prog Tryd.f8 false true false false) := by
  refine returnsInHanded_of_change_and (C := Tryd.checked) (X := fun w _ => laidMetH Tryd.prog laidf.list w) (fun _ _ _ hh h => h.of_heap hh) own started (by kernel_rfl) Tryd.func8
    (ChangeSpec.witness_shaped (enc := enc) (C := Tryd.checked) (os := os) (X := fun w _ => laidMetH Tryd.prog laidf.list w) false (World.doorLaid Tryd.prog 200 os) #[.int .u64 0, .bool false] 8 rfl (World.shaped_of_RefB (by kernel_rfl) (by kernel_rfl)) (by kernel_rfl) (by kernel_rfl) (by kernel_rfl) (laidf.world_met os _)) ?_
  intro W base args ds gs before hval0 hW hcnd hsz0 hL _
  have hval : ∀ (j : Nat) t v, Tryd.f8.params[j]? = some t → args[j]? = some v → Value.okWide Tryd.prog W .any base t v := hval0
  have hW' := hW
  obtain ⟨p, q, hA0, hV, rfl, hfz, hnd⟩ := hW
  have hA : DataW.TrodAll enc Tryd.prog W 0 (fun _ => true) true Tryd.f8.params.toList args.toList ds p := hA0
  have hsz : (DataW.weightsEach Tryd.prog (Tryd.f8.params.toList ++ Rows.realBackSpec.plain.varTypes Tryd.prog) (ds ++ gs)).all (· ≤ reachBytes) = true := hsz0
  rw [Tryd.params8] at hA hval hsz
  obtain ⟨v0, vs0, d0, ds0, p0, q0, hargs, rfl, rfl, h0, r0⟩ := trodAll_cons hA
  obtain ⟨v1, vs1, d1, ds1, p1, q1, rfl, rfl, rfl, h1, r1⟩ := trodAll_cons r0
  obtain ⟨rfl, rfl, rfl⟩ := trodAll_nil r1
  obtain rfl : args = #[v0, v1] := by cases args; simp_all
  obtain ⟨rfl, rfl⟩ := trodVars_none hV
  obtain ⟨a0, rfl, rfl, rfl, w0⟩ := open_int Tryd.underlying22 (hval 0 22 v0 rfl rfl) h0
  obtain ⟨a1, rfl, rfl, rfl⟩ := open_bool Tryd.underlying4 (hval 1 4 v1 rfl rfl) h1
  clear hA0 hval0 hsz0 hsz
  simp only [List.append_nil] at hW'
  refine (walk a0 a1 w0 W (laidf.FL_of_laid hL)).mono fun e W' ⟨he, hg⟩ => ?_
  subst he
  exact ⟨_, rfl, post_of_same (pa := []) (pv := []) hW' (fun _ _ _ => (trodAll_cons_mk (shut_bool Tryd.underlying4 _) trodAll_mk0)) (fun sp _ => (trodAll_cons_mk (shut_int Tryd.underlying22 w0) (trodAll_cons_mk (shut_bool Tryd.underlying4 _) trodAll_mk0))) (fun _ _ => rfl) rfl
    (hg.frame _) hg.2.1 (ok_one (by kernel_rfl) rfl (okWide_bool_mk Tryd.underlying4 _))⟩

theorem over : Rows.realBackRow.holds Tryd.pinned (OpenSpec.ofChange Rows.realBackSpec) :=
  OpenClaim.holds_of_wide 8 Tryd.f8 rfl rfl rfl rfl rfl rfl rfl ⟨rfl, rfl, rfl, rfl, rfl⟩ rfl rfl rfl rfl rfl (by kernel_rfl) Tryd.func8 (by kernel_rfl)
    (of_decide_eq_true (by kernel_rfl)) (by unfold Func.isWrapper; first | (rw [if_pos (by decide +kernel)]; kernel_rfl) | (rw [if_neg (by decide +kernel)]; exact ⟨rfl, rfl⟩))
    (fun os started H enc _ => lifted os started H enc)

theorem tied : Rows.RealBackCardSaid :=
  Claim7.holds_tied_plain_at .later [] [.data] true (true, "be94f2366b7d1d2296b4e97ffe62a88a836956604abf9c0b563619c378c0af86") true
    over (fun _ h => by cases h) (by kernel_rfl) (fun _ h => by cases h) realBack_row_tie rfl ⟨rfl, rfl⟩ (by kernel_rfl) rfl
    (fun f fn hf hfn => by
      obtain rfl : f = 8 := Option.some.inj ((show Tryd.prog.funcNamed "escritoire/escritoirekeep.RealBack" = some 8 by kernel_rfl).symm.trans hf) |>.symm
      obtain rfl : fn = Tryd.f8 := (Option.some.inj (Tryd.func8.symm.trans hfn)).symm
      exact ⟨by kernel_rfl, fun j t ht => by
        rw [Tryd.params8] at ht
        rcases j with _ | j
        · obtain rfl : t = 22 := by simpa using ht.symm
          exact (show Tryd.prog.wantsStandIn 22 = false by kernel_rfl)
        · rcases j with _ | j
          · obtain rfl : t = 4 := by simpa using ht.symm
            exact (show Tryd.prog.wantsStandIn 4 = false by kernel_rfl)
          · simp at ht⟩)
    (by kernel_rfl)
end Go.Proofs.YtoakcdolfgghjaaDoor.realBack
namespace Go.Proofs.YtoakcdolfgghjaaDoor
/-- The given statement. -/
theorem realBack_holds : Rows.RealBackCardSaid := realBack.tied
#print axioms realBack_holds
end Go.Proofs.YtoakcdolfgghjaaDoor
