/- RealOrder: for any two numbers of 64 bits: their Keys are the same just if they are; and as floating numbers, neither of them a NaN, the one with the lesser Key is not greater, and both are equal just if they are the same bits or both nought. Condition: real.forms lies as the text of the program lays it (the card ties it). -/
import Derived.Test.YtoakcdolfgghjabDoorRows
import Derived.WalkKit
import Derived.ProofKit
import Derived.OpenShut
import Derived.SizedLaws
import Derived.Test.YtoakcdolfgghjabDoorLaidF
import Derived.Test.YtoakcdolfgghjabDoorTie
import Derived.Test.YtoakcdolfgghjabDoorCards
import Derived.SevenTiedAt
import Derived.Test.YtoakcdolfgghjabDoorFloB
import Derived.ShutString
namespace Go.Proofs.YtoakcdolfgghjabDoor.realOrder
open Go.ChangeShapes Go.WideShapes Go.ChangeAt Go.RowKit
open Go.ChangeMaps (open_string shut_string)
set_option linter.unusedVariables false      -- a walk need not use every 'w<i>' (that an integer argument fits its kind)

theorem own : ownKnob Tryd.prog.godebug = none := by kernel_rfl

open mem rl flt
set_option maxHeartbeats 4000000 in
theorem walk (a0 : Int) (a1 : Int) (w0 : (Lit.int .u64 a0).wf = true) (w1 : (Lit.int .u64 a1).wf = true) (w : World) (hl : rl.FL w) :
    Calls Tryd.prog 3 #[.int .u64 a0, .int .u64 a1] w fun e w' => e = .returned (.bool true) ∧ Grown w w' := by
  have b0 := bounds_u64 w0
  have b1 := bounds_u64 w1
  clear w0 w1
  obtain ⟨a, rfl⟩ := Int.eq_ofNat_of_zero_le (show 0 ≤ a0 by omega)
  obtain ⟨b, rfl⟩ := Int.eq_ofNat_of_zero_le (show 0 ≤ a1 by omega)
  have F1 := f64from
  have hal : a < 2 ^ 64 := by omega
  have hbl : b < 2 ^ 64 := by omega
  obtain ⟨k, hk⟩ : ∃ k, keyN (2 ^ 63) a = k := ⟨_, rfl⟩
  obtain ⟨l, hkl⟩ : ∃ l, keyN (2 ^ 63) b = l := ⟨_, rfl⟩
  have HK := hide hk
  have HL := hide hkl
  have heq : (k == l) = ((a : Int) == (b : Int)) := by
    rw [Bool.eq_iff_iff]
    simp only [beq_iff_eq]
    constructor
    · intro h
      have := key_inj a b hal hbl (by rw [hk, hkl, h])
      omega
    · intro h
      have : a = b := by omega
      subst this
      rw [← hk, ← hkl]
  have sle : k ≤ l → sv Ieee.double a ≤ sv Ieee.double b := fun h => key_sv a b (by rw [hk, hkl]; exact h)
  have sge : l ≤ k → sv Ieee.double b ≤ sv Ieee.double a := fun h => key_sv b a (by rw [hk, hkl]; exact h)
  clear hk hkl
  have hek : (k == l) = decide (a = b) := by rw [heq, Bool.eq_iff_iff]; simp; omega
  have hei : ((a : Int) == (b : Int)) = decide (a = b) := by rw [Bool.eq_iff_iff]; simp; omega
  by_cases na : a % 2 ^ 63 ≤ 2047 * 2 ^ 52
  · by_cases nb : b % 2 ^ 63 ≤ 2047 * 2 ^ 52
    · have oaa : FloatKind.f64.format.order a a = some .eq := by rw [ord64 a a na na, cmp_eq]
      have obb : FloatKind.f64.format.order b b = some .eq := by rw [ord64 b b nb nb, cmp_eq]
      have za := zero64 a na
      have zb := zero64 b nb
      by_cases hab : a = b
      · rw [decide_eq_true hab] at hek hei
        have hkl : k = l := by simpa using hek
        have oab : FloatKind.f64.format.order a b = some .eq := by rw [← hab]; exact oaa
        have q1 : ¬ l < k := by omega
        have q2 : ¬ k < l := by omega
        clear heq sle sge za zb na nb hab hkl
        go_enter Tryd.func3, Tryd.ntmps3
        go_wp2_with (first
          | (go_at_call 8; refine (halved_at _ hl).mono ?_; rintro e v1 ⟨rfl, g1⟩)
          | (go_at_call_of 10 (Value.int IntKind.u64 (a : Int)); refine (Key64 a k hal HK.out _ (hl.gb g1)).mono ?_; rintro e v2 ⟨rfl, g2⟩)
          | (go_at_call_of 10 (Value.int IntKind.u64 (b : Int)); refine (Key64 b l hbl HL.out _ (hl.gb (g1.trans g2))).mono ?_; rintro e v3 ⟨rfl, g3⟩))
        go_ret
        exact ⟨rfl, (g1.trans (g2.trans g3)).g⟩
      · rw [decide_eq_false hab] at hek hei
        have hkn : k ≠ l := by simpa using hek
        by_cases hlt : k < l
        · have q1 : ¬ l < k := by omega
          have hs := sle (by omega)
          by_cases hz : a % 2 ^ 63 = 0 ∧ b % 2 ^ 63 = 0
          · have oab : FloatKind.f64.format.order a b = some .eq := by rw [ord64 a b na nb, (sv_zero a).2 hz.1, (sv_zero b).2 hz.2, cmp_eq]
            rw [decide_eq_true hz.1] at za
            rw [decide_eq_true hz.2] at zb
            clear heq sle sge na nb hab hkn hs hz
            go_enter Tryd.func3, Tryd.ntmps3
            go_wp2_with (first
              | (go_at_call 8; refine (halved_at _ hl).mono ?_; rintro e v1 ⟨rfl, g1⟩)
              | (go_at_call_of 10 (Value.int IntKind.u64 (a : Int)); refine (Key64 a k hal HK.out _ (hl.gb g1)).mono ?_; rintro e v2 ⟨rfl, g2⟩)
              | (go_at_call_of 10 (Value.int IntKind.u64 (b : Int)); refine (Key64 b l hbl HL.out _ (hl.gb (g1.trans g2))).mono ?_; rintro e v3 ⟨rfl, g3⟩))
            go_ret
            exact ⟨rfl, (g1.trans (g2.trans g3)).g⟩
          · have oab : FloatKind.f64.format.order a b = some .lt := by
              rw [ord64 a b na nb, cmp_lt]
              rcases Int.lt_or_eq_of_le hs with h | h
              · exact h
              · rcases sv_inj a b hal hbl h with h | h
                · exact absurd h hab
                · exact absurd h hz
            by_cases hz1 : a % 2 ^ 63 = 0
            · rw [decide_eq_true hz1] at za
              rw [decide_eq_false (fun h => hz ⟨hz1, h⟩)] at zb
              clear heq sle sge na nb hab hkn hs hz hz1
              go_enter Tryd.func3, Tryd.ntmps3
              go_wp2_with (first
                | (go_at_call 8; refine (halved_at _ hl).mono ?_; rintro e v1 ⟨rfl, g1⟩)
                | (go_at_call_of 10 (Value.int IntKind.u64 (a : Int)); refine (Key64 a k hal HK.out _ (hl.gb g1)).mono ?_; rintro e v2 ⟨rfl, g2⟩)
                | (go_at_call_of 10 (Value.int IntKind.u64 (b : Int)); refine (Key64 b l hbl HL.out _ (hl.gb (g1.trans g2))).mono ?_; rintro e v3 ⟨rfl, g3⟩))
              go_ret
              exact ⟨rfl, (g1.trans (g2.trans g3)).g⟩
            · rw [decide_eq_false hz1] at za
              clear heq sle sge na nb hab hkn hs hz hz1 zb
              go_enter Tryd.func3, Tryd.ntmps3
              go_wp2_with (first
                | (go_at_call 8; refine (halved_at _ hl).mono ?_; rintro e v1 ⟨rfl, g1⟩)
                | (go_at_call_of 10 (Value.int IntKind.u64 (a : Int)); refine (Key64 a k hal HK.out _ (hl.gb g1)).mono ?_; rintro e v2 ⟨rfl, g2⟩)
                | (go_at_call_of 10 (Value.int IntKind.u64 (b : Int)); refine (Key64 b l hbl HL.out _ (hl.gb (g1.trans g2))).mono ?_; rintro e v3 ⟨rfl, g3⟩))
              go_ret
              exact ⟨rfl, (g1.trans (g2.trans g3)).g⟩
        · have q1 : l < k := by omega
          have hs := sge (by omega)
          by_cases hz : a % 2 ^ 63 = 0 ∧ b % 2 ^ 63 = 0
          · have oab : FloatKind.f64.format.order a b = some .eq := by rw [ord64 a b na nb, (sv_zero a).2 hz.1, (sv_zero b).2 hz.2, cmp_eq]
            rw [decide_eq_true hz.1] at za
            rw [decide_eq_true hz.2] at zb
            clear heq sle sge na nb hab hkn hs hz
            go_enter Tryd.func3, Tryd.ntmps3
            go_wp2_with (first
              | (go_at_call 8; refine (halved_at _ hl).mono ?_; rintro e v1 ⟨rfl, g1⟩)
              | (go_at_call_of 10 (Value.int IntKind.u64 (a : Int)); refine (Key64 a k hal HK.out _ (hl.gb g1)).mono ?_; rintro e v2 ⟨rfl, g2⟩)
              | (go_at_call_of 10 (Value.int IntKind.u64 (b : Int)); refine (Key64 b l hbl HL.out _ (hl.gb (g1.trans g2))).mono ?_; rintro e v3 ⟨rfl, g3⟩))
            go_ret
            exact ⟨rfl, (g1.trans (g2.trans g3)).g⟩
          · have oab : FloatKind.f64.format.order a b = some .gt := by
              rw [ord64 a b na nb, cmp_gt]
              rcases Int.lt_or_eq_of_le hs with h | h
              · exact h
              · rcases sv_inj a b hal hbl h.symm with h | h
                · exact absurd h hab
                · exact absurd h hz
            by_cases hz1 : a % 2 ^ 63 = 0
            · rw [decide_eq_true hz1] at za
              rw [decide_eq_false (fun h => hz ⟨hz1, h⟩)] at zb
              clear heq sle sge na nb hab hkn hs hz hz1
              go_enter Tryd.func3, Tryd.ntmps3
              go_wp2_with (first
                | (go_at_call 8; refine (halved_at _ hl).mono ?_; rintro e v1 ⟨rfl, g1⟩)
                | (go_at_call_of 10 (Value.int IntKind.u64 (a : Int)); refine (Key64 a k hal HK.out _ (hl.gb g1)).mono ?_; rintro e v2 ⟨rfl, g2⟩)
                | (go_at_call_of 10 (Value.int IntKind.u64 (b : Int)); refine (Key64 b l hbl HL.out _ (hl.gb (g1.trans g2))).mono ?_; rintro e v3 ⟨rfl, g3⟩))
              go_ret
              exact ⟨rfl, (g1.trans (g2.trans g3)).g⟩
            · rw [decide_eq_false hz1] at za
              clear heq sle sge na nb hab hkn hs hz hz1 zb
              go_enter Tryd.func3, Tryd.ntmps3
              go_wp2_with (first
                | (go_at_call 8; refine (halved_at _ hl).mono ?_; rintro e v1 ⟨rfl, g1⟩)
                | (go_at_call_of 10 (Value.int IntKind.u64 (a : Int)); refine (Key64 a k hal HK.out _ (hl.gb g1)).mono ?_; rintro e v2 ⟨rfl, g2⟩)
                | (go_at_call_of 10 (Value.int IntKind.u64 (b : Int)); refine (Key64 b l hbl HL.out _ (hl.gb (g1.trans g2))).mono ?_; rintro e v3 ⟨rfl, g3⟩))
              go_ret
              exact ⟨rfl, (g1.trans (g2.trans g3)).g⟩
    · have oaa : FloatKind.f64.format.order a a = some .eq := by rw [ord64 a a na na, cmp_eq]
      have obb : FloatKind.f64.format.order b b = none := nan64 b b (by omega)
      generalize decide (a = b) = t at hek hei
      clear heq sle sge na nb
      cases t
      · skip
        go_enter Tryd.func3, Tryd.ntmps3
        go_wp2_with (first
          | (go_at_call 8; refine (halved_at _ hl).mono ?_; rintro e v1 ⟨rfl, g1⟩)
          | (go_at_call_of 10 (Value.int IntKind.u64 (a : Int)); refine (Key64 a k hal HK.out _ (hl.gb g1)).mono ?_; rintro e v2 ⟨rfl, g2⟩)
          | (go_at_call_of 10 (Value.int IntKind.u64 (b : Int)); refine (Key64 b l hbl HL.out _ (hl.gb (g1.trans g2))).mono ?_; rintro e v3 ⟨rfl, g3⟩))
        go_ret
        exact ⟨rfl, (g1.trans (g2.trans g3)).g⟩
      · skip
        go_enter Tryd.func3, Tryd.ntmps3
        go_wp2_with (first
          | (go_at_call 8; refine (halved_at _ hl).mono ?_; rintro e v1 ⟨rfl, g1⟩)
          | (go_at_call_of 10 (Value.int IntKind.u64 (a : Int)); refine (Key64 a k hal HK.out _ (hl.gb g1)).mono ?_; rintro e v2 ⟨rfl, g2⟩)
          | (go_at_call_of 10 (Value.int IntKind.u64 (b : Int)); refine (Key64 b l hbl HL.out _ (hl.gb (g1.trans g2))).mono ?_; rintro e v3 ⟨rfl, g3⟩))
        go_ret
        exact ⟨rfl, (g1.trans (g2.trans g3)).g⟩
  · have oaa : FloatKind.f64.format.order a a = none := nan64 a a (by omega)
    generalize decide (a = b) = t at hek hei
    clear heq sle sge na
    cases t
    · skip
      go_enter Tryd.func3, Tryd.ntmps3
      go_wp2_with (first
        | (go_at_call 8; refine (halved_at _ hl).mono ?_; rintro e v1 ⟨rfl, g1⟩)
        | (go_at_call_of 10 (Value.int IntKind.u64 (a : Int)); refine (Key64 a k hal HK.out _ (hl.gb g1)).mono ?_; rintro e v2 ⟨rfl, g2⟩)
        | (go_at_call_of 10 (Value.int IntKind.u64 (b : Int)); refine (Key64 b l hbl HL.out _ (hl.gb (g1.trans g2))).mono ?_; rintro e v3 ⟨rfl, g3⟩))
      go_ret
      exact ⟨rfl, (g1.trans (g2.trans g3)).g⟩
    · skip
      go_enter Tryd.func3, Tryd.ntmps3
      go_wp2_with (first
        | (go_at_call 8; refine (halved_at _ hl).mono ?_; rintro e v1 ⟨rfl, g1⟩)
        | (go_at_call_of 10 (Value.int IntKind.u64 (a : Int)); refine (Key64 a k hal HK.out _ (hl.gb g1)).mono ?_; rintro e v2 ⟨rfl, g2⟩)
        | (go_at_call_of 10 (Value.int IntKind.u64 (b : Int)); refine (Key64 b l hbl HL.out _ (hl.gb (g1.trans g2))).mono ?_; rintro e v3 ⟨rfl, g3⟩))
      go_ret
      exact ⟨rfl, (g1.trans (g2.trans g3)).g⟩

set_option maxRecDepth 100000 in
theorem lifted (os : Os) (started : os.Started) (H : Type) (enc : TypeId × Value → H) :
    ReturnsInHanded {} Tryd.checked os 3 .any (fun w args => (Rows.realOrderSpec.pre enc Tryd.prog Tryd.f3 [] false w args ∧ laidMetH Tryd.prog laidf.list w) ∧ sizedMet enc Tryd.prog Tryd.f3 (OpenSpec.ofChange Rows.realOrderSpec) false w args) (Rows.realOrderSpec.post enc Tryd.prog Tryd.f3 false true false false) := by
  refine returnsInHanded_of_change_and (C := Tryd.checked) (X := fun w _ => laidMetH Tryd.prog laidf.list w) (fun _ _ _ hh h => h.of_heap hh) own started (by kernel_rfl) Tryd.func3
    (ChangeSpec.witness_shaped (enc := enc) (C := Tryd.checked) (os := os) (X := fun w _ => laidMetH Tryd.prog laidf.list w) false (World.doorLaid Tryd.prog 200 os) #[.int .u64 0, .int .u64 0] 8 rfl (World.shaped_of_RefB (by kernel_rfl) (by kernel_rfl)) (by kernel_rfl) (by kernel_rfl) (by kernel_rfl) (laidf.world_met os _)) ?_
  intro W base args ds gs before hval0 hW hcnd hsz0 hL _
  have hval : ∀ (j : Nat) t v, Tryd.f3.params[j]? = some t → args[j]? = some v → Value.okWide Tryd.prog W .any base t v := hval0
  have hW' := hW
  obtain ⟨p, q, hA0, hV, rfl, hfz, hnd⟩ := hW
  have hA : DataW.TrodAll enc Tryd.prog W 0 (fun _ => true) true Tryd.f3.params.toList args.toList ds p := hA0
  have hsz : (DataW.weightsEach Tryd.prog (Tryd.f3.params.toList ++ Rows.realOrderSpec.plain.varTypes Tryd.prog) (ds ++ gs)).all (· ≤ reachBytes) = true := hsz0
  rw [Tryd.params3] at hA hval hsz
  obtain ⟨v0, vs0, d0, ds0, p0, q0, hargs, rfl, rfl, h0, r0⟩ := trodAll_cons hA
  obtain ⟨v1, vs1, d1, ds1, p1, q1, rfl, rfl, rfl, h1, r1⟩ := trodAll_cons r0
  obtain ⟨rfl, rfl, rfl⟩ := trodAll_nil r1
  obtain rfl : args = #[v0, v1] := by cases args; simp_all
  obtain ⟨rfl, rfl⟩ := trodVars_none hV
  obtain ⟨a0, rfl, rfl, rfl, w0⟩ := open_int Tryd.underlying22 (hval 0 22 v0 rfl rfl) h0
  obtain ⟨a1, rfl, rfl, rfl, w1⟩ := open_int Tryd.underlying22 (hval 1 22 v1 rfl rfl) h1
  clear hA0 hval0 hsz0 hsz
  simp only [List.append_nil] at hW'
  refine (walk a0 a1 w0 w1 W (laidf.FL_of_laid hL)).mono fun e W' ⟨he, hg⟩ => ?_
  subst he
  exact ⟨_, rfl, post_of_same (pa := []) (pv := []) hW' (fun _ _ _ => (trodAll_cons_mk (shut_bool Tryd.underlying4 _) trodAll_mk0)) (fun sp _ => (trodAll_cons_mk (shut_int Tryd.underlying22 w0) (trodAll_cons_mk (shut_int Tryd.underlying22 w1) trodAll_mk0))) (fun _ _ => rfl) rfl
    (hg.frame _) hg.2.1 (ok_one (by kernel_rfl) rfl (okWide_bool_mk Tryd.underlying4 _))⟩

theorem over : Rows.realOrderRow.holds Tryd.pinned (OpenSpec.ofChange Rows.realOrderSpec) :=
  OpenClaim.holds_of_wide 3 Tryd.f3 rfl rfl rfl rfl rfl rfl rfl ⟨rfl, rfl, rfl, rfl, rfl⟩ rfl rfl rfl rfl rfl (by kernel_rfl) Tryd.func3 (by kernel_rfl)
    (of_decide_eq_true (by kernel_rfl)) (by unfold Func.isWrapper; first | (rw [if_pos (by decide +kernel)]; kernel_rfl) | (rw [if_neg (by decide +kernel)]; exact ⟨rfl, rfl⟩))
    (fun os started H enc _ => lifted os started H enc)

theorem tied : Rows.RealOrderCardSaid :=
  Claim7.holds_tied_plain_at .later [] [.data] true (true, "e1b03e1fa24504d072c01222f929b912ac8580ac1f5b824732123fb3fe26023f") true
    over (fun _ h => by cases h) (by kernel_rfl) (fun _ h => by cases h) realOrder_row_tie rfl ⟨rfl, rfl⟩ (by kernel_rfl) rfl
    (fun f fn hf hfn => by
      obtain rfl : f = 3 := Option.some.inj ((show Tryd.prog.funcNamed "escritoire/escritoirekeep.RealOrder" = some 3 by kernel_rfl).symm.trans hf) |>.symm
      obtain rfl : fn = Tryd.f3 := (Option.some.inj (Tryd.func3.symm.trans hfn)).symm
      exact ⟨by kernel_rfl, fun j t ht => by
        rw [Tryd.params3] at ht
        rcases j with _ | j
        · obtain rfl : t = 22 := by simpa using ht.symm
          exact (show Tryd.prog.wantsStandIn 22 = false by kernel_rfl)
        · rcases j with _ | j
          · obtain rfl : t = 22 := by simpa using ht.symm
            exact (show Tryd.prog.wantsStandIn 22 = false by kernel_rfl)
          · simp at ht⟩)
    (by kernel_rfl)
end Go.Proofs.YtoakcdolfgghjabDoor.realOrder
namespace Go.Proofs.YtoakcdolfgghjabDoor
/-- The given statement. -/
theorem realOrder_holds : Rows.RealOrderCardSaid := realOrder.tied
#print axioms realOrder_holds
end Go.Proofs.YtoakcdolfgghjabDoor
