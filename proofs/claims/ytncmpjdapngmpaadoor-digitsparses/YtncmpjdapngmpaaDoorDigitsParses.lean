/- DigitsParses: the number that any digits are, by any base, and as it is written, is what the document has; at every argument. -/
import Derived.Test.YtncmpjdapngmpaaDoorRows
import Derived.WalkKit
import Derived.ProofKit
import Derived.OpenShut
import Derived.SizedLaws
import Derived.Test.YtncmpjdapngmpaaDoorLaid
import Derived.Test.YtncmpjdapngmpaaDoorTie
import Derived.Test.YtncmpjdapngmpaaDoorCards
import Derived.SevenTiedAt
import Derived.Test.YtncmpjdapngmpaaDoorRefDig4
import Derived.Test.YtncmpjdapngmpaaDoorBareI
import Derived.ShutString
namespace Go.Proofs.YtncmpjdapngmpaaDoor.digitsParses
open Go.ChangeShapes Go.WideShapes Go.ChangeAt Go.RowKit
open Go.ChangeMaps (open_string shut_string)
set_option linter.unusedVariables false      -- a walk need not use every 'w<i>' (that an integer argument fits its kind)

theorem own : ownKnob Tryd.prog.godebug = none := by kernel_rfl

open digs dig mem errs
theorem walk (a0 : ByteArray) (a1 : Int) (w0 : a0.size ≤ 140737488351232) (w1 : (Lit.int .i64 a1).wf = true) (w : World) (hg : errs.Laid w) :
    Calls Tryd.prog 4 #[.string a0, .int .i64 a1] w fun e w' => e = .returned (.bool true) ∧ Grown w w' := by
  clear w1
  have HG : Hid (Laid w) := hg
  clear hg
  by_cases hlen : a0.size ≤ 100
  · obtain ⟨v, e, hp⟩ := parsed_some a1 a0
    obtain ⟨m, f, hm⟩ := numbered_some a0
    have cP := fun w => parse_at a1 a0 v e w w0 hp
    have cQ := fun w => refParse_at a1 a0 v e w w0 hp
    have cM := fun w => number_at a0 m f w w0 hm
    have cN := fun w => refNumber_at a0 m f w w0 hm
    have bP := bareI e
    have bM := bareI f
    generalize errI e = E at cP bP
    generalize errI f = F at cM bM
    clear hp hm
    go_enter Tryd.func4, Tryd.ntmps4
    go_wp2_with (first | (go_at_call 14; refine (cQ _).mono ?_; rintro x v1 ⟨rfl, g1⟩) | (go_at_call 15; refine (cP _).mono ?_; rintro x v2 ⟨rfl, rfl⟩) | (go_at_call 16; refine (cN _).mono ?_; rintro x v3 ⟨rfl, g3⟩) | (go_at_call 17; refine (cM _).mono ?_; rintro x v4 ⟨rfl, rfl⟩) | (go_at_call_of 11 E; refine (bP _ (HG.out.gb (g1.trans g3))).mono ?_; rintro x v5 ⟨rfl, g5⟩) | (go_at_call 11; refine (bM _ (HG.out.gb ((g1.trans g3).trans g5))).mono ?_; rintro x v6 ⟨rfl, g6⟩))
    go_ret
    exact ⟨by simp, (((g1.trans g3).trans g5).trans g6).g⟩
  · go_enter Tryd.func4, Tryd.ntmps4
    go_wp2
    go_ret
    exact ⟨rfl, Grown.refl _⟩

set_option maxRecDepth 100000 in
theorem lifted (os : Os) (started : os.Started) (H : Type) (enc : TypeId × Value → H) :
    ReturnsInHanded {} Tryd.checked os 4 .any (fun w args => (Rows.digitsParsesSpec.pre enc Tryd.prog Tryd.f4 [] false w args ∧ laidMetH Tryd.prog laying.list w) ∧ sizedMet enc Tryd.prog Tryd.f4 (OpenSpec.ofChange Rows.digitsParsesSpec) false w args) (Rows.digitsParsesSpec.post enc Tryd.prog Tryd.f4 false true false false) := by
  refine returnsInHanded_of_change_and (C := Tryd.checked) (X := fun w _ => laidMetH Tryd.prog laying.list w) (fun _ _ _ hh h => h.of_heap hh) own started (by kernel_rfl) Tryd.func4
    (ChangeSpec.witness_at (enc := enc) (C := Tryd.checked) (os := os) (X := fun w _ => laidMetH Tryd.prog laying.list w) false (laying.layCell (World.holding Tryd.prog os ⟨#[], #[], []⟩)) #[.string ByteArray.empty, .int .i64 0] 8 rfl (by kernel_rfl) (by kernel_rfl) (by kernel_rfl) (by kernel_rfl) (by kernel_rfl) (laying.laidWorld_met os _)) ?_
  intro W base args ds gs before hval0 hW hcnd hsz0 hL _
  have hval : ∀ (j : Nat) t v, Tryd.f4.params[j]? = some t → args[j]? = some v → Value.okWide Tryd.prog W .any base t v := hval0
  have hW' := hW
  obtain ⟨p, q, hA0, hV, rfl, hfz, hnd⟩ := hW
  have hA : DataW.TrodAll enc Tryd.prog W 0 (fun _ => true) true Tryd.f4.params.toList args.toList ds p := hA0
  have hsz : (DataW.weightsEach Tryd.prog (Tryd.f4.params.toList ++ Rows.digitsParsesSpec.plain.varTypes Tryd.prog) (ds ++ gs)).all (· ≤ reachBytes) = true := hsz0
  rw [Tryd.params4] at hA hval hsz
  obtain ⟨v0, vs0, d0, ds0, p0, q0, hargs, rfl, rfl, h0, r0⟩ := trodAll_cons hA
  obtain ⟨v1, vs1, d1, ds1, p1, q1, rfl, rfl, rfl, h1, r1⟩ := trodAll_cons r0
  obtain ⟨rfl, rfl, rfl⟩ := trodAll_nil r1
  obtain rfl : args = #[v0, v1] := by cases args; simp_all
  obtain ⟨rfl, rfl⟩ := trodVars_none hV
  obtain ⟨a0, rfl, rfl, rfl, w0⟩ := open_string Tryd.underlying9 (hval 0 9 v0 rfl rfl) h0
  have z0 : a0.size ≤ 140737488351232 := sized_string hsz (j := 0) (t := 9) rfl rfl
  obtain ⟨a1, rfl, rfl, rfl, w1⟩ := open_int Tryd.underlying3 (hval 1 3 v1 rfl rfl) h1
  clear hA0 hval0 hsz0 hsz
  simp only [List.append_nil] at hW'
  refine (walk a0 a1 z0 w1 W (laying.handle_of_laid hL)).mono fun e W' ⟨he, hg⟩ => ?_
  subst he
  exact ⟨_, rfl, post_of_same (pa := []) (pv := []) hW' (fun _ _ _ => (trodAll_cons_mk (shut_bool Tryd.underlying4 _) trodAll_mk0)) (fun sp _ => (trodAll_cons_mk (shut_string Tryd.underlying9 w0) (trodAll_cons_mk (shut_int Tryd.underlying3 w1) trodAll_mk0))) (fun _ _ => rfl) rfl
    (hg.frame _) hg.2.1 (ok_one (by kernel_rfl) rfl (okWide_bool_mk Tryd.underlying4 _))⟩

theorem over : Rows.digitsParsesRow.holds Tryd.pinned (OpenSpec.ofChange Rows.digitsParsesSpec) :=
  OpenClaim.holds_of_wide 4 Tryd.f4 rfl rfl rfl rfl rfl rfl rfl ⟨rfl, rfl, rfl, rfl, rfl⟩ rfl rfl rfl rfl rfl (by kernel_rfl) Tryd.func4 (by kernel_rfl)
    (of_decide_eq_true (by kernel_rfl)) (by unfold Func.isWrapper; first | (rw [if_pos (by decide +kernel)]; kernel_rfl) | (rw [if_neg (by decide +kernel)]; exact ⟨rfl, rfl⟩))
    (fun os started H enc _ => lifted os started H enc)

theorem tied : Rows.DigitsParsesCardSaid :=
  Claim7.holds_tied_plain_at .later [] [.handle] true (true, "b47a621a2adbcce19bb2b222f4054078daf8760fcc217c0053af485b12705170") true
    over (fun _ h => by cases h) (by kernel_rfl) (fun _ h => by cases h) digitsParses_row_tie rfl ⟨rfl, rfl⟩ (by kernel_rfl) rfl
    (fun f fn hf hfn => by
      obtain rfl : f = 4 := Option.some.inj ((show Tryd.prog.funcNamed "escritoire/escritoirelaw.DigitsParses" = some 4 by kernel_rfl).symm.trans hf) |>.symm
      obtain rfl : fn = Tryd.f4 := (Option.some.inj (Tryd.func4.symm.trans hfn)).symm
      exact ⟨by kernel_rfl, fun j t ht => by
        rw [Tryd.params4] at ht
        rcases j with _ | j
        · obtain rfl : t = 9 := by simpa using ht.symm
          exact (show Tryd.prog.wantsStandIn 9 = false by kernel_rfl)
        · rcases j with _ | j
          · obtain rfl : t = 3 := by simpa using ht.symm
            exact (show Tryd.prog.wantsStandIn 3 = false by kernel_rfl)
          · simp at ht⟩)
    (by kernel_rfl)
end Go.Proofs.YtncmpjdapngmpaaDoor.digitsParses
namespace Go.Proofs.YtncmpjdapngmpaaDoor
/-- The given statement. -/
theorem digitsParses_holds : Rows.DigitsParsesCardSaid := digitsParses.tied
#print axioms digitsParses_holds
end Go.Proofs.YtncmpjdapngmpaaDoor
