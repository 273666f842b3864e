/- RealJoins: the bits of any parts are what the document has; at all parts and widths. -/
import Derived.Test.YtnhekkahiphlgaaDoorRows
import Derived.WalkKit
import Derived.ProofKit
import Derived.OpenShut
import Derived.SizedLaws
import Derived.Test.YtnhekkahiphlgaaDoorLaidB
import Derived.Test.YtnhekkahiphlgaaDoorTie
import Derived.Test.YtnhekkahiphlgaaDoorCards
import Derived.SevenTiedAt
import Derived.Test.YtnhekkahiphlgaaDoorRefReal7
import Derived.Test.YtnhekkahiphlgaaDoorRefReal8
import Derived.Test.YtnhekkahiphlgaaDoorReal4j
import Derived.Test.YtnhekkahiphlgaaDoorOpenReal
import Derived.Laws.Bits64b
import Derived.ShutString
namespace Go.Proofs.YtnhekkahiphlgaaDoor.realJoins
open Go.ChangeShapes Go.WideShapes Go.ChangeAt Go.RowKit
open Go.ChangeMaps (open_string shut_string)
set_option linter.unusedVariables false      -- a walk need not use every 'w<i>' (that an integer argument fits its kind)

theorem own : ownKnob Tryd.prog.godebug = none := by kernel_rfl

open mem rl errs
attribute [local go_sem] World.cell?_alloc_some
set_option maxHeartbeats 1000000 in
theorem walk (n : Bool) (x g a1 : Int) (wx : (Lit.int .i64 x).wf = true) (wg : (Lit.int .u64 g).wf = true) (w : World) (hl : rl.FL w) (hg : errs.Laid w) :
    Calls Tryd.prog 3 #[.agg #[.bool n, .int .i64 x, .int .u64 g], .int .i64 a1] w fun e w' => e = .returned (.bool true) ∧ Grown w w' := by
  have b0 := bounds_u64 wg
  have b1 := bounds_i64 wx
  clear wx wg
  have HG : Hid (Laid w) := hg
  have HL : Hid (FL w) := hl
  clear hg hl
  obtain ⟨f, rfl⟩ := Int.eq_ofNat_of_zero_le (show 0 ≤ g by omega)
  have ka : Gb w (w.alloc (.cells #[.bool n, .int .i64 x, .int .u64 (f : Int)] 24)) := (Gb.refl w).alloc _ _
  obtain ⟨r, e, cR, cJ⟩ : ∃ (r : Nat) (e : Int),
      (∀ w, Calls Tryd.prog 8 #[.agg #[.bool n, .int .i64 x, .int .u64 (f : Int)], .int .i64 a1] w fun y w' => y = .returned (.tuple #[.int .u64 r, .int .i64 e]) ∧ Gb w w') ∧
      (∀ w, FL w → Calls Tryd.prog 9 #[.agg #[.bool n, .int .i64 x, .int .u64 (f : Int)], .int .i64 a1] w fun y w' => y = .returned (.tuple #[.int .u64 r, errI e]) ∧ Gb w w') := by
    by_cases h32 : a1 = 32
    · subst h32
      by_cases hbad : x < 0 ∨ 255 < x ∨ 8388607 < f
      · exact ⟨0, 2, fun w => refJoinErr32 n x f (by omega) hbad w, fun w hl => JoinNo32 n x f hbad w hl⟩
      · obtain ⟨X, rfl⟩ := Int.eq_ofNat_of_zero_le (show 0 ≤ x by omega)
        exact ⟨_, 0, fun w => refJoin32 n X f _ (by omega) (by omega) rfl w, fun w hl => Join32 n X f _ (by omega) (by omega) rfl w hl⟩
    · by_cases h64 : a1 = 64
      · subst h64
        by_cases hbad : x < 0 ∨ 2047 < x ∨ 4503599627370495 < f
        · exact ⟨0, 2, fun w => refJoinErr64 n x f (by omega) hbad w, fun w hl => JoinNo64 n x f hbad w hl⟩
        · obtain ⟨X, rfl⟩ := Int.eq_ofNat_of_zero_le (show 0 ≤ x by omega)
          exact ⟨_, 0, fun w => refJoin64 n X f _ (by omega) (by omega) rfl w, fun w hl => Join64 n X f _ (by omega) (by omega) rfl w hl⟩
      · exact ⟨0, 1, fun w => refJoinNo n x f a1 ⟨h32, h64⟩ w, fun w hl => JoinNo n x f a1 ⟨h32, h64⟩ w hl⟩
  have bE := bareI e
  generalize errI e = E at cJ bE
  go_enter Tryd.func3, Tryd.ntmps3
  go_wp2_with (first
    | (go_at_call 8; refine (cR _).mono ?_; rintro y v1 ⟨rfl, g1⟩
       have c0 := at_gb g1 (a := ⟨w.heap.size, 0, none⟩) (v := .bool n) (by go_simp)
       have c1 := at_gb g1 (a := ⟨w.heap.size, 1, none⟩) (v := .int .i64 x) (by go_simp)
       have c2 := at_gb g1 (a := ⟨w.heap.size, 2, none⟩) (v := .int .u64 (f : Int)) (by go_simp))
    | (go_at_call 9; refine (cJ _ (HL.out.gb (ka.trans g1))).mono ?_; rintro y v2 ⟨rfl, g2⟩)
    | (go_at_call 10; refine (bE _ (HG.out.gb ((ka.trans g1).trans g2))).mono ?_; rintro y v3 ⟨rfl, g3⟩))
  go_ret
  exact ⟨by simp, (((ka.trans g1).trans g2).trans g3).g⟩


set_option maxRecDepth 100000 in
theorem lifted (os : Os) (started : os.Started) (H : Type) (enc : TypeId × Value → H) :
    ReturnsInHanded {} Tryd.checked os 3 .any (fun w args => (Rows.realJoinsSpec.pre enc Tryd.prog Tryd.f3 [] false w args ∧ laidMetH Tryd.prog laidb.list w) ∧ sizedMet enc Tryd.prog Tryd.f3 (OpenSpec.ofChange Rows.realJoinsSpec) false w args) (Rows.realJoinsSpec.post enc Tryd.prog Tryd.f3 false true false false) := by
  refine returnsInHanded_of_change_and (C := Tryd.checked) (X := fun w _ => laidMetH Tryd.prog laidb.list w) (fun _ _ _ hh h => h.of_heap hh) own started (by kernel_rfl) Tryd.func3
    (ChangeSpec.witness_shaped (enc := enc) (C := Tryd.checked) (os := os) (X := fun w _ => laidMetH Tryd.prog laidb.list w) false (World.doorLaid Tryd.prog 200 os) #[.agg #[.bool false, .int .i64 0, .int .u64 0], .int .i64 0] 8 rfl (World.shaped_of_RefB (by kernel_rfl) (by kernel_rfl)) (by kernel_rfl) (by kernel_rfl) (by kernel_rfl) (laidb.world_met os _)) ?_
  intro W base args ds gs before hval0 hW hcnd hsz0 hL _
  have hval : ∀ (j : Nat) t v, Tryd.f3.params[j]? = some t → args[j]? = some v → Value.okWide Tryd.prog W .any base t v := hval0
  have hW' := hW
  obtain ⟨p, q, hA0, hV, rfl, hfz, hnd⟩ := hW
  have hA : DataW.TrodAll enc Tryd.prog W 0 (fun _ => true) true Tryd.f3.params.toList args.toList ds p := hA0
  have hsz : (DataW.weightsEach Tryd.prog (Tryd.f3.params.toList ++ Rows.realJoinsSpec.plain.varTypes Tryd.prog) (ds ++ gs)).all (· ≤ reachBytes) = true := hsz0
  rw [Tryd.params3] at hA hval hsz
  obtain ⟨v0, vs0, d0, ds0, p0, q0, hargs, rfl, rfl, h0, r0⟩ := trodAll_cons hA
  obtain ⟨v1, vs1, d1, ds1, p1, q1, rfl, rfl, rfl, h1, r1⟩ := trodAll_cons r0
  obtain ⟨rfl, rfl, rfl⟩ := trodAll_nil r1
  obtain rfl : args = #[v0, v1] := by cases args; simp_all
  obtain ⟨rfl, rfl⟩ := trodVars_none hV
  obtain ⟨n0, x0, g0, rfl, rfl, rfl, wx0, wg0⟩ := rl.open_real (hval 0 24 v0 rfl rfl) h0
  obtain ⟨a1, rfl, rfl, rfl, w1⟩ := open_int Tryd.underlying3 (hval 1 3 v1 rfl rfl) h1
  clear hA0 hval0 hsz0 hsz
  simp only [List.append_nil] at hW'
  refine (walk n0 x0 g0 a1 wx0 wg0 W (laidb.FL_of_laid hL) (laidb.handle_of_laid hL)).mono fun e W' ⟨he, hg⟩ => ?_
  subst he
  exact ⟨_, rfl, post_of_same (pa := []) (pv := []) hW' (fun _ _ _ => (trodAll_cons_mk (shut_bool Tryd.underlying4 _) trodAll_mk0)) (fun sp _ => (trodAll_cons_mk (rl.shut_real wx0 wg0) (trodAll_cons_mk (shut_int Tryd.underlying3 w1) trodAll_mk0))) (fun _ _ => rfl) rfl
    (hg.frame _) hg.2.1 (ok_one (by kernel_rfl) rfl (okWide_bool_mk Tryd.underlying4 _))⟩

theorem over : Rows.realJoinsRow.holds Tryd.pinned (OpenSpec.ofChange Rows.realJoinsSpec) :=
  OpenClaim.holds_of_wide 3 Tryd.f3 rfl rfl rfl rfl rfl rfl rfl ⟨rfl, rfl, rfl, rfl, rfl⟩ rfl rfl rfl rfl rfl (by kernel_rfl) Tryd.func3 (by kernel_rfl)
    (of_decide_eq_true (by kernel_rfl)) (by unfold Func.isWrapper; first | (rw [if_pos (by decide +kernel)]; kernel_rfl) | (rw [if_neg (by decide +kernel)]; exact ⟨rfl, rfl⟩))
    (fun os started H enc _ => lifted os started H enc)

theorem tied : Rows.RealJoinsCardSaid :=
  Claim7.holds_tied_plain_at .later [] [.handle, .data] true (true, "4b706b3ed173120a2ab539ff1f566eba9301bc3df3cc74bd56bc006d976e9e84") true
    over (fun _ h => by cases h) (by kernel_rfl) (fun _ h => by cases h) realJoins_row_tie rfl ⟨rfl, rfl⟩ (by kernel_rfl) rfl
    (fun f fn hf hfn => by
      obtain rfl : f = 3 := Option.some.inj ((show Tryd.prog.funcNamed "escritoire/escritoirelaw.RealJoins" = some 3 by kernel_rfl).symm.trans hf) |>.symm
      obtain rfl : fn = Tryd.f3 := (Option.some.inj (Tryd.func3.symm.trans hfn)).symm
      exact ⟨by kernel_rfl, fun j t ht => by
        rw [Tryd.params3] at ht
        rcases j with _ | j
        · obtain rfl : t = 24 := by simpa using ht.symm
          exact (show Tryd.prog.wantsStandIn 24 = false by kernel_rfl)
        · rcases j with _ | j
          · obtain rfl : t = 3 := by simpa using ht.symm
            exact (show Tryd.prog.wantsStandIn 3 = false by kernel_rfl)
          · simp at ht⟩)
    (by kernel_rfl)
end Go.Proofs.YtnhekkahiphlgaaDoor.realJoins
namespace Go.Proofs.YtnhekkahiphlgaaDoor
/-- The given statement. -/
theorem realJoins_holds : Rows.RealJoinsCardSaid := realJoins.tied
#print axioms realJoins_holds
end Go.Proofs.YtnhekkahiphlgaaDoor
