/- RealParts: for any bits and any width: what real.Apart and real.Class answer, and their errors, is what the document has (3.1). Condition: errors.errorType and real.forms lie as the text of the program lays them (the card ties them). -/
import Derived.Test.YtoakcdolfgghjaaDoorRows
import Derived.WalkKit
import Derived.ProofKit
import Derived.OpenShut
import Derived.SizedLaws
import Derived.Test.YtoakcdolfgghjaaDoorLaidB
import Derived.Test.YtoakcdolfgghjaaDoorTie
import Derived.Test.YtoakcdolfgghjaaDoorCards
import Derived.SevenTiedAt
import Derived.Test.YtoakcdolfgghjaaDoorReal4
import Derived.Test.YtoakcdolfgghjaaDoorReal5
import Derived.Test.YtoakcdolfgghjaaDoorRefReal2
import Derived.Laws.StructEq
import Derived.ShutString
namespace Go.Proofs.YtoakcdolfgghjaaDoor.realParts
open Go.ChangeShapes Go.WideShapes Go.ChangeAt Go.RowKit
open Go.ChangeMaps (open_string shut_string)
set_option linter.unusedVariables false      -- a walk need not use every 'w<i>' (that an integer argument fits its kind)

theorem own : ownKnob Tryd.prog.godebug = none := by kernel_rfl

open mem rl errs
attribute [local go_sem] World.cell?_alloc_some
set_option maxHeartbeats 1000000 in
theorem walk (a0 : Int) (a1 : Int) (w0 : (Lit.int .u64 a0).wf = true) (w1 : (Lit.int .i64 a1).wf = true) (w : World) (hl : rl.FL w) (hg : errs.Laid w) :
    Calls Tryd.prog 3 #[.int .u64 a0, .int .i64 a1] w fun e w' => e = .returned (.bool true) ∧ Grown w w' := by
  have b0 := bounds_u64 w0
  clear w0 w1
  obtain ⟨b, rfl⟩ := Int.eq_ofNat_of_zero_le (show 0 ≤ a0 by omega)
  by_cases h32 : a1 = 32
  · subst h32
    obtain ⟨x, hx⟩ : ∃ x, b / 2 ^ 23 % 256 = x := ⟨_, rfl⟩
    obtain ⟨f, hf⟩ : ∃ f, b % 2 ^ 23 = f := ⟨_, rfl⟩
    obtain ⟨n, hn⟩ : ∃ n, (b / 2 ^ 31 % 2 == 1) = n := ⟨_, rfl⟩
    obtain ⟨c, hc⟩ : ∃ c, cls 255 x f = c := ⟨_, rfl⟩
    have HN := hide hn
    have HX := hide hx
    have HF := hide hf
    have HC := hide hc
    clear hn hx hf hc
    go_enter Tryd.func3, Tryd.ntmps3
    go_wp2_with (first
      | (go_at_call 9; refine (refApart32 b x f n (by omega) HN.out HX.out HF.out _).mono ?_; rintro e v1 ⟨rfl, g1⟩
         have k1 : Gb w (v1.alloc (Obj.cells #[.bool n, .int .i64 x, .int .u64 f] 24)) := g1.trans (Gb.alloc (Gb.refl v1) _ _))
      | (go_at_call 10; refine (Apart32 b x f n (by omega) HN.out HX.out HF.out _ (hl.gb k1)).mono ?_; rintro e v2 ⟨rfl, g2⟩
         have c0 := at_gb g2 (a := ⟨v1.heap.size, 0, none⟩) (v := .bool n) (by go_simp)
         have c1 := at_gb g2 (a := ⟨v1.heap.size, 1, none⟩) (v := .int .i64 x) (by go_simp)
         have c2 := at_gb g2 (a := ⟨v1.heap.size, 2, none⟩) (v := .int .u64 f) (by go_simp)
         have k2 : Gb w (v2.alloc (Obj.cells #[.bool n, .int .i64 x, .int .u64 f] 24)) := k1.trans (g2.trans (Gb.alloc (Gb.refl v2) _ _)))
      | (go_at_call 11; refine (refClass32 b x f c (by omega) HX.out HF.out HC.out _).mono ?_; rintro e v3 ⟨rfl, g3⟩
         have d0 := at_gb g3 (a := ⟨v1.heap.size, 0, none⟩) (v := .bool n) (by go_simp)
         have d1 := at_gb g3 (a := ⟨v1.heap.size, 1, none⟩) (v := .int .i64 x) (by go_simp)
         have d2 := at_gb g3 (a := ⟨v1.heap.size, 2, none⟩) (v := .int .u64 f) (by go_simp)
         have e0 := at_gb g3 (a := ⟨v2.heap.size, 0, none⟩) (v := .bool n) (by go_simp)
         have e1 := at_gb g3 (a := ⟨v2.heap.size, 1, none⟩) (v := .int .i64 x) (by go_simp)
         have e2 := at_gb g3 (a := ⟨v2.heap.size, 2, none⟩) (v := .int .u64 f) (by go_simp)
         have k3 := k2.trans g3)
      | (go_at_call 12; refine (Class32 b x f c (by omega) HX.out HF.out HC.out _ (hl.gb k3)).mono ?_; rintro e v4 ⟨rfl, g4⟩
         have d3 := at_gb g4 d0
         have d4 := at_gb g4 d1
         have d5 := at_gb g4 d2
         have e3 := at_gb g4 e0
         have e4 := at_gb g4 e1
         have e5 := at_gb g4 e2)
      | (go_at_call 13; refine (bare_nil _ _).mono ?_; rintro e v5 ⟨rfl, rfl⟩))
    go_ret
    exact ⟨by simp, (k3.trans g4).g⟩
  · by_cases h64 : a1 = 64
    · subst h64
      obtain ⟨x, hx⟩ : ∃ x, b / 2 ^ 52 % 2048 = x := ⟨_, rfl⟩
      obtain ⟨f, hf⟩ : ∃ f, b % 2 ^ 52 = f := ⟨_, rfl⟩
      obtain ⟨n, hn⟩ : ∃ n, (b / 2 ^ 63 % 2 == 1) = n := ⟨_, rfl⟩
      obtain ⟨c, hc⟩ : ∃ c, cls 2047 x f = c := ⟨_, rfl⟩
      have HN := hide hn
      have HX := hide hx
      have HF := hide hf
      have HC := hide hc
      clear hn hx hf hc
      go_enter Tryd.func3, Tryd.ntmps3
      go_wp2_with (first
        | (go_at_call 9; refine (refApart64 b x f n (by omega) HN.out HX.out HF.out _).mono ?_; rintro e v1 ⟨rfl, g1⟩
           have k1 : Gb w (v1.alloc (Obj.cells #[.bool n, .int .i64 x, .int .u64 f] 24)) := g1.trans (Gb.alloc (Gb.refl v1) _ _))
        | (go_at_call 10; refine (Apart64 b x f n (by omega) HN.out HX.out HF.out _ (hl.gb k1)).mono ?_; rintro e v2 ⟨rfl, g2⟩
           have c0 := at_gb g2 (a := ⟨v1.heap.size, 0, none⟩) (v := .bool n) (by go_simp)
           have c1 := at_gb g2 (a := ⟨v1.heap.size, 1, none⟩) (v := .int .i64 x) (by go_simp)
           have c2 := at_gb g2 (a := ⟨v1.heap.size, 2, none⟩) (v := .int .u64 f) (by go_simp)
           have k2 : Gb w (v2.alloc (Obj.cells #[.bool n, .int .i64 x, .int .u64 f] 24)) := k1.trans (g2.trans (Gb.alloc (Gb.refl v2) _ _)))
        | (go_at_call 11; refine (refClass64 b x f c (by omega) HX.out HF.out HC.out _).mono ?_; rintro e v3 ⟨rfl, g3⟩
           have d0 := at_gb g3 (a := ⟨v1.heap.size, 0, none⟩) (v := .bool n) (by go_simp)
           have d1 := at_gb g3 (a := ⟨v1.heap.size, 1, none⟩) (v := .int .i64 x) (by go_simp)
           have d2 := at_gb g3 (a := ⟨v1.heap.size, 2, none⟩) (v := .int .u64 f) (by go_simp)
           have e0 := at_gb g3 (a := ⟨v2.heap.size, 0, none⟩) (v := .bool n) (by go_simp)
           have e1 := at_gb g3 (a := ⟨v2.heap.size, 1, none⟩) (v := .int .i64 x) (by go_simp)
           have e2 := at_gb g3 (a := ⟨v2.heap.size, 2, none⟩) (v := .int .u64 f) (by go_simp)
           have k3 := k2.trans g3)
        | (go_at_call 12; refine (Class64 b x f c (by omega) HX.out HF.out HC.out _ (hl.gb k3)).mono ?_; rintro e v4 ⟨rfl, g4⟩
           have d3 := at_gb g4 d0
           have d4 := at_gb g4 d1
           have d5 := at_gb g4 d2
           have e3 := at_gb g4 e0
           have e4 := at_gb g4 e1
           have e5 := at_gb g4 e2)
        | (go_at_call 13; refine (bare_nil _ _).mono ?_; rintro e v5 ⟨rfl, rfl⟩))
      go_ret
      exact ⟨by simp, (k3.trans g4).g⟩
    · have HD := hide (show a1 ≠ 32 ∧ a1 ≠ 64 from ⟨h32, h64⟩)
      have HG := hide hg
      clear h32 h64 hg
      go_enter Tryd.func3, Tryd.ntmps3
      go_wp2_with (first
        | (go_at_call 9; refine (refApartNo b a1 HD.out _).mono ?_; rintro e v1 ⟨rfl, g1⟩
           have k1 : Gb w (v1.alloc (Obj.cells #[.bool false, .int .i64 0, .int .u64 0] 24)) := g1.trans (Gb.alloc (Gb.refl v1) _ _))
        | (go_at_call 10; refine (ApartNo b a1 HD.out _ (hl.gb k1)).mono ?_; rintro e v2 ⟨rfl, g2⟩
           have c0 := at_gb g2 (a := ⟨v1.heap.size, 0, none⟩) (v := .bool false) (by go_simp)
           have c1 := at_gb g2 (a := ⟨v1.heap.size, 1, none⟩) (v := .int .i64 0) (by go_simp)
           have c2 := at_gb g2 (a := ⟨v1.heap.size, 2, none⟩) (v := .int .u64 0) (by go_simp)
           have k2 : Gb w (v2.alloc (Obj.cells #[.bool false, .int .i64 0, .int .u64 0] 24)) := k1.trans (g2.trans (Gb.alloc (Gb.refl v2) _ _)))
        | (go_at_call 11; refine (refClassNo b a1 HD.out _).mono ?_; rintro e v3 ⟨rfl, g3⟩
           have d0 := at_gb g3 (a := ⟨v1.heap.size, 0, none⟩) (v := .bool false) (by go_simp)
           have d1 := at_gb g3 (a := ⟨v1.heap.size, 1, none⟩) (v := .int .i64 0) (by go_simp)
           have d2 := at_gb g3 (a := ⟨v1.heap.size, 2, none⟩) (v := .int .u64 0) (by go_simp)
           have e0 := at_gb g3 (a := ⟨v2.heap.size, 0, none⟩) (v := .bool false) (by go_simp)
           have e1 := at_gb g3 (a := ⟨v2.heap.size, 1, none⟩) (v := .int .i64 0) (by go_simp)
           have e2 := at_gb g3 (a := ⟨v2.heap.size, 2, none⟩) (v := .int .u64 0) (by go_simp)
           have k3 := k2.trans g3)
        | (go_at_call 12; refine (ClassNo b a1 HD.out _ (hl.gb k3)).mono ?_; rintro e v4 ⟨rfl, g4⟩
           have k4 := k3.trans g4
           have d3 := at_gb g4 d0
           have d4 := at_gb g4 d1
           have d5 := at_gb g4 d2
           have e3 := at_gb g4 e0
           have e4 := at_gb g4 e1
           have e5 := at_gb g4 e2)
        | (go_at_call 13; refine (bare_errno 1 1 _ (HG.out.gb k4)).mono ?_; rintro e v5 ⟨rfl, g5⟩
           have k5 := k4.trans g5
           have d6 := at_gb g5 d3
           have d7 := at_gb g5 d4
           have d8 := at_gb g5 d5
           have e6 := at_gb g5 e3
           have e7 := at_gb g5 e4
           have e8 := at_gb g5 e5)
        | (go_at_call 13; refine (bare_errno 1 1 _ (HG.out.gb k5)).mono ?_; rintro e v6 ⟨rfl, g6⟩))
      go_ret
      exact ⟨by simp, (k5.trans g6).g⟩

set_option maxRecDepth 100000 in
theorem lifted (os : Os) (started : os.Started) (H : Type) (enc : TypeId × Value → H) :
    ReturnsInHanded {} Tryd.checked os 3 .any (fun w args => (Rows.realPartsSpec.pre enc Tryd.prog Tryd.f3 [] false w args ∧ laidMetH Tryd.prog laidb.list w) ∧ sizedMet enc Tryd.prog Tryd.f3 (OpenSpec.ofChange Rows.realPartsSpec) false w args) (Rows.realPartsSpec.post enc Tryd.prog Tryd.f3 false true false false) := by
  refine returnsInHanded_of_change_and (C := Tryd.checked) (X := fun w _ => laidMetH Tryd.prog laidb.list w) (fun _ _ _ hh h => h.of_heap hh) own started (by kernel_rfl) Tryd.func3
    (ChangeSpec.witness_shaped (enc := enc) (C := Tryd.checked) (os := os) (X := fun w _ => laidMetH Tryd.prog laidb.list w) false (World.doorLaid Tryd.prog 200 os) #[.int .u64 0, .int .i64 0] 8 rfl (World.shaped_of_RefB (by kernel_rfl) (by kernel_rfl)) (by kernel_rfl) (by kernel_rfl) (by kernel_rfl) (laidb.world_met os _)) ?_
  intro W base args ds gs before hval0 hW hcnd hsz0 hL _
  have hval : ∀ (j : Nat) t v, Tryd.f3.params[j]? = some t → args[j]? = some v → Value.okWide Tryd.prog W .any base t v := hval0
  have hW' := hW
  obtain ⟨p, q, hA0, hV, rfl, hfz, hnd⟩ := hW
  have hA : DataW.TrodAll enc Tryd.prog W 0 (fun _ => true) true Tryd.f3.params.toList args.toList ds p := hA0
  have hsz : (DataW.weightsEach Tryd.prog (Tryd.f3.params.toList ++ Rows.realPartsSpec.plain.varTypes Tryd.prog) (ds ++ gs)).all (· ≤ reachBytes) = true := hsz0
  rw [Tryd.params3] at hA hval hsz
  obtain ⟨v0, vs0, d0, ds0, p0, q0, hargs, rfl, rfl, h0, r0⟩ := trodAll_cons hA
  obtain ⟨v1, vs1, d1, ds1, p1, q1, rfl, rfl, rfl, h1, r1⟩ := trodAll_cons r0
  obtain ⟨rfl, rfl, rfl⟩ := trodAll_nil r1
  obtain rfl : args = #[v0, v1] := by cases args; simp_all
  obtain ⟨rfl, rfl⟩ := trodVars_none hV
  obtain ⟨a0, rfl, rfl, rfl, w0⟩ := open_int Tryd.underlying22 (hval 0 22 v0 rfl rfl) h0
  obtain ⟨a1, rfl, rfl, rfl, w1⟩ := open_int Tryd.underlying3 (hval 1 3 v1 rfl rfl) h1
  clear hA0 hval0 hsz0 hsz
  simp only [List.append_nil] at hW'
  refine (walk a0 a1 w0 w1 W (laidb.FL_of_laid hL) (laidb.handle_of_laid hL)).mono fun e W' ⟨he, hg⟩ => ?_
  subst he
  exact ⟨_, rfl, post_of_same (pa := []) (pv := []) hW' (fun _ _ _ => (trodAll_cons_mk (shut_bool Tryd.underlying4 _) trodAll_mk0)) (fun sp _ => (trodAll_cons_mk (shut_int Tryd.underlying22 w0) (trodAll_cons_mk (shut_int Tryd.underlying3 w1) trodAll_mk0))) (fun _ _ => rfl) rfl
    (hg.frame _) hg.2.1 (ok_one (by kernel_rfl) rfl (okWide_bool_mk Tryd.underlying4 _))⟩

theorem over : Rows.realPartsRow.holds Tryd.pinned (OpenSpec.ofChange Rows.realPartsSpec) :=
  OpenClaim.holds_of_wide 3 Tryd.f3 rfl rfl rfl rfl rfl rfl rfl ⟨rfl, rfl, rfl, rfl, rfl⟩ rfl rfl rfl rfl rfl (by kernel_rfl) Tryd.func3 (by kernel_rfl)
    (of_decide_eq_true (by kernel_rfl)) (by unfold Func.isWrapper; first | (rw [if_pos (by decide +kernel)]; kernel_rfl) | (rw [if_neg (by decide +kernel)]; exact ⟨rfl, rfl⟩))
    (fun os started H enc _ => lifted os started H enc)

theorem tied : Rows.RealPartsCardSaid :=
  Claim7.holds_tied_plain_at .later [] [.handle, .data] true (true, "be94f2366b7d1d2296b4e97ffe62a88a836956604abf9c0b563619c378c0af86") true
    over (fun _ h => by cases h) (by kernel_rfl) (fun _ h => by cases h) realParts_row_tie rfl ⟨rfl, rfl⟩ (by kernel_rfl) rfl
    (fun f fn hf hfn => by
      obtain rfl : f = 3 := Option.some.inj ((show Tryd.prog.funcNamed "escritoire/escritoirelaw.RealParts" = some 3 by kernel_rfl).symm.trans hf) |>.symm
      obtain rfl : fn = Tryd.f3 := (Option.some.inj (Tryd.func3.symm.trans hfn)).symm
      exact ⟨by kernel_rfl, fun j t ht => by
        rw [Tryd.params3] at ht
        rcases j with _ | j
        · obtain rfl : t = 22 := by simpa using ht.symm
          exact (show Tryd.prog.wantsStandIn 22 = false by kernel_rfl)
        · rcases j with _ | j
          · obtain rfl : t = 3 := by simpa using ht.symm
            exact (show Tryd.prog.wantsStandIn 3 = false by kernel_rfl)
          · simp at ht⟩)
    (by kernel_rfl)
end Go.Proofs.YtoakcdolfgghjaaDoor.realParts
namespace Go.Proofs.YtoakcdolfgghjaaDoor
/-- The given statement. -/
theorem realParts_holds : Rows.RealPartsCardSaid := realParts.tied
#print axioms realParts_holds
end Go.Proofs.YtoakcdolfgghjaaDoor
