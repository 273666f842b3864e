/- DigitsHex: bytes as digits, and the bytes that any digits are, or where they are none, are what the document has; at every text. -/
import Derived.Test.YtncmpjdapngmpaaDoorRows
import Derived.WalkKit
import Derived.ProofKit
import Derived.OpenShut
import Derived.SizedLaws
import Derived.Test.YtncmpjdapngmpaaDoorLaid
import Derived.Test.YtncmpjdapngmpaaDoorTie
import Derived.Test.YtncmpjdapngmpaaDoorCards
import Derived.SevenTiedAt
import Derived.Test.YtncmpjdapngmpaaDoorRefDig5
import Derived.Test.YtncmpjdapngmpaaDoorTellAt
import Derived.ShutString
namespace Go.Proofs.YtncmpjdapngmpaaDoor.digitsHex
open Go.ChangeShapes Go.WideShapes Go.ChangeAt Go.RowKit
open Go.ChangeMaps (open_string shut_string)
set_option linter.unusedVariables false      -- a walk need not use every 'w<i>' (that an integer argument fits its kind)

theorem own : ownKnob Tryd.prog.godebug = none := by kernel_rfl

open digs dig mem errs
theorem walk (a0 : ByteArray) (w0 : a0.size ≤ 140737488351232) (w : World) (hg : errs.Laid w) :
    Calls Tryd.prog 5 #[.string a0] w fun e w' => e = .returned (.bool true) ∧ Grown w w' := by
  have HG : Hid (Laid w) := hg
  clear hg
  by_cases hlen : a0.size ≤ 200
  · have hs : a0.size ≤ 1000 := by omega
    have cH := fun w => hex_at a0 w hs
    have cR := fun w => refHex_at a0 w hs
    generalize strOfNums (hexL a0 a0.size) = X at cH cR
    rcases un_cases a0 with ⟨o, ho⟩ | ⟨p, hp, hb⟩
    · have cU := fun w => unhex_ok a0 o w hs ho
      have cV := fun w => refUnhex_ok a0 o w hs ho
      generalize strOfNums o = O at cU cV
      clear ho
      go_enter Tryd.func5, Tryd.ntmps5
      go_wp2_with (first | (go_at_call 18; refine (cV _).mono ?_; rintro x v1 ⟨rfl, g1⟩) | (go_at_call 19; refine (cU _).mono ?_; rintro x v2 ⟨rfl, g2⟩; have c0 := digs.at_gb g2 (a := ⟨v1.heap.size, 0, none⟩) (v := .int .i64 0) (by simp); have c1 := digs.at_gb g2 (a := ⟨v1.heap.size, 1, none⟩) (v := .int .i64 (-1)) (by simp)) | (go_at_call 20; refine (placed_nil _).mono ?_; rintro x v3 ⟨rfl, g3⟩) | (go_at_call 21; refine (cH _).mono ?_; rintro x v4 ⟨rfl, g4⟩) | (go_at_call 22; refine (cR _).mono ?_; rintro x v5 ⟨rfl, rfl⟩))
      go_ret
      exact ⟨by simp, ((((g1.trans ((Gb.refl v1).alloc _ _)).trans g2).trans g3).trans g4).g⟩
    · have cU := fun w => unhex_bad a0 p w hs hp hb
      have cV := fun w => refUnhex_bad a0 p w hs hp hb
      clear hb
      go_enter Tryd.func5, Tryd.ntmps5
      go_wp2_with (first | (go_at_call 18; refine (cV _).mono ?_; rintro x v1 ⟨rfl, g1⟩) | (go_at_call 19; refine (cU _).mono ?_; rintro x v2 ⟨⟨b, rfl, d0, d1⟩, g2⟩; have c0 := digs.at_gb g2 (a := ⟨v1.heap.size, 0, none⟩) (v := .int .i64 3) (by simp); have c1 := digs.at_gb g2 (a := ⟨v1.heap.size, 1, none⟩) (v := .int .i64 p) (by simp)) | (go_at_call 20; refine (placed_at 3 p b _ (HG.out.gb ((g1.trans ((Gb.refl v1).alloc _ _)).trans g2)) d0 d1).mono ?_; rintro x v3 ⟨rfl, g3⟩) | (go_at_call 21; refine (cH _).mono ?_; rintro x v4 ⟨rfl, g4⟩) | (go_at_call 22; refine (cR _).mono ?_; rintro x v5 ⟨rfl, rfl⟩))
      go_ret
      exact ⟨by simp, ((((g1.trans ((Gb.refl v1).alloc _ _)).trans g2).trans g3).trans g4).g⟩
  · go_enter Tryd.func5, Tryd.ntmps5
    go_wp2
    go_ret
    exact ⟨rfl, Grown.refl _⟩

set_option maxRecDepth 100000 in
theorem lifted (os : Os) (started : os.Started) (H : Type) (enc : TypeId × Value → H) :
    ReturnsInHanded {} Tryd.checked os 5 .any (fun w args => (Rows.digitsHexSpec.pre enc Tryd.prog Tryd.f5 [] false w args ∧ laidMetH Tryd.prog laying.list w) ∧ sizedMet enc Tryd.prog Tryd.f5 (OpenSpec.ofChange Rows.digitsHexSpec) false w args) (Rows.digitsHexSpec.post enc Tryd.prog Tryd.f5 false true false false) := by
  refine returnsInHanded_of_change_and (C := Tryd.checked) (X := fun w _ => laidMetH Tryd.prog laying.list w) (fun _ _ _ hh h => h.of_heap hh) own started (by kernel_rfl) Tryd.func5
    (ChangeSpec.witness_at (enc := enc) (C := Tryd.checked) (os := os) (X := fun w _ => laidMetH Tryd.prog laying.list w) false (laying.layCell (World.holding Tryd.prog os ⟨#[], #[], []⟩)) #[.string ByteArray.empty] 8 rfl (by kernel_rfl) (by kernel_rfl) (by kernel_rfl) (by kernel_rfl) (by kernel_rfl) (laying.laidWorld_met os _)) ?_
  intro W base args ds gs before hval0 hW hcnd hsz0 hL _
  have hval : ∀ (j : Nat) t v, Tryd.f5.params[j]? = some t → args[j]? = some v → Value.okWide Tryd.prog W .any base t v := hval0
  have hW' := hW
  obtain ⟨p, q, hA0, hV, rfl, hfz, hnd⟩ := hW
  have hA : DataW.TrodAll enc Tryd.prog W 0 (fun _ => true) true Tryd.f5.params.toList args.toList ds p := hA0
  have hsz : (DataW.weightsEach Tryd.prog (Tryd.f5.params.toList ++ Rows.digitsHexSpec.plain.varTypes Tryd.prog) (ds ++ gs)).all (· ≤ reachBytes) = true := hsz0
  rw [Tryd.params5] at hA hval hsz
  obtain ⟨v0, vs0, d0, ds0, p0, q0, hargs, rfl, rfl, h0, r0⟩ := trodAll_cons hA
  obtain ⟨rfl, rfl, rfl⟩ := trodAll_nil r0
  obtain rfl : args = #[v0] := by cases args; simp_all
  obtain ⟨rfl, rfl⟩ := trodVars_none hV
  obtain ⟨a0, rfl, rfl, rfl, w0⟩ := open_string Tryd.underlying9 (hval 0 9 v0 rfl rfl) h0
  have z0 : a0.size ≤ 140737488351232 := sized_string hsz (j := 0) (t := 9) rfl rfl
  clear hA0 hval0 hsz0 hsz
  simp only [List.append_nil] at hW'
  refine (walk a0 z0 W (laying.handle_of_laid hL)).mono fun e W' ⟨he, hg⟩ => ?_
  subst he
  exact ⟨_, rfl, post_of_same (pa := []) (pv := []) hW' (fun _ _ _ => (trodAll_cons_mk (shut_bool Tryd.underlying4 _) trodAll_mk0)) (fun sp _ => (trodAll_cons_mk (shut_string Tryd.underlying9 w0) trodAll_mk0)) (fun _ _ => rfl) rfl
    (hg.frame _) hg.2.1 (ok_one (by kernel_rfl) rfl (okWide_bool_mk Tryd.underlying4 _))⟩

theorem over : Rows.digitsHexRow.holds Tryd.pinned (OpenSpec.ofChange Rows.digitsHexSpec) :=
  OpenClaim.holds_of_wide 5 Tryd.f5 rfl rfl rfl rfl rfl rfl rfl ⟨rfl, rfl, rfl, rfl, rfl⟩ rfl rfl rfl rfl rfl (by kernel_rfl) Tryd.func5 (by kernel_rfl)
    (of_decide_eq_true (by kernel_rfl)) (by unfold Func.isWrapper; first | (rw [if_pos (by decide +kernel)]; kernel_rfl) | (rw [if_neg (by decide +kernel)]; exact ⟨rfl, rfl⟩))
    (fun os started H enc _ => lifted os started H enc)

theorem tied : Rows.DigitsHexCardSaid :=
  Claim7.holds_tied_plain_at .later [] [.handle] true (true, "b47a621a2adbcce19bb2b222f4054078daf8760fcc217c0053af485b12705170") true
    over (fun _ h => by cases h) (by kernel_rfl) (fun _ h => by cases h) digitsHex_row_tie rfl ⟨rfl, rfl⟩ (by kernel_rfl) rfl
    (fun f fn hf hfn => by
      obtain rfl : f = 5 := Option.some.inj ((show Tryd.prog.funcNamed "escritoire/escritoirelaw.DigitsHex" = some 5 by kernel_rfl).symm.trans hf) |>.symm
      obtain rfl : fn = Tryd.f5 := (Option.some.inj (Tryd.func5.symm.trans hfn)).symm
      exact ⟨by kernel_rfl, fun j t ht => by
        rw [Tryd.params5] at ht
        rcases j with _ | j
        · obtain rfl : t = 9 := by simpa using ht.symm
          exact (show Tryd.prog.wantsStandIn 9 = false by kernel_rfl)
        · simp at ht⟩)
    (by kernel_rfl)
end Go.Proofs.YtncmpjdapngmpaaDoor.digitsHex
namespace Go.Proofs.YtncmpjdapngmpaaDoor
/-- The given statement. -/
theorem digitsHex_holds : Rows.DigitsHexCardSaid := digitsHex.tied
#print axioms digitsHex_holds
end Go.Proofs.YtncmpjdapngmpaaDoor
