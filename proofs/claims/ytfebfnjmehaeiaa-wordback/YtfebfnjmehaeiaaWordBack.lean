/- Proved: 'escritoirekeep.WordBack' answers true at every number, width and order and any texts before and behind: what Put puts Get gets. No condition beyond the row's own. -/
import Derived.Test.YtfebfnjmehaeiaaRows
import Derived.WalkKit
import Derived.ProofKit
import Derived.OpenShut
import Derived.SizedLaws
import Derived.Test.YtfebfnjmehaeiaaRev
import Derived.WalkSpells
import Derived.ShutString
namespace Go.Proofs.Ytfebfnjmehaeiaa.wordBack
open Go.ChangeShapes Go.WideShapes Go.ChangeAt Go.RowKit
open Go.ChangeMaps (open_string shut_string)
set_option linter.unusedVariables false      -- a walk need not use every 'w<i>' (that an integer argument fits its kind)

theorem own : ownKnob Try.prog.godebug = none := by kernel_rfl

open words mem facts signs
theorem get_back (n : Int) (W : Nat) (o : Bool) (O : Int) (a b : ByteArray) (w : World) (h0 : 0 ≤ n) (hO : (if o then (1 : Int) else 0) = O) (hW : (W : Int) = 1 ∨ (W : Int) = 2 ∨ (W : Int) = 4 ∨ (W : Int) = 8) (hs : a.size + b.size ≤ 200) :
    Calls Try.prog 17 #[.string (a ++ strOfNums (putL n W o W) ++ b), .int .i64 a.size, .int .i64 W, .int .i64 O] w fun e w' => e = .returned (.tuple #[.int .u64 (unsB n W), .nilIface]) ∧ w' = w := by
  have hl := put_len n W o
  have hsz : (a ++ strOfNums (putL n W o W) ++ b).size = a.size + W + b.size := by
    rw [ByteArray.size_append, ByteArray.size_append, hl]
  have hg := get_any (a ++ strOfNums (putL n W o W) ++ b) a.size W o O w hO hW (by rw [hsz]; unfold maxLen; omega) (by rw [hsz]; omega)
  rw [back n h0 W o _ a.size (fun j hj => sb_mid _ _ _ j (by rw [hl]; exact hj)), ← unsB_mod n W hW] at hg
  exact hg
theorem put_uns (n : Int) (W : Nat) (o : Bool) (O : Int) (w : World) (h0 : 0 ≤ n) (hO : (if o then (1 : Int) else 0) = O) (hW : (W : Int) = 1 ∨ (W : Int) = 2 ∨ (W : Int) = 4 ∨ (W : Int) = 8) :
    Calls Try.prog 16 #[.int .u64 (unsB n W), .int .i64 W, .int .i64 O] w fun e w' => e = .returned (.tuple #[.string (strOfNums (putL n W o W)), .nilIface]) ∧ Gb w w' := by
  have h := put_at (unsB n W) W o O w hO hW
  rw [unsB_mod n W hW, putL_mod n h0 W o] at h
  rw [unsB_mod n W hW]
  exact h
theorem walk (a0 : Int) (a1 : Int) (a2 : Int) (a3 : ByteArray) (a4 : ByteArray) (w0 : (Lit.int .u64 a0).wf = true) (w1 : (Lit.int .i64 a1).wf = true) (w2 : (Lit.int .i64 a2).wf = true) (w3 : a3.size ≤ 140737488351232) (w4 : a4.size ≤ 140737488351232) (w : World) :
    Calls Try.prog 4 #[.int .u64 a0, .int .i64 a1, .int .i64 a2, .string a3, .string a4] w fun e w' => e = .returned (.bool true) ∧ Grown w w' := by
  have b0 := bounds_u64 w0
  clear w0 w1 w2
  have HW : Hid ((wideN a1 : Int) = 1 ∨ (wideN a1 : Int) = 2 ∨ (wideN a1 : Int) = 4 ∨ (wideN a1 : Int) = 8) := wideN_one a1
  have hw8 : wideN a1 ≤ 8 := by have := wideN_one a1; omega
  obtain ⟨o, ho⟩ : ∃ o : Bool, (if o then (1 : Int) else 0) = pickB a2 2 := by
    have hb := pickB_bd a2 2 (by decide)
    by_cases e : pickB a2 2 = 1
    · exact ⟨true, by rw [e]; rfl⟩
    · exact ⟨false, by rw [show pickB a2 2 = 0 by omega]; rfl⟩
  have HO : Hid ((if o then (1 : Int) else 0) = pickB a2 2) := ho
  clear ho
  have hl := put_len a0 (wideN a1) o
  by_cases hs : a3.size + a4.size ≤ 200
  · go_enter Try.func4, Try.ntmps4
    go_wp2_with (first | (go_at_call 13; refine (worded_yes _).mono ?_; rintro e v1 ⟨rfl, hg1⟩) | (go_at_call 14; refine (wide_any _ _).mono ?_; rintro e v2 ⟨rfl, rfl⟩) | (go_at_call 15; refine (pick_any _ _ _ (by decide) (by decide)).mono ?_; rintro e v2 ⟨rfl, rfl⟩) | (go_at_call_of 16 (Value.int IntKind.u64 a0); refine (put_at _ _ o _ _ HO.out HW.out).mono ?_; rintro e v3 ⟨rfl, hg2⟩) | (go_at_call 17; refine (get_back _ _ o _ _ _ _ (by omega) HO.out HW.out (by omega)).mono ?_; rintro e v4 ⟨rfl, rfl⟩) | (go_at_call 16; refine (put_uns _ _ o _ _ (by omega) HO.out HW.out).mono ?_; rintro e v5 ⟨rfl, hg3⟩) | (go_at_call 9; refine (uns_any _ _ (by omega) (by omega) _).mono ?_; rintro e v6 ⟨rfl, rfl⟩))
    go_ret
    exact ⟨rfl, ((hg1.trans hg2).trans hg3).g⟩
  · go_enter Try.func4, Try.ntmps4
    go_wp2_with (first | (go_at_call 13; refine (worded_yes _).mono ?_; rintro e v1 ⟨rfl, hg1⟩))
    go_ret
    exact ⟨rfl, hg1.g⟩

set_option maxRecDepth 100000 in
theorem lifted (os : Os) (started : os.Started) (H : Type) (enc : TypeId × Value → H) :
    ReturnsInHanded {} Try.checked os 4 .any (Rows.wordBackSpec.pre6 enc Try.prog Try.f4 Rows.wordBackRow.domain false) (Rows.wordBackSpec.post enc Try.prog Try.f4 false true false false) := by
  refine returnsInHanded_of_change_sized (C := Try.checked) own started (by kernel_rfl) Try.func4
    (ChangeSpec.witness6 (enc := enc) (C := Try.checked) false ⟨#[], #[.int .u64 0, .int .i64 0, .int .i64 0, .string ByteArray.empty, .string ByteArray.empty], []⟩ 8 (by kernel_rfl) (by kernel_rfl) (by kernel_rfl) (by kernel_rfl)) ?_
  intro W base args ds gs before hval0 hW hcnd hsz0 _
  have hval : ∀ (j : Nat) t v, Try.f4.params[j]? = some t → args[j]? = some v → Value.okWide Try.prog W .any base t v := hval0
  have hW' := hW
  obtain ⟨p, q, hA0, hV, rfl, hfz, hnd⟩ := hW
  have hA : DataW.TrodAll enc Try.prog W 0 (fun _ => true) true Try.f4.params.toList args.toList ds p := hA0
  have hsz : (DataW.weightsEach Try.prog (Try.f4.params.toList ++ Rows.wordBackSpec.plain.varTypes Try.prog) (ds ++ gs)).all (· ≤ reachBytes) = true := hsz0
  rw [Try.params4] at hA hval hsz
  obtain ⟨v0, vs0, d0, ds0, p0, q0, hargs, rfl, rfl, h0, r0⟩ := trodAll_cons hA
  obtain ⟨v1, vs1, d1, ds1, p1, q1, rfl, rfl, rfl, h1, r1⟩ := trodAll_cons r0
  obtain ⟨v2, vs2, d2, ds2, p2, q2, rfl, rfl, rfl, h2, r2⟩ := trodAll_cons r1
  obtain ⟨v3, vs3, d3, ds3, p3, q3, rfl, rfl, rfl, h3, r3⟩ := trodAll_cons r2
  obtain ⟨v4, vs4, d4, ds4, p4, q4, rfl, rfl, rfl, h4, r4⟩ := trodAll_cons r3
  obtain ⟨rfl, rfl, rfl⟩ := trodAll_nil r4
  obtain rfl : args = #[v0, v1, v2, v3, v4] := by cases args; simp_all
  obtain ⟨rfl, rfl⟩ := trodVars_none hV
  obtain ⟨a0, rfl, rfl, rfl, w0⟩ := open_int Try.underlying22 (hval 0 22 v0 rfl rfl) h0
  obtain ⟨a1, rfl, rfl, rfl, w1⟩ := open_int Try.underlying3 (hval 1 3 v1 rfl rfl) h1
  obtain ⟨a2, rfl, rfl, rfl, w2⟩ := open_int Try.underlying3 (hval 2 3 v2 rfl rfl) h2
  obtain ⟨a3, rfl, rfl, rfl, w3⟩ := open_string Try.underlying9 (hval 3 9 v3 rfl rfl) h3
  have z3 : a3.size ≤ 140737488351232 := sized_string hsz (j := 3) (t := 9) rfl rfl
  obtain ⟨a4, rfl, rfl, rfl, w4⟩ := open_string Try.underlying9 (hval 4 9 v4 rfl rfl) h4
  have z4 : a4.size ≤ 140737488351232 := sized_string hsz (j := 4) (t := 9) rfl rfl
  clear hA0 hval0 hsz0 hsz
  simp only [List.append_nil] at hW'
  refine (walk a0 a1 a2 a3 a4 w0 w1 w2 z3 z4 W).mono fun e W' ⟨he, hg⟩ => ?_
  subst he
  exact ⟨_, rfl, post_of_same (pa := []) (pv := []) hW' (fun _ _ _ => (trodAll_cons_mk (shut_bool Try.underlying4 _) trodAll_mk0)) (fun sp _ => (trodAll_cons_mk (shut_int Try.underlying22 w0) (trodAll_cons_mk (shut_int Try.underlying3 w1) (trodAll_cons_mk (shut_int Try.underlying3 w2) (trodAll_cons_mk (shut_string Try.underlying9 w3) (trodAll_cons_mk (shut_string Try.underlying9 w4) trodAll_mk0)))))) (fun _ _ => rfl) rfl
    (hg.frame _) hg.2.1 (ok_one (by kernel_rfl) rfl (okWide_bool_mk Try.underlying4 _))⟩

theorem over : Rows.wordBackRow.holds Try.pinned (OpenSpec.ofChange Rows.wordBackSpec) :=
  OpenClaim.holds_of_wide 4 Try.f4 rfl rfl rfl rfl rfl rfl rfl ⟨rfl, rfl, rfl, rfl, rfl⟩ rfl rfl rfl rfl rfl (by kernel_rfl) Try.func4 (by kernel_rfl)
    (of_decide_eq_true (by kernel_rfl)) (by unfold Func.isWrapper; first | (rw [if_pos (by decide +kernel)]; kernel_rfl) | (rw [if_neg (by decide +kernel)]; exact ⟨rfl, rfl⟩))
    (fun os started H enc _ => lifted os started H enc)

end Go.Proofs.Ytfebfnjmehaeiaa.wordBack
namespace Go.Proofs.Ytfebfnjmehaeiaa
/-- The given statement. -/
theorem wordBack_holds : Rows.WordBackSaid := wordBack.over
#print axioms wordBack_holds
end Go.Proofs.Ytfebfnjmehaeiaa
