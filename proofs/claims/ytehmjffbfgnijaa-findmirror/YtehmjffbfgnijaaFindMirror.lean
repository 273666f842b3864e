/- FindMirror: a pattern stands in a text just where both, the other way round, stand from the end: for every input. -/
import Derived.Test.YtehmjffbfgnijaaRows
import Derived.WalkKit
import Derived.ProofKit
import Derived.OpenShut
import Derived.SizedLaws
import Derived.Test.YtehmjffbfgnijaaFd7
import Derived.Test.YtehmjffbfgnijaaFdW
import Derived.Test.YtehmjffbfgnijaaFd9
import Derived.ShutString
namespace Go.Proofs.Ytehmjffbfgnijaa.findMirror
open Go.ChangeShapes Go.WideShapes Go.ChangeAt Go.RowKit
open Go.ChangeMaps (open_string shut_string)
set_option linter.unusedVariables false      -- a walk need not use every 'w<i>' (that an integer argument fits its kind)

theorem own : ownKnob Try.prog.godebug = none := by kernel_rfl

open mem rows fd find
theorem pls_bd (p f : Nat → Int) (L N k : Nat) (hL : 0 < L) : 0 ≤ (ints (pls p f L N)).getD k 0 ∧ (ints (pls p f L N)).getD k 0 ≤ (N : Int) := by
  by_cases h : k < (pls p f L N).length
  · have e : (ints (pls p f L N)).getD k 0 = (((pls p f L N)[k]'h : Nat) : Int) := by simp [ints, h]
    have hm := (mem_sta (St p f L) (N + 1 - L) _).1 (List.getElem_mem h)
    rw [e]
    omega
  · rw [List.getD_eq_getElem?_getD, List.getElem?_eq_none (by rw [ints_len]; omega)]
    simp
set_option maxHeartbeats 4000000 in
set_option maxRecDepth 100000 in
theorem walk (a0 : ByteArray) (a1 : ByteArray) (w0 : a0.size ≤ 140737488351232) (w1 : a1.size ≤ 140737488351232) (w : World) :
    Calls Try.prog 3 #[.string a0, .string a1] w fun e w' => e = .returned (.bool true) ∧ Below w.heap.size w w' := by
  clear w0 w1
  by_cases h0 : a1.size = 0
  · have hne : a1.toList.isEmpty = true := by rw [isEmpty_at]; exact decide_eq_true h0
    clear h0
    go_enter Try.func3, Try.ntmps3
    go_wp2_with (go_at_call 6; refine (found_at _).mono ?_; rintro e v1 ⟨rfl, hg1⟩)
    go_ret
    exact ⟨rfl, hg1⟩
  have hne : a1.toList.isEmpty = false := by rw [isEmpty_at]; exact decide_eq_false h0
  by_cases hs1 : a1.size ≤ 60
  · by_cases hs0 : a0.size ≤ 300
    · have hz1 : ¬ (60 : Int) < (a1.size : Int) := by omega
      have hz0 : ¬ (300 : Int) < (a0.size : Int) := by omega
      have hz1d : decide ((60 : Int) < (a1.size : Int)) = false := decide_eq_false hz1
      have hz0d : decide ((300 : Int) < (a0.size : Int)) = false := decide_eq_false hz0
      have hms := mir_size a0
      have hmp := mir_size a1
      have HE : Hid _ := mpl_mir a0 a1 (by omega)
      have hlen := pls_len (sb (mir a1)) (sb (mir a0)) a1.size a0.size (by omega)
      have hlen2 := pls_len (sb a1) (sb a0) a1.size a0.size (by omega)
      have HBD : Hid (∀ k, 0 ≤ (ints (pls (sb (mir a1)) (sb (mir a0)) a1.size a0.size)).getD k 0 ∧ (ints (pls (sb (mir a1)) (sb (mir a0)) a1.size a0.size)).getD k 0 ≤ (a0.size : Int)) := fun k => pls_bd _ _ _ _ k (by omega)
      have cA := fun w => All_at a0 a1 w (by omega) (by omega) (by omega)
      have cM := fun w => All_at (mir a0) (mir a1) w (by omega) (by omega) (by omega)
      rw [hms, hmp] at cM
      have c1 := fun w => mirrored_at a0 w (by omega)
      have c2 := fun w => mirrored_at a1 w (by omega)
      generalize pls (sb (mir a1)) (sb (mir a0)) a1.size a0.size = Pm at *
      generalize pls (sb a1) (sb a0) a1.size a0.size = Pl at *
      generalize mir a0 = ms at *
      generalize mir a1 = mp at *
      clear hms hmp
      go_enter Try.func3, Try.ntmps3
      go_wp2_with (fail)
      refine (found_at _).mono ?_
      rintro e v1 ⟨rfl, hg1⟩
      go_wp2_with (fail)
      refine (cA _).mono ?_
      rintro e v2 ⟨av, rfl, ha2, hb2⟩
      go_wp2_with (fail)
      refine (c1 _).mono ?_
      rintro e v3 ⟨rfl, hb3⟩
      go_wp2_with (fail)
      refine (c2 _).mono ?_
      rintro e v4 ⟨rfl, hb4⟩
      go_wp2_with (fail)
      refine (cM _).mono ?_
      rintro e v5 ⟨bv, rfl, hb5, hbb5⟩
      clear cA cM c1 c2
      have va := (view_own ha2).step ((hb3.trans hb4).trans hbb5)
      rcases hb5.shape with ⟨rfl, hnil⟩ | ⟨g, cap, hve, hBg, hgl, _, _, _⟩
      · have hPm : Pm = [] := by cases Pm with | nil => rfl | cons x l => simp [ints] at hnil
        subst hPm
        have hPl : ints Pl = [] := HE.out.symm
        rw [hPl] at va
        go_wp2_with (fail)
        go_loop [40] (fun iv => iv = .int .i64 0) (fun _ => 0)
        case atStart => rfl
        case round =>
          subst hrel
          have cE := equal_at av (.slice none 0 0) [] v5 va ⟨none, 0, rfl, Or.inl rfl⟩ (by decide)
          go_wp2_with (first
            | (go_at_call 9; refine (reverse_nil _).mono ?_; rintro e v6 ⟨rfl, rfl⟩)
            | (go_at_call 10; refine cE.mono ?_; rintro e v7 ⟨rfl, hb7⟩))
          go_ret
          exact ⟨rfl, (((((hg1.trans hb2).trans hb3).trans hb4).trans hbb5).trans hb7)⟩
      · rw [ints_len] at hve
        subst hve
        obtain ⟨m, hm⟩ : ∃ m, m = Pm.length := ⟨_, rfl⟩
        rw [← hm] at hb5 hlen
        have HM : Hid (m = Pm.length) := hm
        obtain ⟨d, hd⟩ : ∃ d : Int, d = (a0.size : Int) - (a1.size : Int) := ⟨_, rfl⟩
        have hdd : (a0.size : Int) - (a1.size : Int) = d := hd.symm
        have hdb : -60 ≤ d ∧ d ≤ 300 := by omega
        have HE2 : Hid ((List.map (fun x => d - x) (ints Pm)).reverse = ints Pl) := by have := HE.out; rw [hdd] at this; exact this
        rw [← hm]
        clear hm HE hd
        go_wp2_with (fail)
        go_loopw [40] (fun iv wr => ∃ k : Nat, k ≤ m ∧ iv = .int .i64 (k : Int) ∧ Own wr v4.heap.size (.slice (some ⟨g, 0, none⟩) m cap) (mpl d (ints Pm) k) ∧ v5.grownBy wr (some g)) (fun iv _ => m - (intOf iv).toNat)
        case atStart => exact ⟨0, Nat.zero_le _, rfl, by rw [mpl_zero]; exact hb5, grownBy_refl _ _⟩
        case round =>
          obtain ⟨k, hk, rfl, ho, hg⟩ := hrel
          have hml := mpl_len d (ints Pm) k
          rw [ints_len, ← HM.out] at hml
          by_cases hlt : k < m
          · have hlz : (k : Int) < (m : Int) := by omega
            have hkP : k < (ints Pm).length := by rw [ints_len, ← HM.out]; exact hlt
            rcases ho.shape with ⟨h, _⟩ | ⟨g', cap', hve, _, _, _, _, hc⟩
            · cases h
            · injection hve with e1 e2 e3
              injection e1 with e1
              injection e1 with e1
              subst e1
              have c1 := hc k (by omega)
              rw [mpl_at d _ _ _ hkP, if_neg (Nat.lt_irrefl _)] at c1
              have f1 := own_frozen ho k
              have hz := HBD.out k
              have hst := mpl_step d (ints Pm) k hkP
              generalize (ints Pm).getD k 0 = z at c1 hz hst
              have HS : Hid _ := hst
              have i0 : 0 ≤ (k : Int) ∧ (k : Int) < (m : Int) := by omega
              clear hst hc e2 e3
              go_wp2
              go_roundw
              case rel =>
                refine ⟨k + 1, by omega, by go_num, ?_, grownBy_set hg _ _⟩
                have h1 := own_set ho k (d - z) (by omega)
                rw [HS.out] at h1
                exact h1
              case measure => simp [intOf]; omega
          · have hnl : ¬ ((k : Int) < (m : Int)) := by omega
            have hkm : k = m := by omega
            have hend := mpl_end d (ints Pm)
            rw [ints_len, ← HM.out, ← hkm] at hend
            rw [hend] at ho
            have cR := reverse_at g cap ((ints Pm).map fun x => d - x) v4.heap.size wr (by rw [List.length_map, ints_len, ← HM.out]; omega) (by rw [List.length_map, ints_len, ← HM.out]; exact ho)
            rw [List.length_map, ints_len, ← HM.out, HE2.out] at cR
            clear hend ho
            go_wp2_with (fail)
            refine cR.mono ?_
            rintro e v6 ⟨rfl, ho6, hg6⟩
            have hgg : v5.grownBy v6 (some g) := ⟨hg6.os.trans hg.os, hg6.tape.trans hg.tape, hg6.output.trans hg.output, Nat.le_trans hg.size hg6.size, fun j hj hne => by
              rw [hg6.block j (Nat.lt_of_lt_of_le hj hg.size) hne]; exact hg.block j hj hne⟩
            have hB6 : Bl v4 v6 := bl_grownBy hbb5 hgg hBg
            have va6 := view_own (((ha2.step hb3).step hb4).step hB6)
            have cE := equal_at av _ (ints Pl) v6 va6 (view_own ho6) (by rw [ints_len]; omega)
            go_wp2_with (go_at_call 10; refine cE.mono ?_; rintro e v7 ⟨rfl, hb7⟩)
            go_ret
            exact ⟨rfl, (((((hg1.trans hb2).trans hb3).trans hb4).trans hB6).trans hb7)⟩
    · have hz0 : (300 : Int) < (a0.size : Int) := by omega
      have hz1 : ¬ (60 : Int) < (a1.size : Int) := by omega
      go_enter Try.func3, Try.ntmps3
      go_wp2_with (go_at_call 6; refine (found_at _).mono ?_; rintro e v1 ⟨rfl, hg1⟩)
      go_ret
      exact ⟨rfl, hg1⟩
  · have hz1 : (60 : Int) < (a1.size : Int) := by omega
    go_enter Try.func3, Try.ntmps3
    go_wp2_with (go_at_call 6; refine (found_at _).mono ?_; rintro e v1 ⟨rfl, hg1⟩)
    go_ret
    exact ⟨rfl, hg1⟩

set_option maxRecDepth 100000 in
theorem lifted (os : Os) (started : os.Started) (H : Type) (enc : TypeId × Value → H) :
    ReturnsInHanded {} Try.checked os 3 .any (Rows.findMirrorSpec.pre6 enc Try.prog Try.f3 Rows.findMirrorRow.domain false) (Rows.findMirrorSpec.post enc Try.prog Try.f3 false true false false) := by
  refine returnsInHanded_of_change_sized (C := Try.checked) own started (by kernel_rfl) Try.func3
    (ChangeSpec.witness6 (enc := enc) (C := Try.checked) false ⟨#[], #[.string ByteArray.empty, .string ByteArray.empty], []⟩ 8 (by kernel_rfl) (by kernel_rfl) (by kernel_rfl) (by kernel_rfl)) ?_
  intro W base args ds gs before hval0 hW hcnd hsz0 _
  have hval : ∀ (j : Nat) t v, Try.f3.params[j]? = some t → args[j]? = some v → Value.okWide Try.prog W .any base t v := hval0
  have hW' := hW
  obtain ⟨p, q, hA0, hV, rfl, hfz, hnd⟩ := hW
  have hA : DataW.TrodAll enc Try.prog W 0 (fun _ => true) true Try.f3.params.toList args.toList ds p := hA0
  have hsz : (DataW.weightsEach Try.prog (Try.f3.params.toList ++ Rows.findMirrorSpec.plain.varTypes Try.prog) (ds ++ gs)).all (· ≤ reachBytes) = true := hsz0
  rw [Try.params3] at hA hval hsz
  obtain ⟨v0, vs0, d0, ds0, p0, q0, hargs, rfl, rfl, h0, r0⟩ := trodAll_cons hA
  obtain ⟨v1, vs1, d1, ds1, p1, q1, rfl, rfl, rfl, h1, r1⟩ := trodAll_cons r0
  obtain ⟨rfl, rfl, rfl⟩ := trodAll_nil r1
  obtain rfl : args = #[v0, v1] := by cases args; simp_all
  obtain ⟨rfl, rfl⟩ := trodVars_none hV
  obtain ⟨a0, rfl, rfl, rfl, w0⟩ := open_string Try.underlying9 (hval 0 9 v0 rfl rfl) h0
  have z0 : a0.size ≤ 140737488351232 := sized_string hsz (j := 0) (t := 9) rfl rfl
  obtain ⟨a1, rfl, rfl, rfl, w1⟩ := open_string Try.underlying9 (hval 1 9 v1 rfl rfl) h1
  have z1 : a1.size ≤ 140737488351232 := sized_string hsz (j := 1) (t := 9) rfl rfl
  clear hA0 hval0 hsz0 hsz
  simp only [List.append_nil] at hW'
  refine (walk a0 a1 z0 z1 W).mono fun e W' ⟨he, hg⟩ => ?_
  subst he
  exact ⟨_, rfl, _, _, _, [], [], [], hW', (trodAll_cons_mk (shut_bool Try.underlying4 _) trodAll_mk0), (trodAll_cons_mk (shut_string Try.underlying9 w0) (trodAll_cons_mk (shut_string Try.underlying9 w1) trodAll_mk0)), rfl, hg.frame _, fun h => by cases h⟩

theorem over : Rows.findMirrorRow.holds Try.pinned (OpenSpec.ofChange Rows.findMirrorSpec) :=
  OpenClaim.holds_of_wide 3 Try.f3 rfl rfl rfl rfl rfl rfl rfl ⟨rfl, rfl, rfl, rfl, rfl⟩ rfl rfl rfl rfl rfl (by kernel_rfl) Try.func3 (by kernel_rfl)
    (of_decide_eq_true (by kernel_rfl)) (by unfold Func.isWrapper; first | (rw [if_pos (by decide +kernel)]; kernel_rfl) | (rw [if_neg (by decide +kernel)]; exact ⟨rfl, rfl⟩))
    (fun os started H enc _ => lifted os started H enc)

end Go.Proofs.Ytehmjffbfgnijaa.findMirror
namespace Go.Proofs.Ytehmjffbfgnijaa
/-- The given statement. -/
theorem findMirror_holds : Rows.FindMirrorSaid := findMirror.over
#print axioms findMirror_holds
end Go.Proofs.Ytehmjffbfgnijaa
