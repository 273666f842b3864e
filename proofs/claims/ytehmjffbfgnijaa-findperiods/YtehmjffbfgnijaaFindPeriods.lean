/- FindPeriods: FINE's and WILF's: a text that goes on as it did a bytes ahead and b bytes ahead, and is long enough, goes on as it did so many bytes ahead as the greatest number that divides both: for every input. -/
import Derived.Test.YtehmjffbfgnijaaRows
import Derived.WalkKit
import Derived.ProofKit
import Derived.OpenShut
import Derived.SizedLaws
import Derived.Test.YtehmjffbfgnijaaFd7
import Derived.Test.YtehmjffbfgnijaaFdW
import Derived.ShutString
namespace Go.Proofs.Ytehmjffbfgnijaa.findPeriods
open Go.ChangeShapes Go.WideShapes Go.ChangeAt Go.RowKit
open Go.ChangeMaps (open_string shut_string)
set_option linter.unusedVariables false      -- a walk need not use every 'w<i>' (that an integer argument fits its kind)

theorem own : ownKnob Try.prog.godebug = none := by kernel_rfl

open mem rows fd find
theorem pers_pos (p : Nat → Int) (L : Nat) (h : 0 < L) : 0 < (pers p L).length := by
  unfold pers
  rw [List.length_map, ch_pos p L L h]
  exact Nat.succ_pos _
theorem pers_len (p : Nat → Int) (L : Nat) : (pers p L).length ≤ L := by
  unfold pers
  rw [List.length_map]
  exact ch_len p L L L (Nat.le_refl _)
theorem pers_at (p : Nat → Int) (L k : Nat) (h : k < (pers p L).length) : ∃ a : Nat, (pers p L).getD k 0 = (a : Int) ∧ (a : Int) ∈ pers p L ∧ 0 < a ∧ a ≤ L := by
  have hm : (pers p L).getD k 0 ∈ pers p L := by
    rw [List.getD_eq_getElem?_getD, List.getElem?_eq_getElem h, Option.getD_some]
    exact List.getElem_mem h
  obtain ⟨x, hx, e⟩ := List.mem_map.1 (show (pers p L).getD k 0 ∈ (ch p L L).map _ from hm)
  have hx' := (mem_ch p L L L (Nat.le_refl _) (Nat.le_refl _) x).1 hx
  refine ⟨L - x, by rw [← e]; omega, ?_, by omega, by omega⟩
  rw [show ((L - x : Nat) : Int) = (pers p L).getD k 0 by rw [← e]; omega]
  exact hm
theorem gcd_step (G R : Nat) (hR : 0 < R) : Nat.gcd R (G % R) = Nat.gcd G R := by
  rw [Nat.gcd_comm G R, Nat.gcd_rec R G, Nat.gcd_comm]
set_option maxHeartbeats 4000000 in
set_option maxRecDepth 100000 in
theorem walk (a0 : ByteArray) (a1 : Int) (a2 : Int) (w0 : a0.size ≤ 140737488351232) (w1 : (Lit.int .i64 a1).wf = true) (w2 : (Lit.int .i64 a2).wf = true) (w : World) :
    Calls Try.prog 4 #[.string a0, .int .i64 a1, .int .i64 a2] w fun e w' => e = .returned (.bool true) ∧ Below w.heap.size w w' := by
  clear w0 w1 w2
  by_cases h0 : a0.size = 0
  · have hne : a0.toList.isEmpty = true := by rw [isEmpty_at]; exact decide_eq_true h0
    clear h0
    go_enter Try.func4, Try.ntmps4
    go_wp2_with (go_at_call 6; refine (found_at _).mono ?_; rintro e v1 ⟨rfl, hg1⟩)
    go_ret
    exact ⟨rfl, hg1⟩
  have hne : a0.toList.isEmpty = false := by rw [isEmpty_at]; exact decide_eq_false h0
  by_cases hs : a0.size ≤ 200
  · have hsz : ¬ (200 : Int) < (a0.size : Int) := by omega
    go_enter Try.func4, Try.ntmps4
    go_wp2_with (first
      | (go_at_call 6; refine (found_at _).mono ?_; rintro e v1 ⟨rfl, hg1⟩)
      | (go_at_call 11; refine (Borders_at a0 _ (by omega)).mono ?_; rintro e v2 ⟨bv, rfl, hbo, hg2⟩; obtain ⟨q, c, hve, hq⟩ := view_own hbo; rw [brs_len] at hve; subst hve; have HQ : Hid (In v2 q (brs (sb a0) a0.size a0.size)) := hq; clear hbo hq))
    obtain ⟨B, hB⟩ : ∃ B, B = v2.heap.size := ⟨_, rfl⟩
    have HB : Hid (B = v2.heap.size) := hB
    clear hB
    go_loopw [8, 9] (fun pv kv wr => ∃ (k : Nat) (Ps : List Int), k ≤ a0.size ∧ kv = .int .i64 (k : Int) ∧ Ps.length + k ≤ a0.size ∧ Hid (Ps ++ (ch (sb a0) a0.size k).map (fun (x : Nat) => (a0.size : Int) - (x : Int)) = pers (sb a0) a0.size) ∧ Own wr B pv Ps ∧ Bl v2 wr) (fun _ kv _ => (intOf kv).toNat)
    case atStart => exact ⟨a0.size, [], Nat.le_refl _, rfl, by simp, by rfl, Own.nil _ _, Bl.refl _⟩
    case round =>
      obtain ⟨k, Ps, hk, rfl, hPk, HP, hown, hbl⟩ := hrel
      rcases Nat.eq_zero_or_pos k with hk0 | hk0
      · subst hk0
        have hPs : Ps = pers (sb a0) a0.size := by
          have := HP.out
          rwa [ch_zero, List.map_nil, List.append_nil] at this
        subst hPs
        have hpp := pers_pos (sb a0) a0.size (by omega)
        have hpl := pers_len (sb a0) a0.size
        obtain ⟨M, hM⟩ : ∃ M, M = (pers (sb a0) a0.size).length := ⟨_, rfl⟩
        have c1 := fun w => pick_at a1 M w (by omega) (by omega)
        have c2 := fun w => pick_at a2 M w (by omega) (by omega)
        have e1 := pk_lt a1 M (by omega)
        have e2 := pk_lt a2 M (by omega)
        generalize pk a1 M = i1 at c1 e1
        generalize pk a2 M = i2 at c2 e2
        obtain ⟨A, hA, hAm, hA0, hAl⟩ := pers_at (sb a0) a0.size i1 (by omega)
        obtain ⟨D, hD, hDm, hD0, hDl⟩ := pers_at (sb a0) a0.size i2 (by omega)
        have HF : Hid _ := pers_fw (sb a0) a0.size A D hAm hDm
        have hvw := view_own hown
        have HV : Hid (View wr u8 (pers (sb a0) a0.size)) := hvw
        obtain ⟨p1, cp1, hve, hin⟩ := hvw
        obtain ⟨x, hx, hc1⟩ := hin.at i1 (by omega)
        obtain ⟨x', hx', hc2⟩ := hin.at i2 (by omega)
        rw [hA] at hc1
        rw [hD] at hc2
        rw [← hM] at hve hpp hpl
        have HM : Hid _ := hM
        clear hin hM hA hD hAm hDm HP
        subst hve
        subst hx
        obtain rfl : x = x' := by simpa using hx'
        clear hx'
        have g1 : 0 ≤ (i1 : Int) ∧ (i1 : Int) < (M : Int) := by omega
        have g2 : 0 ≤ (i2 : Int) ∧ (i2 : Int) < (M : Int) := by omega
        go_wp2
        go_quiet ((first | (go_at_call_of 12 (Value.int IntKind.i64 a1); exact Calls.quiet_of_same (c1 _)) | (go_at_call_of 12 (Value.int IntKind.i64 a2); exact Calls.quiet_of_same (c2 _))))
        clear c1 c2 hc1 hc2 g1 g2 e1 e2
        have hvq : Hid (View (wr.drewN nq) (Value.slice (some x) M cp1) (pers (sb a0) a0.size)) := HV.out.step (Dr.drewN nq (Dr.refl wr)).bl
        have hbq : Bl v2 (wr.drewN nq) := hbl.drewN nq
        generalize wr.drewN nq = wq at hvq hbq ⊢
        clear HV hown hbl
        go_wp2
        go_loopw [12, 13] (fun gv rv ws => ∃ G R : Nat, gv = .int .i64 (G : Int) ∧ rv = .int .i64 (R : Int) ∧ G ≤ a0.size ∧ R ≤ a0.size ∧ Hid (Nat.gcd G R = Nat.gcd A D) ∧ Dr wq ws) (fun _ rv _ => (intOf rv).toNat)
        case atStart => exact ⟨A, D, rfl, rfl, hAl, hDl, rfl, Dr.refl _⟩
        case round =>
          obtain ⟨G, R, rfl, rfl, hG, hR, HG, hd⟩ := hrel
          rcases Nat.eq_zero_or_pos R with hR0 | hR0
          · subst hR0
            have hGe : G = Nat.gcd A D := by have := HG.out; rwa [Nat.gcd_zero_right] at this
            have HGE : Hid _ := hGe
            have hGA : G ≤ A := by rw [hGe]; exact Nat.gcd_le_left D hA0
            clear HG hGe
            have t0 : ¬ (0 : Int) < 0 := by omega
            have hv2 := hvq.out.step hd.bl
            by_cases hbig : A + D ≤ a0.size + G
            · have hin := HF.out (by rw [← HGE.out]; exact hbig)
              rw [← HGE.out] at hin
              have cH := has_at _ _ _ wr hv2 (by rw [← HM.out]; omega) hin
              have t5 : ¬ (a0.size : Int) < (A : Int) + (D : Int) - (G : Int) := by omega
              clear hin hv2
              go_wp2_with (go_at_call 13; refine cH.mono ?_; rintro e v4 ⟨rfl, rfl⟩)
              go_ret
              exact ⟨rfl, (hg1.trans hg2).trans (hbq.trans hd.bl)⟩
            · have t5 : (a0.size : Int) < (A : Int) + (D : Int) - (G : Int) := by omega
              go_wp2
              go_ret
              exact ⟨rfl, (hg1.trans hg2).trans (hbq.trans hd.bl)⟩
          · have t1 : (0 : Int) < (R : Int) := by omega
            have t2 : ((R : Int) == 0) = false := by rw [beq_eq_false_iff_ne]; omega
            have t3 : (G : Int).tmod (R : Int) = ((G % R : Nat) : Int) := by rw [Int.tmod_eq_emod_of_nonneg (by omega)]; omega
            have HG2 : Hid (Nat.gcd R (G % R) = Nat.gcd A D) := by rw [Hid, gcd_step G R hR0]; exact HG.out
            have hlt := Nat.mod_lt G hR0
            generalize G % R = S at t3 HG2 hlt
            clear HG
            have t4 : IntKind.i64.wrap (S : Int) = (S : Int) := by rw [IntKind.wrap_i64]; omega
            go_wp2
            go_quiet (fail)
            go_wp2
            go_roundw
            case rel => exact ⟨R, S, rfl, rfl, hR, by omega, HG2, Dr.drewN _ hd⟩
            case measure => simp [intOf]; omega
      · obtain ⟨j, rfl⟩ : ∃ j, k = j + 1 := ⟨k - 1, by omega⟩
        obtain ⟨x, rfl, hc⟩ := (HQ.out.step hbl).at j (by rw [brs_len]; omega)
        rw [brs_at _ _ _ _ (by omega)] at hc
        have hle := lg_le' (sb a0) (tl (sb a0)) a0.size j
        have HP2 : Hid _ := HP.out
        rw [ch_pos _ _ _ hk0, Nat.add_sub_cancel] at HP2
        generalize lg (sb a0) (tl (sb a0)) a0.size j = b at hc hle HP2
        have HP3 : Hid ((Ps ++ [(a0.size : Int) - (b : Int)]) ++ (ch (sb a0) a0.size b).map (fun (x : Nat) => (a0.size : Int) - (x : Int)) = pers (sb a0) a0.size) := by
          have := HP2.out
          rw [List.map_cons] at this
          rw [Hid, List.append_assoc]
          exact this
        clear HP HP2
        obtain ⟨p1, c1, hve, -⟩ := view_own hown
        obtain ⟨M, hM⟩ : ∃ M, M = Ps.length := ⟨_, rfl⟩
        rw [← hM] at hve hPk
        have HM : Hid (M = Ps.length) := hM
        subst hve
        have g1 : (0 : Int) < (j : Int) + 1 := by omega
        have g2 : (M : Int) ≤ (a0.size : Int) := by omega
        have g3 : ¬ (b : Int) < 0 := by omega
        have g4 : ¬ (a0.size : Int) ≤ (b : Int) := by omega
        clear hM
        obtain ⟨d, hd⟩ : ∃ d : Int, d = (a0.size : Int) - (b : Int) := ⟨_, rfl⟩
        rw [← hd] at HP3
        have hdi : (a0.size : Int) - (b : Int) = d := hd.symm
        clear hd
        go_wp2_with (at_builtin; refine wpL_app rfl (.tmp 54) (.tmp 59) rfl rfl _ _ d wr.heap.size rfl rfl B (hown.step ((Bl.refl _).alloc _)) (by go_simp) (by rw [← HM.out]; omega) (by have := hbl.size; have := HB.out; simp; omega) ?_; intro v' w4 ho3 hg3 hv3; have hb3 : Bl v2 w4 := bl_grown (hbl.alloc _) hg3 (fun j e => by rw [← HB.out]; exact (hown.block j e).1); clear hg3 hv3)
        go_roundw
        case rel => exact ⟨b, Ps ++ [d], by omega, rfl, by rw [List.length_append, ← HM.out]; simp; omega, HP3, ho3, hb3⟩
        case measure => simp [intOf]; omega
  · have hsz : (200 : Int) < (a0.size : Int) := by omega
    go_enter Try.func4, Try.ntmps4
    go_wp2_with (go_at_call 6; refine (found_at _).mono ?_; rintro e v1 ⟨rfl, hg1⟩)
    go_ret
    exact ⟨rfl, hg1⟩

set_option maxRecDepth 100000 in
theorem lifted (os : Os) (started : os.Started) (H : Type) (enc : TypeId × Value → H) :
    ReturnsInHanded {} Try.checked os 4 .any (Rows.findPeriodsSpec.pre6 enc Try.prog Try.f4 Rows.findPeriodsRow.domain false) (Rows.findPeriodsSpec.post enc Try.prog Try.f4 false true false false) := by
  refine returnsInHanded_of_change_sized (C := Try.checked) own started (by kernel_rfl) Try.func4
    (ChangeSpec.witness6 (enc := enc) (C := Try.checked) false ⟨#[], #[.string ByteArray.empty, .int .i64 0, .int .i64 0], []⟩ 8 (by kernel_rfl) (by kernel_rfl) (by kernel_rfl) (by kernel_rfl)) ?_
  intro W base args ds gs before hval0 hW hcnd hsz0 _
  have hval : ∀ (j : Nat) t v, Try.f4.params[j]? = some t → args[j]? = some v → Value.okWide Try.prog W .any base t v := hval0
  have hW' := hW
  obtain ⟨p, q, hA0, hV, rfl, hfz, hnd⟩ := hW
  have hA : DataW.TrodAll enc Try.prog W 0 (fun _ => true) true Try.f4.params.toList args.toList ds p := hA0
  have hsz : (DataW.weightsEach Try.prog (Try.f4.params.toList ++ Rows.findPeriodsSpec.plain.varTypes Try.prog) (ds ++ gs)).all (· ≤ reachBytes) = true := hsz0
  rw [Try.params4] at hA hval hsz
  obtain ⟨v0, vs0, d0, ds0, p0, q0, hargs, rfl, rfl, h0, r0⟩ := trodAll_cons hA
  obtain ⟨v1, vs1, d1, ds1, p1, q1, rfl, rfl, rfl, h1, r1⟩ := trodAll_cons r0
  obtain ⟨v2, vs2, d2, ds2, p2, q2, rfl, rfl, rfl, h2, r2⟩ := trodAll_cons r1
  obtain ⟨rfl, rfl, rfl⟩ := trodAll_nil r2
  obtain rfl : args = #[v0, v1, v2] := by cases args; simp_all
  obtain ⟨rfl, rfl⟩ := trodVars_none hV
  obtain ⟨a0, rfl, rfl, rfl, w0⟩ := open_string Try.underlying9 (hval 0 9 v0 rfl rfl) h0
  have z0 : a0.size ≤ 140737488351232 := sized_string hsz (j := 0) (t := 9) rfl rfl
  obtain ⟨a1, rfl, rfl, rfl, w1⟩ := open_int Try.underlying3 (hval 1 3 v1 rfl rfl) h1
  obtain ⟨a2, rfl, rfl, rfl, w2⟩ := open_int Try.underlying3 (hval 2 3 v2 rfl rfl) h2
  clear hA0 hval0 hsz0 hsz
  simp only [List.append_nil] at hW'
  refine (walk a0 a1 a2 z0 w1 w2 W).mono fun e W' ⟨he, hg⟩ => ?_
  subst he
  exact ⟨_, rfl, _, _, _, [], [], [], hW', (trodAll_cons_mk (shut_bool Try.underlying4 _) trodAll_mk0), (trodAll_cons_mk (shut_string Try.underlying9 w0) (trodAll_cons_mk (shut_int Try.underlying3 w1) (trodAll_cons_mk (shut_int Try.underlying3 w2) trodAll_mk0))), rfl, hg.frame _, fun h => by cases h⟩

theorem over : Rows.findPeriodsRow.holds Try.pinned (OpenSpec.ofChange Rows.findPeriodsSpec) :=
  OpenClaim.holds_of_wide 4 Try.f4 rfl rfl rfl rfl rfl rfl rfl ⟨rfl, rfl, rfl, rfl, rfl⟩ rfl rfl rfl rfl rfl (by kernel_rfl) Try.func4 (by kernel_rfl)
    (of_decide_eq_true (by kernel_rfl)) (by unfold Func.isWrapper; first | (rw [if_pos (by decide +kernel)]; kernel_rfl) | (rw [if_neg (by decide +kernel)]; exact ⟨rfl, rfl⟩))
    (fun os started H enc _ => lifted os started H enc)

end Go.Proofs.Ytehmjffbfgnijaa.findPeriods
namespace Go.Proofs.Ytehmjffbfgnijaa
/-- The given statement. -/
theorem findPeriods_holds : Rows.FindPeriodsSaid := findPeriods.over
#print axioms findPeriods_holds
end Go.Proofs.Ytehmjffbfgnijaa
