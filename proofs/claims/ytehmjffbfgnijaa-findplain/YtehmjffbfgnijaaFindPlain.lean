/- FindPlain: a pattern of half bytes, none of which is open, stands where its bytes do; and with one more open it stands at no fewer places: for every input. -/
import Derived.Test.YtehmjffbfgnijaaRows
import Derived.WalkKit
import Derived.ProofKit
import Derived.OpenShut
import Derived.SizedLaws
import Derived.Test.YtehmjffbfgnijaaFd7
import Derived.Test.YtehmjffbfgnijaaFdW
import Derived.Test.YtehmjffbfgnijaaFd8
import Derived.ShutString
namespace Go.Proofs.Ytehmjffbfgnijaa.findPlain
open Go.ChangeShapes Go.WideShapes Go.ChangeAt Go.RowKit
open Go.ChangeMaps (open_string shut_string)
set_option linter.unusedVariables false      -- a walk need not use every 'w<i>' (that an integer argument fits its kind)

theorem own : ownKnob Try.prog.godebug = none := by kernel_rfl

open mem rows fd find
theorem and15u (n : Nat) (h : n < 256) : bits .and .u8 (n : Int) 15 = ((n % 16 : Nat) : Int) := by
  have : ∀ n : Fin 256, bits .and .u8 ((n.1 : Nat) : Int) 15 = ((n.1 % 16 : Nat) : Int) := by decide +kernel
  exact this ⟨n, h⟩
set_option maxHeartbeats 4000000 in
set_option maxRecDepth 100000 in
theorem walk (a0 : ByteArray) (a1 : ByteArray) (a2 : Int) (w0 : a0.size ≤ 140737488351232) (w1 : a1.size ≤ 140737488351232) (w2 : (Lit.int .i64 a2).wf = true) (w : World) :
    Calls Try.prog 5 #[.string a0, .string a1, .int .i64 a2] w fun e w' => e = .returned (.bool true) ∧ Below w.heap.size w w' := by
  clear w0 w1 w2
  by_cases h0 : a1.size = 0
  · have hne : a1.toList.isEmpty = true := by rw [isEmpty_at]; exact decide_eq_true h0
    clear h0
    go_enter Try.func5, Try.ntmps5
    go_wp2_with (go_at_call 6; refine (found_at _).mono ?_; rintro e v1 ⟨rfl, hg1⟩)
    go_ret
    exact ⟨rfl, hg1⟩
  have hne : a1.toList.isEmpty = false := by rw [isEmpty_at]; exact decide_eq_false h0
  by_cases hs1 : a1.size ≤ 60
  · by_cases hs0 : a0.size ≤ 300
    · have hz1 : ¬ (60 : Int) < (a1.size : Int) := by omega
      have hz0 : ¬ (300 : Int) < (a0.size : Int) := by omega
      have hz1d : decide ((60 : Int) < (a1.size : Int)) = false := decide_eq_false hz1
      have hz0d : decide ((300 : Int) < (a0.size : Int)) = false := decide_eq_false hz0
      go_enter Try.func5, Try.ntmps5
      go_wp2_with (go_at_call 6; refine (found_at _).mono ?_; rintro e v1 ⟨rfl, hg1⟩)
      obtain ⟨B, hB⟩ : ∃ B, B = v1.heap.size := ⟨_, rfl⟩
      have HB : Hid (B = v1.heap.size) := hB
      clear hB
      go_loopw [7, 8] (fun mv i wr => ∃ k : Nat, k ≤ a1.size ∧ i = .int .i64 (k : Int) ∧ Own wr B mv (mk (sb a1) k) ∧ Bl v1 wr) (fun _ i _ => a1.size - (intOf i).toNat)
      case atStart => exact ⟨0, Nat.zero_le _, rfl, Own.nil _ _, Bl.refl _⟩
      case round =>
        obtain ⟨k, hk, rfl, hown, hbl⟩ := hrel
        by_cases hlt : k < a1.size
        · have hlz : (k : Int) < (a1.size : Int) := by omega
          have hgk : (((a1[k]'hlt).toNat : Nat) : Int) = sb a1 k := (sb_get a1 k hlt).symm
          have hbd := sb_bd a1 k
          obtain ⟨b, hb⟩ := Int.eq_ofNat_of_zero_le hbd.1
          have hmk : mk (sb a1) (k + 1) = mk (sb a1) k ++ [((b / 16 : Nat) : Int), ((b % 16 : Nat) : Int)] := by rw [mk, hb]; rfl
          have HK : Hid _ := hmk
          have q1 := and15u b (by omega)
          have q2 : (b : Int) / 16 = ((b / 16 : Nat) : Int) := by omega
          have hl := mk_len (sb a1) k
          have hr16 : b % 16 < 16 := Nat.mod_lt _ (by decide)
          have hd16 : b / 16 < 16 := by omega
          generalize b % 16 = z2 at q1 HK hr16
          generalize b / 16 = z1 at q2 HK hd16
          rw [hb] at hgk hbd
          obtain ⟨v', w3, hr, ho3, hg3⟩ := appM_two (wr.alloc (.cells #[.int .i64 (z1 : Int), .int .i64 (z2 : Int)] 3)).drew B u7 (mk (sb a1) k) z1 z2 wr.heap.size (hown.step (Bl.drew (Bl.alloc (Bl.refl _) _))) (by go_simp) (by go_simp) (by omega) (by have := hbl.size; have := HB.out; simp; omega)
          have HR : Hid _ := hr
          have hb3 : Bl v1 w3 := bl_grown (Bl.drew (Bl.alloc hbl _)) hg3 (fun j e => by rw [← HB.out]; exact (hown.block j e).1)
          clear hmk hb hg3 hr hl
          have i0 : (0 : Int) ≤ (k : Int) := by omega
          have q3 : IntKind.i64.wrap (z1 : Int) = (z1 : Int) := by rw [IntKind.wrap_i64]; omega
          have q4 : IntKind.i64.wrap (z2 : Int) = (z2 : Int) := by rw [IntKind.wrap_i64]; omega
          go_wp2
          go_region_held3 (fun _ => True) (trivial) (refine step_append_run rfl (.tmp 37) (.tmp 48) _ _ rfl _ _ rfl rfl v' w3 HR.out ?_)
          all_goals go_wp2
          all_goals go_roundw
          all_goals first | exact ⟨k + 1, by omega, by go_num, by rw [HK.out]; exact ho3, hb3⟩ | (simp [intOf]; omega)
        · have hnl : ¬ ((k : Int) < (a1.size : Int)) := by omega
          have hke : k = a1.size := by omega
          subst hke
          have hl := mk_len (sb a1) a1.size
          rcases hown.shape with ⟨_, he⟩ | ⟨g, cap, hve, hBg, hgl, _, _, hcells⟩
          · rw [he] at hl; simp at hl; omega
          rw [hl] at hve hcells
          subst hve
          have hvw := view_own hown
          have cA := All_at a0 a1 wr (by omega) (by omega) (by omega)
          go_wp2_with (fail)
          refine cA.mono ?_
          rintro e w5 ⟨av, rfl, ha5, hb5⟩
          clear cA
          have cL := Like_at a0 _ (mk (sb a1) a1.size) a1.size w5 (by omega) (hvw.step hb5) hl (by omega) (by omega)
          go_wp2_with (fail)
          refine cL.mono ?_
          rintro e w6 ⟨bv, rfl, hb6, hbb6⟩
          clear cL
          have cP := fun w => pick_at a2 (2 * a1.size) w (by omega) (by omega)
          have hi := pk_lt a2 (2 * a1.size) (by omega)
          generalize pk a2 (2 * a1.size) = i at cP hi
          have hm6 := (hown.step hb5).step hbb6
          have hc := hcells i hi
          have hc6 := at_bl hbb6 (at_bl hb5 hc)
          have hf6 := own_frozen hm6 i
          rw [show ((2 * a1.size : Nat) : Int) = 2 * (a1.size : Int) by omega] at cP
          have i0 : 0 ≤ (i : Int) ∧ (i : Int) < 2 * (a1.size : Int) := by omega
          go_wp2_with (fail)
          refine (cP _).mono ?_
          rintro e w7 ⟨rfl, rfl⟩
          have hm7 := own_set hm6 i (-1) (by rw [hl]; exact hi)
          have ha7 := own_other (a := ⟨g, i, none⟩) (ha5.step hbb6) (fun e => by have := (ha5.block g e).1; omega) (.int .i64 (-1))
          have hb7 := own_other (a := ⟨g, i, none⟩) hb6 (fun e => by have := (hb6.block g e).1; have := hb5.size; omega) (.int .i64 (-1))
          have hB7 : Bl v1 (w7.setCell ⟨g, i, none⟩ (.int .i64 (-1))) := Bl.setCell ((hbl.trans hb5).trans hbb6) (by rw [← HB.out]; exact hBg) _
          have cL := Like_at a0 _ ((mk (sb a1) a1.size).set i (-1)) a1.size (w7.setCell ⟨g, i, none⟩ (.int .i64 (-1))) (by omega) (view_own hm7) (by rw [List.length_set]; exact hl) (by omega) (by omega)
          have hsub := fun x => lks_more (mk (sb a1) a1.size) i (sb a0) a1.size a0.size x
          have hse : lks (mfn (mk (sb a1) a1.size)) (sb a0) a1.size a0.size = pls (sb a1) (sb a0) a1.size a0.size := mk_lks _ _ _ _ (fun j => (sb_bd a1 j).1) (fun j => (sb_bd a0 j).1)
          have hlen := pls_len (sb a1) (sb a0) a1.size a0.size (by omega)
          have hlen2 := lks_len (mfn ((mk (sb a1) a1.size).set i (-1))) (sb a0) a1.size a0.size (by omega)
          rw [hse] at hb7 hsub
          generalize pls (sb a1) (sb a0) a1.size a0.size = Pl at *
          generalize lks (mfn ((mk (sb a1) a1.size).set i (-1))) (sb a0) a1.size a0.size = Cl at *
          generalize (mk (sb a1) a1.size).getD i 0 = z at hc6
          clear hse hb6 ha5 hm6 hm7 hc hcells hown hvw hl
          go_wp2_with (fail)
          generalize w7.setCell ⟨g, i, none⟩ (.int .i64 (-1)) = w8 at *
          refine cL.mono ?_
          rintro e w9 ⟨cv, rfl, hc9, hb9⟩
          clear cL hc6 hf6
          have va := (view_own ha7).step hb9
          have vb := (view_own hb7).step hb9
          have vc := view_own hc9
          have hB9 := hB7.trans hb9
          clear ha7 hb7 hc9
          have vb2 := vb
          obtain ⟨q, cp, hve, hq⟩ := vb
          rw [ints_len] at hve
          obtain ⟨m, hm⟩ : ∃ m, m = Pl.length := ⟨_, rfl⟩
          rw [← hm] at hve hlen
          have HM : Hid _ := hm
          have HQ : Hid (In w9 q (ints Pl)) := hq
          clear hm hq
          subst hve
          go_wp2_with (fail)
          go_loop [76] (fun iv => ∃ k : Nat, k ≤ m ∧ iv = .int .i64 (k : Int)) (fun iv => m - (intOf iv).toNat)
          case atStart => exact ⟨0, Nat.zero_le _, rfl⟩
          case round =>
            obtain ⟨k, hk, rfl⟩ := hrel
            by_cases hlt : k < m
            · have hlz : (k : Int) < (m : Int) := by omega
              obtain ⟨x, rfl, hcx⟩ := HQ.out.at k (by rw [ints_len, ← HM.out]; exact hlt)
              have hmem : (ints Pl).getD k 0 ∈ ints Cl := by
                have hk2 : k < Pl.length := by rw [← HM.out]; exact hlt
                have e : (ints Pl).getD k 0 = ((Pl[k]'hk2 : Nat) : Int) := by simp [ints, hk2]
                rw [e]
                exact List.mem_map.2 ⟨_, hsub _ (List.getElem_mem hk2), rfl⟩
              have cH := has_at cv (ints Cl) _ w9 vc (by rw [ints_len]; omega) hmem
              generalize (ints Pl).getD k 0 = z at hcx cH
              go_wp2_with (go_at_call 13; refine cH.mono ?_; rintro e w10 ⟨rfl, rfl⟩)
              go_round
              case rel => exact ⟨k + 1, by omega, by go_num⟩
              case measure => simp [intOf]; omega
            · have hnl : ¬ ((k : Int) < (m : Int)) := by omega
              have cE := equal_at av _ (ints Pl) w9 va vb2 (by rw [ints_len, ← HM.out]; omega)
              go_wp2_with (go_at_call 10; refine cE.mono ?_; rintro e w10 ⟨rfl, hb10⟩)
              go_ret
              exact ⟨rfl, (hg1.trans hB9).trans hb10⟩
    · have hz0 : (300 : Int) < (a0.size : Int) := by omega
      have hz1 : ¬ (60 : Int) < (a1.size : Int) := by omega
      go_enter Try.func5, Try.ntmps5
      go_wp2_with (go_at_call 6; refine (found_at _).mono ?_; rintro e v1 ⟨rfl, hg1⟩)
      go_ret
      exact ⟨rfl, hg1⟩
  · have hz1 : (60 : Int) < (a1.size : Int) := by omega
    go_enter Try.func5, Try.ntmps5
    go_wp2_with (go_at_call 6; refine (found_at _).mono ?_; rintro e v1 ⟨rfl, hg1⟩)
    go_ret
    exact ⟨rfl, hg1⟩

set_option maxRecDepth 100000 in
theorem lifted (os : Os) (started : os.Started) (H : Type) (enc : TypeId × Value → H) :
    ReturnsInHanded {} Try.checked os 5 .any (Rows.findPlainSpec.pre6 enc Try.prog Try.f5 Rows.findPlainRow.domain false) (Rows.findPlainSpec.post enc Try.prog Try.f5 false true false false) := by
  refine returnsInHanded_of_change_sized (C := Try.checked) own started (by kernel_rfl) Try.func5
    (ChangeSpec.witness6 (enc := enc) (C := Try.checked) false ⟨#[], #[.string ByteArray.empty, .string ByteArray.empty, .int .i64 0], []⟩ 8 (by kernel_rfl) (by kernel_rfl) (by kernel_rfl) (by kernel_rfl)) ?_
  intro W base args ds gs before hval0 hW hcnd hsz0 _
  have hval : ∀ (j : Nat) t v, Try.f5.params[j]? = some t → args[j]? = some v → Value.okWide Try.prog W .any base t v := hval0
  have hW' := hW
  obtain ⟨p, q, hA0, hV, rfl, hfz, hnd⟩ := hW
  have hA : DataW.TrodAll enc Try.prog W 0 (fun _ => true) true Try.f5.params.toList args.toList ds p := hA0
  have hsz : (DataW.weightsEach Try.prog (Try.f5.params.toList ++ Rows.findPlainSpec.plain.varTypes Try.prog) (ds ++ gs)).all (· ≤ reachBytes) = true := hsz0
  rw [Try.params5] at hA hval hsz
  obtain ⟨v0, vs0, d0, ds0, p0, q0, hargs, rfl, rfl, h0, r0⟩ := trodAll_cons hA
  obtain ⟨v1, vs1, d1, ds1, p1, q1, rfl, rfl, rfl, h1, r1⟩ := trodAll_cons r0
  obtain ⟨v2, vs2, d2, ds2, p2, q2, rfl, rfl, rfl, h2, r2⟩ := trodAll_cons r1
  obtain ⟨rfl, rfl, rfl⟩ := trodAll_nil r2
  obtain rfl : args = #[v0, v1, v2] := by cases args; simp_all
  obtain ⟨rfl, rfl⟩ := trodVars_none hV
  obtain ⟨a0, rfl, rfl, rfl, w0⟩ := open_string Try.underlying9 (hval 0 9 v0 rfl rfl) h0
  have z0 : a0.size ≤ 140737488351232 := sized_string hsz (j := 0) (t := 9) rfl rfl
  obtain ⟨a1, rfl, rfl, rfl, w1⟩ := open_string Try.underlying9 (hval 1 9 v1 rfl rfl) h1
  have z1 : a1.size ≤ 140737488351232 := sized_string hsz (j := 1) (t := 9) rfl rfl
  obtain ⟨a2, rfl, rfl, rfl, w2⟩ := open_int Try.underlying3 (hval 2 3 v2 rfl rfl) h2
  clear hA0 hval0 hsz0 hsz
  simp only [List.append_nil] at hW'
  refine (walk a0 a1 a2 z0 z1 w2 W).mono fun e W' ⟨he, hg⟩ => ?_
  subst he
  exact ⟨_, rfl, _, _, _, [], [], [], hW', (trodAll_cons_mk (shut_bool Try.underlying4 _) trodAll_mk0), (trodAll_cons_mk (shut_string Try.underlying9 w0) (trodAll_cons_mk (shut_string Try.underlying9 w1) (trodAll_cons_mk (shut_int Try.underlying3 w2) trodAll_mk0))), rfl, hg.frame _, fun h => by cases h⟩

theorem over : Rows.findPlainRow.holds Try.pinned (OpenSpec.ofChange Rows.findPlainSpec) :=
  OpenClaim.holds_of_wide 5 Try.f5 rfl rfl rfl rfl rfl rfl rfl ⟨rfl, rfl, rfl, rfl, rfl⟩ rfl rfl rfl rfl rfl (by kernel_rfl) Try.func5 (by kernel_rfl)
    (of_decide_eq_true (by kernel_rfl)) (by unfold Func.isWrapper; first | (rw [if_pos (by decide +kernel)]; kernel_rfl) | (rw [if_neg (by decide +kernel)]; exact ⟨rfl, rfl⟩))
    (fun os started H enc _ => lifted os started H enc)

end Go.Proofs.Ytehmjffbfgnijaa.findPlain
namespace Go.Proofs.Ytehmjffbfgnijaa
/-- The given statement. -/
theorem findPlain_holds : Rows.FindPlainSaid := findPlain.over
#print axioms findPlain_holds
end Go.Proofs.Ytehmjffbfgnijaa
