/- SuffixFinds: BY HALVING, OR BY GOING ON: a pattern is found where it stands, either way; and a text has more parts with a byte more, by no more than it has bytes then: for every input. -/
import Derived.Test.YtnhdaolieifhnaaRows
import Derived.WalkKit
import Derived.ProofKit
import Derived.OpenShut
import Derived.SizedLaws
import Derived.Test.YtnhdaolieifhnaaSx9
import Derived.Test.YtnhdaolieifhnaaSxH
import Derived.ShutString
namespace Go.Proofs.Ytnhdaolieifhnaa.suffixFinds
open Go.ChangeShapes Go.WideShapes Go.ChangeAt Go.RowKit
open Go.ChangeMaps (open_string shut_string)
set_option linter.unusedVariables false      -- a walk need not use every 'w<i>' (that an integer argument fits its kind)

theorem own : ownKnob Try.prog.godebug = none := by kernel_rfl

open mem rows fd find sx
theorem sb_app (a b : ByteArray) (k : Nat) (h : k < a.size) : sb (a ++ b) k = sb a k := by
  unfold sb
  have h1 : k < a.data.toList.length := h
  have e : (a ++ b).data.toList = a.data.toList ++ b.data.toList := by rw [ByteArray.data_append]; simp
  rw [e, List.getD_eq_getElem?_getD, List.getElem?_append_left h1, ← List.getD_eq_getElem?_getD]
theorem gs_app (a b : ByteArray) (k : Nat) (h : k < a.size) : gs a k = gs (a ++ b) k := by
  rw [gs_at _ _ h, gs_at _ _ (by rw [ByteArray.size_append]; omega), sb_app a b k h]
theorem prt_bd (s : ByteArray) (L : List Nat) (hs : s.size ≤ 4000) (hL : IsSort (gs s) s.size L) : (prt (gs s) s.size L).length ≤ 20000000 := by
  have h1 := len_prt (gs_tx s) hL
  have h2 := sumTo_bd (com (gs s) s.size L) s.size (by omega) (com_bd _ _ _) s.size
  rw [sumTo_all _ _ (com_len _ _ _)] at h2
  have h3 := (half s.size hs).2.1
  omega
set_option maxHeartbeats 4000000 in
set_option maxRecDepth 100000 in
theorem walk (a0 : ByteArray) (a1 : ByteArray) (a2 : Int) (w0 : a0.size ≤ 140737488351232) (w1 : a1.size ≤ 140737488351232) (w2 : (Lit.int .u8 a2).wf = true) (w : World) :
    Calls Try.prog 4 #[.string a0, .string a1, .int .u8 a2] w fun e w' => e = .returned (.bool true) ∧ Below w.heap.size w w' := by
  clear w0 w1
  by_cases h0 : a1.size = 0
  · have hne : a1.toList.isEmpty = true := by rw [isEmpty_at]; exact decide_eq_true h0
    clear h0
    go_enter Try.func4, Try.ntmps4
    go_wp2_with (fail)
    refine (sorted_at _).mono ?_
    rintro e v1 ⟨rfl, hg1⟩
    go_wp2_with (fail)
    refine (found_at _).mono ?_
    rintro e v2 ⟨rfl, hg2⟩
    go_wp2
    go_ret
    exact ⟨rfl, hg1.trans hg2⟩
  have hne : a1.toList.isEmpty = false := by rw [isEmpty_at]; exact decide_eq_false h0
  by_cases hs1 : a1.size ≤ 60
  · by_cases hs0 : a0.size ≤ 200
    · have hz1 : ¬ (60 : Int) < (a1.size : Int) := by omega
      have hz0 : ¬ (200 : Int) < (a0.size : Int) := by omega
      have hz1d : decide ((60 : Int) < (a1.size : Int)) = false := decide_eq_false hz1
      have hz0d : decide ((200 : Int) < (a0.size : Int)) = false := decide_eq_false hz0
      go_enter Try.func4, Try.ntmps4
      go_wp2_with (fail)
      refine (sorted_at _).mono ?_
      rintro e v1 ⟨rfl, hg1⟩
      go_wp2_with (fail)
      refine (found_at _).mono ?_
      rintro e v2 ⟨rfl, hg2⟩
      go_wp2_with (fail)
      refine (Find_at a0 a1 _ (by omega) (by omega)).mono ?_
      rintro e v3 ⟨x3, rfl, ho3, hg3⟩
      go_wp2_with (fail)
      refine (All_at a0 a1 _ (by omega) (by omega) (by omega)).mono ?_
      rintro e v4 ⟨x4, rfl, ho4, hg4⟩
      go_wp2_with (fail)
      refine (Parts_at a0 _ (by omega)).mono ?_
      rintro e v5 ⟨n, rfl, hg5, L, hL, hn⟩
      have hbn := prt_bd a0 L (by omega) hL
      obtain ⟨T, hT⟩ : ∃ T, T = strOfNums [a2] := ⟨_, rfl⟩
      have hTs : T.size = 1 := by rw [hT, strOfNums_size]; rfl
      have hcv : (convert 33 9 (.slice (some ⟨v5.heap.size, 0, none⟩) 1 1)).run Try.prog (v5.alloc (.cells #[.int .u8 a2] 5)) = .ok (.string T) (v5.alloc (.cells #[.int .u8 a2] 5)) := by
        rw [hT]
        exact run_convert_bytes_arg _ 33 5 Try.underlying33 Try.underlying5 v5.heap.size 0 1 1 [a2] rfl (fun i hi => by
          obtain rfl : i = 0 := by simp at hi; omega
          simp) 9 Try.underlying9
      obtain ⟨S, hS⟩ : ∃ S, a0 ++ T = S := ⟨_, rfl⟩
      have hSs : S.size = a0.size + 1 := by rw [← hS, ByteArray.size_append, hTs]
      have hSg : ∀ k, k < a0.size → gs a0 k = gs S k := fun k hk => by rw [← hS]; exact gs_app a0 T k hk
      have hlen : ¬ (9223372036854775807 : Int) < (a0.size : Int) + (T.size : Int) := by omega
      have hlen2 : ¬ 9223372036854775807 < a0.size + T.size := by omega
      clear hT
      have HL : Hid (IsSort (gs a0) a0.size L ∧ n = (prt (gs a0) a0.size L).length) := ⟨hL, hn⟩
      rw [← hn] at hbn
      have HSg : Hid (∀ k, k < a0.size → gs a0 k = gs S k) := hSg
      have HSs : Hid (S.size = a0.size + 1) := hSs
      clear hL hn hSg
      go_wp2_with (fail)
      refine (Parts_at S _ (by omega)).mono ?_
      rintro e v6 ⟨m, rfl, hg6, L', hL', hm⟩
      have hbm := prt_bd S L' (by omega) hL'
      rw [← hm] at hbm
      have hmore : n < m ∧ m ≤ n + (a0.size + 1) := by
        have h1 := gs_tx S
        rw [HSs.out] at h1 hL' hm
        rw [HL.out.2, hm]
        exact prt_more (gs_tx a0) h1 HL.out.1 hL' HSg.out
      have hb6 : Bl v5 v6 := ((Bl.refl _).alloc _).trans hg6
      have hll := pls_len (sb a1) (sb a0) a1.size a0.size (by omega)
      have cE := equal_at x3 x4 (ints (pls (sb a1) (sb a0) a1.size a0.size)) v6 ((view_own ho3).step ((hg4.trans hg5).trans hb6)) ((view_own ho4).step (hg5.trans hb6)) (by rw [ints_len]; omega)
      have t1 : ¬ (m : Int) ≤ (n : Int) - 1 := by omega
      have t2 : (m : Int) ≤ (n : Int) + (a0.size : Int) + 1 := by omega
      have t3 : ¬ (m : Int) ≤ (n : Int) := by omega
      have u1 : decide ((n : Int) - 1 < (m : Int)) = true := decide_eq_true (by omega)
      have u2 : decide ((m : Int) ≤ (n : Int) + (a0.size : Int) + 1) = true := decide_eq_true (by omega)
      have u3 : decide ((n : Int) < (m : Int)) = true := decide_eq_true (by omega)
      have HB : Hid (Bl w v6) := ((((hg1.trans hg2).trans hg3).trans hg4).trans hg5).trans hb6
      clear hL' hm hmore hg1 hg2 hg3 hg4 hg5 hg6 hb6 ho3 ho4 hcv hll hS hSs hlen hlen2
      go_wp2_with (fail)
      refine cE.mono ?_
      rintro e v7 ⟨rfl, hg7⟩
      go_wp2
      go_ret
      exact ⟨rfl, HB.out.trans hg7⟩
    · have hz0 : (200 : Int) < (a0.size : Int) := by omega
      have hz1 : ¬ (60 : Int) < (a1.size : Int) := by omega
      have hz1d : decide ((60 : Int) < (a1.size : Int)) = false := decide_eq_false hz1
      go_enter Try.func4, Try.ntmps4
      go_wp2_with (fail)
      refine (sorted_at _).mono ?_
      rintro e v1 ⟨rfl, hg1⟩
      go_wp2_with (fail)
      refine (found_at _).mono ?_
      rintro e v2 ⟨rfl, hg2⟩
      go_wp2
      go_ret
      exact ⟨rfl, hg1.trans hg2⟩
  · have hz1 : (60 : Int) < (a1.size : Int) := by omega
    go_enter Try.func4, Try.ntmps4
    go_wp2_with (fail)
    refine (sorted_at _).mono ?_
    rintro e v1 ⟨rfl, hg1⟩
    go_wp2_with (fail)
    refine (found_at _).mono ?_
    rintro e v2 ⟨rfl, hg2⟩
    go_wp2
    go_ret
    exact ⟨rfl, hg1.trans hg2⟩

set_option maxRecDepth 100000 in
theorem lifted (os : Os) (started : os.Started) (H : Type) (enc : TypeId × Value → H) :
    ReturnsInHanded {} Try.checked os 4 .any (Rows.suffixFindsSpec.pre6 enc Try.prog Try.f4 Rows.suffixFindsRow.domain false) (Rows.suffixFindsSpec.post enc Try.prog Try.f4 false true false false) := by
  refine returnsInHanded_of_change_sized (C := Try.checked) own started (by kernel_rfl) Try.func4
    (ChangeSpec.witness6 (enc := enc) (C := Try.checked) false ⟨#[], #[.string ByteArray.empty, .string ByteArray.empty, .int .u8 0], []⟩ 8 (by kernel_rfl) (by kernel_rfl) (by kernel_rfl) (by kernel_rfl)) ?_
  intro W base args ds gs before hval0 hW hcnd hsz0 _
  have hval : ∀ (j : Nat) t v, Try.f4.params[j]? = some t → args[j]? = some v → Value.okWide Try.prog W .any base t v := hval0
  have hW' := hW
  obtain ⟨p, q, hA0, hV, rfl, hfz, hnd⟩ := hW
  have hA : DataW.TrodAll enc Try.prog W 0 (fun _ => true) true Try.f4.params.toList args.toList ds p := hA0
  have hsz : (DataW.weightsEach Try.prog (Try.f4.params.toList ++ Rows.suffixFindsSpec.plain.varTypes Try.prog) (ds ++ gs)).all (· ≤ reachBytes) = true := hsz0
  rw [Try.params4] at hA hval hsz
  obtain ⟨v0, vs0, d0, ds0, p0, q0, hargs, rfl, rfl, h0, r0⟩ := trodAll_cons hA
  obtain ⟨v1, vs1, d1, ds1, p1, q1, rfl, rfl, rfl, h1, r1⟩ := trodAll_cons r0
  obtain ⟨v2, vs2, d2, ds2, p2, q2, rfl, rfl, rfl, h2, r2⟩ := trodAll_cons r1
  obtain ⟨rfl, rfl, rfl⟩ := trodAll_nil r2
  obtain rfl : args = #[v0, v1, v2] := by cases args; simp_all
  obtain ⟨rfl, rfl⟩ := trodVars_none hV
  obtain ⟨a0, rfl, rfl, rfl, w0⟩ := open_string Try.underlying9 (hval 0 9 v0 rfl rfl) h0
  have z0 : a0.size ≤ 140737488351232 := sized_string hsz (j := 0) (t := 9) rfl rfl
  obtain ⟨a1, rfl, rfl, rfl, w1⟩ := open_string Try.underlying9 (hval 1 9 v1 rfl rfl) h1
  have z1 : a1.size ≤ 140737488351232 := sized_string hsz (j := 1) (t := 9) rfl rfl
  obtain ⟨a2, rfl, rfl, rfl, w2⟩ := open_int Try.underlying5 (hval 2 5 v2 rfl rfl) h2
  clear hA0 hval0 hsz0 hsz
  simp only [List.append_nil] at hW'
  refine (walk a0 a1 a2 z0 z1 w2 W).mono fun e W' ⟨he, hg⟩ => ?_
  subst he
  exact ⟨_, rfl, _, _, _, [], [], [], hW', (trodAll_cons_mk (shut_bool Try.underlying4 _) trodAll_mk0), (trodAll_cons_mk (shut_string Try.underlying9 w0) (trodAll_cons_mk (shut_string Try.underlying9 w1) (trodAll_cons_mk (shut_int Try.underlying5 w2) trodAll_mk0))), rfl, hg.frame _, fun h => by cases h⟩

theorem over : Rows.suffixFindsRow.holds Try.pinned (OpenSpec.ofChange Rows.suffixFindsSpec) :=
  OpenClaim.holds_of_wide 4 Try.f4 rfl rfl rfl rfl rfl rfl rfl ⟨rfl, rfl, rfl, rfl, rfl⟩ rfl rfl rfl rfl rfl (by kernel_rfl) Try.func4 (by kernel_rfl)
    (of_decide_eq_true (by kernel_rfl)) (by unfold Func.isWrapper; first | (rw [if_pos (by decide +kernel)]; kernel_rfl) | (rw [if_neg (by decide +kernel)]; exact ⟨rfl, rfl⟩))
    (fun os started H enc _ => lifted os started H enc)

end Go.Proofs.Ytnhdaolieifhnaa.suffixFinds
namespace Go.Proofs.Ytnhdaolieifhnaa
/-- The given statement. -/
theorem suffixFinds_holds : Rows.SuffixFindsSaid := suffixFinds.over
#print axioms suffixFinds_holds
end Go.Proofs.Ytnhdaolieifhnaa
