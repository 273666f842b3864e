/- For every text, cut to 200 bytes: bits of it that are turned within 32 in a row are told by the sum Crc of package sums: it is another one just if the text is. No condition. -/
import Derived.Test.YthimjckimggpoaaRows
import Derived.WalkKit
import Derived.ProofKit
import Derived.OpenShut
import Derived.SizedLaws
import Derived.Test.YthimjckimggpoaaBurst
import Derived.ShutString
namespace Go.Proofs.Ythimjckimggpoaa.sumsBurst
open Go.ChangeShapes Go.WideShapes Go.ChangeAt Go.RowKit
open Go.ChangeMaps (open_string shut_string)
set_option linter.unusedVariables false      -- a walk need not use every 'w<i>' (that an integer argument fits its kind)

theorem own : ownKnob Try.prog.godebug = none := by kernel_rfl

open sums crc bit mem
theorem cut_size (s : ByteArray) (n : Nat) (h : n ≤ s.size) : (s.extract 0 n).size = n := by simp; omega
theorem turned_any (s : ByteArray) (a : Int) (V : Nat) (w : World) (hs : s.size ≤ 200) (hV : V < 4294967296) :
    Calls Try.prog 14 #[.string s, .int .i64 a, .int .u32 V] w fun e w' => ∃ t : ByteArray, e = .returned (.string t) ∧ Bl w w' ∧ t.size = s.size ∧ (crcV t = crcV s ↔ t = s) := by
  by_cases h0 : s.size = 0
  · refine (turned_none s a V w h0).mono ?_
    rintro e w' ⟨rfl, rfl⟩
    exact ⟨s, rfl, Bl.refl _, rfl, by simp⟩
  · obtain ⟨A, hA, hA8⟩ := pick_nat a (8 * (s.size : Int)) (by omega)
    refine (turned_keep s a A V w hA (by omega) hs hV).mono ?_
    rintro e w' ⟨rfl, hb⟩
    exact ⟨_, rfl, hb, tX_size _ _ _, crc_tells s A V (by omega)⟩
theorem told (S T : ByteArray) (h : crcV T = crcV S ↔ T = S) : ((T.toList == S.toList) == ((crcV T : Int) == (crcV S : Int))) = true := by
  by_cases e : T = S
  · subst e; simp
  · have h1 : (T.toList == S.toList) = false := by
      rw [beq_eq_false_iff_ne]
      intro hl
      rw [ByteArray.toList_eq, ByteArray.toList_eq] at hl
      exact e (ByteArray.ext (Array.ext' hl))
    have h2 : ((crcV T : Int) == (crcV S : Int)) = false := by
      rw [beq_eq_false_iff_ne]
      intro hc
      exact e (h.1 (by omega))
    rw [h1, h2]; rfl
theorem walk (a0 : ByteArray) (a1 : Int) (a2 : Int) (w0 : a0.size ≤ 140737488351232) (w1 : (Lit.int .i64 a1).wf = true) (w2 : (Lit.int .u32 a2).wf = true) (w : World) :
    Calls Try.prog 5 #[.string a0, .int .i64 a1, .int .u32 a2] w fun e w' => e = .returned (.bool true) ∧ Below w.heap.size w w' := by
  have b2 := bounds_u32 w2
  clear w1 w2
  obtain ⟨V, rfl⟩ := Int.eq_ofNat_of_zero_le (show 0 ≤ a2 by omega)
  obtain ⟨n, hn⟩ : ∃ n : Nat, (n : Int) = min (a0.size : Int) 200 := ⟨min a0.size 200, by omega⟩
  have hm : (if (200 : Int) < (a0.size : Int) then 200 else (a0.size : Int)) = (n : Int) := by split <;> omega
  have n0 : n ≤ a0.size := by omega
  have n3 : n ≤ 200 := by omega
  clear hn
  go_enter Try.func5, Try.ntmps5
  go_wp2_with (first | (go_at_call 10; refine (summed_yes _).mono ?_; rintro e v0 ⟨rfl, g0⟩))
  have s0 := cut_size a0 n n0
  generalize a0.extract 0 n = S at s0 ⊢
  go_wp2_with (first | (go_at_call 14; refine (turned_any S a1 V _ (by omega) (by omega)).mono ?_; rintro e v1 ⟨T, rfl, g1, sT, hT⟩; have HT : Hid (crcV T = crcV S ↔ T = S) := hT; clear hT) | (go_at_call_of 15 (Value.string T); refine (Crc_at T _ (by omega)).mono ?_; rintro e v2 ⟨rfl, g2⟩) | (go_at_call_of 15 (Value.string S); refine (Crc_at S _ (by omega)).mono ?_; rintro e v3 ⟨rfl, g3⟩))
  go_ret
  exact ⟨ret_bool (told S T HT.out), ((g0.bl.trans g1).trans (g2.trans g3).bl)⟩

set_option maxRecDepth 100000 in
theorem lifted (os : Os) (started : os.Started) (H : Type) (enc : TypeId × Value → H) :
    ReturnsInHanded {} Try.checked os 5 .any (Rows.sumsBurstSpec.pre6 enc Try.prog Try.f5 Rows.sumsBurstRow.domain false) (Rows.sumsBurstSpec.post enc Try.prog Try.f5 false true false false) := by
  refine returnsInHanded_of_change_sized (C := Try.checked) own started (by kernel_rfl) Try.func5
    (ChangeSpec.witness6 (enc := enc) (C := Try.checked) false ⟨#[], #[.string ByteArray.empty, .int .i64 0, .int .u32 0], []⟩ 8 (by kernel_rfl) (by kernel_rfl) (by kernel_rfl) (by kernel_rfl)) ?_
  intro W base args ds gs before hval0 hW hcnd hsz0 _
  have hval : ∀ (j : Nat) t v, Try.f5.params[j]? = some t → args[j]? = some v → Value.okWide Try.prog W .any base t v := hval0
  have hW' := hW
  obtain ⟨p, q, hA0, hV, rfl, hfz, hnd⟩ := hW
  have hA : DataW.TrodAll enc Try.prog W 0 (fun _ => true) true Try.f5.params.toList args.toList ds p := hA0
  have hsz : (DataW.weightsEach Try.prog (Try.f5.params.toList ++ Rows.sumsBurstSpec.plain.varTypes Try.prog) (ds ++ gs)).all (· ≤ reachBytes) = true := hsz0
  rw [Try.params5] at hA hval hsz
  obtain ⟨v0, vs0, d0, ds0, p0, q0, hargs, rfl, rfl, h0, r0⟩ := trodAll_cons hA
  obtain ⟨v1, vs1, d1, ds1, p1, q1, rfl, rfl, rfl, h1, r1⟩ := trodAll_cons r0
  obtain ⟨v2, vs2, d2, ds2, p2, q2, rfl, rfl, rfl, h2, r2⟩ := trodAll_cons r1
  obtain ⟨rfl, rfl, rfl⟩ := trodAll_nil r2
  obtain rfl : args = #[v0, v1, v2] := by cases args; simp_all
  obtain ⟨rfl, rfl⟩ := trodVars_none hV
  obtain ⟨a0, rfl, rfl, rfl, w0⟩ := open_string Try.underlying9 (hval 0 9 v0 rfl rfl) h0
  have z0 : a0.size ≤ 140737488351232 := sized_string hsz (j := 0) (t := 9) rfl rfl
  obtain ⟨a1, rfl, rfl, rfl, w1⟩ := open_int Try.underlying3 (hval 1 3 v1 rfl rfl) h1
  obtain ⟨a2, rfl, rfl, rfl, w2⟩ := open_int Try.underlying25 (hval 2 25 v2 rfl rfl) h2
  clear hA0 hval0 hsz0 hsz
  simp only [List.append_nil] at hW'
  refine (walk a0 a1 a2 z0 w1 w2 W).mono fun e W' ⟨he, hg⟩ => ?_
  subst he
  exact ⟨_, rfl, _, _, _, [], [], [], hW', (trodAll_cons_mk (shut_bool Try.underlying4 _) trodAll_mk0), (trodAll_cons_mk (shut_string Try.underlying9 w0) (trodAll_cons_mk (shut_int Try.underlying3 w1) (trodAll_cons_mk (shut_int Try.underlying25 w2) trodAll_mk0))), rfl, hg.frame _, fun h => by cases h⟩

theorem over : Rows.sumsBurstRow.holds Try.pinned (OpenSpec.ofChange Rows.sumsBurstSpec) :=
  OpenClaim.holds_of_wide 5 Try.f5 rfl rfl rfl rfl rfl rfl rfl ⟨rfl, rfl, rfl, rfl, rfl⟩ rfl rfl rfl rfl rfl (by kernel_rfl) Try.func5 (by kernel_rfl)
    (of_decide_eq_true (by kernel_rfl)) (by unfold Func.isWrapper; first | (rw [if_pos (by decide +kernel)]; kernel_rfl) | (rw [if_neg (by decide +kernel)]; exact ⟨rfl, rfl⟩))
    (fun os started H enc _ => lifted os started H enc)

end Go.Proofs.Ythimjckimggpoaa.sumsBurst
namespace Go.Proofs.Ythimjckimggpoaa
/-- The given statement. -/
theorem sumsBurst_holds : Rows.SumsBurstSaid := sumsBurst.over
#print axioms sumsBurst_holds
end Go.Proofs.Ythimjckimggpoaa
