/- For every text of at most 200 bytes (of longer ones nothing is asked), any place in it, any way to make a sum and any sum: the bytes of Force of package sums, put in there, give the text that sum, are as many as the sum has, and no other text of as many bytes does. No condition. -/
import Derived.Test.YthimjckimggpoaaRows
import Derived.WalkKit
import Derived.ProofKit
import Derived.OpenShut
import Derived.SizedLaws
import Derived.Test.YthimjckimggpoaaKeepSum
import Derived.Test.YthimjckimggpoaaSums6
import Derived.ShutString
namespace Go.Proofs.Ythimjckimggpoaa.sumsForced
open Go.ChangeShapes Go.WideShapes Go.ChangeAt Go.RowKit
open Go.ChangeMaps (open_string shut_string)
set_option linter.unusedVariables false      -- a walk need not use every 'w<i>' (that an integer argument fits its kind)

theorem own : ownKnob Try.prog.godebug = none := by kernel_rfl

open sums crc bit mem
theorem walk (a0 : ByteArray) (a1 : Int) (a2 : Int) (a3 : Int) (a4 : Int) (a5 : Int) (a6 : Int) (a7 : Bool) (a8 : ByteArray) (w0 : a0.size ≤ 140737488351232) (w1 : (Lit.int .i64 a1).wf = true) (w2 : (Lit.int .u32 a2).wf = true) (w3 : (Lit.int .i64 a3).wf = true) (w4 : (Lit.int .u32 a4).wf = true) (w5 : (Lit.int .u32 a5).wf = true) (w6 : (Lit.int .u32 a6).wf = true) (w8 : a8.size ≤ 140737488351232) (w : World) :
    Calls Try.prog 6 #[.string a0, .int .i64 a1, .int .u32 a2, .int .i64 a3, .int .u32 a4, .int .u32 a5, .int .u32 a6, .bool a7, .string a8] w fun e w' => e = .returned (.bool true) ∧ Grown w w' := by
  obtain ⟨t, rfl⟩ : ∃ t, t = a7 := ⟨_, rfl⟩
  have b2 := bounds_u32 w2
  have b4 := bounds_u32 w4
  have b5 := bounds_u32 w5
  have b6 := bounds_u32 w6
  clear w1 w2 w3 w4 w5 w6
  obtain ⟨p, rfl⟩ := Int.eq_ofNat_of_zero_le (show 0 ≤ a4 by omega)
  obtain ⟨i, rfl⟩ := Int.eq_ofNat_of_zero_le (show 0 ≤ a5 by omega)
  obtain ⟨o, rfl⟩ := Int.eq_ofNat_of_zero_le (show 0 ≤ a6 by omega)
  obtain ⟨v, rfl⟩ := Int.eq_ofNat_of_zero_le (show 0 ≤ a2 by omega)
  by_cases hl : 200 < a0.size
  · go_enter Try.func6, Try.ntmps6
    go_wp2_with (first | (go_at_call 10; refine (summed_yes _).mono ?_; rintro e v0 ⟨rfl, g0⟩))
    go_ret
    exact ⟨rfl, g0.g⟩
  have hl' : a0.size ≤ 200 := by omega
  clear hl
  obtain ⟨a, ha, ha1⟩ := pick_nat a1 ((a0.size : Int) + 1) (by omega)
  have hpk : ∀ w, Calls Try.prog 16 #[.int .i64 a1, .int .i64 ((a0.size : Int) + 1)] w fun e w' => e = .returned (.int .i64 (a : Int)) ∧ w' = w := fun w => by
    have := pick_any a1 ((a0.size : Int) + 1) w (by omega) (by omega)
    rw [ha] at this; exact this
  clear ha
  have q0 : IntKind.i64.wrap ((a0.size : Int) + 1) = (a0.size : Int) + 1 := wrap_i _ (by omega) (by omega)
  go_enter Try.func6, Try.ntmps6
  go_wp2_with (first | (go_at_call 10; refine (summed_yes _).mono ?_; rintro e v0 ⟨rfl, g0⟩) | (go_at_call 11; refine (made_at _ p i o t _ (by omega) (by omega) (by omega)).mono ?_; rintro e v1 ⟨W, P, I, O, hR, rfl, g1⟩; have HR : Hid (Rt W P I O) := hR; clear hR))
  have h8 := HR.out.h8
  have h32 := HR.out.h32
  have q1 : IntKind.u64.wrap (W : Int) = (W : Int) := by rw [IntKind.wrap_u64]; omega
  obtain ⟨x, hx, hxl⟩ : ∃ x : Nat, bits .and .u32 (v : Int) (IntKind.u32.wrap (IntKind.u32.wrap (2 ^ W) - 1)) = (x : Int) ∧ x < 2 ^ W := by
    refine ⟨v % 2 ^ W, ?_, Nat.mod_lt _ (Nat.two_pow_pos W)⟩
    rw [IntKind.wrap_u32', IntKind.wrap_u32', Int.emod_sub_emod, mask_val W h32]
    have hle := le32 W h32
    rw [u32_and_nat _ _ (by omega) (by omega), Nat.and_two_pow_sub_one_eq_mod]
  have haa : a ≤ a0.size := by omega
  clear ha1
  obtain ⟨B, hB⟩ : ∃ B, B = fc W t (fl W P t I O a0 a x) := ⟨_, rfl⟩
  have hFo : ∀ w, Calls Try.prog 17 #[.agg #[.int .i64 W, .int .u32 P, .bool t, .int .u32 I, .int .u32 O], .string a0, .int .i64 a, .int .u32 x] w fun e w' => e = .returned (.tuple #[.string B, .nilIface]) ∧ Gb w w' := fun w => by
    rw [hB]; exact Force_yes W P I O t a0 a x w HR.out (by omega) haa hxl
  have hBs : B.size = W / 8 := by rw [hB]; exact fc_size _ _ _
  have hBi : ((B.size : Int) != (W : Int) / 8) = false := by
    rw [bne_eq_false_iff_eq]; omega
  have HF : Hid (∀ C : ByteArray, C.size = W / 8 → (sumV W P t I O (put a0 C a) = x ↔ C = B)) := fun C hC => by
    rw [hB]; exact forced W P t I O a0 C a x h8 HR.out.d8 HR.out.p HR.out.odd HR.out.i HR.out.o hxl haa hC
  have hof : ∀ w, Calls Try.prog 12 #[.agg #[.int .i64 W, .int .u32 P, .bool t, .int .u32 I, .int .u32 O], .string (a0.extract 0 a ++ B ++ a0.extract a a0.size)] w fun e w' => e = .returned (.tuple #[.int .u32 (x : Nat), .bool true]) ∧ Gb w w' := fun w => by
    have := of_yes W P I O t (put a0 B a) w HR.out (by rw [put_size a0 B a haa]; omega)
    rw [(HF.out B hBs).2 rfl] at this
    exact this
  have HBs : Hid (B.size = W / 8) := hBs
  have hB4 : B.size ≤ 4 := by omega
  clear hB hBs
  go_region_held3 (fun w' => (World.cell? w' ⟨v1.heap.size, 0, none⟩ = some (.int .i64 W) ∧ World.cell? w' ⟨v1.heap.size, 1, none⟩ = some (.int .u32 P) ∧ World.cell? w' ⟨v1.heap.size, 2, none⟩ = some (.bool t) ∧ World.cell? w' ⟨v1.heap.size, 3, none⟩ = some (.int .u32 I) ∧ World.cell? w' ⟨v1.heap.size, 4, none⟩ = some (.int .u32 O))) (simp (maxDischargeDepth := 9) [*]) (first | (go_at_call 16; refine (hpk _).mono ?_; rintro e v2 ⟨rfl, rfl⟩))
  go_wp2_with (first | (go_at_call 17; refine (hFo _).mono ?_; rintro e v3 ⟨rfl, g3⟩; have c0 := at_gb g3 (a := ⟨v1.heap.size, 0, none⟩) (v := .int .i64 W) (by go_simp); have c1 := at_gb g3 (a := ⟨v1.heap.size, 1, none⟩) (v := .int .u32 P) (by go_simp); have c2 := at_gb g3 (a := ⟨v1.heap.size, 2, none⟩) (v := .bool t) (by go_simp); have c3 := at_gb g3 (a := ⟨v1.heap.size, 3, none⟩) (v := .int .u32 I) (by go_simp); have c4 := at_gb g3 (a := ⟨v1.heap.size, 4, none⟩) (v := .int .u32 O) (by go_simp)))
  have hai : (a : Int) ≤ (a0.size : Int) := by omega
  have ha0 : (0 : Int) ≤ (a : Int) := by omega
  have j1 : ¬ 9223372036854775807 < a + B.size := by omega
  have j2 : ¬ 9223372036854775807 < a + B.size + (a0.size - a) := by omega
  go_region_held3 (fun w' => (World.cell? w' ⟨v1.heap.size, 0, none⟩ = some (.int .i64 W) ∧ World.cell? w' ⟨v1.heap.size, 1, none⟩ = some (.int .u32 P) ∧ World.cell? w' ⟨v1.heap.size, 2, none⟩ = some (.bool t) ∧ World.cell? w' ⟨v1.heap.size, 3, none⟩ = some (.int .u32 I) ∧ World.cell? w' ⟨v1.heap.size, 4, none⟩ = some (.int .u32 O))) (simp (maxDischargeDepth := 9) [*]) (first | (go_at_call 12; refine (hof _).mono ?_; rintro e v4 ⟨rfl, g4⟩; have d0 := at_gb g4 (a := ⟨v1.heap.size, 0, none⟩) (v := .int .i64 W) (by go_simp); have d1 := at_gb g4 (a := ⟨v1.heap.size, 1, none⟩) (v := .int .u32 P) (by go_simp); have d2 := at_gb g4 (a := ⟨v1.heap.size, 2, none⟩) (v := .bool t) (by go_simp); have d3 := at_gb g4 (a := ⟨v1.heap.size, 3, none⟩) (v := .int .u32 I) (by go_simp); have d4 := at_gb g4 (a := ⟨v1.heap.size, 4, none⟩) (v := .int .u32 O) (by go_simp)))
  have hne : ((x : Int) != (x : Int)) = false := by simp
  clear hBi hFo hof hpk hx c0 c1 c2 c3 c4
  by_cases h1 : a8.size = B.size
  · by_cases h2 : a8 = B
    · have f1 : ((a8.size : Int) != (B.size : Int)) = false := by rw [bne_eq_false_iff_eq]; omega
      have f2 : (a8.toList == B.toList) = true := by rw [h2]; simp
      clear h1 h2
      go_wp2
      go_ret
      exact ⟨rfl, ((g0.trans g1).alloc _ _).drew.trans (g3.drew.trans g4) |>.g⟩
    · have f1 : ((a8.size : Int) != (B.size : Int)) = false := by rw [bne_eq_false_iff_eq]; omega
      have f2 : (a8.toList == B.toList) = false := by
        rw [beq_eq_false_iff_ne]
        intro hl
        rw [ByteArray.toList_eq, ByteArray.toList_eq] at hl
        exact h2 (ByteArray.ext (Array.ext' hl))
      have h84 : a8.size ≤ 4 := by omega
      have j3 : ¬ 9223372036854775807 < a + a8.size := by omega
      have j4 : ¬ 9223372036854775807 < a + a8.size + (a0.size - a) := by omega
      obtain ⟨y, hy⟩ : ∃ y, y = sumV W P t I O (put a0 a8 a) := ⟨_, rfl⟩
      have hyx : ((y : Int) != (x : Int)) = true := by
        rw [bne_iff_ne]
        intro e
        exact h2 ((HF.out a8 (by rw [h1]; exact HBs.out)).1 (by omega))
      have hof : ∀ w, Calls Try.prog 12 #[.agg #[.int .i64 W, .int .u32 P, .bool t, .int .u32 I, .int .u32 O], .string (a0.extract 0 a ++ a8 ++ a0.extract a a0.size)] w fun e w' => e = .returned (.tuple #[.int .u32 (y : Nat), .bool true]) ∧ Gb w w' := fun w => by
        have := of_yes W P I O t (put a0 a8 a) w HR.out (by rw [put_size a0 a8 a haa]; omega)
        rw [← hy] at this
        exact this
      clear h1 h2 hy
      go_wp2
      go_region_held3 (fun w' => (World.cell? w' ⟨v1.heap.size, 0, none⟩ = some (.int .i64 W) ∧ World.cell? w' ⟨v1.heap.size, 1, none⟩ = some (.int .u32 P) ∧ World.cell? w' ⟨v1.heap.size, 2, none⟩ = some (.bool t) ∧ World.cell? w' ⟨v1.heap.size, 3, none⟩ = some (.int .u32 I) ∧ World.cell? w' ⟨v1.heap.size, 4, none⟩ = some (.int .u32 O))) (simp (maxDischargeDepth := 9) [*]) (first | (go_at_call 12; refine (hof _).mono ?_; rintro e v5 ⟨rfl, g5⟩; have f0 := at_gb g5 (a := ⟨v1.heap.size, 0, none⟩) (v := .int .i64 W) (by go_simp); have f1 := at_gb g5 (a := ⟨v1.heap.size, 1, none⟩) (v := .int .u32 P) (by go_simp); have f2 := at_gb g5 (a := ⟨v1.heap.size, 2, none⟩) (v := .bool t) (by go_simp); have f3 := at_gb g5 (a := ⟨v1.heap.size, 3, none⟩) (v := .int .u32 I) (by go_simp); have f4 := at_gb g5 (a := ⟨v1.heap.size, 4, none⟩) (v := .int .u32 O) (by go_simp)))
      go_wp2
      go_ret
      exact ⟨rfl, ((g0.trans g1).alloc _ _).drew.trans ((g3.drew.trans g4).drew.trans g5) |>.g⟩
  · have f1 : ((a8.size : Int) != (B.size : Int)) = true := by rw [bne_iff_ne]; omega
    clear h1
    go_wp2
    go_ret
    exact ⟨rfl, ((g0.trans g1).alloc _ _).drew.trans (g3.drew.trans g4) |>.g⟩

set_option maxRecDepth 100000 in
theorem lifted (os : Os) (started : os.Started) (H : Type) (enc : TypeId × Value → H) :
    ReturnsInHanded {} Try.checked os 6 .any (Rows.sumsForcedSpec.pre6 enc Try.prog Try.f6 Rows.sumsForcedRow.domain false) (Rows.sumsForcedSpec.post enc Try.prog Try.f6 false true false false) := by
  refine returnsInHanded_of_change_sized (C := Try.checked) own started (by kernel_rfl) Try.func6
    (ChangeSpec.witness6 (enc := enc) (C := Try.checked) false ⟨#[], #[.string ByteArray.empty, .int .i64 0, .int .u32 0, .int .i64 0, .int .u32 0, .int .u32 0, .int .u32 0, .bool false, .string ByteArray.empty], []⟩ 8 (by kernel_rfl) (by kernel_rfl) (by kernel_rfl) (by kernel_rfl)) ?_
  intro W base args ds gs before hval0 hW hcnd hsz0 _
  have hval : ∀ (j : Nat) t v, Try.f6.params[j]? = some t → args[j]? = some v → Value.okWide Try.prog W .any base t v := hval0
  have hW' := hW
  obtain ⟨p, q, hA0, hV, rfl, hfz, hnd⟩ := hW
  have hA : DataW.TrodAll enc Try.prog W 0 (fun _ => true) true Try.f6.params.toList args.toList ds p := hA0
  have hsz : (DataW.weightsEach Try.prog (Try.f6.params.toList ++ Rows.sumsForcedSpec.plain.varTypes Try.prog) (ds ++ gs)).all (· ≤ reachBytes) = true := hsz0
  rw [Try.params6] at hA hval hsz
  obtain ⟨v0, vs0, d0, ds0, p0, q0, hargs, rfl, rfl, h0, r0⟩ := trodAll_cons hA
  obtain ⟨v1, vs1, d1, ds1, p1, q1, rfl, rfl, rfl, h1, r1⟩ := trodAll_cons r0
  obtain ⟨v2, vs2, d2, ds2, p2, q2, rfl, rfl, rfl, h2, r2⟩ := trodAll_cons r1
  obtain ⟨v3, vs3, d3, ds3, p3, q3, rfl, rfl, rfl, h3, r3⟩ := trodAll_cons r2
  obtain ⟨v4, vs4, d4, ds4, p4, q4, rfl, rfl, rfl, h4, r4⟩ := trodAll_cons r3
  obtain ⟨v5, vs5, d5, ds5, p5, q5, rfl, rfl, rfl, h5, r5⟩ := trodAll_cons r4
  obtain ⟨v6, vs6, d6, ds6, p6, q6, rfl, rfl, rfl, h6, r6⟩ := trodAll_cons r5
  obtain ⟨v7, vs7, d7, ds7, p7, q7, rfl, rfl, rfl, h7, r7⟩ := trodAll_cons r6
  obtain ⟨v8, vs8, d8, ds8, p8, q8, rfl, rfl, rfl, h8, r8⟩ := trodAll_cons r7
  obtain ⟨rfl, rfl, rfl⟩ := trodAll_nil r8
  obtain rfl : args = #[v0, v1, v2, v3, v4, v5, v6, v7, v8] := by cases args; simp_all
  obtain ⟨rfl, rfl⟩ := trodVars_none hV
  obtain ⟨a0, rfl, rfl, rfl, w0⟩ := open_string Try.underlying9 (hval 0 9 v0 rfl rfl) h0
  have z0 : a0.size ≤ 140737488351232 := sized_string hsz (j := 0) (t := 9) rfl rfl
  obtain ⟨a1, rfl, rfl, rfl, w1⟩ := open_int Try.underlying3 (hval 1 3 v1 rfl rfl) h1
  obtain ⟨a2, rfl, rfl, rfl, w2⟩ := open_int Try.underlying25 (hval 2 25 v2 rfl rfl) h2
  obtain ⟨a3, rfl, rfl, rfl, w3⟩ := open_int Try.underlying3 (hval 3 3 v3 rfl rfl) h3
  obtain ⟨a4, rfl, rfl, rfl, w4⟩ := open_int Try.underlying25 (hval 4 25 v4 rfl rfl) h4
  obtain ⟨a5, rfl, rfl, rfl, w5⟩ := open_int Try.underlying25 (hval 5 25 v5 rfl rfl) h5
  obtain ⟨a6, rfl, rfl, rfl, w6⟩ := open_int Try.underlying25 (hval 6 25 v6 rfl rfl) h6
  obtain ⟨a7, rfl, rfl, rfl⟩ := open_bool Try.underlying4 (hval 7 4 v7 rfl rfl) h7
  obtain ⟨a8, rfl, rfl, rfl, w8⟩ := open_string Try.underlying9 (hval 8 9 v8 rfl rfl) h8
  have z8 : a8.size ≤ 140737488351232 := sized_string hsz (j := 8) (t := 9) rfl rfl
  clear hA0 hval0 hsz0 hsz
  simp only [List.append_nil] at hW'
  refine (walk a0 a1 a2 a3 a4 a5 a6 a7 a8 z0 w1 w2 w3 w4 w5 w6 z8 W).mono fun e W' ⟨he, hg⟩ => ?_
  subst he
  exact ⟨_, rfl, post_of_same (pa := []) (pv := []) hW' (fun _ _ _ => (trodAll_cons_mk (shut_bool Try.underlying4 _) trodAll_mk0)) (fun sp _ => (trodAll_cons_mk (shut_string Try.underlying9 w0) (trodAll_cons_mk (shut_int Try.underlying3 w1) (trodAll_cons_mk (shut_int Try.underlying25 w2) (trodAll_cons_mk (shut_int Try.underlying3 w3) (trodAll_cons_mk (shut_int Try.underlying25 w4) (trodAll_cons_mk (shut_int Try.underlying25 w5) (trodAll_cons_mk (shut_int Try.underlying25 w6) (trodAll_cons_mk (shut_bool Try.underlying4 _) (trodAll_cons_mk (shut_string Try.underlying9 w8) trodAll_mk0)))))))))) (fun _ _ => rfl) rfl
    (hg.frame _) hg.2.1 (ok_one (by kernel_rfl) rfl (okWide_bool_mk Try.underlying4 _))⟩

theorem over : Rows.sumsForcedRow.holds Try.pinned (OpenSpec.ofChange Rows.sumsForcedSpec) :=
  OpenClaim.holds_of_wide 6 Try.f6 rfl rfl rfl rfl rfl rfl rfl ⟨rfl, rfl, rfl, rfl, rfl⟩ rfl rfl rfl rfl rfl (by kernel_rfl) Try.func6 (by kernel_rfl)
    (of_decide_eq_true (by kernel_rfl)) (by unfold Func.isWrapper; first | (rw [if_pos (by decide +kernel)]; kernel_rfl) | (rw [if_neg (by decide +kernel)]; exact ⟨rfl, rfl⟩))
    (fun os started H enc _ => lifted os started H enc)

end Go.Proofs.Ythimjckimggpoaa.sumsForced
namespace Go.Proofs.Ythimjckimggpoaa
/-- The given statement. -/
theorem sumsForced_holds : Rows.SumsForcedSaid := sumsForced.over
#print axioms sumsForced_holds
end Go.Proofs.Ythimjckimggpoaa
