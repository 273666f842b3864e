/- For any three texts, cut to one length, and any way to make a sum: the sum of all three together, bit by bit, is their sums together, as package sums answers. No condition. -/
import Derived.Test.YthimjckimggpoaaRows
import Derived.WalkKit
import Derived.ProofKit
import Derived.OpenShut
import Derived.SizedLaws
import Derived.Test.YthimjckimggpoaaTog
import Derived.ShutString
namespace Go.Proofs.Ythimjckimggpoaa.sumsLinear
open Go.ChangeShapes Go.WideShapes Go.ChangeAt Go.RowKit
open Go.ChangeMaps (open_string shut_string)
set_option linter.unusedVariables false      -- a walk need not use every 'w<i>' (that an integer argument fits its kind)

theorem own : ownKnob Try.prog.godebug = none := by kernel_rfl

open sums crc bit mem
theorem min4 (x y z : Int) (n : Nat) (h : (n : Int) = min (min (min x y) z) 200) (w : World) : (Builtin.min_ #[3, 3, 3, 3] 3 #[.int .i64 x, .int .i64 y, .int .i64 z, .int .i64 200]).run Try.prog w = .ok (.int .i64 (n : Int)) w := by
  simp [Builtin.min_, Builtin.min2]
  (repeat' split) <;> omega
theorem cut_size (s : ByteArray) (n : Nat) (h : n ≤ s.size) : (s.extract 0 n).size = n := by simp; omega
theorem walk (a0 : ByteArray) (a1 : ByteArray) (a2 : ByteArray) (a3 : Int) (a4 : Int) (a5 : Int) (a6 : Int) (a7 : Bool) (w0 : a0.size ≤ 140737488351232) (w1 : a1.size ≤ 140737488351232) (w2 : a2.size ≤ 140737488351232) (w3 : (Lit.int .i64 a3).wf = true) (w4 : (Lit.int .u32 a4).wf = true) (w5 : (Lit.int .u32 a5).wf = true) (w6 : (Lit.int .u32 a6).wf = true) (w : World) :
    Calls Try.prog 4 #[.string a0, .string a1, .string a2, .int .i64 a3, .int .u32 a4, .int .u32 a5, .int .u32 a6, .bool a7] w fun e w' => e = .returned (.bool true) ∧ Grown w w' := by
  obtain ⟨t, rfl⟩ : ∃ t, t = a7 := ⟨_, rfl⟩
  have b4 := bounds_u32 w4
  have b5 := bounds_u32 w5
  have b6 := bounds_u32 w6
  clear w3 w4 w5 w6
  obtain ⟨p, rfl⟩ := Int.eq_ofNat_of_zero_le (show 0 ≤ a4 by omega)
  obtain ⟨i, rfl⟩ := Int.eq_ofNat_of_zero_le (show 0 ≤ a5 by omega)
  obtain ⟨o, rfl⟩ := Int.eq_ofNat_of_zero_le (show 0 ≤ a6 by omega)
  obtain ⟨n, hn⟩ : ∃ n : Nat, (n : Int) = min (min (min (a0.size : Int) (a1.size : Int)) (a2.size : Int)) 200 := ⟨min (min (min a0.size a1.size) a2.size) 200, by omega⟩
  have hm := min4 _ _ _ n hn
  have n0 : n ≤ a0.size := by omega
  have n1 : n ≤ a1.size := by omega
  have n2 : n ≤ a2.size := by omega
  have n3 : n ≤ 200 := by omega
  clear hn
  go_enter Try.func4, Try.ntmps4
  go_wp2_with (first | (go_at_call 10; refine (summed_yes _).mono ?_; rintro e v0 ⟨rfl, g0⟩))
  go_region
  have s0 := cut_size a0 n n0
  have s1 := cut_size a1 n n1
  have s2 := cut_size a2 n n2
  generalize a0.extract 0 n = A at s0 ⊢
  generalize a1.extract 0 n = B at s1 ⊢
  generalize a2.extract 0 n = C at s2 ⊢
  go_wp2_with (first | (go_at_call 11; refine (made_at _ p i o t _ (by omega) (by omega) (by omega)).mono ?_; rintro e v1 ⟨W, P, I, O, hR, rfl, g1⟩; have HR : Hid (Rt W P I O) := hR; clear hR))
  have hl := fun s => Nat.lt_of_lt_of_le (sumV_lt W P t I O s HR.out.i HR.out.o) (le32 W HR.out.h32)
  have HL : Hid (sumV W P t I O (tog (tog A B n) C n) = sumV W P t I O A ^^^ sumV W P t I O B ^^^ sumV W P t I O C) := linear W P t I O A B C n HR.out.h8 s0 s1 s2
  have hx := u32_xor_nat _ _ (hl A) (hl B)
  have hy := u32_xor_nat _ _ (Nat.xor_lt_two_pow (n := 32) (hl A) (hl B)) (hl C)
  rw [← HL.out] at hy
  clear hl
  go_region_held3 (fun w' => (World.cell? w' ⟨v1.heap.size, 0, none⟩ = some (.int .i64 W) ∧ World.cell? w' ⟨v1.heap.size, 1, none⟩ = some (.int .u32 P) ∧ World.cell? w' ⟨v1.heap.size, 2, none⟩ = some (.bool t) ∧ World.cell? w' ⟨v1.heap.size, 3, none⟩ = some (.int .u32 I) ∧ World.cell? w' ⟨v1.heap.size, 4, none⟩ = some (.int .u32 O))) (simp (maxDischargeDepth := 9) [*]) (first | (go_at_call_of 13 (Value.string A); refine (together_at A B n _ s0 s1 n3).mono ?_; rintro e v2 ⟨rfl, g2⟩; have c0 := at_gb g2 (a := ⟨v1.heap.size, 0, none⟩) (v := .int .i64 W) (by go_simp); have c1 := at_gb g2 (a := ⟨v1.heap.size, 1, none⟩) (v := .int .u32 P) (by go_simp); have c2 := at_gb g2 (a := ⟨v1.heap.size, 2, none⟩) (v := .bool t) (by go_simp); have c3 := at_gb g2 (a := ⟨v1.heap.size, 3, none⟩) (v := .int .u32 I) (by go_simp); have c4 := at_gb g2 (a := ⟨v1.heap.size, 4, none⟩) (v := .int .u32 O) (by go_simp)) | (go_at_call 13; refine (together_at _ C n _ (tog_size _ _ _) s2 n3).mono ?_; rintro e v3 ⟨rfl, g3⟩; have d0 := at_gb g3 (a := ⟨v1.heap.size, 0, none⟩) (v := .int .i64 W) (by go_simp); have d1 := at_gb g3 (a := ⟨v1.heap.size, 1, none⟩) (v := .int .u32 P) (by go_simp); have d2 := at_gb g3 (a := ⟨v1.heap.size, 2, none⟩) (v := .bool t) (by go_simp); have d3 := at_gb g3 (a := ⟨v1.heap.size, 3, none⟩) (v := .int .u32 I) (by go_simp); have d4 := at_gb g3 (a := ⟨v1.heap.size, 4, none⟩) (v := .int .u32 O) (by go_simp)) | (go_at_call 12; refine (of_yes W P I O t _ _ HR.out (by rw [tog_size]; omega)).mono ?_; rintro e v4 ⟨rfl, g4⟩; have f0 := at_gb g4 (a := ⟨v1.heap.size, 0, none⟩) (v := .int .i64 W) (by go_simp); have f1 := at_gb g4 (a := ⟨v1.heap.size, 1, none⟩) (v := .int .u32 P) (by go_simp); have f2 := at_gb g4 (a := ⟨v1.heap.size, 2, none⟩) (v := .bool t) (by go_simp); have f3 := at_gb g4 (a := ⟨v1.heap.size, 3, none⟩) (v := .int .u32 I) (by go_simp); have f4 := at_gb g4 (a := ⟨v1.heap.size, 4, none⟩) (v := .int .u32 O) (by go_simp)))
  go_wp2_with (first | (go_at_call_of 12 (Value.string A); refine (of_yes W P I O t A _ HR.out (by omega)).mono ?_; rintro e v5 ⟨rfl, g5⟩; have h0 := at_gb g5 (a := ⟨v1.heap.size, 0, none⟩) (v := .int .i64 W) (by go_simp); have h1 := at_gb g5 (a := ⟨v1.heap.size, 1, none⟩) (v := .int .u32 P) (by go_simp); have h2 := at_gb g5 (a := ⟨v1.heap.size, 2, none⟩) (v := .bool t) (by go_simp); have h3 := at_gb g5 (a := ⟨v1.heap.size, 3, none⟩) (v := .int .u32 I) (by go_simp); have h4 := at_gb g5 (a := ⟨v1.heap.size, 4, none⟩) (v := .int .u32 O) (by go_simp)) | (go_at_call_of 12 (Value.string B); refine (of_yes W P I O t B _ HR.out (by omega)).mono ?_; rintro e v6 ⟨rfl, g6⟩; have j0 := at_gb g6 (a := ⟨v1.heap.size, 0, none⟩) (v := .int .i64 W) (by go_simp); have j1 := at_gb g6 (a := ⟨v1.heap.size, 1, none⟩) (v := .int .u32 P) (by go_simp); have j2 := at_gb g6 (a := ⟨v1.heap.size, 2, none⟩) (v := .bool t) (by go_simp); have j3 := at_gb g6 (a := ⟨v1.heap.size, 3, none⟩) (v := .int .u32 I) (by go_simp); have j4 := at_gb g6 (a := ⟨v1.heap.size, 4, none⟩) (v := .int .u32 O) (by go_simp)) | (go_at_call_of 12 (Value.string C); refine (of_yes W P I O t C _ HR.out (by omega)).mono ?_; rintro e v7 ⟨rfl, g7⟩))
  go_ret
  exact ⟨rfl, (((((((g0.drew.trans g1).alloc _ _).drew.trans g2).trans g3).trans g4).trans g5).trans (g6.trans g7)).g⟩

set_option maxRecDepth 100000 in
theorem lifted (os : Os) (started : os.Started) (H : Type) (enc : TypeId × Value → H) :
    ReturnsInHanded {} Try.checked os 4 .any (Rows.sumsLinearSpec.pre6 enc Try.prog Try.f4 Rows.sumsLinearRow.domain false) (Rows.sumsLinearSpec.post enc Try.prog Try.f4 false true false false) := by
  refine returnsInHanded_of_change_sized (C := Try.checked) own started (by kernel_rfl) Try.func4
    (ChangeSpec.witness6 (enc := enc) (C := Try.checked) false ⟨#[], #[.string ByteArray.empty, .string ByteArray.empty, .string ByteArray.empty, .int .i64 0, .int .u32 0, .int .u32 0, .int .u32 0, .bool false], []⟩ 8 (by kernel_rfl) (by kernel_rfl) (by kernel_rfl) (by kernel_rfl)) ?_
  intro W base args ds gs before hval0 hW hcnd hsz0 _
  have hval : ∀ (j : Nat) t v, Try.f4.params[j]? = some t → args[j]? = some v → Value.okWide Try.prog W .any base t v := hval0
  have hW' := hW
  obtain ⟨p, q, hA0, hV, rfl, hfz, hnd⟩ := hW
  have hA : DataW.TrodAll enc Try.prog W 0 (fun _ => true) true Try.f4.params.toList args.toList ds p := hA0
  have hsz : (DataW.weightsEach Try.prog (Try.f4.params.toList ++ Rows.sumsLinearSpec.plain.varTypes Try.prog) (ds ++ gs)).all (· ≤ reachBytes) = true := hsz0
  rw [Try.params4] at hA hval hsz
  obtain ⟨v0, vs0, d0, ds0, p0, q0, hargs, rfl, rfl, h0, r0⟩ := trodAll_cons hA
  obtain ⟨v1, vs1, d1, ds1, p1, q1, rfl, rfl, rfl, h1, r1⟩ := trodAll_cons r0
  obtain ⟨v2, vs2, d2, ds2, p2, q2, rfl, rfl, rfl, h2, r2⟩ := trodAll_cons r1
  obtain ⟨v3, vs3, d3, ds3, p3, q3, rfl, rfl, rfl, h3, r3⟩ := trodAll_cons r2
  obtain ⟨v4, vs4, d4, ds4, p4, q4, rfl, rfl, rfl, h4, r4⟩ := trodAll_cons r3
  obtain ⟨v5, vs5, d5, ds5, p5, q5, rfl, rfl, rfl, h5, r5⟩ := trodAll_cons r4
  obtain ⟨v6, vs6, d6, ds6, p6, q6, rfl, rfl, rfl, h6, r6⟩ := trodAll_cons r5
  obtain ⟨v7, vs7, d7, ds7, p7, q7, rfl, rfl, rfl, h7, r7⟩ := trodAll_cons r6
  obtain ⟨rfl, rfl, rfl⟩ := trodAll_nil r7
  obtain rfl : args = #[v0, v1, v2, v3, v4, v5, v6, v7] := by cases args; simp_all
  obtain ⟨rfl, rfl⟩ := trodVars_none hV
  obtain ⟨a0, rfl, rfl, rfl, w0⟩ := open_string Try.underlying9 (hval 0 9 v0 rfl rfl) h0
  have z0 : a0.size ≤ 140737488351232 := sized_string hsz (j := 0) (t := 9) rfl rfl
  obtain ⟨a1, rfl, rfl, rfl, w1⟩ := open_string Try.underlying9 (hval 1 9 v1 rfl rfl) h1
  have z1 : a1.size ≤ 140737488351232 := sized_string hsz (j := 1) (t := 9) rfl rfl
  obtain ⟨a2, rfl, rfl, rfl, w2⟩ := open_string Try.underlying9 (hval 2 9 v2 rfl rfl) h2
  have z2 : a2.size ≤ 140737488351232 := sized_string hsz (j := 2) (t := 9) rfl rfl
  obtain ⟨a3, rfl, rfl, rfl, w3⟩ := open_int Try.underlying3 (hval 3 3 v3 rfl rfl) h3
  obtain ⟨a4, rfl, rfl, rfl, w4⟩ := open_int Try.underlying25 (hval 4 25 v4 rfl rfl) h4
  obtain ⟨a5, rfl, rfl, rfl, w5⟩ := open_int Try.underlying25 (hval 5 25 v5 rfl rfl) h5
  obtain ⟨a6, rfl, rfl, rfl, w6⟩ := open_int Try.underlying25 (hval 6 25 v6 rfl rfl) h6
  obtain ⟨a7, rfl, rfl, rfl⟩ := open_bool Try.underlying4 (hval 7 4 v7 rfl rfl) h7
  clear hA0 hval0 hsz0 hsz
  simp only [List.append_nil] at hW'
  refine (walk a0 a1 a2 a3 a4 a5 a6 a7 z0 z1 z2 w3 w4 w5 w6 W).mono fun e W' ⟨he, hg⟩ => ?_
  subst he
  exact ⟨_, rfl, post_of_same (pa := []) (pv := []) hW' (fun _ _ _ => (trodAll_cons_mk (shut_bool Try.underlying4 _) trodAll_mk0)) (fun sp _ => (trodAll_cons_mk (shut_string Try.underlying9 w0) (trodAll_cons_mk (shut_string Try.underlying9 w1) (trodAll_cons_mk (shut_string Try.underlying9 w2) (trodAll_cons_mk (shut_int Try.underlying3 w3) (trodAll_cons_mk (shut_int Try.underlying25 w4) (trodAll_cons_mk (shut_int Try.underlying25 w5) (trodAll_cons_mk (shut_int Try.underlying25 w6) (trodAll_cons_mk (shut_bool Try.underlying4 _) trodAll_mk0))))))))) (fun _ _ => rfl) rfl
    (hg.frame _) hg.2.1 (ok_one (by kernel_rfl) rfl (okWide_bool_mk Try.underlying4 _))⟩

theorem over : Rows.sumsLinearRow.holds Try.pinned (OpenSpec.ofChange Rows.sumsLinearSpec) :=
  OpenClaim.holds_of_wide 4 Try.f4 rfl rfl rfl rfl rfl rfl rfl ⟨rfl, rfl, rfl, rfl, rfl⟩ rfl rfl rfl rfl rfl (by kernel_rfl) Try.func4 (by kernel_rfl)
    (of_decide_eq_true (by kernel_rfl)) (by unfold Func.isWrapper; first | (rw [if_pos (by decide +kernel)]; kernel_rfl) | (rw [if_neg (by decide +kernel)]; exact ⟨rfl, rfl⟩))
    (fun os started H enc _ => lifted os started H enc)

end Go.Proofs.Ythimjckimggpoaa.sumsLinear
namespace Go.Proofs.Ythimjckimggpoaa
/-- The given statement. -/
theorem sumsLinear_holds : Rows.SumsLinearSaid := sumsLinear.over
#print axioms sumsLinear_holds
end Go.Proofs.Ythimjckimggpoaa
