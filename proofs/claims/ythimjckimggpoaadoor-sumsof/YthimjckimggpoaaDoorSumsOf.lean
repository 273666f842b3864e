/- For every way to make a sum and every text of at most 120 bytes (of longer ones nothing is asked): Of, Right and Crc of package sums answer as the document has it, its errors too. errors.errorType is taken as the program lays it. -/
import Derived.Test.YthimjckimggpoaaDoorRows
import Derived.WalkKit
import Derived.ProofKit
import Derived.OpenShut
import Derived.SizedLaws
import Derived.Test.YthimjckimggpoaaDoorLaid
import Derived.Test.YthimjckimggpoaaDoorTie
import Derived.Test.YthimjckimggpoaaDoorCards
import Derived.SevenTiedAt
import Derived.Test.YthimjckimggpoaaDoorRefSumC
import Derived.Test.YthimjckimggpoaaDoorOpenSum
import Derived.ShutString
namespace Go.Proofs.YthimjckimggpoaaDoor.sumsOf
open Go.ChangeShapes Go.WideShapes Go.ChangeAt Go.RowKit
open Go.ChangeMaps (open_string shut_string)
set_option linter.unusedVariables false      -- a walk need not use every 'w<i>' (that an integer argument fits its kind)

theorem own : ownKnob Tryd.prog.godebug = none := by kernel_rfl

open sums crc bit mem errs
attribute [local go_sem] World.cell?_alloc_some
theorem walk (n0 p0 i0 o0 : Int) (t0 : Bool) (a1 : ByteArray) (wn : (Lit.int .i64 n0).wf = true) (wp : (Lit.int .u32 p0).wf = true) (wi : (Lit.int .u32 i0).wf = true) (wo : (Lit.int .u32 o0).wf = true) (w1 : a1.size ≤ 140737488351232) (w : World) (hg : errs.Laid w) :
    Calls Tryd.prog 3 #[.agg #[.int .i64 n0, .int .u32 p0, .bool t0, .int .u32 i0, .int .u32 o0], .string a1] w fun e w' => e = .returned (.bool true) ∧ Below w.heap.size w w' := by
  have bn := bounds_i64 wn
  have bp := bounds_u32 wp
  have bi := bounds_u32 wi
  have bo := bounds_u32 wo
  clear wn wp wi wo
  obtain ⟨P, rfl⟩ := Int.eq_ofNat_of_zero_le (show 0 ≤ p0 by omega)
  obtain ⟨I, rfl⟩ := Int.eq_ofNat_of_zero_le (show 0 ≤ i0 by omega)
  obtain ⟨O, rfl⟩ := Int.eq_ofNat_of_zero_le (show 0 ≤ o0 by omega)
  obtain ⟨t, rfl⟩ : ∃ t, t = t0 := ⟨_, rfl⟩
  by_cases hl : 120 < a1.size
  · go_enter Tryd.func3, Tryd.ntmps3
    go_wp2
    go_ret
    exact ⟨rfl, (Bl.refl w).alloc _⟩
  have hl' : a1.size ≤ 120 := by omega
  clear hl
  have y6 : ∀ w, Calls Tryd.prog 10 #[.string a1] w fun e w' => e = .returned (.int .u32 (crcV a1 : Nat)) ∧ Gb w w' := fun w => Crc_at a1 w (by omega)
  have y7 : ∀ w, Calls Tryd.prog 11 #[.string a1] w fun e w' => e = .returned (.int .u32 (crcV a1 : Nat)) ∧ Bl w w' := fun w => refCrc_at a1 w (by omega)
  generalize crcV a1 = cv at y6 y7
  by_cases hR : ∃ W : Nat, n0 = W ∧ Rt W P I O
  · obtain ⟨W, rfl, hR⟩ := hR
    have y1 : ∀ w, Calls Tryd.prog 5 #[.agg #[.int .i64 W, .int .u32 P, .bool t, .int .u32 I, .int .u32 O], .string a1] w fun e w' => e = .returned (.tuple #[.int .u32 (sumV W P t I O a1 : Nat), .int .i64 0]) ∧ Bl w w' := fun w => refSumOf_yes W P I O t a1 w hR (by omega)
    have y2 : ∀ w, Calls Tryd.prog 6 #[.agg #[.int .i64 W, .int .u32 P, .bool t, .int .u32 I, .int .u32 O], .string a1] w fun e w' => e = .returned (.tuple #[.int .u32 (sumV W P t I O a1 : Nat), .nilIface]) ∧ Gb w w' := fun w => Of_yes W P I O t a1 w hR (by omega)
    have y3 : ∀ w, Calls Tryd.prog 7 #[.nilIface, .int .i64 0] w fun ev w' => ev = .returned (.bool true) ∧ w' = w := fun w => bare_nil 0 w
    have y4 : ∀ w, Calls Tryd.prog 8 #[.agg #[.int .i64 W, .int .u32 P, .bool t, .int .u32 I, .int .u32 O]] w fun e w' => e = .returned (.bool true) ∧ Gb w w' := fun w => Right_yes W P I O t w hR
    have y5 : ∀ w, Calls Tryd.prog 9 #[.agg #[.int .i64 W, .int .u32 P, .bool t, .int .u32 I, .int .u32 O]] w fun e w' => e = .returned (.bool true) ∧ Gb w w' := fun w => refRight_yes W P I O t w hR
    generalize sumV W P t I O a1 = sv at y1 y2
    clear hR hg bn
    go_enter Tryd.func3, Tryd.ntmps3
    go_wp2_with (first | (go_at_call 5; refine (y1 _).mono ?_; rintro e v1 ⟨rfl, g1⟩; have c0 := at_bl g1 (a := ⟨w.heap.size, 0, none⟩) (v := .int .i64 W) (by go_simp); have c1 := at_bl g1 (a := ⟨w.heap.size, 1, none⟩) (v := .int .u32 P) (by go_simp); have c2 := at_bl g1 (a := ⟨w.heap.size, 2, none⟩) (v := .bool t) (by go_simp); have c3 := at_bl g1 (a := ⟨w.heap.size, 3, none⟩) (v := .int .u32 I) (by go_simp); have c4 := at_bl g1 (a := ⟨w.heap.size, 4, none⟩) (v := .int .u32 O) (by go_simp)) | (go_at_call 6; refine (y2 _).mono ?_; rintro e v2 ⟨rfl, g2⟩; have d0 := at_gb g2 (a := ⟨w.heap.size, 0, none⟩) (v := .int .i64 W) (by go_simp); have d1 := at_gb g2 (a := ⟨w.heap.size, 1, none⟩) (v := .int .u32 P) (by go_simp); have d2 := at_gb g2 (a := ⟨w.heap.size, 2, none⟩) (v := .bool t) (by go_simp); have d3 := at_gb g2 (a := ⟨w.heap.size, 3, none⟩) (v := .int .u32 I) (by go_simp); have d4 := at_gb g2 (a := ⟨w.heap.size, 4, none⟩) (v := .int .u32 O) (by go_simp)))
    go_region_held3 (fun w' => (World.cell? w' ⟨w.heap.size, 0, none⟩ = some (.int .i64 W) ∧ World.cell? w' ⟨w.heap.size, 1, none⟩ = some (.int .u32 P) ∧ World.cell? w' ⟨w.heap.size, 2, none⟩ = some (.bool t) ∧ World.cell? w' ⟨w.heap.size, 3, none⟩ = some (.int .u32 I) ∧ World.cell? w' ⟨w.heap.size, 4, none⟩ = some (.int .u32 O))) (simp (maxDischargeDepth := 9) [*]) (first | (go_at_call 7; refine (y3 _).mono ?_; rintro e v3 ⟨rfl, rfl⟩) | (go_at_call 8; refine (y4 _).mono ?_; rintro e v4 ⟨rfl, g4⟩; have f0 := at_gb g4 (a := ⟨w.heap.size, 0, none⟩) (v := .int .i64 W) (by go_simp); have f1 := at_gb g4 (a := ⟨w.heap.size, 1, none⟩) (v := .int .u32 P) (by go_simp); have f2 := at_gb g4 (a := ⟨w.heap.size, 2, none⟩) (v := .bool t) (by go_simp); have f3 := at_gb g4 (a := ⟨w.heap.size, 3, none⟩) (v := .int .u32 I) (by go_simp); have f4 := at_gb g4 (a := ⟨w.heap.size, 4, none⟩) (v := .int .u32 O) (by go_simp)) | (go_at_call 9; refine (y5 _).mono ?_; rintro e v5 ⟨rfl, g5⟩; have h0 := at_gb g5 (a := ⟨w.heap.size, 0, none⟩) (v := .int .i64 W) (by go_simp); have h1 := at_gb g5 (a := ⟨w.heap.size, 1, none⟩) (v := .int .u32 P) (by go_simp); have h2 := at_gb g5 (a := ⟨w.heap.size, 2, none⟩) (v := .bool t) (by go_simp); have h3 := at_gb g5 (a := ⟨w.heap.size, 3, none⟩) (v := .int .u32 I) (by go_simp); have h4 := at_gb g5 (a := ⟨w.heap.size, 4, none⟩) (v := .int .u32 O) (by go_simp)) | (go_at_call 10; refine (y6 _).mono ?_; rintro e v6 ⟨rfl, g6⟩; have j0 := at_gb g6 (a := ⟨w.heap.size, 0, none⟩) (v := .int .i64 W) (by go_simp); have j1 := at_gb g6 (a := ⟨w.heap.size, 1, none⟩) (v := .int .u32 P) (by go_simp); have j2 := at_gb g6 (a := ⟨w.heap.size, 2, none⟩) (v := .bool t) (by go_simp); have j3 := at_gb g6 (a := ⟨w.heap.size, 3, none⟩) (v := .int .u32 I) (by go_simp); have j4 := at_gb g6 (a := ⟨w.heap.size, 4, none⟩) (v := .int .u32 O) (by go_simp)) | (go_at_call 11; refine (y7 _).mono ?_; rintro e v7 ⟨rfl, g7⟩; have k0 := at_bl g7 (a := ⟨w.heap.size, 0, none⟩) (v := .int .i64 W) (by go_simp); have k1 := at_bl g7 (a := ⟨w.heap.size, 1, none⟩) (v := .int .u32 P) (by go_simp); have k2 := at_bl g7 (a := ⟨w.heap.size, 2, none⟩) (v := .bool t) (by go_simp); have k3 := at_bl g7 (a := ⟨w.heap.size, 3, none⟩) (v := .int .u32 I) (by go_simp); have k4 := at_bl g7 (a := ⟨w.heap.size, 4, none⟩) (v := .int .u32 O) (by go_simp)))
    go_wp2
    go_ret
    exact ⟨rfl, (((((Bl.refl w).alloc _).trans g1).trans g2.bl).drew.trans (g4.bl.trans (g5.bl.trans (g6.bl.trans g7))))⟩
  · obtain ⟨W, rfl⟩ : ∃ W, W = n0 := ⟨_, rfl⟩
    have hN : No W P I O := fun W' P' I' O' e1 e2 e3 e4 hr => hR ⟨W', e1, by
      have f2 : P = P' := by omega
      have f3 : I = I' := by omega
      have f4 : O = O' := by omega
      rw [f2, f3, f4]; exact hr⟩
    have y1 : ∀ w, Calls Tryd.prog 5 #[.agg #[.int .i64 W, .int .u32 P, .bool t, .int .u32 I, .int .u32 O], .string a1] w fun e w' => e = .returned (.tuple #[.int .u32 0, .int .i64 1]) ∧ Gb w w' := fun w => refSumOf_no W P I O t a1 w hN (by omega) (by omega) (by omega)
    have y2 : ∀ w, Calls Tryd.prog 6 #[.agg #[.int .i64 W, .int .u32 P, .bool t, .int .u32 I, .int .u32 O], .string a1] w fun e w' => e = .returned (.tuple #[.int .u32 0, .iface 25 (.int .i64 1)]) ∧ Gb w w' := fun w => Of_no W P I O t a1 w hN (by omega)
    have y3 : ∀ w, Laid w → Calls Tryd.prog 7 #[.iface 25 (.int .i64 1), .int .i64 1] w fun ev w' => ev = .returned (.bool true) ∧ Gb w w' := fun w hl => bare_errno 1 1 w hl
    have y4 : ∀ w, Calls Tryd.prog 8 #[.agg #[.int .i64 W, .int .u32 P, .bool t, .int .u32 I, .int .u32 O]] w fun e w' => e = .returned (.bool false) ∧ Gb w w' := fun w => Right_no W P I O t w hN (by omega)
    have y5 : ∀ w, Calls Tryd.prog 9 #[.agg #[.int .i64 W, .int .u32 P, .bool t, .int .u32 I, .int .u32 O]] w fun e w' => e = .returned (.bool false) ∧ Gb w w' := fun w => refRight_no W P I O t w hN (by omega) (by omega) (by omega)
    have HG : Hid (Laid w) := hg
    clear hR hN hg bn
    go_enter Tryd.func3, Tryd.ntmps3
    go_wp2_with (first | (go_at_call 5; refine (y1 _).mono ?_; rintro e v1 ⟨rfl, g1⟩; have c0 := at_gb g1 (a := ⟨w.heap.size, 0, none⟩) (v := .int .i64 W) (by go_simp); have c1 := at_gb g1 (a := ⟨w.heap.size, 1, none⟩) (v := .int .u32 P) (by go_simp); have c2 := at_gb g1 (a := ⟨w.heap.size, 2, none⟩) (v := .bool t) (by go_simp); have c3 := at_gb g1 (a := ⟨w.heap.size, 3, none⟩) (v := .int .u32 I) (by go_simp); have c4 := at_gb g1 (a := ⟨w.heap.size, 4, none⟩) (v := .int .u32 O) (by go_simp)) | (go_at_call 6; refine (y2 _).mono ?_; rintro e v2 ⟨rfl, g2⟩; have d0 := at_gb g2 (a := ⟨w.heap.size, 0, none⟩) (v := .int .i64 W) (by go_simp); have d1 := at_gb g2 (a := ⟨w.heap.size, 1, none⟩) (v := .int .u32 P) (by go_simp); have d2 := at_gb g2 (a := ⟨w.heap.size, 2, none⟩) (v := .bool t) (by go_simp); have d3 := at_gb g2 (a := ⟨w.heap.size, 3, none⟩) (v := .int .u32 I) (by go_simp); have d4 := at_gb g2 (a := ⟨w.heap.size, 4, none⟩) (v := .int .u32 O) (by go_simp)))
    have L2 : Hid (Laid v2.drew) := HG.out.gb (((Gb.alloc (Gb.refl w) _ _).trans (g1.trans g2)).drew)
    go_region_held3 (fun w' => (World.cell? w' ⟨w.heap.size, 0, none⟩ = some (.int .i64 W) ∧ World.cell? w' ⟨w.heap.size, 1, none⟩ = some (.int .u32 P) ∧ World.cell? w' ⟨w.heap.size, 2, none⟩ = some (.bool t) ∧ World.cell? w' ⟨w.heap.size, 3, none⟩ = some (.int .u32 I) ∧ World.cell? w' ⟨w.heap.size, 4, none⟩ = some (.int .u32 O))) (simp (maxDischargeDepth := 9) [*]) (first | (go_at_call 7; refine (y3 _ L2.out).mono ?_; rintro e v3 ⟨rfl, g3⟩; have m0 := at_gb g3 (a := ⟨w.heap.size, 0, none⟩) (v := .int .i64 W) (by go_simp); have m1 := at_gb g3 (a := ⟨w.heap.size, 1, none⟩) (v := .int .u32 P) (by go_simp); have m2 := at_gb g3 (a := ⟨w.heap.size, 2, none⟩) (v := .bool t) (by go_simp); have m3 := at_gb g3 (a := ⟨w.heap.size, 3, none⟩) (v := .int .u32 I) (by go_simp); have m4 := at_gb g3 (a := ⟨w.heap.size, 4, none⟩) (v := .int .u32 O) (by go_simp)) | (go_at_call 8; refine (y4 _).mono ?_; rintro e v4 ⟨rfl, g4⟩; have f0 := at_gb g4 (a := ⟨w.heap.size, 0, none⟩) (v := .int .i64 W) (by go_simp); have f1 := at_gb g4 (a := ⟨w.heap.size, 1, none⟩) (v := .int .u32 P) (by go_simp); have f2 := at_gb g4 (a := ⟨w.heap.size, 2, none⟩) (v := .bool t) (by go_simp); have f3 := at_gb g4 (a := ⟨w.heap.size, 3, none⟩) (v := .int .u32 I) (by go_simp); have f4 := at_gb g4 (a := ⟨w.heap.size, 4, none⟩) (v := .int .u32 O) (by go_simp)) | (go_at_call 9; refine (y5 _).mono ?_; rintro e v5 ⟨rfl, g5⟩; have h0 := at_gb g5 (a := ⟨w.heap.size, 0, none⟩) (v := .int .i64 W) (by go_simp); have h1 := at_gb g5 (a := ⟨w.heap.size, 1, none⟩) (v := .int .u32 P) (by go_simp); have h2 := at_gb g5 (a := ⟨w.heap.size, 2, none⟩) (v := .bool t) (by go_simp); have h3 := at_gb g5 (a := ⟨w.heap.size, 3, none⟩) (v := .int .u32 I) (by go_simp); have h4 := at_gb g5 (a := ⟨w.heap.size, 4, none⟩) (v := .int .u32 O) (by go_simp)) | (go_at_call 10; refine (y6 _).mono ?_; rintro e v6 ⟨rfl, g6⟩; have j0 := at_gb g6 (a := ⟨w.heap.size, 0, none⟩) (v := .int .i64 W) (by go_simp); have j1 := at_gb g6 (a := ⟨w.heap.size, 1, none⟩) (v := .int .u32 P) (by go_simp); have j2 := at_gb g6 (a := ⟨w.heap.size, 2, none⟩) (v := .bool t) (by go_simp); have j3 := at_gb g6 (a := ⟨w.heap.size, 3, none⟩) (v := .int .u32 I) (by go_simp); have j4 := at_gb g6 (a := ⟨w.heap.size, 4, none⟩) (v := .int .u32 O) (by go_simp)) | (go_at_call 11; refine (y7 _).mono ?_; rintro e v7 ⟨rfl, g7⟩; have k0 := at_bl g7 (a := ⟨w.heap.size, 0, none⟩) (v := .int .i64 W) (by go_simp); have k1 := at_bl g7 (a := ⟨w.heap.size, 1, none⟩) (v := .int .u32 P) (by go_simp); have k2 := at_bl g7 (a := ⟨w.heap.size, 2, none⟩) (v := .bool t) (by go_simp); have k3 := at_bl g7 (a := ⟨w.heap.size, 3, none⟩) (v := .int .u32 I) (by go_simp); have k4 := at_bl g7 (a := ⟨w.heap.size, 4, none⟩) (v := .int .u32 O) (by go_simp)))
    go_wp2
    go_ret
    exact ⟨rfl, (((((Bl.refl w).alloc _).trans g1.bl).trans g2.bl).drew.trans (g3.bl.trans (g4.bl.trans (g5.bl.trans (g6.bl.trans g7)))))⟩

set_option maxRecDepth 100000 in
theorem lifted (os : Os) (started : os.Started) (H : Type) (enc : TypeId × Value → H) :
    ReturnsInHanded {} Tryd.checked os 3 .any (fun w args => (Rows.sumsOfSpec.pre enc Tryd.prog Tryd.f3 [] false w args ∧ laidMetH Tryd.prog laying.list w) ∧ sizedMet enc Tryd.prog Tryd.f3 (OpenSpec.ofChange Rows.sumsOfSpec) false w args) (Rows.sumsOfSpec.post enc Tryd.prog Tryd.f3 false true false false) := by
  refine returnsInHanded_of_change_and (C := Tryd.checked) (X := fun w _ => laidMetH Tryd.prog laying.list w) (fun _ _ _ hh h => h.of_heap hh) own started (by kernel_rfl) Tryd.func3
    (ChangeSpec.witness_at (enc := enc) (C := Tryd.checked) (os := os) (X := fun w _ => laidMetH Tryd.prog laying.list w) false (laying.layCell (World.holding Tryd.prog os ⟨#[], #[], []⟩)) #[.agg #[.int .i64 0, .int .u32 0, .bool false, .int .u32 0, .int .u32 0], .string ByteArray.empty] 8 rfl (by kernel_rfl) (by kernel_rfl) (by kernel_rfl) (by kernel_rfl) (by kernel_rfl) (laying.laidWorld_met os _)) ?_
  intro W base args ds gs before hval0 hW hcnd hsz0 hL _
  have hval : ∀ (j : Nat) t v, Tryd.f3.params[j]? = some t → args[j]? = some v → Value.okWide Tryd.prog W .any base t v := hval0
  have hW' := hW
  obtain ⟨p, q, hA0, hV, rfl, hfz, hnd⟩ := hW
  have hA : DataW.TrodAll enc Tryd.prog W 0 (fun _ => true) true Tryd.f3.params.toList args.toList ds p := hA0
  have hsz : (DataW.weightsEach Tryd.prog (Tryd.f3.params.toList ++ Rows.sumsOfSpec.plain.varTypes Tryd.prog) (ds ++ gs)).all (· ≤ reachBytes) = true := hsz0
  rw [Tryd.params3] at hA hval hsz
  obtain ⟨v0, vs0, d0, ds0, p0, q0, hargs, rfl, rfl, h0, r0⟩ := trodAll_cons hA
  obtain ⟨v1, vs1, d1, ds1, p1, q1, rfl, rfl, rfl, h1, r1⟩ := trodAll_cons r0
  obtain ⟨rfl, rfl, rfl⟩ := trodAll_nil r1
  obtain rfl : args = #[v0, v1] := by cases args; simp_all
  obtain ⟨rfl, rfl⟩ := trodVars_none hV
  obtain ⟨n0, p0, i0, o0, t0, rfl, rfl, rfl, wn, wp, wi, wo⟩ := sums.open_sum (hval 0 24 v0 rfl rfl) h0
  obtain ⟨a1, rfl, rfl, rfl, w1⟩ := open_string Tryd.underlying9 (hval 1 9 v1 rfl rfl) h1
  have z1 : a1.size ≤ 140737488351232 := sized_string hsz (j := 1) (t := 9) rfl rfl
  clear hA0 hval0 hsz0 hsz
  simp only [List.append_nil] at hW'
  refine (walk n0 p0 i0 o0 t0 a1 wn wp wi wo z1 W (laying.handle_of_laid hL)).mono fun e W' ⟨he, hg⟩ => ?_
  subst he
  exact ⟨_, rfl, _, _, _, [], [], [], hW', (trodAll_cons_mk (shut_bool Tryd.underlying4 _) trodAll_mk0), (trodAll_cons_mk (sums.shut_sum wn wp wi wo) (trodAll_cons_mk (shut_string Tryd.underlying9 w1) trodAll_mk0)), rfl, hg.frame _, fun h => by cases h⟩

theorem over : Rows.sumsOfRow.holds Tryd.pinned (OpenSpec.ofChange Rows.sumsOfSpec) :=
  OpenClaim.holds_of_wide 3 Tryd.f3 rfl rfl rfl rfl rfl rfl rfl ⟨rfl, rfl, rfl, rfl, rfl⟩ rfl rfl rfl rfl rfl (by kernel_rfl) Tryd.func3 (by kernel_rfl)
    (of_decide_eq_true (by kernel_rfl)) (by unfold Func.isWrapper; first | (rw [if_pos (by decide +kernel)]; kernel_rfl) | (rw [if_neg (by decide +kernel)]; exact ⟨rfl, rfl⟩))
    (fun os started H enc _ => lifted os started H enc)

theorem tied : Rows.SumsOfCardSaid :=
  Claim7.holds_tied_plain_at .later [] [.handle] true (true, "6836811b55dadf0ff0fb84c44b35d82f34952c64247341787335a1727b425b50") true
    over (fun _ h => by cases h) (by kernel_rfl) (fun _ h => by cases h) sumsOf_row_tie rfl ⟨rfl, rfl⟩ (by kernel_rfl) rfl
    (fun f fn hf hfn => by
      obtain rfl : f = 3 := Option.some.inj ((show Tryd.prog.funcNamed "escritoire/escritoirelaw.SumsOf" = some 3 by kernel_rfl).symm.trans hf) |>.symm
      obtain rfl : fn = Tryd.f3 := (Option.some.inj (Tryd.func3.symm.trans hfn)).symm
      exact ⟨by kernel_rfl, fun j t ht => by
        rw [Tryd.params3] at ht
        rcases j with _ | j
        · obtain rfl : t = 24 := by simpa using ht.symm
          exact (show Tryd.prog.wantsStandIn 24 = false by kernel_rfl)
        · rcases j with _ | j
          · obtain rfl : t = 9 := by simpa using ht.symm
            exact (show Tryd.prog.wantsStandIn 9 = false by kernel_rfl)
          · simp at ht⟩)
    (by kernel_rfl)
end Go.Proofs.YthimjckimggpoaaDoor.sumsOf
namespace Go.Proofs.YthimjckimggpoaaDoor
/-- The given statement. -/
theorem sumsOf_holds : Rows.SumsOfCardSaid := sumsOf.tied
#print axioms sumsOf_holds
end Go.Proofs.YthimjckimggpoaaDoor
