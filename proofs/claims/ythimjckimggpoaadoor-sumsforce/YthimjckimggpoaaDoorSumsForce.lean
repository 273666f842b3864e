/- For every way to make a sum, every text of at most 80 bytes (of longer ones nothing is asked), every place and every sum: the bytes that Force of package sums answers give the text that sum by the document, and are as many as the sum has; or the error of the document is told. errors.errorType is taken as the program lays it. -/
import Derived.Test.YthimjckimggpoaaDoorRows
import Derived.WalkKit
import Derived.ProofKit
import Derived.OpenShut
import Derived.SizedLaws
import Derived.Test.YthimjckimggpoaaDoorLaid
import Derived.Test.YthimjckimggpoaaDoorTie
import Derived.Test.YthimjckimggpoaaDoorCards
import Derived.SevenTiedAt
import Derived.Test.YthimjckimggpoaaDoorRefSumD
import Derived.Test.YthimjckimggpoaaDoorOpenSum
import Derived.ShutString
namespace Go.Proofs.YthimjckimggpoaaDoor.sumsForce
open Go.ChangeShapes Go.WideShapes Go.ChangeAt Go.RowKit
open Go.ChangeMaps (open_string shut_string)
set_option linter.unusedVariables false      -- a walk need not use every 'w<i>' (that an integer argument fits its kind)

theorem own : ownKnob Tryd.prog.godebug = none := by kernel_rfl

open sums crc bit mem errs
attribute [local go_sem] World.cell?_alloc_some
theorem walk (n0 p0 i0 o0 : Int) (t0 : Bool) (a1 : ByteArray) (a2 : Int) (a3 : Int) (wn : (Lit.int .i64 n0).wf = true) (wp : (Lit.int .u32 p0).wf = true) (wi : (Lit.int .u32 i0).wf = true) (wo : (Lit.int .u32 o0).wf = true) (w1 : a1.size ≤ 140737488351232) (w2 : (Lit.int .i64 a2).wf = true) (w3 : (Lit.int .u32 a3).wf = true) (w : World) (hg : errs.Laid w) :
    Calls Tryd.prog 4 #[.agg #[.int .i64 n0, .int .u32 p0, .bool t0, .int .u32 i0, .int .u32 o0], .string a1, .int .i64 a2, .int .u32 a3] w fun e w' => e = .returned (.bool true) ∧ Below w.heap.size w w' := by
  have bn := bounds_i64 wn
  have bp := bounds_u32 wp
  have bi := bounds_u32 wi
  have bo := bounds_u32 wo
  have b3 := bounds_u32 w3
  clear wn wp wi wo w2 w3
  obtain ⟨P, rfl⟩ := Int.eq_ofNat_of_zero_le (show 0 ≤ p0 by omega)
  obtain ⟨I, rfl⟩ := Int.eq_ofNat_of_zero_le (show 0 ≤ i0 by omega)
  obtain ⟨O, rfl⟩ := Int.eq_ofNat_of_zero_le (show 0 ≤ o0 by omega)
  obtain ⟨u, rfl⟩ := Int.eq_ofNat_of_zero_le (show 0 ≤ a3 by omega)
  obtain ⟨t, rfl⟩ : ∃ t, t = t0 := ⟨_, rfl⟩
  by_cases hl : 80 < a1.size
  · go_enter Tryd.func4, Tryd.ntmps4
    go_wp2
    go_ret
    exact ⟨rfl, (Bl.refl w).alloc _⟩
  have hl' : a1.size ≤ 80 := by omega
  clear hl
  by_cases hR : ∃ W : Nat, n0 = W ∧ Rt W P I O
  · obtain ⟨W, rfl, hR⟩ := hR
    have h8 := hR.h8
    have h32 := hR.h32
    have y5 : ∀ w, Calls Tryd.prog 9 #[.agg #[.int .i64 W, .int .u32 P, .bool t, .int .u32 I, .int .u32 O]] w fun e w' => e = .returned (.bool true) ∧ Gb w w' := fun w => refRight_yes W P I O t w hR
    by_cases hfar : a2 < 0 ∨ (a1.size : Int) < a2 ∨ 2 ^ W ≤ u
    · have y1 : ∀ w, Calls Tryd.prog 12 #[.agg #[.int .i64 W, .int .u32 P, .bool t, .int .u32 I, .int .u32 O], .string a1, .int .i64 a2, .int .u32 u] w fun e w' => e = .returned (.tuple #[.string ⟨#[]⟩, .iface 25 (.int .i64 2)]) ∧ Gb w w' := fun w => Force_far W P I O t a1 a2 u w hR hfar
      have y3 : ∀ w, Laid w → Calls Tryd.prog 7 #[.iface 25 (.int .i64 2), .int .i64 2] w fun ev w' => ev = .returned (.bool true) ∧ Gb w w' := fun w hl => bare_errno 2 2 w hl
      have HG : Hid (Laid w) := hg
      have L2 : ∀ v1 v2 : World, Gb (w.alloc (.cells #[.int .i64 W, .int .u32 P, .bool t, .int .u32 I, .int .u32 O] 24)) v1 → Gb v1 v2 → Laid v2 := fun v1 v2 g1 g2 => HG.out.gb ((Gb.alloc (Gb.refl w) _ _).trans (g1.trans g2))
      have hcs : (decide (a2 < 0) = true) ∨ (decide (a2 < 0) = false ∧ decide ((a1.size : Int) < a2) = true) ∨ (decide (a2 < 0) = false ∧ decide ((a1.size : Int) < a2) = false ∧ decide ((W : Int) < 32) = true ∧ decide ((2 : Int) ^ W % 4294967296 ≤ (u : Int)) = true) := by
        by_cases h1 : a2 < 0
        · exact Or.inl (decide_eq_true h1)
        · by_cases h2 : (a1.size : Int) < a2
          · exact Or.inr (Or.inl ⟨decide_eq_false h1, decide_eq_true h2⟩)
          · have h3 : 2 ^ W ≤ u := by omega
            refine Or.inr (Or.inr ⟨decide_eq_false h1, decide_eq_false h2, decide_eq_true ?_, decide_eq_true ?_⟩)
            · rcases Nat.lt_or_ge W 32 with h | h
              · omega
              · obtain rfl : W = 32 := by omega
                have : (2 : Nat) ^ 32 = 4294967296 := by decide
                omega
            · rw [← p2]
              generalize (2 : Nat) ^ W = Q at h3
              omega
      clear hR hfar hg
      rcases hcs with f1 | ⟨f1, f2⟩ | ⟨f1, f2, f3, f4⟩
      all_goals
        go_enter Tryd.func4, Tryd.ntmps4
        go_wp2_with (first | (go_at_call 12; refine (y1 _).mono ?_; rintro e v1 ⟨rfl, g1⟩; have c0 := at_gb g1 (a := ⟨w.heap.size, 0, none⟩) (v := .int .i64 W) (by go_simp); have c1 := at_gb g1 (a := ⟨w.heap.size, 1, none⟩) (v := .int .u32 P) (by go_simp); have c2 := at_gb g1 (a := ⟨w.heap.size, 2, none⟩) (v := .bool t) (by go_simp); have c3 := at_gb g1 (a := ⟨w.heap.size, 3, none⟩) (v := .int .u32 I) (by go_simp); have c4 := at_gb g1 (a := ⟨w.heap.size, 4, none⟩) (v := .int .u32 O) (by go_simp)) | (go_at_call 9; refine (y5 _).mono ?_; rintro e v2 ⟨rfl, g2⟩; have d0 := at_gb g2 (a := ⟨w.heap.size, 0, none⟩) (v := .int .i64 W) (by go_simp); have d1 := at_gb g2 (a := ⟨w.heap.size, 1, none⟩) (v := .int .u32 P) (by go_simp); have d2 := at_gb g2 (a := ⟨w.heap.size, 2, none⟩) (v := .bool t) (by go_simp); have d3 := at_gb g2 (a := ⟨w.heap.size, 3, none⟩) (v := .int .u32 I) (by go_simp); have d4 := at_gb g2 (a := ⟨w.heap.size, 4, none⟩) (v := .int .u32 O) (by go_simp)) | (go_at_call 7; refine (y3 _ (L2 _ _ g1 g2)).mono ?_; rintro e v3 ⟨rfl, g3⟩))
        go_ret
        exact ⟨rfl, ((Bl.refl w).alloc _).trans (g1.trans (g2.trans g3)).bl⟩
    · obtain ⟨a, rfl⟩ := Int.eq_ofNat_of_zero_le (show 0 ≤ a2 by omega)
      have haa : a ≤ a1.size := by omega
      have hu : u < 2 ^ W := by omega
      obtain ⟨B, hB⟩ : ∃ B, B = fc W t (fl W P t I O a1 a u) := ⟨_, rfl⟩
      have y1 : ∀ w, Calls Tryd.prog 12 #[.agg #[.int .i64 W, .int .u32 P, .bool t, .int .u32 I, .int .u32 O], .string a1, .int .i64 (a : Int), .int .u32 u] w fun e w' => e = .returned (.tuple #[.string B, .nilIface]) ∧ Gb w w' := fun w => by
        rw [hB]; exact Force_yes W P I O t a1 a u w hR (by omega) haa hu
      have hBs : B.size = W / 8 := by rw [hB]; exact fc_size _ _ _
      have y6 : ∀ w, Calls Tryd.prog 13 #[.agg #[.int .i64 W, .int .u32 P, .bool t, .int .u32 I, .int .u32 O], .string a1, .int .i64 (a : Int), .int .u32 u, .string B] w fun e w' => e = .returned (.bool true) ∧ Bl w w' := fun w =>
        refForced_yes W P I O t a1 B a u w hR hl' haa hBs ((forced W P t I O a1 B a u h8 hR.d8 hR.p hR.odd hR.i hR.o hu haa hBs).2 hB)
      have f1 : decide ((a : Int) < 0) = false := by simp
      have f2 : decide (a1.size < a) = false := by simp; omega
      have hcs : (decide ((W : Int) < 32) = true ∧ decide ((2 : Int) ^ W % 4294967296 ≤ (u : Int)) = false) ∨ (decide ((W : Int) < 32) = false) := by
        rcases Nat.lt_or_ge W 32 with h | h
        · refine Or.inl ⟨decide_eq_true (by omega), decide_eq_false ?_⟩
          have : 2 ^ W ≤ 2 ^ 31 := Nat.pow_le_pow_right (by decide) (by omega)
          have h31 : (2 : Nat) ^ 31 = 2147483648 := by decide
          rw [← p2]
          generalize (2 : Nat) ^ W = Q at this hu
          omega
        · exact Or.inr (decide_eq_false (by omega))
      clear hR hfar hg hB hBs haa hu
      rcases hcs with ⟨f3, f4⟩ | f3
      all_goals
        go_enter Tryd.func4, Tryd.ntmps4
        go_wp2_with (first | (go_at_call 12; refine (y1 _).mono ?_; rintro e v1 ⟨rfl, g1⟩; have c0 := at_gb g1 (a := ⟨w.heap.size, 0, none⟩) (v := .int .i64 W) (by go_simp); have c1 := at_gb g1 (a := ⟨w.heap.size, 1, none⟩) (v := .int .u32 P) (by go_simp); have c2 := at_gb g1 (a := ⟨w.heap.size, 2, none⟩) (v := .bool t) (by go_simp); have c3 := at_gb g1 (a := ⟨w.heap.size, 3, none⟩) (v := .int .u32 I) (by go_simp); have c4 := at_gb g1 (a := ⟨w.heap.size, 4, none⟩) (v := .int .u32 O) (by go_simp)) | (go_at_call 9; refine (y5 _).mono ?_; rintro e v2 ⟨rfl, g2⟩; have d0 := at_gb g2 (a := ⟨w.heap.size, 0, none⟩) (v := .int .i64 W) (by go_simp); have d1 := at_gb g2 (a := ⟨w.heap.size, 1, none⟩) (v := .int .u32 P) (by go_simp); have d2 := at_gb g2 (a := ⟨w.heap.size, 2, none⟩) (v := .bool t) (by go_simp); have d3 := at_gb g2 (a := ⟨w.heap.size, 3, none⟩) (v := .int .u32 I) (by go_simp); have d4 := at_gb g2 (a := ⟨w.heap.size, 4, none⟩) (v := .int .u32 O) (by go_simp)) | (go_at_call 13; refine (y6 _).mono ?_; rintro e v3 ⟨rfl, g3⟩))
        go_ret
        exact ⟨rfl, ((Bl.refl w).alloc _).trans ((g1.trans g2).bl.trans g3)⟩
  · obtain ⟨W, rfl⟩ : ∃ W, W = n0 := ⟨_, rfl⟩
    have hN : No W P I O := fun W' P' I' O' e1 e2 e3 e4 hr => hR ⟨W', e1, by
      have f2 : P = P' := by omega
      have f3 : I = I' := by omega
      have f4 : O = O' := by omega
      rw [f2, f3, f4]; exact hr⟩
    have y1 : ∀ w, Calls Tryd.prog 12 #[.agg #[.int .i64 W, .int .u32 P, .bool t, .int .u32 I, .int .u32 O], .string a1, .int .i64 a2, .int .u32 u] w fun e w' => e = .returned (.tuple #[.string ⟨#[]⟩, .iface 25 (.int .i64 1)]) ∧ Gb w w' := fun w => Force_no W P I O t a1 a2 u w hN (by omega)
    have y3 : ∀ w, Laid w → Calls Tryd.prog 7 #[.iface 25 (.int .i64 1), .int .i64 1] w fun ev w' => ev = .returned (.bool true) ∧ Gb w w' := fun w hl => bare_errno 1 1 w hl
    have y5 : ∀ w, Calls Tryd.prog 9 #[.agg #[.int .i64 W, .int .u32 P, .bool t, .int .u32 I, .int .u32 O]] w fun e w' => e = .returned (.bool false) ∧ Gb w w' := fun w => refRight_no W P I O t w hN (by omega) (by omega) (by omega)
    have HG : Hid (Laid w) := hg
    have L2 : ∀ v1 v2 : World, Gb (w.alloc (.cells #[.int .i64 W, .int .u32 P, .bool t, .int .u32 I, .int .u32 O] 24)) v1 → Gb v1 v2 → Laid v2 := fun v1 v2 g1 g2 => HG.out.gb ((Gb.alloc (Gb.refl w) _ _).trans (g1.trans g2))
    clear hR hN hg bn
    go_enter Tryd.func4, Tryd.ntmps4
    go_wp2_with (first | (go_at_call 12; refine (y1 _).mono ?_; rintro e v1 ⟨rfl, g1⟩; have c0 := at_gb g1 (a := ⟨w.heap.size, 0, none⟩) (v := .int .i64 W) (by go_simp); have c1 := at_gb g1 (a := ⟨w.heap.size, 1, none⟩) (v := .int .u32 P) (by go_simp); have c2 := at_gb g1 (a := ⟨w.heap.size, 2, none⟩) (v := .bool t) (by go_simp); have c3 := at_gb g1 (a := ⟨w.heap.size, 3, none⟩) (v := .int .u32 I) (by go_simp); have c4 := at_gb g1 (a := ⟨w.heap.size, 4, none⟩) (v := .int .u32 O) (by go_simp)) | (go_at_call 9; refine (y5 _).mono ?_; rintro e v2 ⟨rfl, g2⟩; have d0 := at_gb g2 (a := ⟨w.heap.size, 0, none⟩) (v := .int .i64 W) (by go_simp); have d1 := at_gb g2 (a := ⟨w.heap.size, 1, none⟩) (v := .int .u32 P) (by go_simp); have d2 := at_gb g2 (a := ⟨w.heap.size, 2, none⟩) (v := .bool t) (by go_simp); have d3 := at_gb g2 (a := ⟨w.heap.size, 3, none⟩) (v := .int .u32 I) (by go_simp); have d4 := at_gb g2 (a := ⟨w.heap.size, 4, none⟩) (v := .int .u32 O) (by go_simp)) | (go_at_call 7; refine (y3 _ (L2 _ _ g1 g2)).mono ?_; rintro e v3 ⟨rfl, g3⟩))
    go_ret
    exact ⟨rfl, ((Bl.refl w).alloc _).trans (g1.trans (g2.trans g3)).bl⟩

set_option maxRecDepth 100000 in
theorem lifted (os : Os) (started : os.Started) (H : Type) (enc : TypeId × Value → H) :
    ReturnsInHanded {} Tryd.checked os 4 .any (fun w args => (Rows.sumsForceSpec.pre enc Tryd.prog Tryd.f4 [] false w args ∧ laidMetH Tryd.prog laying.list w) ∧ sizedMet enc Tryd.prog Tryd.f4 (OpenSpec.ofChange Rows.sumsForceSpec) false w args) (Rows.sumsForceSpec.post enc Tryd.prog Tryd.f4 false true false false) := by
  refine returnsInHanded_of_change_and (C := Tryd.checked) (X := fun w _ => laidMetH Tryd.prog laying.list w) (fun _ _ _ hh h => h.of_heap hh) own started (by kernel_rfl) Tryd.func4
    (ChangeSpec.witness_at (enc := enc) (C := Tryd.checked) (os := os) (X := fun w _ => laidMetH Tryd.prog laying.list w) false (laying.layCell (World.holding Tryd.prog os ⟨#[], #[], []⟩)) #[.agg #[.int .i64 0, .int .u32 0, .bool false, .int .u32 0, .int .u32 0], .string ByteArray.empty, .int .i64 0, .int .u32 0] 8 rfl (by kernel_rfl) (by kernel_rfl) (by kernel_rfl) (by kernel_rfl) (by kernel_rfl) (laying.laidWorld_met os _)) ?_
  intro W base args ds gs before hval0 hW hcnd hsz0 hL _
  have hval : ∀ (j : Nat) t v, Tryd.f4.params[j]? = some t → args[j]? = some v → Value.okWide Tryd.prog W .any base t v := hval0
  have hW' := hW
  obtain ⟨p, q, hA0, hV, rfl, hfz, hnd⟩ := hW
  have hA : DataW.TrodAll enc Tryd.prog W 0 (fun _ => true) true Tryd.f4.params.toList args.toList ds p := hA0
  have hsz : (DataW.weightsEach Tryd.prog (Tryd.f4.params.toList ++ Rows.sumsForceSpec.plain.varTypes Tryd.prog) (ds ++ gs)).all (· ≤ reachBytes) = true := hsz0
  rw [Tryd.params4] at hA hval hsz
  obtain ⟨v0, vs0, d0, ds0, p0, q0, hargs, rfl, rfl, h0, r0⟩ := trodAll_cons hA
  obtain ⟨v1, vs1, d1, ds1, p1, q1, rfl, rfl, rfl, h1, r1⟩ := trodAll_cons r0
  obtain ⟨v2, vs2, d2, ds2, p2, q2, rfl, rfl, rfl, h2, r2⟩ := trodAll_cons r1
  obtain ⟨v3, vs3, d3, ds3, p3, q3, rfl, rfl, rfl, h3, r3⟩ := trodAll_cons r2
  obtain ⟨rfl, rfl, rfl⟩ := trodAll_nil r3
  obtain rfl : args = #[v0, v1, v2, v3] := by cases args; simp_all
  obtain ⟨rfl, rfl⟩ := trodVars_none hV
  obtain ⟨n0, p0, i0, o0, t0, rfl, rfl, rfl, wn, wp, wi, wo⟩ := sums.open_sum (hval 0 24 v0 rfl rfl) h0
  obtain ⟨a1, rfl, rfl, rfl, w1⟩ := open_string Tryd.underlying9 (hval 1 9 v1 rfl rfl) h1
  have z1 : a1.size ≤ 140737488351232 := sized_string hsz (j := 1) (t := 9) rfl rfl
  obtain ⟨a2, rfl, rfl, rfl, w2⟩ := open_int Tryd.underlying3 (hval 2 3 v2 rfl rfl) h2
  obtain ⟨a3, rfl, rfl, rfl, w3⟩ := open_int Tryd.underlying22 (hval 3 22 v3 rfl rfl) h3
  clear hA0 hval0 hsz0 hsz
  simp only [List.append_nil] at hW'
  refine (walk n0 p0 i0 o0 t0 a1 a2 a3 wn wp wi wo z1 w2 w3 W (laying.handle_of_laid hL)).mono fun e W' ⟨he, hg⟩ => ?_
  subst he
  exact ⟨_, rfl, _, _, _, [], [], [], hW', (trodAll_cons_mk (shut_bool Tryd.underlying4 _) trodAll_mk0), (trodAll_cons_mk (sums.shut_sum wn wp wi wo) (trodAll_cons_mk (shut_string Tryd.underlying9 w1) (trodAll_cons_mk (shut_int Tryd.underlying3 w2) (trodAll_cons_mk (shut_int Tryd.underlying22 w3) trodAll_mk0)))), rfl, hg.frame _, fun h => by cases h⟩

theorem over : Rows.sumsForceRow.holds Tryd.pinned (OpenSpec.ofChange Rows.sumsForceSpec) :=
  OpenClaim.holds_of_wide 4 Tryd.f4 rfl rfl rfl rfl rfl rfl rfl ⟨rfl, rfl, rfl, rfl, rfl⟩ rfl rfl rfl rfl rfl (by kernel_rfl) Tryd.func4 (by kernel_rfl)
    (of_decide_eq_true (by kernel_rfl)) (by unfold Func.isWrapper; first | (rw [if_pos (by decide +kernel)]; kernel_rfl) | (rw [if_neg (by decide +kernel)]; exact ⟨rfl, rfl⟩))
    (fun os started H enc _ => lifted os started H enc)

theorem tied : Rows.SumsForceCardSaid :=
  Claim7.holds_tied_plain_at .later [] [.handle] true (true, "6836811b55dadf0ff0fb84c44b35d82f34952c64247341787335a1727b425b50") true
    over (fun _ h => by cases h) (by kernel_rfl) (fun _ h => by cases h) sumsForce_row_tie rfl ⟨rfl, rfl⟩ (by kernel_rfl) rfl
    (fun f fn hf hfn => by
      obtain rfl : f = 4 := Option.some.inj ((show Tryd.prog.funcNamed "escritoire/escritoirelaw.SumsForce" = some 4 by kernel_rfl).symm.trans hf) |>.symm
      obtain rfl : fn = Tryd.f4 := (Option.some.inj (Tryd.func4.symm.trans hfn)).symm
      exact ⟨by kernel_rfl, fun j t ht => by
        rw [Tryd.params4] at ht
        rcases j with _ | j
        · obtain rfl : t = 24 := by simpa using ht.symm
          exact (show Tryd.prog.wantsStandIn 24 = false by kernel_rfl)
        · rcases j with _ | j
          · obtain rfl : t = 9 := by simpa using ht.symm
            exact (show Tryd.prog.wantsStandIn 9 = false by kernel_rfl)
          · rcases j with _ | j
            · obtain rfl : t = 3 := by simpa using ht.symm
              exact (show Tryd.prog.wantsStandIn 3 = false by kernel_rfl)
            · rcases j with _ | j
              · obtain rfl : t = 22 := by simpa using ht.symm
                exact (show Tryd.prog.wantsStandIn 22 = false by kernel_rfl)
              · simp at ht⟩)
    (by kernel_rfl)
end Go.Proofs.YthimjckimggpoaaDoor.sumsForce
namespace Go.Proofs.YthimjckimggpoaaDoor
/-- The given statement. -/
theorem sumsForce_holds : Rows.SumsForceCardSaid := sumsForce.tied
#print axioms sumsForce_holds
end Go.Proofs.YthimjckimggpoaaDoor
