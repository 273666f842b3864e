/- Of the signs of any lengths that can all be (at most 256, each of 0 to 24 bits), none of two unlike things begins the other's: HuffApart answers true at every list of numbers and every two numbers. -/
import Derived.Test.YtkldnapbeebdkaaRows
import Derived.WalkKit
import Derived.ProofKit
import Derived.OpenShut
import Derived.Test.YtkldnapbeebdkaaHg3
import Derived.ShutString
import Derived.ChangeOld
import Derived.Below
namespace Go.Proofs.Ytkldnapbeebdkaa.huffApart
open Go.ChangeShapes Go.WideShapes Go.ChangeAt Go.RowKit
open Go.ChangeMaps (open_string shut_string)
set_option linter.unusedVariables false

theorem own : ownKnob Try.prog.godebug = none := by kernel_rfl
theorem laidOut : laidOutB Try.prog = true := by kernel_rfl

/-- WHAT THE WALK IS TOLD OF A SLICE OF INTEGERS THAT CAME IN: it is nil; or it leads to a row of 'cap' cells, the numbers 'zs' (the first 'len' are its elements, the rest its spare room), each fitting its kind. -/
def IsRow (k : IntKind) (w : World) (a : Option Addr) (len cap : Nat) (zs : List Int) : Prop :=
  (a = none ∧ len = 0 ∧ cap = 0 ∧ zs = []) ∨
  ∃ x, a = some x ∧ len ≤ cap ∧ cap ≤ maxLen ∧ zs.length = cap ∧ (∀ i, i < zs.length → w.cell? (x.add i) = some (.int k (zs.getD i 0))) ∧ ∀ n ∈ zs, (Lit.int k n).wf = true

open mem rows hg
theorem open_row {w : World} {a : Option Addr} {len cap : Nat} {zs : List Int} (h : IsRow .i64 w a len cap zs) : ∃ l : List Int, len = l.length ∧ In w a l ∧ len ≤ 9223372036854775807 := by
  rcases h with ⟨rfl, rfl, rfl, rfl⟩ | ⟨x, rfl, h1, h2, h3, h4, _⟩
  · exact ⟨[], rfl, Or.inl rfl, by omega⟩
  · refine ⟨zs.take len, by rw [List.length_take]; omega, Or.inr ⟨x, rfl, fun k hk => ?_⟩, by unfold maxLen at h2; omega⟩
    rw [List.length_take] at hk
    rw [h4 k (by omega)]
    simp only [List.getD_eq_getElem?_getD]
    rw [List.getElem?_take_of_lt (by omega)]
def pk (a : Int) (n : Nat) : Nat := ((a % 18446744073709551616) % (n : Int)).toNat
theorem pk_lt (a : Int) (n : Nat) (hn : 0 < n) : pk a n < n := by
  unfold pk
  have h2 := Int.emod_lt_of_pos (a % 18446744073709551616) (show (0 : Int) < (n : Int) by omega)
  have h3 := Int.emod_nonneg (a % 18446744073709551616) (show (n : Int) ≠ 0 by omega)
  omega
theorem pick_at (a : Int) (n : Nat) (w : World) (hn : 0 < n) (hn' : n ≤ 1000000) : Calls Try.prog 12 #[.int .i64 a, .int .i64 n] w fun e w' => e = .returned (.int .i64 (pk a n)) ∧ w' = w := by
  go_enter Try.func12, Try.ntmps12
  go_wp2
  go_ret
  refine ⟨ret_int ?_, rfl⟩
  have h0 : 0 ≤ a % 18446744073709551616 := by omega
  have h1 := pk_lt a n hn
  have h2 := Int.emod_nonneg (a % 18446744073709551616) (show (n : Int) ≠ 0 by omega)
  rw [IntKind.wrap_u64, Int.tmod_eq_emod_of_nonneg h0]
  unfold pk at h1 ⊢
  unfold wrap64
  omega
theorem sgn_get {l : List Int} {i : Nat} (h : i < l.length) : (signsOf l).getD i 0 = sgn l l.length i := by
  unfold signsOf
  rw [List.getD_eq_getElem?_getD, List.getElem?_map, List.getElem?_range h]
  rfl
set_option maxHeartbeats 2000000 in
set_option maxRecDepth 10000 in
theorem walk (a0 : Option Addr) (len0 cap0 : Nat) (z0 : List Int) (a1 : Int) (a2 : Int) (w : World) (w0 : IsRow .i64 w a0 len0 cap0 z0) (w1 : (Lit.int .i64 a1).wf = true) (w2 : (Lit.int .i64 a2).wf = true) :
    Calls Try.prog 5 #[.slice a0 len0 cap0, .int .i64 a1, .int .i64 a2] w fun e w' => e = .returned (.bool true) ∧ Below w.heap.size w w' := by
  obtain ⟨l, hl, hin, h63⟩ := open_row w0
  clear w0
  have HL : Hid (len0 = l.length) := hl
  have HIN : Hid (In w a0 l) := hin
  have cC := coded_at w
  clear hl hin
  go_enter Try.func5, Try.ntmps5
  by_cases h0 : len0 = 0
  · subst h0
    go_wp2_with (go_at_call 7; refine cC.mono ?_; rintro e w1 ⟨rfl, hb1⟩)
    go_ret
    exact ⟨rfl, hb1⟩
  have h0b : ((len0 : Int) == 0) = false := by rw [beq_eq_false_iff_ne]; omega
  by_cases h256 : 256 < len0
  · have h256z : (256 : Int) < len0 := by omega
    go_wp2_with (go_at_call 7; refine cC.mono ?_; rintro e w1 ⟨rfl, hb1⟩)
    go_ret
    exact ⟨rfl, hb1⟩
  have h256z : ¬ (256 : Int) < len0 := by omega
  go_wp2_with (go_at_call 7; refine cC.mono ?_; rintro e w1 ⟨rfl, hb1⟩)
  refine (Signs_at a0 len0 cap0 l w1 (HIN.out.step hb1) HL.out h63).mono ?_
  rintro e w2 ⟨hb2, h | h | h | h⟩
  · exact absurd h.1 (by rw [← HL.out]; exact h256)
  · obtain ⟨_, _, rfl⟩ := h
    clear cC
    go_wp2
    go_ret
    exact ⟨rfl, hb1.trans hb2⟩
  · obtain ⟨_, _, _, rfl⟩ := h
    clear cC
    go_wp2
    go_ret
    exact ⟨rfl, hb1.trans hb2⟩
  · obtain ⟨_, hok, ht, B, rfl, hB, hrow⟩ := h
    rw [← HL.out] at hok ht
    have HOK : Hid (okS l len0 ∧ tk l len0 ≤ 16777216) := ⟨hok, ht⟩
    have HROW : Hid (RowI w2 B (signsOf l)) := hrow
    have HB : Hid (Bl w w2) := hb1.trans hb2
    rw [← HL.out]
    have c1 := fun W => pick_at a1 len0 W (by omega) (by omega)
    have c2 := fun W => pick_at a2 len0 W (by omega) (by omega)
    obtain ⟨x, hx⟩ : ∃ x, x = pk a1 len0 := ⟨_, rfl⟩
    obtain ⟨y, hy⟩ : ∃ y, y = pk a2 len0 := ⟨_, rfl⟩
    rw [← hx] at c1
    rw [← hy] at c2
    have hxl : x < len0 := by rw [hx]; exact pk_lt _ _ (by omega)
    have hyl : y < len0 := by rw [hy]; exact pk_lt _ _ (by omega)
    clear hx hy hok ht hrow hb1 hb2 cC
    have hxz : (x : Int) < len0 := by omega
    have hyz : (y : Int) < len0 := by omega
    obtain ⟨xa, rfl, hcx⟩ := (HIN.out.step HB.out).at x (by rw [← HL.out]; exact hxl)
    obtain ⟨xb, e1, hcy⟩ := (HIN.out.step HB.out).at y (by rw [← HL.out]; exact hyl)
    injection e1 with e1
    subst e1
    have hsx := HROW.out.cell (j := x) (by unfold signsOf; simp; rw [← HL.out]; exact hxl)
    have hsy := HROW.out.cell (j := y) (by unfold signsOf; simp; rw [← HL.out]; exact hyl)
    rw [sgn_get (by rw [← HL.out]; exact hxl)] at hsx
    rw [sgn_get (by rw [← HL.out]; exact hyl)] at hsy
    obtain ⟨za, hza⟩ : ∃ z, z = l.getD x 0 := ⟨_, rfl⟩
    obtain ⟨zb, hzb⟩ : ∃ z, z = l.getD y 0 := ⟨_, rfl⟩
    obtain ⟨sx, hsx'⟩ : ∃ z, z = sgn l l.length x := ⟨_, rfl⟩
    obtain ⟨sy, hsy'⟩ : ∃ z, z = sgn l l.length y := ⟨_, rfl⟩
    rw [← hza] at hcx
    rw [← hzb] at hcy
    rw [← hsx'] at hsx
    rw [← hsy'] at hsy
    have hza1 := HOK.out.1 x hxl
    have hzb1 := HOK.out.1 y hyl
    rw [← hza] at hza1
    rw [← hzb] at hzb1
    have HAP : Hid (x ≠ y → 0 < za → za ≤ zb → 0 ≤ sx ∧ sx < 2 ^ za.toNat ∧ sy / 2 ^ (zb.toNat - za.toNat) ≠ sx ∧ 0 ≤ sy) := fun h1 h2 h3 => by
      rw [hsx', hsy', hza, hzb, ← HL.out]
      exact sgn_apart HOK.out.1 HOK.out.2 hxl hyl h1 (by rw [← hza]; exact h2) (by rw [← hza, ← hzb]; exact h3)
    clear hza hzb hsx' hsy'
    go_wp2_with (first | (go_at_call_of 12 (Value.int .i64 a1); refine (c1 _).mono ?_; rintro e w3 ⟨rfl, rfl⟩) | (go_at_call 12; refine (c2 _).mono ?_; rintro e w4 ⟨rfl, rfl⟩))
    go_quiet (fail)
    have hsx2 : (w4.drewN nq).cell? ⟨B, x, none⟩ = some (.int .i64 sx) := hsx
    have hsy2 : (w4.drewN nq).cell? ⟨B, y, none⟩ = some (.int .i64 sy) := hsy
    have HB2 : Hid (Bl w (w4.drewN nq)) := HB.out.drewN nq
    generalize w4.drewN nq = w5 at hsx2 hsy2 HB2 ⊢
    clear hsx hsy hcx hcy c1 c2 HROW
    by_cases hxy : x = y
    · have hxb : ((x : Int) == (y : Int)) = true := by rw [beq_iff_eq]; omega
      go_wp2
      go_ret
      exact ⟨rfl, HB2.out⟩
    have hxb : ((x : Int) == (y : Int)) = false := by rw [beq_eq_false_iff_ne]; omega
    by_cases hz0 : za = 0
    · have hzb0 : (za == 0) = true := by rw [beq_iff_eq]; exact hz0
      go_wp2
      go_ret
      exact ⟨rfl, HB2.out⟩
    have hzb0 : (za == 0) = false := by rw [beq_eq_false_iff_ne]; exact hz0
    by_cases hlt : zb < za
    · go_wp2
      go_ret
      exact ⟨rfl, HB2.out⟩
    obtain ⟨p1, p2, p3, p4⟩ := HAP.out hxy (by omega) (by omega)
    have q0 : decide (0 ≤ sx) = true := decide_eq_true p1
    have q1 : (sx / 2 ^ za.toNat == 0) = true := by rw [beq_iff_eq]; exact Int.ediv_eq_zero_of_lt p1 p2
    have e9 : (zb - za).toNat = zb.toNat - za.toNat := by omega
    have q2 : (sy / 2 ^ (zb - za).toNat != sx) = true := by rw [e9, bne_iff_ne]; exact p3
    have q3 : (sy / 2 ^ (zb.toNat - za.toNat) == sx) = false := by rw [beq_eq_false_iff_ne]; exact p3
    have q4 : (sy / 2 ^ (zb - za).toNat == sx) = false := by rw [e9, beq_eq_false_iff_ne]; exact p3
    have q5 : ¬ zb - za < 0 := by omega
    have q6 : 0 ≤ zb - za := by omega
    have q7 : IntKind.i64.wrap (zb - za) = zb - za := by rw [IntKind.wrap_i64]; omega
    clear e9 p2 p3 HAP
    go_wp2_with fail
    go_quiet (fail)
    go_wp2
    go_ret
    exact ⟨rfl, HB2.out.drewN nq⟩

set_option maxRecDepth 100000 in
theorem lifted (os : Os) (started : os.Started) (H : Type) (enc : TypeId × Value → H) :
    ReturnsInHanded {} Try.checked os 5 .any (Rows.huffApartSpec.pre6 enc Try.prog Try.f5 Rows.huffApartRow.domain false) (Rows.huffApartSpec.post enc Try.prog Try.f5 false true false false) := by
  refine returnsInHanded_of_change (C := Try.checked) own started (by kernel_rfl) Try.func5
    (ChangeSpec.witness6 (enc := enc) (C := Try.checked) false ⟨#[], #[.slice none 0 0, .int .i64 0, .int .i64 0], []⟩ 8 (by kernel_rfl) (by kernel_rfl) (by kernel_rfl) (by kernel_rfl)) ?_
  intro W base args ds gs before hval0 hW hcnd _
  have hval : ∀ (j : Nat) t v, Try.f5.params[j]? = some t → args[j]? = some v → Value.okWide Try.prog W .any base t v := hval0
  have hW' := hW
  obtain ⟨p, q, hA0, hV, rfl, hfz, hnd⟩ := hW
  have hA : DataW.TrodAll enc Try.prog W 0 (fun _ => true) true Try.f5.params.toList args.toList ds p := hA0
  rw [Try.params5] at hA hval
  obtain ⟨v0, vs0, d0, ds0, p0, q0, hargs, rfl, rfl, h0, r0⟩ := trodAll_cons hA
  obtain ⟨v1, vs1, d1, ds1, p1, q1, rfl, rfl, rfl, h1, r1⟩ := trodAll_cons r0
  obtain ⟨v2, vs2, d2, ds2, p2, q2, rfl, rfl, rfl, h2, r2⟩ := trodAll_cons r1
  obtain ⟨rfl, rfl, rfl⟩ := trodAll_nil r2
  obtain rfl : args = #[v0, v1, v2] := by cases args; simp_all
  obtain ⟨rfl, rfl⟩ := trodVars_none hV
  obtain ⟨a0, len0, cap0, rfl⟩ := okWide_slice Try.underlying22 (hval 0 22 v0 rfl rfl)
  have k0 := h0
  have lt0 : ∀ x ∈ p0, x.block < W.heap.size := by obtain ⟨m, hm⟩ := k0; exact DataW.trod_lt m _ _ _ hm
  obtain ⟨z0, w0⟩ : ∃ zs, IsRow .i64 W a0 len0 cap0 zs := by
    obtain ⟨fuel, hf⟩ := h0
    rcases open_ints Try.underlying22 Try.underlying3 (by kernel_rfl) hf with ⟨hcs, _⟩ | ⟨x, l, c, zs, hcs, _, hl, hm, hz, _, hcell, hwz⟩
    · simp [Value.cells] at hcs
      obtain ⟨rfl, rfl, rfl⟩ := hcs
      exact ⟨[], .inl ⟨rfl, rfl, rfl, rfl⟩⟩
    · simp [Value.cells] at hcs
      obtain ⟨rfl, rfl, rfl⟩ := hcs
      exact ⟨zs, .inr ⟨_, rfl, hl, hm, by simpa using hz, hcell, hwz⟩⟩
  obtain ⟨a1, rfl, rfl, rfl, w1⟩ := open_int Try.underlying3 (hval 1 3 v1 rfl rfl) h1
  obtain ⟨a2, rfl, rfl, rfl, w2⟩ := open_int Try.underlying3 (hval 2 3 v2 rfl rfl) h2
  clear hA0 hval0
  refine (walk a0 len0 cap0 z0 a1 a2 W w0 w1 w2).mono fun e W' ⟨he, bel⟩ => ?_
  subst he
  exact ⟨_, rfl, _, _, _, [], _, [], hW', trodAll_mk1 (shut_bool Try.underlying4 _), (trodAll_cons_mk (Below.trod laidOut (by kernel_rfl) (of_decide_eq_true (by kernel_rfl)) k0 bel lt0) (trodAll_cons_mk (shut_int Try.underlying3 w1) (trodAll_cons_mk (shut_int Try.underlying3 w2) trodAll_mk0))), rfl, bel.frame _, fun h => by cases h⟩

theorem over : Rows.huffApartRow.holds Try.pinned (OpenSpec.ofChange Rows.huffApartSpec) :=
  OpenClaim.holds_of_wide 5 Try.f5 rfl rfl rfl rfl rfl rfl rfl ⟨rfl, rfl, rfl, rfl, rfl⟩ rfl rfl rfl rfl rfl (by kernel_rfl) Try.func5 (by kernel_rfl)
    (of_decide_eq_true (by kernel_rfl)) (by unfold Func.isWrapper; first | (rw [if_pos (by decide +kernel)]; kernel_rfl) | (rw [if_neg (by decide +kernel)]; exact ⟨rfl, rfl⟩))
    (fun os started H enc _ => lifted os started H enc)

end Go.Proofs.Ytkldnapbeebdkaa.huffApart
namespace Go.Proofs.Ytkldnapbeebdkaa
/-- The given statement. -/
theorem huffApart_holds : Rows.HuffApartSaid := huffApart.over
#print axioms huffApart_holds
end Go.Proofs.Ytkldnapbeebdkaa
