/- No signs of which none begins another one take fewer bits in all than those that Lens makes: HuffLeast answers true at every two lists of numbers. -/
import Derived.Test.YtkldnapbeebdkaaRows
import Derived.WalkKit
import Derived.ProofKit
import Derived.OpenShut
import Derived.Test.YtkldnapbeebdkaaHg3
import Derived.Test.YtkldnapbeebdkaaHg4
import Derived.Test.YtkldnapbeebdkaaHg5
import Derived.Test.YtkldnapbeebdkaaHfC
import Derived.ShutString
import Derived.ChangeOld
import Derived.Below
namespace Go.Proofs.Ytkldnapbeebdkaa.huffLeast
open Go.ChangeShapes Go.WideShapes Go.ChangeAt Go.RowKit
open Go.ChangeMaps (open_string shut_string)
set_option linter.unusedVariables false

theorem own : ownKnob Try.prog.godebug = none := by kernel_rfl
theorem laidOut : laidOutB Try.prog = true := by kernel_rfl

/-- WHAT THE WALK IS TOLD OF A SLICE OF INTEGERS THAT CAME IN: it is nil; or it leads to a row of 'cap' cells, the numbers 'zs' (the first 'len' are its elements, the rest its spare room), each fitting its kind. -/
def IsRow (k : IntKind) (w : World) (a : Option Addr) (len cap : Nat) (zs : List Int) : Prop :=
  (a = none ∧ len = 0 ∧ cap = 0 ∧ zs = []) ∨
  ∃ x, a = some x ∧ len ≤ cap ∧ cap ≤ maxLen ∧ zs.length = cap ∧ (∀ i, i < zs.length → w.cell? (x.add i) = some (.int k (zs.getD i 0))) ∧ ∀ n ∈ zs, (Lit.int k n).wf = true

open mem rows hg hf
theorem open_row {w : World} {a : Option Addr} {len cap : Nat} {zs : List Int} (h : IsRow .i64 w a len cap zs) : ∃ l : List Int, len = l.length ∧ In w a l ∧ len ≤ 9223372036854775807 := by
  rcases h with ⟨rfl, rfl, rfl, rfl⟩ | ⟨x, rfl, h1, h2, h3, h4, _⟩
  · exact ⟨[], rfl, Or.inl rfl, by omega⟩
  · refine ⟨zs.take len, by rw [List.length_take]; omega, Or.inr ⟨x, rfl, fun k hk => ?_⟩, by unfold maxLen at h2; omega⟩
    rw [List.length_take] at hk
    rw [h4 k (by omega)]
    simp only [List.getD_eq_getElem?_getD]
    rw [List.getElem?_take_of_lt (by omega)]
theorem csum_bd {l D : List Int} : ∀ k, okL l k → (∀ i, i < k → 0 ≤ D.getD i 0 ∧ D.getD i 0 ≤ 255) → 0 ≤ csum l D k ∧ csum l D k ≤ 280375465082880 * (k : Int)
  | 0, _, _ => by simp [csum]
  | k + 1, h, hd => by
    have ih := csum_bd k (fun i hi => h i (by omega)) (fun i hi => hd i (by omega))
    have h1 := h k (by omega)
    have h2 := hd k (by omega)
    have h3 := Int.mul_nonneg h1.1 h2.1
    have h4 : l.getD k 0 * D.getD k 0 ≤ 1099511627776 * 255 := Int.mul_le_mul h1.2 h2.2 h2.1 (by decide)
    rw [csum]
    omega
theorem w64 (x : Int) (h : 0 ≤ x) (h2 : x ≤ 9223372036854775807) : wrap64 x = x := by unfold wrap64; omega
theorem cw_is {l D : List Int} : ∀ k, k ≤ 256 → okL l k → (∀ i, i < k → 0 ≤ D.getD i 0 ∧ D.getD i 0 ≤ 255) → cw l D k = csum l D k
  | 0, _, _, _ => rfl
  | k + 1, hk, h, hd => by
    have ih := cw_is k (by omega) (fun i hi => h i (by omega)) (fun i hi => hd i (by omega))
    have hb := csum_bd (k + 1) h hd
    have hb2 := csum_bd k (fun i hi => h i (by omega)) (fun i hi => hd i (by omega))
    have h1 := h k (by omega)
    have h2 := hd k (by omega)
    have h3 := Int.mul_nonneg h1.1 h2.1
    rw [csum] at hb
    rw [cw, csum, ih, w64 (l.getD k 0 * D.getD k 0) h3 (by omega), w64 _ hb.1 (by omega)]
set_option maxHeartbeats 4000000 in
set_option maxRecDepth 10000 in
theorem walk (a0 : Option Addr) (len0 cap0 : Nat) (z0 : List Int) (a1 : Option Addr) (len1 cap1 : Nat) (z1 : List Int) (w : World) (w0 : IsRow .i64 w a0 len0 cap0 z0) (w1 : IsRow .i64 w a1 len1 cap1 z1) :
    Calls Try.prog 3 #[.slice a0 len0 cap0, .slice a1 len1 cap1] w fun e w' => e = .returned (.bool true) ∧ Below w.heap.size w w' := by
  obtain ⟨l, hl, hin, h63⟩ := open_row w0
  obtain ⟨D, hD, hin', h63'⟩ := open_row w1
  clear w0 w1
  have HL : Hid (len0 = l.length) := hl
  have HD : Hid (len1 = D.length) := hD
  have HIN : Hid (In w a0 l) := hin
  have HIN' : Hid (In w a1 D) := hin'
  have cC := coded_at w
  clear hl hin hD hin'
  go_enter Try.func3, Try.ntmps3
  go_wp2_with (go_at_call 7; refine cC.mono ?_; rintro e w1 ⟨rfl, hb1⟩)
  refine (counted_at a0 len0 cap0 l w1 (HIN.out.step hb1) HL.out h63).mono ?_
  rintro e w2 ⟨h | h, rfl⟩
  rotate_left
  · obtain ⟨_, rfl⟩ := h
    clear cC
    go_wp2
    go_ret
    exact ⟨rfl, hb1⟩
  obtain ⟨h256, hok, rfl⟩ := h
  have HOK : Hid (okL l len0) := hok
  clear cC hok
  by_cases hne : len0 = len1
  rotate_left
  · have hnz : ((len0 : Int) == (len1 : Int)) = false := by rw [beq_eq_false_iff_ne]; omega
    go_wp2
    go_ret
    exact ⟨rfl, hb1⟩
  subst hne
  go_wp2_with fail
  refine (Signs_at a1 len0 cap1 D w2 (HIN'.out.step hb1) HD.out h63').mono ?_
  rintro e w3 ⟨hb2, h | h | h | h⟩
  · exact absurd h.1 (by rw [← HD.out]; omega)
  · obtain ⟨_, _, rfl⟩ := h
    go_wp2
    go_ret
    exact ⟨rfl, hb1.trans hb2⟩
  · obtain ⟨_, _, _, rfl⟩ := h
    go_wp2
    go_ret
    exact ⟨rfl, hb1.trans hb2⟩
  obtain ⟨_, hokS, htk, B, rfl, hB, hrow⟩ := h
  have HS : Hid (okS D len0 ∧ tk D len0 ≤ 16777216) := ⟨by rw [HD.out]; exact hokS, by rw [HD.out]; exact htk⟩
  have HB : Hid (Bl w w3) := hb1.trans hb2
  rw [← HD.out]
  clear hokS htk hb1 hb2 hrow hB
  go_wp2
  go_loopw [7] (fun v7 wr => ∃ k : Nat, k ≤ len0 ∧ v7 = .int .i64 (k : Int) ∧ wr = w3 ∧ Hid (∀ i, i < k → 0 < l.getD i 0 → 0 < D.getD i 0)) (fun v7 _ => len0 - (intOf v7).toNat)
  case atStart => exact ⟨0, Nat.zero_le _, rfl, rfl, fun i hi => absurd hi (Nat.not_lt_zero _)⟩
  case round =>
    obtain ⟨k, hk, rfl, hwr, H⟩ := hrel
    subst hwr
    by_cases hlt : k < len0
    · have hltz : (k : Int) < len0 := by omega
      obtain ⟨x, rfl, hc1⟩ := (HIN.out.step HB.out).at k (by rw [← HL.out]; exact hlt)
      obtain ⟨x', rfl, hc2⟩ := (HIN'.out.step HB.out).at k (by rw [← HD.out]; exact hlt)
      obtain ⟨z, hz⟩ : ∃ z, z = l.getD k 0 := ⟨_, rfl⟩
      obtain ⟨y, hy⟩ : ∃ y, y = D.getD k 0 := ⟨_, rfl⟩
      rw [← hz] at hc1
      rw [← hy] at hc2
      have hy0 := (HS.out.1 k hlt).1
      rw [← hy] at hy0
      have HZ : Hid (z = l.getD k 0) := hz
      have HY : Hid (y = D.getD k 0) := hy
      clear hz hy
      by_cases hpos : 0 < z
      · by_cases hyz : y = 0
        · have hyb : (y == 0) = true := by rw [beq_iff_eq]; exact hyz
          go_wp2
          go_ret
          exact ⟨rfl, HB.out⟩
        · have hyb : (y == 0) = false := by rw [beq_eq_false_iff_ne]; exact hyz
          have HK : Hid (∀ i, i < k + 1 → 0 < l.getD i 0 → 0 < D.getD i 0) := fun i hi hp => by
            by_cases h : i < k
            · exact H.out i h hp
            · obtain rfl : i = k := by omega
              rw [← HY.out]; omega
          go_wp2
          go_roundw
          case rel => exact ⟨k + 1, hlt, num_k k, by trivial, HK⟩
          case measure => exact meas_k len0 k hlt
      · have HK : Hid (∀ i, i < k + 1 → 0 < l.getD i 0 → 0 < D.getD i 0) := fun i hi hp => by
          by_cases h : i < k
          · exact H.out i h hp
          · obtain rfl : i = k := by omega
            rw [← HZ.out] at hp; omega
        go_wp2
        go_roundw
        case rel => exact ⟨k + 1, hlt, num_k k, by trivial, HK⟩
        case measure => exact meas_k len0 k hlt
    · have hltz : ¬ (k : Int) < len0 := by omega
      obtain rfl : k = len0 := by omega
      go_wp2_with fail
      refine (Lens_at a0 k cap0 l wr (HIN.out.step HB.out) HL.out h63).mono ?_
      rintro e w5 ⟨hb5, h | h | h⟩
      · exact absurd h.1 (by rw [← HL.out]; omega)
      · exact absurd (by rw [← HL.out]; exact HOK.out) h.2.1
      obtain ⟨_, _, B2, rfl, hB2, hrow2⟩ := h
      have hF := lens_facts (l := l) (by rw [← HL.out]; exact HOK.out) (by rw [← HL.out]; exact h256)
      have hleast := least (l := l) (D := D) (by rw [← HL.out]; exact HOK.out) (by rw [← HL.out]; exact h256) (by rw [← HL.out]; exact HS.out.1) (by rw [← HL.out]; exact HS.out.2) (by rw [← HL.out]; exact H.out)
      rw [← HL.out] at hF hleast ⊢
      have HB5 : Hid (Bl w w5) := HB.out.trans hb5
      have hvw : In w5 (some ⟨B2, 0, none⟩) (lensOf l) := Or.inr ⟨_, rfl, fun j hj => by rw [Addr.add_lit, Nat.zero_add]; exact hrow2.cell hj⟩
      have c1 := Cost_at a0 (some ⟨B2, 0, none⟩) k cap0 k l (lensOf l) w5 (HIN.out.step HB5.out) hvw HL.out hF.1.symm (by omega)
      have c2 := Cost_at a0 a1 k cap0 cap1 l D w5 (HIN.out.step HB5.out) (HIN'.out.step HB5.out) HL.out HD.out (by omega)
      rw [cw_is k h256 HOK.out (fun i hi => ⟨(hF.2.1 i hi).1, (hF.2.1 i hi).2.1⟩)] at c1
      rw [cw_is k h256 HOK.out (fun i hi => by have := HS.out.1 i hi; omega)] at c2
      generalize csum l (lensOf l) k = u at c1 hleast
      generalize csum l D k = v at c2 hleast
      clear hF hvw hrow2 hb5 hB2
      go_wp2_with fail
      refine c1.mono ?_
      rintro e w6 ⟨rfl, rfl⟩
      clear c1
      go_wp2_with fail
      refine c2.mono ?_
      rintro e w7 ⟨rfl, rfl⟩
      clear c2
      go_wp2
      go_ret
      exact ⟨rfl, HB5.out⟩

set_option maxRecDepth 100000 in
theorem lifted (os : Os) (started : os.Started) (H : Type) (enc : TypeId × Value → H) :
    ReturnsInHanded {} Try.checked os 3 .any (Rows.huffLeastSpec.pre6 enc Try.prog Try.f3 Rows.huffLeastRow.domain false) (Rows.huffLeastSpec.post enc Try.prog Try.f3 false true false false) := by
  refine returnsInHanded_of_change (C := Try.checked) own started (by kernel_rfl) Try.func3
    (ChangeSpec.witness6 (enc := enc) (C := Try.checked) false ⟨#[], #[.slice none 0 0, .slice none 0 0], []⟩ 8 (by kernel_rfl) (by kernel_rfl) (by kernel_rfl) (by kernel_rfl)) ?_
  intro W base args ds gs before hval0 hW hcnd _
  have hval : ∀ (j : Nat) t v, Try.f3.params[j]? = some t → args[j]? = some v → Value.okWide Try.prog W .any base t v := hval0
  have hW' := hW
  obtain ⟨p, q, hA0, hV, rfl, hfz, hnd⟩ := hW
  have hA : DataW.TrodAll enc Try.prog W 0 (fun _ => true) true Try.f3.params.toList args.toList ds p := hA0
  rw [Try.params3] at hA hval
  obtain ⟨v0, vs0, d0, ds0, p0, q0, hargs, rfl, rfl, h0, r0⟩ := trodAll_cons hA
  obtain ⟨v1, vs1, d1, ds1, p1, q1, rfl, rfl, rfl, h1, r1⟩ := trodAll_cons r0
  obtain ⟨rfl, rfl, rfl⟩ := trodAll_nil r1
  obtain rfl : args = #[v0, v1] := by cases args; simp_all
  obtain ⟨rfl, rfl⟩ := trodVars_none hV
  obtain ⟨a0, len0, cap0, rfl⟩ := okWide_slice Try.underlying22 (hval 0 22 v0 rfl rfl)
  have k0 := h0
  have lt0 : ∀ x ∈ p0, x.block < W.heap.size := by obtain ⟨m, hm⟩ := k0; exact DataW.trod_lt m _ _ _ hm
  obtain ⟨z0, w0⟩ : ∃ zs, IsRow .i64 W a0 len0 cap0 zs := by
    obtain ⟨fuel, hf⟩ := h0
    rcases open_ints Try.underlying22 Try.underlying3 (by kernel_rfl) hf with ⟨hcs, _⟩ | ⟨x, l, c, zs, hcs, _, hl, hm, hz, _, hcell, hwz⟩
    · simp [Value.cells] at hcs
      obtain ⟨rfl, rfl, rfl⟩ := hcs
      exact ⟨[], .inl ⟨rfl, rfl, rfl, rfl⟩⟩
    · simp [Value.cells] at hcs
      obtain ⟨rfl, rfl, rfl⟩ := hcs
      exact ⟨zs, .inr ⟨_, rfl, hl, hm, by simpa using hz, hcell, hwz⟩⟩
  obtain ⟨a1, len1, cap1, rfl⟩ := okWide_slice Try.underlying22 (hval 1 22 v1 rfl rfl)
  have k1 := h1
  have lt1 : ∀ x ∈ p1, x.block < W.heap.size := by obtain ⟨m, hm⟩ := k1; exact DataW.trod_lt m _ _ _ hm
  obtain ⟨z1, w1⟩ : ∃ zs, IsRow .i64 W a1 len1 cap1 zs := by
    obtain ⟨fuel, hf⟩ := h1
    rcases open_ints Try.underlying22 Try.underlying3 (by kernel_rfl) hf with ⟨hcs, _⟩ | ⟨x, l, c, zs, hcs, _, hl, hm, hz, _, hcell, hwz⟩
    · simp [Value.cells] at hcs
      obtain ⟨rfl, rfl, rfl⟩ := hcs
      exact ⟨[], .inl ⟨rfl, rfl, rfl, rfl⟩⟩
    · simp [Value.cells] at hcs
      obtain ⟨rfl, rfl, rfl⟩ := hcs
      exact ⟨zs, .inr ⟨_, rfl, hl, hm, by simpa using hz, hcell, hwz⟩⟩
  clear hA0 hval0
  refine (walk a0 len0 cap0 z0 a1 len1 cap1 z1 W w0 w1).mono fun e W' ⟨he, bel⟩ => ?_
  subst he
  exact ⟨_, rfl, _, _, _, [], _, [], hW', trodAll_mk1 (shut_bool Try.underlying4 _), (trodAll_cons_mk (Below.trod laidOut (by kernel_rfl) (of_decide_eq_true (by kernel_rfl)) k0 bel lt0) (trodAll_cons_mk (Below.trod laidOut (by kernel_rfl) (of_decide_eq_true (by kernel_rfl)) k1 bel lt1) trodAll_mk0)), rfl, bel.frame _, fun h => by cases h⟩

theorem over : Rows.huffLeastRow.holds Try.pinned (OpenSpec.ofChange Rows.huffLeastSpec) :=
  OpenClaim.holds_of_wide 3 Try.f3 rfl rfl rfl rfl rfl rfl rfl ⟨rfl, rfl, rfl, rfl, rfl⟩ rfl rfl rfl rfl rfl (by kernel_rfl) Try.func3 (by kernel_rfl)
    (of_decide_eq_true (by kernel_rfl)) (by unfold Func.isWrapper; first | (rw [if_pos (by decide +kernel)]; kernel_rfl) | (rw [if_neg (by decide +kernel)]; exact ⟨rfl, rfl⟩))
    (fun os started H enc _ => lifted os started H enc)

end Go.Proofs.Ytkldnapbeebdkaa.huffLeast
namespace Go.Proofs.Ytkldnapbeebdkaa
/-- The given statement. -/
theorem huffLeast_holds : Rows.HuffLeastSaid := huffLeast.over
#print axioms huffLeast_holds
end Go.Proofs.Ytkldnapbeebdkaa
