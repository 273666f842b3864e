/- Of the signs that Lens makes there is just room for all, each thing that stands anywhere has one, and no other: HuffKraft answers true at every list of numbers. -/
import Derived.Test.YtkldnapbeebdkaaRows
import Derived.WalkKit
import Derived.ProofKit
import Derived.OpenShut
import Derived.Test.YtkldnapbeebdkaaHg3
import Derived.Test.YtkldnapbeebdkaaHg4
import Derived.Test.YtkldnapbeebdkaaHfL
import Derived.ShutString
import Derived.ChangeOld
import Derived.Below
namespace Go.Proofs.Ytkldnapbeebdkaa.huffKraft
open Go.ChangeShapes Go.WideShapes Go.ChangeAt Go.RowKit
open Go.ChangeMaps (open_string shut_string)
set_option linter.unusedVariables false

theorem own : ownKnob Try.prog.godebug = none := by kernel_rfl
theorem laidOut : laidOutB Try.prog = true := by kernel_rfl

/-- WHAT THE WALK IS TOLD OF A SLICE OF INTEGERS THAT CAME IN: it is nil; or it leads to a row of 'cap' cells, the numbers 'zs' (the first 'len' are its elements, the rest its spare room), each fitting its kind. -/
def IsRow (k : IntKind) (w : World) (a : Option Addr) (len cap : Nat) (zs : List Int) : Prop :=
  (a = none ∧ len = 0 ∧ cap = 0 ∧ zs = []) ∨
  ∃ x, a = some x ∧ len ≤ cap ∧ cap ≤ maxLen ∧ zs.length = cap ∧ (∀ i, i < zs.length → w.cell? (x.add i) = some (.int k (zs.getD i 0))) ∧ ∀ n ∈ zs, (Lit.int k n).wf = true

open mem rows hg hf
theorem open_row {w : World} {a : Option Addr} {len cap : Nat} {zs : List Int} (h : IsRow .i64 w a len cap zs) : ∃ l : List Int, len = l.length ∧ In w a l ∧ len ≤ 9223372036854775807 := by
  rcases h with ⟨rfl, rfl, rfl, rfl⟩ | ⟨x, rfl, h1, h2, h3, h4, _⟩
  · exact ⟨[], rfl, Or.inl rfl, by omega⟩
  · refine ⟨zs.take len, by rw [List.length_take]; omega, Or.inr ⟨x, rfl, fun k hk => ?_⟩, by unfold maxLen at h2; omega⟩
    rw [List.length_take] at hk
    rw [h4 k (by omega)]
    simp only [List.getD_eq_getElem?_getD]
    rw [List.getElem?_take_of_lt (by omega)]
theorem wr_ok (k : Nat) (h : k ≤ 100000) : wrap64 ((k : Int) + 1) = (k : Int) + 1 := by unfold wrap64; omega
theorem ksum_mono (M : Nat) (L : List Int) (k : Nat) : ∀ d, ksum M L k ≤ ksum M L (k + d)
  | 0 => Nat.le_refl _
  | d + 1 => by have := ksum_mono M L k d; rw [← Nat.add_assoc, ksum]; omega
theorem pw_bd (m : Nat) (h : m ≤ 60) : ((2 ^ m : Nat) : Int) ≤ 1152921504606846976 := by
  have h1 : (2 : Nat) ^ m ≤ 2 ^ 60 := Nat.pow_le_pow_right (by decide) h
  have h2 : (2 : Nat) ^ 60 = 1152921504606846976 := by decide
  omega
theorem sh_ok (z : Int) (h : z ≤ 60) : wrap64 (2 ^ z.toNat) = ((2 ^ z.toNat : Nat) : Int) := by
  have h1 := pw_bd z.toNat (by omega)
  have h0 : 0 < (2 : Nat) ^ z.toNat := Nat.pow_pos (by decide)
  have e : ((2 : Int) ^ z.toNat) = ((2 ^ z.toNat : Nat) : Int) := by simp
  rw [e]
  generalize (2 : Nat) ^ z.toNat = r at h0 h1
  unfold wrap64
  omega
theorem sw_ok (sm r : Nat) (h : sm + r ≤ 1152921504606846976) : wrap64 ((sm : Int) + (r : Int)) = (sm : Int) + (r : Int) := by unfold wrap64; omega
theorem room_bd {mo k j : Nat} {L : List Int} (h : ksum mo L k = 2 ^ mo) (hm : ¬ 60 < mo) (hj : j < k) : ksum mo L (j + 1) ≤ 1152921504606846976 := by
  have h1 := ksum_mono mo L (j + 1) (k - (j + 1))
  rw [show j + 1 + (k - (j + 1)) = k by omega, h] at h1
  have h2 := pw_bd mo (by omega)
  generalize (2 : Nat) ^ mo = r at h1 h2
  omega
theorem sh_fin {sm mo : Nat} (h : sm = 2 ^ mo) (hm : ¬ 60 < mo) : ∃ r : Int, wrap64 (2 ^ mo) = r ∧ ((sm : Int) == r) = true := by
  refine ⟨((2 ^ mo : Nat) : Int), ?_, by rw [beq_iff_eq, h]⟩
  have := sh_ok (mo : Int) (by omega)
  simpa only [Int.toNat_natCast] using this
theorem ks_pos {mo j sm : Nat} {y : Int} {L : List Int} (hy : y = L.getD j 0) (hp : 0 < y) (hm : y.toNat ≤ mo) (h : sm = ksum mo L j) : sm + 2 ^ ((mo : Int) - y).toNat = ksum mo L (j + 1) := by
  rw [ksum, ← hy, if_pos hp, ← h, show ((mo : Int) - y).toNat = mo - y.toNat by omega]
theorem ks_neg {mo j sm : Nat} {y : Int} {L : List Int} (hy : y = L.getD j 0) (hp : ¬ 0 < y) (h : sm = ksum mo L j) : sm = ksum mo L (j + 1) := by
  rw [ksum, ← hy, if_neg hp, ← h, Nat.add_zero]
theorem sh_r (mo : Nat) (y : Int) (h : (mo : Int) - y ≤ 60) : ∃ r : Nat, wrap64 (2 ^ ((mo : Int) - y).toNat) = (r : Int) ∧ r = 2 ^ ((mo : Int) - y).toNat := ⟨_, sh_ok _ h, rfl⟩
theorem all_room {L : List Int} {n mo : Nat} (h : ksum 255 L n = 2 ^ 255) (hm : mo ≤ 255) (hL : ∀ i, i < n → (L.getD i 0).toNat ≤ mo) : ksum mo L n = 2 ^ mo := by
  have h1 := ksum_scale (d := 255 - mo) n hL
  rw [show mo + (255 - mo) = 255 by omega, h] at h1
  have h2 : ksum mo L n * 2 ^ (255 - mo) = 2 ^ mo * 2 ^ (255 - mo) := by rw [← h1, ← Nat.pow_add, show mo + (255 - mo) = 255 by omega]
  exact Nat.eq_of_mul_eq_mul_right (Nat.pow_pos (by decide)) h2
set_option maxHeartbeats 4000000 in
set_option maxRecDepth 10000 in
theorem walk (a0 : Option Addr) (len0 cap0 : Nat) (z0 : List Int) (w : World) (w0 : IsRow .i64 w a0 len0 cap0 z0) :
    Calls Try.prog 4 #[.slice a0 len0 cap0] w fun e w' => e = .returned (.bool true) ∧ Below w.heap.size w w' := by
  obtain ⟨l, hl, hin, h63⟩ := open_row w0
  clear w0
  have HL : Hid (len0 = l.length) := hl
  have HIN : Hid (In w a0 l) := hin
  have cC := coded_at w
  clear hl hin
  go_enter Try.func4, Try.ntmps4
  go_wp2_with (go_at_call 7; refine cC.mono ?_; rintro e w1 ⟨rfl, hb1⟩)
  refine (counted_at a0 len0 cap0 l w1 (HIN.out.step hb1) HL.out h63).mono ?_
  rintro e w2 ⟨h | h, rfl⟩
  rotate_left
  · obtain ⟨_, rfl⟩ := h
    clear cC
    go_wp2
    go_ret
    exact ⟨rfl, hb1⟩
  obtain ⟨h256, hok, rfl⟩ := h
  have HOK : Hid (okL l len0) := hok
  clear cC hok
  go_wp2_with fail
  refine (Lens_at a0 len0 cap0 l w2 (HIN.out.step hb1) HL.out h63).mono ?_
  rintro e w3 ⟨hb2, h | h | h⟩
  · exact absurd h.1 (by rw [← HL.out]; omega)
  · exact absurd (by rw [← HL.out]; exact HOK.out) h.2.1
  obtain ⟨_, _, B, rfl, hB, hrow⟩ := h
  have hF := lens_facts (l := l) (by rw [← HL.out]; exact HOK.out) (by rw [← HL.out]; exact h256)
  rw [← HL.out] at hF ⊢
  obtain ⟨L, hL⟩ : ∃ L, L = lensOf l := ⟨_, rfl⟩
  rw [← hL] at hF hrow
  have HF : Hid _ := hF
  have HROW : Hid (RowI w3 B L) := hrow
  have HB : Hid (Bl w w3) := hb1.trans hb2
  have HIN3 : Hid (In w3 a0 l) := HIN.out.step HB.out
  clear hF hrow hb1 hb2 hL hB HIN
  have hzz : (len0 : Int) ≤ 256 := by omega
  go_wp2
  go_loopw [5, 6, 7] (fun v5 v6 v7 wr => ∃ k mo cc : Nat, k ≤ len0 ∧ mo ≤ 255 ∧ cc ≤ k ∧ v7 = .int .i64 (k : Int) ∧ v6 = .int .i64 (mo : Int) ∧ v5 = .int .i64 (cc : Int) ∧ Hid (cc = cp L k ∧ (∀ i, i < k → (L.getD i 0).toNat ≤ mo) ∧ Dr w3 wr)) (fun _ _ v7 _ => len0 - (intOf v7).toNat)
  case atStart => exact ⟨0, 0, 0, Nat.zero_le _, by omega, Nat.le_refl _, rfl, rfl, rfl, ⟨rfl, fun i hi => absurd hi (Nat.not_lt_zero _), Dr.refl _⟩⟩
  case round =>
    obtain ⟨k, mo, cc, hk, hmo, hcc, rfl, rfl, rfl, H⟩ := hrel
    obtain ⟨q, rfl⟩ := H.out.2.2
    by_cases hlt : k < len0
    · have hltz : (k : Int) < len0 := by omega
      obtain ⟨x, rfl, hc1⟩ := (HIN3.out.step ((Dr.drewN q (Dr.refl w3)).bl)).at k (by rw [← HL.out]; exact hlt)
      have hc2 := (HROW.out.step ((Dr.drewN q (Dr.refl w3)).bl)).cell (j := k) (by rw [HF.out.1]; exact hlt)
      obtain ⟨f1, f2, f3⟩ := HF.out.2.1 k hlt
      obtain ⟨z, hz⟩ : ∃ z, z = l.getD k 0 := ⟨_, rfl⟩
      obtain ⟨y, hy⟩ : ∃ y, y = L.getD k 0 := ⟨_, rfl⟩
      rw [← hz] at hc1 f3
      rw [← hy] at hc2 f1 f2 f3
      have HY : Hid (y = L.getD k 0) := hy
      generalize hwq : w3.drewN q = wq at hc1 hc2 ⊢
      have HW : Hid (w3.drewN q = wq) := hwq
      clear hz hy hwq
      have hkw : wrap64 ((k : Int) + 1) = (k : Int) + 1 := wr_ok k (by omega)
      have d9 : decide (255 < y) = false := decide_eq_false (by omega)
      by_cases hpos : 0 < z
      · have f4 : 0 < y := f3.2 hpos
        have d1 : decide (0 < z) = true := decide_eq_true hpos
        have d2 : decide (0 < y) = true := decide_eq_true f4
        go_wp2_with fail
        go_quiet (fail)
        have hc3 : (wq.drewN nq).cell? ⟨B, k, none⟩ = some (.int .i64 y) := hc2
        generalize hwq2 : wq.drewN nq = wv at hc3 ⊢
        have HW2 : Hid (wq.drewN nq = wv) := hwq2
        clear hwq2 hc1 hc2 f3
        by_cases hmx : (mo : Int) < y
        · skip
          have HK : Hid (cc + 1 = cp L (k + 1) ∧ (∀ i, i < k + 1 → (L.getD i 0).toNat ≤ y.toNat)) := by
            refine ⟨by rw [cp, ← HY.out, if_pos f4, ← H.out.1], fun i hi => ?_⟩
            by_cases h : i < k
            · have := H.out.2.1 i h; omega
            · obtain rfl : i = k := by omega
              rw [← HY.out]; omega
          go_wp2
          go_roundw
          case rel => exact ⟨k + 1, y.toNat, cc + 1, hlt, by omega, by omega, num_ok k, by first | rfl | (congr 1; omega), by first | rfl | (congr 1; omega), ⟨HK.out.1, HK.out.2, by rw [← HW2.out]; exact Dr.drewN _ (by rw [← HW.out]; exact Dr.drewN q (Dr.refl w3))⟩⟩
          case measure => exact meas_ok len0 k hlt
        · skip
          have HK : Hid (cc + 1 = cp L (k + 1) ∧ (∀ i, i < k + 1 → (L.getD i 0).toNat ≤ mo)) := by
            refine ⟨by rw [cp, ← HY.out, if_pos f4, ← H.out.1], fun i hi => ?_⟩
            by_cases h : i < k
            · have := H.out.2.1 i h; omega
            · obtain rfl : i = k := by omega
              rw [← HY.out]; omega
          go_wp2
          go_roundw
          case rel => exact ⟨k + 1, mo, cc + 1, hlt, by omega, by omega, num_ok k, by first | rfl | (congr 1; omega), by first | rfl | (congr 1; omega), ⟨HK.out.1, HK.out.2, by rw [← HW2.out]; exact Dr.drewN _ (by rw [← HW.out]; exact Dr.drewN q (Dr.refl w3))⟩⟩
          case measure => exact meas_ok len0 k hlt
      · have f4 : ¬ 0 < y := fun h => hpos (f3.1 h)
        have d1 : decide (0 < z) = false := decide_eq_false hpos
        have d2 : decide (0 < y) = false := decide_eq_false f4
        go_wp2_with fail
        go_quiet (fail)
        have hc3 : (wq.drewN nq).cell? ⟨B, k, none⟩ = some (.int .i64 y) := hc2
        generalize hwq2 : wq.drewN nq = wv at hc3 ⊢
        have HW2 : Hid (wq.drewN nq = wv) := hwq2
        clear hwq2 hc1 hc2 f3
        have hmx : ¬ (mo : Int) < y := by omega
        · skip
          have HK : Hid (cc = cp L (k + 1) ∧ (∀ i, i < k + 1 → (L.getD i 0).toNat ≤ mo)) := by
            refine ⟨by rw [cp, ← HY.out, if_neg (by omega), ← H.out.1, Nat.add_zero], fun i hi => ?_⟩
            by_cases h : i < k
            · have := H.out.2.1 i h; omega
            · obtain rfl : i = k := by omega
              rw [← HY.out]; omega
          go_wp2
          go_roundw
          case rel => exact ⟨k + 1, mo, cc, hlt, by omega, by omega, num_ok k, by first | rfl | (congr 1; omega), by first | rfl | (congr 1; omega), ⟨HK.out.1, HK.out.2, by rw [← HW2.out]; exact Dr.drewN _ (by rw [← HW.out]; exact Dr.drewN q (Dr.refl w3))⟩⟩
          case measure => exact meas_ok len0 k hlt
    · have hltz : ¬ (k : Int) < len0 := by omega
      obtain rfl : k = len0 := by omega
      have HBq : Hid (Bl w (w3.drewN q)) := HB.out.drewN q
      have HRq : Hid (RowI (w3.drewN q) B L) := HROW.out.step ((Dr.drewN q (Dr.refl w3)).bl)
      have HD : Hid (cc = cp L k ∧ (∀ i, i < k → (L.getD i 0).toNat ≤ mo)) := ⟨H.out.1, H.out.2.1⟩
      clear H
      generalize w3.drewN q = wq at HBq HRq ⊢
      by_cases hc2 : cc < 2
      · have hc2z : (cc : Int) < 2 := by omega
        go_wp2
        go_ret
        exact ⟨rfl, HBq.out⟩
      have hc2z : ¬ (cc : Int) < 2 := by omega
      by_cases hm60 : 60 < mo
      · have hm60z : (60 : Int) < mo := by omega
        go_wp2
        go_ret
        exact ⟨rfl, HBq.out⟩
      have hm60z : ¬ (60 : Int) < mo := by omega
      have HKS : Hid (ksum mo L k = 2 ^ mo) := by
        refine all_room (HF.out.2.2 ?_) (by omega) HD.out.2
        rw [← cp_same k (fun i hi => (HF.out.2.1 i hi).2.2), ← HD.out.1]
        omega
      go_wp2_with fail
      go_loopw [8, 9] (fun v8 v9 wr => ∃ j sm : Nat, j ≤ k ∧ v9 = .int .i64 (j : Int) ∧ v8 = .int .i64 (sm : Int) ∧ sm ≤ 1152921504606846976 ∧ wr = wq ∧ Hid (sm = ksum mo L j)) (fun _ v9 _ => k - (intOf v9).toNat)
      case atStart => exact ⟨0, 0, Nat.zero_le _, rfl, rfl, by omega, rfl, rfl⟩
      case round =>
        obtain ⟨j, sm, hj, rfl, rfl, hsm, hwr, H⟩ := hrel
        subst hwr
        by_cases hjk : j < k
        · have hjz : (j : Int) < k := by omega
          have hc1 := HRq.out.cell (j := j) (by rw [HF.out.1]; exact hjk)
          obtain ⟨f1, f2, _⟩ := HF.out.2.1 j hjk
          have f5 := HD.out.2 j hjk
          obtain ⟨y, hy⟩ : ∃ y, y = L.getD j 0 := ⟨_, rfl⟩
          rw [← hy] at hc1 f1 f2 f5
          have HY : Hid (y = L.getD j 0) := hy
          have hkw : wrap64 ((j : Int) + 1) = (j : Int) + 1 := wr_ok j (by omega)
          clear hy
          by_cases hpos : 0 < y
          · obtain ⟨r, hsh, hr⟩ := sh_r mo y (by omega)
            have HN : Hid (sm + r = ksum mo L (j + 1)) := by rw [hr]; exact ks_pos HY.out hpos f5 H.out
            have hmx : sm + r ≤ 1152921504606846976 := by rw [HN.out]; exact room_bd HKS.out hm60 hjk
            have hsw : wrap64 ((sm : Int) + (r : Int)) = (sm : Int) + (r : Int) := sw_ok sm r hmx
            have hny : 0 ≤ (mo : Int) - y := by omega
            have hny2 : ¬ (mo : Int) - y < 0 := by omega
            have hny3 : y ≤ (mo : Int) := by omega
            have HMX : Hid (sm + r ≤ 1152921504606846976) := hmx
            clear hr hmx f5
            go_wp2
            go_roundw
            case rel => exact ⟨j + 1, sm + r, hjk, num_ok j, by first | rfl | (congr 1; done) | (congr 1; omega), HMX.out, by trivial, HN⟩
            case measure => exact meas_ok k j hjk
          · have HN : Hid (sm = ksum mo L (j + 1)) := ks_neg HY.out hpos H.out
            go_wp2
            go_roundw
            case rel => exact ⟨j + 1, sm, hjk, num_ok j, rfl, hsm, by trivial, HN⟩
            case measure => exact meas_ok k j hjk
        · have hjz : ¬ (j : Int) < k := by omega
          obtain rfl : j = k := by omega
          obtain ⟨r, hsh, hb⟩ := sh_fin (sm := sm) (mo := mo) (by rw [H.out]; exact HKS.out) hm60
          go_wp2
          go_ret
          exact ⟨rfl, HBq.out⟩

set_option maxRecDepth 100000 in
theorem lifted (os : Os) (started : os.Started) (H : Type) (enc : TypeId × Value → H) :
    ReturnsInHanded {} Try.checked os 4 .any (Rows.huffKraftSpec.pre6 enc Try.prog Try.f4 Rows.huffKraftRow.domain false) (Rows.huffKraftSpec.post enc Try.prog Try.f4 false true false false) := by
  refine returnsInHanded_of_change (C := Try.checked) own started (by kernel_rfl) Try.func4
    (ChangeSpec.witness6 (enc := enc) (C := Try.checked) false ⟨#[], #[.slice none 0 0], []⟩ 8 (by kernel_rfl) (by kernel_rfl) (by kernel_rfl) (by kernel_rfl)) ?_
  intro W base args ds gs before hval0 hW hcnd _
  have hval : ∀ (j : Nat) t v, Try.f4.params[j]? = some t → args[j]? = some v → Value.okWide Try.prog W .any base t v := hval0
  have hW' := hW
  obtain ⟨p, q, hA0, hV, rfl, hfz, hnd⟩ := hW
  have hA : DataW.TrodAll enc Try.prog W 0 (fun _ => true) true Try.f4.params.toList args.toList ds p := hA0
  rw [Try.params4] at hA hval
  obtain ⟨v0, vs0, d0, ds0, p0, q0, hargs, rfl, rfl, h0, r0⟩ := trodAll_cons hA
  obtain ⟨rfl, rfl, rfl⟩ := trodAll_nil r0
  obtain rfl : args = #[v0] := by cases args; simp_all
  obtain ⟨rfl, rfl⟩ := trodVars_none hV
  obtain ⟨a0, len0, cap0, rfl⟩ := okWide_slice Try.underlying22 (hval 0 22 v0 rfl rfl)
  have k0 := h0
  have lt0 : ∀ x ∈ p0, x.block < W.heap.size := by obtain ⟨m, hm⟩ := k0; exact DataW.trod_lt m _ _ _ hm
  obtain ⟨z0, w0⟩ : ∃ zs, IsRow .i64 W a0 len0 cap0 zs := by
    obtain ⟨fuel, hf⟩ := h0
    rcases open_ints Try.underlying22 Try.underlying3 (by kernel_rfl) hf with ⟨hcs, _⟩ | ⟨x, l, c, zs, hcs, _, hl, hm, hz, _, hcell, hwz⟩
    · simp [Value.cells] at hcs
      obtain ⟨rfl, rfl, rfl⟩ := hcs
      exact ⟨[], .inl ⟨rfl, rfl, rfl, rfl⟩⟩
    · simp [Value.cells] at hcs
      obtain ⟨rfl, rfl, rfl⟩ := hcs
      exact ⟨zs, .inr ⟨_, rfl, hl, hm, by simpa using hz, hcell, hwz⟩⟩
  clear hA0 hval0
  refine (walk a0 len0 cap0 z0 W w0).mono fun e W' ⟨he, bel⟩ => ?_
  subst he
  exact ⟨_, rfl, _, _, _, [], _, [], hW', trodAll_mk1 (shut_bool Try.underlying4 _), (trodAll_cons_mk (Below.trod laidOut (by kernel_rfl) (of_decide_eq_true (by kernel_rfl)) k0 bel lt0) trodAll_mk0), rfl, bel.frame _, fun h => by cases h⟩

theorem over : Rows.huffKraftRow.holds Try.pinned (OpenSpec.ofChange Rows.huffKraftSpec) :=
  OpenClaim.holds_of_wide 4 Try.f4 rfl rfl rfl rfl rfl rfl rfl ⟨rfl, rfl, rfl, rfl, rfl⟩ rfl rfl rfl rfl rfl (by kernel_rfl) Try.func4 (by kernel_rfl)
    (of_decide_eq_true (by kernel_rfl)) (by unfold Func.isWrapper; first | (rw [if_pos (by decide +kernel)]; kernel_rfl) | (rw [if_neg (by decide +kernel)]; exact ⟨rfl, rfl⟩))
    (fun os started H enc _ => lifted os started H enc)

end Go.Proofs.Ytkldnapbeebdkaa.huffKraft
namespace Go.Proofs.Ytkldnapbeebdkaa
/-- The given statement. -/
theorem huffKraft_holds : Rows.HuffKraftSaid := huffKraft.over
#print axioms huffKraft_holds
end Go.Proofs.Ytkldnapbeebdkaa
