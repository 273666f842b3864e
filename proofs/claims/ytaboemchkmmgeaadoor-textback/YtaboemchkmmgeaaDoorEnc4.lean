/- What Wide of package text answers. -/
import Derived.Test.YtaboemchkmmgeaaDoorEnc3
namespace Go.Proofs.YtaboemchkmmgeaaDoor.enc
set_option linter.unusedVariables false
open Go.ChangeShapes Go.WideShapes Go.ChangeAt Go.RowKit
open mem rows num words
open utf (sign)
open narrow (known_at)

/-- The bytes of a sign's halves. -/
def hv (n : Int) (o : Bool) : List Int := if n < 65536 then putL n 2 o 2 else putL (55296 + (n - 65536) / 1024) 2 o 2 ++ putL (56320 + (n - 65536) % 1024) 2 o 2
/-- The bytes of the first k signs' halves. -/
def wb (l : List Int) (o : Bool) : Nat → List Int
  | 0 => []
  | k + 1 => wb l o k ++ hv (l.getD k 0) o
theorem hv_len (n : Int) (o : Bool) : (hv n o).length ≤ 4 := by
  unfold hv
  split
  · rw [putL_len]; omega
  · rw [List.length_append, putL_len, putL_len]; omega
theorem wb_len (l : List Int) (o : Bool) (k : Nat) : (wb l o k).length ≤ 4 * k := by
  induction k with
  | zero => exact Nat.le_refl _
  | succ k ih =>
    have := hv_len (l.getD k 0) o
    rw [wb, List.length_append]
    omega
theorem Wide_order (p : Option Addr) (n c : Nat) (O : Int) (w : World) (h : ¬ (O = 0 ∨ O = 1)) :
    Calls Tryd.prog 14 #[.slice p n c, .int .i64 O] w fun e w' => e = .returned (.tuple #[.string ⟨#[]⟩, .iface 27 (.int .i64 1)]) ∧ Bl w w' := by
  have cK := fun w => known_at O w
  rw [decide_eq_false h] at cK
  clear h
  go_enter Tryd.func14, Tryd.ntmps14
  go_wp2_with (go_at_call 34; refine (cK _).mono ?_; rintro e w1 ⟨rfl, rfl⟩)
  go_ret2
  exact ⟨rfl, (Bl.refl _).alloc _⟩
theorem Wide_no (p : Option Addr) (c : Nat) (l : List Int) (j : Nat) (O : Int) (w : World) (hO : O = 0 ∨ O = 1) (hl : l.length ≤ 1000) (hin : In w p l) (hj : j < l.length) (hall : ∀ k, k < j → sign (l.getD k 0)) (hno : ¬ sign (l.getD j 0)) (hfit : Fit l) :
    Calls Tryd.prog 14 #[.slice p l.length c, .int .i64 O] w fun e w' => ∃ b, e = .returned (.tuple #[.string ⟨#[]⟩, .iface 76 (.pointer (some ⟨b, 0, none⟩))]) ∧ w'.cell? ⟨b, 0, none⟩ = some (.int .i64 1) ∧ w'.cell? ⟨b, 1, none⟩ = some (.int .i64 j) ∧ Bl w w' := by
  have cK := fun w => known_at O w
  rw [decide_eq_true hO] at cK
  have cS := fun w hi => signsAll_no p c l j w hl hi hj hall hno hfit
  have HI : Hid (In w p l) := hin
  clear hO hin hj hall hno hfit
  have HI2 : Hid (In (w.alloc (.cells #[.int .i64 O] 3)) p l) := HI.out.step ((Bl.refl w).alloc _)
  generalize l.length = m at *
  go_enter Tryd.func14, Tryd.ntmps14
  go_wp2_with (first | (go_at_call 34; refine (cK _).mono ?_; rintro e w1 ⟨rfl, rfl⟩) | (go_at_call 30; refine (cS _ HI2.out).mono ?_; rintro e w1 ⟨rfl, h0, h1, hg⟩))
  go_ret2
  exact ⟨_, rfl, by simpa using h0, by simpa using h1, ((Bl.refl w).alloc _).trans hg.bl⟩
theorem wi_start (w : World) (O : Int) (m2 : Nat) (h : m2 ≤ 4000) : Wi w (((w.alloc (.cells #[.int .i64 O] 3)).alloc (.cells (madeCells #[.int .u8 0] m2) 5)).alloc (.cells #[.slice (some ⟨w.heap.size + 1, 0, none⟩) 0 m2] 58)) w.heap.size (w.heap.size + 2) O (.slice (some ⟨w.heap.size + 1, 0, none⟩) 0 m2) [] := by
  have hm := BOwn.made (w.alloc (.cells #[.int .i64 O] 3)) (w.heap.size + 1) m2 (by simp) h
  have e : (w.alloc (.cells #[.int .i64 O] 3)).heap.size = w.heap.size + 1 := by simp
  rw [e] at hm
  refine ⟨?_, by simp; omega, ?_, by omega, hm.step ((Bl.refl _).alloc _), (((Bl.refl w).alloc _).alloc _).alloc _, Nat.le_refl _, by omega⟩
  · exact at_bl (((Bl.refl _).alloc _).alloc _) (by simp)
  · have := heap_alloc_new ((w.alloc (.cells #[.int .i64 O] 3)).alloc (.cells (madeCells #[.int .u8 0] m2) 5)) (.cells #[.slice (some ⟨w.heap.size + 1, 0, none⟩) 0 m2] 58)
    simpa using this
theorem and_i64 (a b : Nat) (ha : a < 9223372036854775808) (hb : b < 9223372036854775808) : bits .and .i64 (a : Int) (b : Int) = ((a &&& b : Nat) : Int) := by
  have h1 : a &&& b ≤ a := Nat.and_le_left
  have e : bits .and .i64 (a : Int) (b : Int) = IntKind.i64.wrap ((BitVec.ofInt 64 (a : Int) &&& BitVec.ofInt 64 (b : Int)).toNat : Int) := rfl
  have e2 : (BitVec.ofInt 64 (a : Int) &&& BitVec.ofInt 64 (b : Int)).toNat = a &&& b := by
    rw [BitVec.toNat_and]
    simp
    rw [Nat.mod_eq_of_lt (by omega), Nat.mod_eq_of_lt (by omega)]
  rw [e, e2, IntKind.wrap_i64]
  omega
theorem and1023 (x : Int) (h0 : 0 ≤ x) (h1 : x ≤ 2000000) : bits .and .i64 x 1023 = x % 1024 := by
  obtain ⟨a, rfl⟩ := Int.eq_ofNat_of_zero_le h0
  have := and_i64 a 1023 (by omega) (by omega)
  rw [show (1023 : Nat) = 2 ^ 10 - 1 from rfl, Nat.and_two_pow_sub_one_eq_mod] at this
  simpa using this
set_option maxHeartbeats 2000000 in
set_option maxRecDepth 100000 in
theorem Wide_at (p : Option Addr) (c : Nat) (l : List Int) (o : Bool) (O : Int) (w : World) (hO : (if o then (1 : Int) else 0) = O) (hl : l.length ≤ 1000) (hin : In w p l) (hall : ∀ k, k < l.length → sign (l.getD k 0)) :
    Calls Tryd.prog 14 #[.slice p l.length c, .int .i64 O] w fun e w' => e = .returned (.tuple #[.string (strOfNums (wb l o l.length)), .nilIface]) ∧ Bl w w' := by
  have cK := fun w => known_at O w
  rw [decide_eq_true (show O = 0 ∨ O = 1 by cases o <;> simp at hO <;> omega)] at cK
  have cS := fun w hi => signsAll_yes p c l w hl hi hall
  have HI : Hid (In w p l) := hin
  have HI2 : Hid (In (w.alloc (.cells #[.int .i64 O] 3)) p l) := HI.out.step ((Bl.refl w).alloc _)
  have HA : Hid (∀ k, k < l.length → sign (l.getD k 0)) := hall
  have HO : Hid ((if o then (1 : Int) else 0) = O) := hO
  clear hin hall hO
  obtain ⟨m, hm⟩ : ∃ m, m = l.length := ⟨_, rfl⟩
  rw [← hm] at hl cS ⊢
  have HM : Hid (m = l.length) := hm
  clear hm
  obtain ⟨m2, hm2⟩ : ∃ m2, m2 = 2 * m := ⟨_, rfl⟩
  have hmm : (2 : Int) * (m : Int) = (m2 : Int) := by omega
  have hmk := make_cap m2 (by omega)
  clear hm2
  go_enter Tryd.func14, Tryd.ntmps14
  go_wp2_with (first | (go_at_call 34; refine (cK _).mono ?_; rintro e w1 ⟨rfl, rfl⟩) | (go_at_call 30; refine (cS _ HI2.out).mono ?_; rintro e w1 ⟨rfl, rfl⟩))
  go_loopw [27] (fun i wr => ∃ (k : Nat) (v : Value), k ≤ m ∧ i = .int .i64 (k : Int) ∧ Wi w wr w.heap.size (w.heap.size + 2) O v (wb l o k)) (fun i _ => m - (intOf i).toNat)
  case atStart =>
    exact ⟨0, _, Nat.zero_le _, rfl, wi_start w O m2 (by omega)⟩
  case round =>
    obtain ⟨k, v, hk, rfl, hi⟩ := hrel
    have hel := wb_len l o k
    by_cases hlt : k < m
    · have hlz : (k : Int) < (m : Int) := by omega
      obtain ⟨x, rfl, hc⟩ := (HI.out.step hi.bl).at k (by rw [← HM.out]; exact hlt)
      have hsg := HA.out k (by rw [← HM.out]; exact hlt)
      have HE : Hid (wb l o (k + 1) = wb l o k ++ hv (l.getD k 0) o) := rfl
      generalize l.getD k 0 = n at hc hsg HE
      have hn : 0 ≤ n ∧ n ≤ 1114111 := by unfold sign at hsg; omega
      clear hsg
      generalize wb l o k = L at hi hel HE
      have HW : Hid (Wi w _ w.heap.size (w.heap.size + 2) O v L) := hi
      by_cases hlow : n < 65536
      · have HE' : Hid (wb l o (k + 1) = L ++ putL n 2 o 2) := by rw [HE.out]; unfold hv; rw [if_pos hlow]; rfl
        clear HE hi
        go_wp2_with (go_at_call 35; refine (half_at n o O HO.out w _ _ _ v L hn.1 hlow (by omega) HW.out).mono ?_; rintro e w2 ⟨rfl, v', hi2⟩)
        go_roundw
        case rel => exact ⟨k + 1, v', by omega, by go_num, by rw [HE'.out]; exact hi2⟩
        case measure => simp [intOf]; omega
      · have HE' : Hid (wb l o (k + 1) = (L ++ putL (55296 + (n - 65536) / 1024) 2 o 2) ++ putL (56320 + (n - 65536) % 1024) 2 o 2) := by rw [HE.out]; unfold hv; rw [if_neg hlow, List.append_assoc]; rfl
        have hand := and1023 (n - 65536) (by omega) (by omega)
        obtain ⟨H1, hH1⟩ : ∃ H1, 55296 + (n - 65536) / 1024 = H1 := ⟨_, rfl⟩
        obtain ⟨H2, hH2⟩ : ∃ H2, 56320 + (n - 65536) % 1024 = H2 := ⟨_, rfl⟩
        rw [hH1, hH2] at HE'
        have hb1 : 0 ≤ H1 ∧ H1 < 65536 := by omega
        have hb2 : 0 ≤ H2 ∧ H2 < 65536 := by omega
        have hT1 : (L ++ putL H1 2 o 2).length ≤ 4500 := by rw [List.length_append, putL_len]; omega
        clear HE hi
        go_wp2_with (first
          | (go_at_call_of 35 H1; refine (half_at H1 o O HO.out w _ _ _ v L hb1.1 hb1.2 (by omega) HW.out).mono ?_; rintro e w2 ⟨rfl, v', hi2⟩)
          | (go_at_call_of 35 H2; refine (half_at H2 o O HO.out w _ _ _ v' _ hb2.1 hb2.2 hT1 hi2).mono ?_; rintro e w3 ⟨rfl, v2, hi3⟩))
        go_roundw
        case rel => exact ⟨k + 1, v2, by omega, by go_num, by rw [HE'.out]; exact hi3⟩
        case measure => simp [intOf]; omega
    · obtain rfl : k = m := by omega
      have hcb := cell_of_one hi.here
      have htx := hi.own.text
      have HB : Hid (Bl w _) := hi.bl
      clear hi
      go_wp2
      go_ret2
      exact ⟨rfl, HB.out⟩
end Go.Proofs.YtaboemchkmmgeaaDoor.enc
