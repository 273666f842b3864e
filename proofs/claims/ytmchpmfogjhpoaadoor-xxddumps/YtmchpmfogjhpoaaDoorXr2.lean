/- What the document's own XxdPlain answers. -/
import Derived.Test.YtmchpmfogjhpoaaDoorXr1
import Derived.Test.YtmchpmfogjhpoaaDoorXd4
namespace Go.Proofs.YtmchpmfogjhpoaaDoor.xr
set_option linter.unusedVariables false
open Go.ChangeShapes Go.WideShapes Go.ChangeAt Go.RowKit
open mem rows xd
open wi (within_at nums_append)
open digs (hexL hexL_len refHex_at)

/-- The first i bytes, as XxdPlain tells them. -/
def pq (s : ByteArray) : Nat → List Int
  | 0 => []
  | i + 1 => pq s i ++ hx s i ++ (if i % 30 = 29 ∨ i + 1 = s.size then [10] else [])
theorem pq_len (s : ByteArray) : ∀ i, (pq s i).length ≤ 3 * i
  | 0 => by simp [pq]
  | i + 1 => by
    have := pq_len s i
    rw [pq, List.length_append, List.length_append]
    have h1 : (if i % 30 = 29 ∨ i + 1 = s.size then [(10 : Int)] else []).length ≤ 1 := by split <;> simp
    have h2 : (hx s i).length = 2 := rfl
    omega
theorem hexL_next (s : ByteArray) (a e j : Nat) (h1 : a + j < e) (h2 : e ≤ s.size) : hexL (s.extract a e) (j + 1) = hexL (s.extract a e) j ++ hx s (a + j) := by
  have hp : j < (s.extract a e).size := by rw [ByteArray.size_extract]; omega
  have e1 : digs.nb (s.extract a e) j = (sb s (a + j)).toNat := by
    show (sb (s.extract a e) j).toNat = _
    rw [sb_get _ _ hp, ByteArray.getElem_extract, sb_get s (a + j) (by omega)]
  rw [hexL, e1]
  rfl
theorem pq_part (s : ByteArray) (k a e : Nat) (ha : a = k * 30) (he : e = min (a + 30) s.size) (hlt : a < s.size) : ∀ j, a + j < e → pq s (a + j) = pq s a ++ hexL (s.extract a e) j
  | 0, _ => by rw [Nat.add_zero, hexL, List.append_nil]
  | j + 1, h => by
    have ih := pq_part s k a e ha he hlt j (by omega)
    rw [← Nat.add_assoc, pq, ih, if_neg (by omega), List.append_nil, hexL_next s a e j (by omega) (by omega), List.append_assoc]
theorem pq_line (s : ByteArray) (k a e : Nat) (ha : a = k * 30) (he : e = min (a + 30) s.size) (hlt : a < s.size) : pq s e = pq s a ++ hexL (s.extract a e) (s.extract a e).size ++ [10] := by
  obtain ⟨j, hj⟩ : ∃ j, e = a + j + 1 := ⟨e - a - 1, by omega⟩
  have h1 := pq_part s k a e ha he hlt j (by omega)
  have hs : (s.extract a e).size = j + 1 := by rw [ByteArray.size_extract]; omega
  have hn : (a + j) % 30 = 29 ∨ a + j + 1 = s.size := by omega
  rw [hs, hexL_next s a e j (by omega) (by omega), hj, pq, if_pos hn, ← hj, h1]
  simp only [List.append_assoc]
theorem pq_all (s : ByteArray) (hs : s.size ≤ 600) : ∀ k, k ≤ np s 30 → pq s (min (k * 30) s.size) = pln (ptl s 30 k)
  | 0, _ => by simp [pq, ptl, pln]
  | k + 1, h => by
    have ih := pq_all s hs k (by omega)
    have hlt := (np_lt s 30 k (by omega)).1 (by omega)
    rw [show min (k * 30) s.size = k * 30 by omega] at ih
    have hpb : k * 30 ≤ 5000 ∧ (s.extract (k * 30) (min (k * 30 + 30) s.size)).size ≤ 1000 := ⟨by omega, by rw [ByteArray.size_extract]; omega⟩
    rw [ptl_succ, pt_is s 30 k (k * 30) (min (k * 30 + 30) s.size) rfl (by omega) (by omega) rfl hpb, pln_snoc, ← ih, show min ((k + 1) * 30) s.size = min (k * 30 + 30) s.size by omega]
    exact pq_line s k (k * 30) _ rfl rfl hlt
theorem pq_end (s : ByteArray) (hs : s.size ≤ 600) : pq s s.size = pln (ptl s 30 (np s 30)) := by
  rw [← pq_all s hs (np s 30) (Nat.le_refl _)]
  have h := np_lt s 30 (np s 30) (by omega)
  have : ¬ np s 30 * 30 < s.size := fun h2 => absurd (h.2 h2) (Nat.lt_irrefl _)
  rw [show min (np s 30 * 30) s.size = s.size by omega]
set_option maxHeartbeats 4000000 in
set_option maxRecDepth 10000 in
theorem refPlain_at (s : ByteArray) (w : World) (hs : s.size ≤ 600) :
    Calls Tryd.prog 14 #[.string s] w fun e w' => e = .returned (.string (strOfNums (pln (ptl s 30 (np s 30))))) ∧ w' = w := by
  have HE : Hid (pq s s.size = pln (ptl s 30 (np s 30))) := pq_end s hs
  go_enter Tryd.func14, Tryd.ntmps14
  go_wp2
  go_loopw [3, 4, 7] (fun ov _ iv wr => ∃ (i : Nat) (O : ByteArray), i ≤ s.size ∧ ov = .string O ∧ iv = .int .i64 (i : Int) ∧ O.size ≤ 3000 ∧ Hid (O = strOfNums (pq s i) ∧ wr = w)) (fun _ _ iv _ => s.size - (intOf iv).toNat)
  case atStart => exact ⟨0, ⟨#[]⟩, Nat.zero_le _, rfl, rfl, by decide, ⟨rfl, rfl⟩⟩
  case round =>
    obtain ⟨i, O, hi, rfl, rfl, hO, H⟩ := hrel
    by_cases hlt : i < s.size
    · have hltz : (i : Int) < s.size := by omega
      obtain ⟨d, hd⟩ : ∃ d, d = i + 1 := ⟨_, rfl⟩
      have hdz : (i : Int) + 1 = (d : Int) := by omega
      have g1 : i ≤ d := by omega
      have g2 : d ≤ s.size := by omega
      have cH := fun w => refHex_at (s.extract i d) w (by rw [ByteArray.size_extract]; omega)
      have e1 : strOfNums (hexL (s.extract i d) (s.extract i d).size) = strOfNums (hx s i) := by rw [hd]; exact hex_one s i hlt
      rw [e1] at cH
      obtain ⟨X, hX⟩ : ∃ X, X = strOfNums (hx s i) := ⟨_, rfl⟩
      rw [← hX] at cH
      obtain ⟨V, hV⟩ : ∃ V, O ++ X = V := ⟨_, rfl⟩
      have hVe : V = strOfNums (pq s i ++ hx s i) := by rw [← hV, hX, H.out.1, nums_append]
      have hpl := pq_len s i
      have hpl2 := pq_len s (i + 1)
      have hVs : V.size ≤ 3000 := by rw [hVe, nums_size, List.length_append]; show _ + 2 ≤ _; omega
      have hXs : X.size ≤ 2 := by rw [hX, nums_size]; exact Nat.le_refl _
      have o1 : ¬ 9223372036854775807 < O.size + X.size := by omega
      obtain ⟨r, hr⟩ : ∃ r, r = i % 30 := ⟨_, rfl⟩
      have hrz : (i : Int).tmod 30 = (r : Int) := by rw [Int.tmod_eq_emod_of_nonneg (by omega)]; omega
      have hstep : pq s (i + 1) = pq s i ++ hx s i ++ (if r = 29 ∨ d = s.size then [10] else []) := by rw [pq, hr, hd]
      have HW : Hid (wr = w) := H.out.2
      have hsz : (s.size : Int) - 1 = ((s.size - 1 : Nat) : Int) := by omega
      by_cases hn : r = 29 ∨ d = s.size
      · rw [if_pos hn] at hstep
        have HF : Hid (V ++ ⟨#[10]⟩ = strOfNums (pq s d)) := by
          have e3 : (⟨#[10]⟩ : ByteArray) = strOfNums [10] := rfl
          unfold Hid
          rw [hd, hstep, hVe, e3, nums_append]
        have hFs : (V ++ (⟨#[10]⟩ : ByteArray)).size ≤ 3000 := by rw [HF.out, nums_size, hd]; omega
        by_cases h29 : r = 29
        · have q1 : ((r : Int) == 29) = true := by rw [beq_iff_eq]; omega
          clear hstep hVe hX e1 hd hr hpl hpl2 H hn
          go_wp2_with (go_at_call 28; refine (cH _).mono ?_; rintro e w3 ⟨rfl, hw3⟩; subst hw3)
          go_roundw
          case rel => exact ⟨d, _, g2, rfl, by go_num, hFs, ⟨HF.out, HW.out⟩⟩
          case measure => simp [intOf]; omega
        · have q1 : ((r : Int) == 29) = false := by rw [beq_eq_false_iff_ne]; omega
          have q2 : ((i : Int) == (s.size : Int) - 1) = true := by rw [beq_iff_eq]; omega
          clear hstep hVe hX e1 hd hr hpl hpl2 H hn hsz
          go_wp2_with (go_at_call 28; refine (cH _).mono ?_; rintro e w3 ⟨rfl, hw3⟩; subst hw3)
          go_roundw
          case rel => exact ⟨d, _, g2, rfl, by go_num, hFs, ⟨HF.out, HW.out⟩⟩
          case measure => simp [intOf]; omega
      · rw [if_neg hn, List.append_nil] at hstep
        have HF : Hid (V = strOfNums (pq s d)) := by
          unfold Hid
          rw [hd, hstep, hVe]
        have q1 : ((r : Int) == 29) = false := by rw [beq_eq_false_iff_ne]; omega
        have q2 : ((i : Int) == (s.size : Int) - 1) = false := by rw [beq_eq_false_iff_ne]; omega
        clear hstep hVe hX e1 hd hr hpl hpl2 H hn hsz
        go_wp2_with (go_at_call 28; refine (cH _).mono ?_; rintro e w3 ⟨rfl, hw3⟩; subst hw3)
        go_roundw
        case rel => exact ⟨d, _, g2, rfl, by go_num, hVs, ⟨HF.out, HW.out⟩⟩
        case measure => simp [intOf]; omega
    · have hltz : ¬ (i : Int) < s.size := by omega
      obtain rfl : i = s.size := by omega
      have HF : Hid (O = strOfNums (pln (ptl s 30 (np s 30))) ∧ wr = w) := ⟨by rw [← HE.out]; exact H.out.1, H.out.2⟩
      clear H
      go_wp2
      go_ret
      exact ⟨by rw [HF.out.1]; rfl, HF.out.2⟩
end Go.Proofs.YtmchpmfogjhpoaaDoor.xr
