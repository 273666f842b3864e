/- The document's own: where a pattern of half bytes stands. -/
import Derived.Test.YtehmjffbfgnijaaDoorFf1
namespace Go.Proofs.YtehmjffbfgnijaaDoor.find
set_option linter.unusedVariables false
open Go.ChangeShapes Go.WideShapes Go.ChangeAt Go.RowKit
open mem rows fd

theorem within_at (n a b : Int) (w : World) : Calls Tryd.prog 29 #[.int .i64 n, .int .i64 a, .int .i64 b] w fun e w' => e = .returned (.bool (decide (a ≤ n ∧ n ≤ b))) ∧ w' = w := by
  by_cases h1 : a ≤ n
  · by_cases h2 : n ≤ b
    · rw [decide_eq_true ⟨h1, h2⟩]
      go_enter Tryd.func29, Tryd.ntmps29
      go_wp2
      go_ret
      exact ⟨rfl, rfl⟩
    · rw [decide_eq_false (fun h => h2 h.2)]
      go_enter Tryd.func29, Tryd.ntmps29
      go_wp2
      go_ret
      exact ⟨rfl, rfl⟩
  · rw [decide_eq_false (fun h => h1 h.1)]
    go_enter Tryd.func29, Tryd.ntmps29
    go_wp2
    go_ret
    exact ⟨rfl, rfl⟩
/-- The t-th half byte from place i on. -/
def hlf (f : Nat → Int) (i t : Nat) : Int := if t % 2 = 1 then f (i + t / 2) % 16 else f (i + t / 2) / 16
/-- The first k halves are so. -/
def hk (m f : Nat → Int) (i : Nat) : Nat → Bool
  | 0 => true
  | k + 1 => hk m f i k && hf (m k) (hlf f i k)
theorem hk_iff (m f : Nat → Int) (i k : Nat) : hk m f i k = true ↔ ∀ t, t < k → hf (m t) (hlf f i t) = true := by
  induction k with
  | zero => exact ⟨fun _ t h => absurd h (Nat.not_lt_zero _), fun _ => rfl⟩
  | succ k ih =>
    rw [hk, Bool.and_eq_true, ih]
    constructor
    · rintro ⟨h1, h2⟩ t ht
      rcases Nat.lt_or_ge t k with h | h
      · exact h1 t h
      · obtain rfl : t = k := by omega
        exact h2
    · intro h
      exact ⟨fun t ht => h t (by omega), h k (by omega)⟩
theorem hk_all (m f : Nat → Int) (i n : Nat) : hk m f i (2 * n) = SM m f n i := by
  rw [Bool.eq_iff_iff, hk_iff, SM, decide_eq_true_iff]
  constructor
  · intro h j hj
    have h1 := h (2 * j) (by omega)
    have h2 := h (2 * j + 1) (by omega)
    unfold hlf at h1 h2
    rw [if_neg (by omega), show 2 * j / 2 = j by omega] at h1
    rw [if_pos (by omega), show (2 * j + 1) / 2 = j by omega] at h2
    unfold Fi
    rw [h1, h2]
    rfl
  · intro h t ht
    have hj := h (t / 2) (by omega)
    unfold Fi at hj
    rw [Bool.and_eq_true] at hj
    unfold hlf
    split
    · rename_i h'
      have := hj.2
      rwa [show 2 * (t / 2) + 1 = t by omega] at this
    · rename_i h'
      have := hj.1
      rwa [show 2 * (t / 2) = t by omega] at this
set_option maxRecDepth 20000 in
set_option maxHeartbeats 2000000 in
theorem refLike_at (s : ByteArray) (v : Value) (m : List Int) (n : Nat) (w : World) (hs : s.size ≤ 4000) (hv : View w v m) (hm : m.length = 2 * n) (h0 : 0 < n) (hn : n ≤ 64) :
    Calls Tryd.prog 17 #[.string s, v] w fun e w' => ∃ v, e = .returned (.tuple #[v, .int .i64 0]) ∧ Own w' w.heap.size v (ints (lks (mfn m) (sb s) n s.size)) ∧ Bl w w' := by
  obtain ⟨q, cp, rfl, hq⟩ := hv
  obtain ⟨L, hL⟩ : ∃ L, L = m.length := ⟨_, rfl⟩
  have HQ : Hid (In w q m) := hq
  rw [← hL] at hm ⊢
  have HL : Hid (L = m.length) := hL
  clear hL hq
  have hdv : (L : Int).tdiv 2 = (n : Int) := by rw [Int.tdiv_eq_ediv_of_nonneg (by omega)]; omega
  have hrm : (L : Int).tmod 2 = 0 := by rw [Int.tmod_eq_emod_of_nonneg (by omega)]; omega
  have cW := fun w => within_at (n : Int) 1 64 w
  rw [decide_eq_true (by omega)] at cW
  have HM : Hid (L = 2 * n) := hm
  have hLb : L ≤ 128 := by omega
  clear hm
  obtain ⟨B, hB⟩ : ∃ B, B = w.heap.size := ⟨_, rfl⟩
  rw [← hB]
  have HB : Hid (B = w.heap.size) := hB
  clear hB
  go_enter Tryd.func17, Tryd.ntmps17
  go_wp2_with (go_at_call 29; refine (cW _).mono ?_; rintro e w2 ⟨rfl, rfl⟩)
  go_loopw [7, 8] (fun lv i wr => ∃ k : Nat, k ≤ s.size + 1 - n ∧ i = .int .i64 (k : Int) ∧ Own wr B lv (ints (sta (SM (mfn m) (sb s) n) k)) ∧ Bl w2 wr) (fun _ i _ => s.size + 1 - n - (intOf i).toNat)
  case atStart => exact ⟨0, Nat.zero_le _, rfl, Own.nil _ _, Bl.refl _⟩
  case round =>
    obtain ⟨i, hi, rfl, hown, hbl⟩ := hrel
    by_cases hlt : i + n ≤ s.size
    · have hlz : (i : Int) + (n : Int) ≤ (s.size : Int) := by omega
      have hll := sta_len (SM (mfn m) (sb s) n) i
      go_wp2
      go_loop [9, 35] (fun ov kv => ∃ k : Nat, k ≤ L ∧ kv = .int .i64 (k : Int) ∧ ov = .bool (hk (mfn m) (sb s) i k)) (fun _ kv => L - (intOf kv).toNat)
      case atStart => exact ⟨0, Nat.zero_le _, rfl, rfl⟩
      case round =>
        obtain ⟨k, hk', rfl, rfl⟩ := hrel
        by_cases hkl : k < L
        · have hkz : (k : Int) < (L : Int) := by omega
          obtain ⟨x, rfl, hcx⟩ := (HQ.out.step hbl).at k (by rw [← HL.out]; exact hkl)
          obtain ⟨K2, hK2⟩ : ∃ K2, K2 = k / 2 := ⟨_, rfl⟩
          have hkn : i + K2 < s.size := by have := HM.out; omega
          have hgk : (((s[i + K2]'hkn).toNat : Nat) : Int) = sb s (i + K2) := (sb_get s _ hkn).symm
          have hbd := sb_bd s (i + K2)
          have hnx : hk (mfn m) (sb s) i (k + 1) = (hk (mfn m) (sb s) i k && hf (m.getD k 0) (hlf (sb s) i k)) := rfl
          have e1 : (k : Int).tdiv 2 = (K2 : Int) := by rw [Int.tdiv_eq_ediv_of_nonneg (by omega)]; omega
          have hhl : hlf (sb s) i k = if k % 2 = 1 then sb s (i + K2) % 16 else sb s (i + K2) / 16 := by rw [hK2]; rfl
          rw [hhl] at hnx
          generalize sb s (i + K2) = c at hgk hbd hnx
          have e3 : c.tdiv 16 = c / 16 := Int.tdiv_eq_ediv_of_nonneg hbd.1
          have e4 : c.tmod 16 = c % 16 := Int.tmod_eq_emod_of_nonneg hbd.1
          generalize m.getD k 0 = z at hcx hnx
          have g1 : (i : Int) + (K2 : Int) < (s.size : Int) := by omega
          have g2 : (0 : Int) ≤ (i : Int) + (K2 : Int) := by omega
          have g3 : ((i : Int) + (K2 : Int)).toNat = i + K2 := by omega
          have hc0 : 0 ≤ c := hbd.1
          have hc1 : c < 256 := hbd.2
          have hKb : K2 ≤ 64 := by omega
          clear hhl hbd
          rcases Nat.mod_two_eq_zero_or_one k with hR | hR
          · have e2 : (k : Int).tmod 2 = 0 := by rw [Int.tmod_eq_emod_of_nonneg (by omega)]; omega
            rw [if_neg (by omega)] at hnx
            have HX : Hid _ := hnx
            clear hnx hR hK2
            generalize hk (mfn m) (sb s) i k = b at HX ⊢
            cases b with
            | false =>
              go_wp2
              go_round
              case rel => exact ⟨k + 1, by omega, by go_num, by rw [HX.out]; rfl⟩
              case measure => simp [intOf]; omega
            | true =>
              rw [Bool.true_and] at HX
              by_cases hz : z < 0
              · go_wp2
                go_round
                case rel => exact ⟨k + 1, by omega, by go_num, by rw [HX.out]; simp [hf, hz]⟩
                case measure => simp [intOf]; omega
              · have hH : 0 ≤ c / 16 ∧ c / 16 < 16 := by omega
                generalize c / 16 = H at e3 HX hH
                go_wp2
                go_round
                case rel => exact ⟨k + 1, by omega, by go_num, by rw [HX.out, hf, decide_eq_false (by omega), Bool.false_or, beq_eq_decide']⟩
                case measure => simp [intOf]; omega
          · have e2 : (k : Int).tmod 2 = 1 := by rw [Int.tmod_eq_emod_of_nonneg (by omega)]; omega
            rw [if_pos hR] at hnx
            have HX : Hid _ := hnx
            clear hnx hR hK2
            generalize hk (mfn m) (sb s) i k = b at HX ⊢
            cases b with
            | false =>
              go_wp2
              go_round
              case rel => exact ⟨k + 1, by omega, by go_num, by rw [HX.out]; rfl⟩
              case measure => simp [intOf]; omega
            | true =>
              rw [Bool.true_and] at HX
              by_cases hz : z < 0
              · go_wp2
                go_round
                case rel => exact ⟨k + 1, by omega, by go_num, by rw [HX.out]; simp [hf, hz]⟩
                case measure => simp [intOf]; omega
              · have hH : 0 ≤ c % 16 ∧ c % 16 < 16 := by omega
                generalize c % 16 = H at e4 HX hH
                go_wp2
                go_round
                case rel => exact ⟨k + 1, by omega, by go_num, by rw [HX.out, hf, decide_eq_false (by omega), Bool.false_or, beq_eq_decide']⟩
                case measure => simp [intOf]; omega
        · have hkL : k = 2 * n := by have := HM.out; omega
          have hkz : ¬ ((k : Int) < (L : Int)) := by omega
          have hall := hk_all (mfn m) (sb s) i n
          rw [← hkL] at hall
          rw [hall]
          clear hall hkL
          cases hc : SM (mfn m) (sb s) n i with
          | true =>
            have HP : Hid _ := sta_yes _ i hc
            clear hc
            go_wp2_with (at_builtin; refine wpL_app rfl (.tmp 71) (.tmp 73) rfl rfl _ _ (i : Int) wr.heap.size rfl rfl B (hown.step ((Bl.refl _).alloc _)) (by go_simp) (by rw [ints_len]; omega) (by have := hbl.size; have := HB.out; simp; omega) ?_; intro v' w3 ho3 hg3 hv3; have hb3 : Bl w2 w3 := bl_grown (hbl.alloc _) hg3 (fun j e => by rw [← HB.out]; exact (hown.block j e).1); clear hg3 hv3)
            go_roundw
            case rel => exact ⟨i + 1, by omega, by go_num, by rw [HP.out, ints_app]; exact ho3, hb3⟩
            case measure => simp [intOf]; omega
          | false =>
            have HP : Hid _ := sta_no _ i hc
            clear hc
            go_wp2
            go_roundw
            case rel => exact ⟨i + 1, by omega, by go_num, by rw [HP.out]; exact hown, hbl⟩
            case measure => simp [intOf]; omega
    · have hnl : ¬ ((i : Int) + (n : Int) ≤ (s.size : Int)) := by omega
      have HK : Hid (i = s.size + 1 - n) := by unfold Hid; omega
      go_wp2
      go_ret2
      rw [HK.out] at hown
      exact ⟨_, rfl, hown, hbl⟩
/-- A pattern that has no byte, half of one, or more than 64. -/
theorem refLike_no (s : ByteArray) (q : Option Addr) (L cp : Nat) (w : World) (hL : L ≤ 1000) (h : L % 2 = 1 ∨ L / 2 = 0 ∨ 64 < L / 2) :
    Calls Tryd.prog 17 #[.string s, .slice q L cp] w fun e w' => e = .returned (.tuple #[.slice none 0 0, .int .i64 1]) ∧ w' = w := by
  obtain ⟨n, hn⟩ : ∃ n, n = L / 2 := ⟨_, rfl⟩
  have hdv : (L : Int).tdiv 2 = (n : Int) := by rw [Int.tdiv_eq_ediv_of_nonneg (by omega)]; omega
  have cW := fun w => within_at (n : Int) 1 64 w
  rcases Nat.mod_two_eq_zero_or_one L with hR | hR
  · have hrm : (L : Int).tmod 2 = 0 := by rw [Int.tmod_eq_emod_of_nonneg (by omega)]; omega
    rw [decide_eq_false (by omega)] at cW
    have hnb : n ≤ 1000 := by omega
    clear h hR hn
    go_enter Tryd.func17, Tryd.ntmps17
    go_wp2_with (go_at_call 29; refine (cW _).mono ?_; rintro e w2 ⟨rfl, rfl⟩)
    go_ret2
    exact ⟨rfl, rfl⟩
  · have hrm : (L : Int).tmod 2 = 1 := by rw [Int.tmod_eq_emod_of_nonneg (by omega)]; omega
    have hnb : n ≤ 1000 := by omega
    clear h hR hn
    go_enter Tryd.func17, Tryd.ntmps17
    go_wp2
    go_ret2
    exact ⟨rfl, rfl⟩
theorem Like_no (s : ByteArray) (q : Option Addr) (L cp : Nat) (w : World) (hL : L ≤ 1000) (h : L % 2 = 1 ∨ L / 2 = 0 ∨ 64 < L / 2) :
    Calls Tryd.prog 18 #[.string s, .slice q L cp] w fun e w' => e = .returned (.tuple #[.slice none 0 0, .iface 23 (.int .i64 1)]) ∧ w' = w := by
  obtain ⟨n, hn⟩ : ∃ n, n = L / 2 := ⟨_, rfl⟩
  have hdv : (L : Int).tdiv 2 = (n : Int) := by rw [Int.tdiv_eq_ediv_of_nonneg (by omega)]; omega
  have cW := fun w => whole_at q L cp w (by omega)
  rw [← hn] at h
  have hnb : n ≤ 1000 := by omega
  by_cases h0 : n = 0
  · have d0 : ((n : Int) == 0) = true := by rw [beq_iff_eq]; omega
    clear h h0 hn cW
    go_enter Tryd.func18, Tryd.ntmps18
    go_wp2
    go_ret2
    exact ⟨rfl, rfl⟩
  · have d0 : ((n : Int) == 0) = false := by rw [beq_eq_false_iff_ne]; omega
    by_cases h64 : 64 < n
    · have d1 : (64 : Int) < (n : Int) := by omega
      clear h h0 hn cW h64
      go_enter Tryd.func18, Tryd.ntmps18
      go_wp2
      go_ret2
      exact ⟨rfl, rfl⟩
    · have d1 : ¬ (64 : Int) < (n : Int) := by omega
      rw [decide_eq_false (by omega)] at cW
      clear h h0 hn h64
      go_enter Tryd.func18, Tryd.ntmps18
      go_wp2_with (go_at_call 27; refine (cW _).mono ?_; rintro e w2 ⟨rfl, rfl⟩)
      go_ret2
      exact ⟨rfl, rfl⟩
end Go.Proofs.YtehmjffbfgnijaaDoor.find
