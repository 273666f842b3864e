/- What the document's own DigitsPrint answers. -/
import Derived.Test.YtmchpmfogjhpoaaDoorRefDig1
namespace Go.Proofs.YtmchpmfogjhpoaaDoor.digs
open Go.ChangeShapes Go.WideShapes Go.ChangeAt Go.RowKit
open mem dig

def szOf : Value → Nat
  | .string s => s.size
  | _ => 0
theorem isK_one (b n W K K' : Nat) (hb : 2 ≤ b) (h : isK b n W K) (h' : isK b n W K') : K = K' := by
  have key : ∀ {A B : Nat}, isK b n W A → isK b n W B → ¬ A < B := by
    intro A B hA hB hlt
    obtain ⟨a1, a2, a3, a4⟩ := hA
    have := isK_stop b n W B A hb hB hlt (by omega)
    rw [Nat.div_eq_of_lt a3] at this
    omega
  have := key h h'
  have := key h' h
  omega
theorem pr_empty (b n k : Nat) : (strOfNums (pr b n k)).toList.isEmpty = decide (k = 0) := by
  rw [ByteArray.toList_eq, strOfNums_data]
  cases k <;> simp [pr]
theorem isK_max (b n W D k : Nat) (hb : 2 ≤ b) (hD : isK b n 0 D) (hk : D ≤ k) (hW : W ≤ k) (h : k = D ∨ k ≤ W) : isK b n W k := by
  obtain ⟨h1, h2, h3, h4⟩ := hD
  refine ⟨by omega, hW, Nat.lt_of_lt_of_le h3 (Nat.pow_le_pow_right (by omega) hk), ?_⟩
  rcases h with rfl | h
  · omega
  · omega
set_option maxRecDepth 4000 in
theorem refPrint_at (n B W K : Nat) (w : World) (hb : 2 ≤ B) (hb' : B ≤ 16) (hn : n < 2 ^ 64) (hW : W ≤ 64) (hK : isK B n W K) :
    Calls Tryd.prog 29 #[.int .u64 n, .int .i64 B, .int .i64 W] w fun e w' => e = .returned (.tuple #[.string (strOfNums (pr B n K)), .int .i64 0]) ∧ w' = w := by
  obtain ⟨D, hD⟩ := isK_some B n 0 hb hn
  have hD64 := isK_le B n 0 D hb hn (by omega) hD
  have HD : Hid (isK B n 0 D) := hD
  have HK : Hid (isK B n W K) := hK
  have hn' : n < 18446744073709551616 := hn
  clear hK hn hD
  go_enter Tryd.func29, Tryd.ntmps29
  go_wp2_with (go_at_call 24; refine (within_yes _ _ _ _ (by omega) (by omega)).mono ?_; rintro e w1 ⟨rfl, rfl⟩)
  go_loop [0, 8] (fun m s => ∃ k q : Nat, k ≤ D ∧ m = .int .u64 (q : Int) ∧ s = .string (strOfNums (pr B n k)) ∧ Hid (q = n / B ^ k)) (fun _ s => 65 - szOf s)
  case atStart => exact ⟨0, n, Nat.zero_le _, rfl, rfl, by simp [Hid]⟩
  case round =>
    obtain ⟨k, q, hk, rfl, rfl, HQ⟩ := hrel
    have hz := strOfNums_size (pr B n k)
    rw [pr_len] at hz
    have hE := pr_empty B n k
    by_cases hlt : k < D
    · have hm : 0 ≤ (q : Int) % (B : Int) ∧ (q : Int) % (B : Int) < 16 := ⟨Int.emod_nonneg _ (by omega), by have := Int.emod_lt_of_pos (q : Int) (show (0 : Int) < (B : Int) by omega); omega⟩
      obtain ⟨q', hq'⟩ : ∃ q' : Nat, q' = q / B := ⟨_, rfl⟩
      have hql : q ≤ n := by rw [HQ.out]; exact Nat.div_le_self _ _
      have hdq : IntKind.u64.wrap ((q : Int) / (B : Int)) = (q' : Int) := by
        have e : (q : Int) / (B : Int) = (q' : Int) := by rw [hq']; rfl
        have := Nat.div_le_self q B
        rw [e, IntKind.wrap_u64]; omega
      have HQ' : Hid (q' = n / B ^ (k + 1)) := by rw [hq', HQ.out]; exact div_next B n k
      have HDq : Hid (q' = q / B) := hq'
      have HS : Hid ((lit.extract (q % B) 16).extract 0 1 ++ strOfNums (pr B n k) = strOfNums (pr B n (k + 1))) := by
        show _ = _
        rw [lit_cut _ (by omega), HQ.out]; exact pr_push B n k
      have hcs : ((lit.extract (q % B) 16).extract 0 1).size = 1 := by rw [lit_cut _ (by omega)]; rfl
      have HZ : Hid (((lit.extract (q % B) 16).extract 0 1 ++ strOfNums (pr B n k)).size = k + 1) := by
        show _ = _
        rw [HS.out, strOfNums_size, pr_len]
      clear hq' hql
      unfold lit at HS hcs HZ
      by_cases hk0 : k = 0
      · subst hk0
        have hE' : (strOfNums (pr B n 0)).toList.isEmpty = true := hE
        clear hE
        by_cases hq : q = 0
        · subst hq
          go_wp2
          go_round
          case rel => exact ⟨1, 0, by omega, rfl, by rw [← HS.out, Nat.zero_mod], by rw [← HQ'.out, HDq.out]; simp [Hid]⟩
          case measure => have := HZ.out; rw [Nat.zero_mod] at this; simp only [szOf, this, hz]; omega
        · go_wp2
          go_round
          case rel => exact ⟨1, q', by omega, rfl, by rw [← HS.out], HQ'⟩
          case measure => have := HZ.out; simp only [szOf, this, hz]; omega
      · have hq : 0 < q := by rw [HQ.out]; exact isK_stop B n 0 D k hb HD.out hlt (by omega)
        go_wp2
        go_round
        case rel => exact ⟨k + 1, q', by omega, rfl, by rw [← HS.out], HQ'⟩
        case measure => have := HZ.out; simp only [szOf, this, hz]; omega
    · obtain rfl : k = D := by omega
      have hq0 : q = 0 := by rw [HQ.out]; exact Nat.div_eq_of_lt HD.out.2.2.1
      have hk1 : 1 ≤ k := HD.out.1
      have hE' : (strOfNums (pr B n k)).toList.isEmpty = false := by rw [hE]; simp; omega
      clear hE
      subst hq0
      go_wp2
      go_loop [8] (fun s => ∃ j : Nat, k ≤ j ∧ (j = k ∨ j ≤ W) ∧ s = .string (strOfNums (pr B n j))) (fun s => 64 - szOf s)
      case atStart => exact ⟨k, Nat.le_refl _, Or.inl rfl, rfl⟩
      case round =>
        obtain ⟨j, hj, hjw, rfl⟩ := hrel
        have hzj := strOfNums_size (pr B n j)
        rw [pr_len] at hzj
        by_cases hlw : j < W
        · have HS : Hid (strOfNums [48] ++ strOfNums (pr B n j) = strOfNums (pr B n (j + 1))) := pr_nought B n j (Nat.lt_of_lt_of_le HD.out.2.2.1 (Nat.pow_le_pow_right (by omega) hj))
          have HZ : Hid ((strOfNums [48] ++ strOfNums (pr B n j)).size = j + 1) := by
            show _ = _
            rw [HS.out, strOfNums_size, pr_len]
          go_wp2
          go_round
          case rel => exact ⟨j + 1, by omega, by omega, by rw [← HS.out]; rfl⟩
          case measure => have : (ByteArray.mk #[48] ++ strOfNums (pr B n j)).size = j + 1 := HZ.out; simp only [szOf, this, hzj]; omega
        · have hjK : j = K := isK_one B n W j K hb (isK_max B n W k j hb HD.out hj (by omega) hjw) HK.out
          subst hjK
          go_wp2
          go_ret2
          exact ⟨rfl, rfl⟩
theorem refPrint_noB (n b W : Int) (w : World) (h : ¬ okB b) : Calls Tryd.prog 29 #[.int .u64 n, .int .i64 b, .int .i64 W] w fun e w' => e = .returned (.tuple #[.string ⟨#[]⟩, .int .i64 1]) ∧ w' = w := by
  have H : Hid (b < 2 ∨ 16 < b) := by show _ ∨ _; unfold okB at h; omega
  clear h
  go_enter Tryd.func29, Tryd.ntmps29
  go_wp2_with (go_at_call 24; refine (within_no _ _ _ _ H.out).mono ?_; rintro e w1 ⟨rfl, rfl⟩)
  go_ret2
  exact ⟨rfl, rfl⟩
theorem refPrint_noW (n b W : Int) (w : World) (h : okB b) (hW : W < 0 ∨ 64 < W) : Calls Tryd.prog 29 #[.int .u64 n, .int .i64 b, .int .i64 W] w fun e w' => e = .returned (.tuple #[.string ⟨#[]⟩, .int .i64 2]) ∧ w' = w := by
  have H : Hid (W < 0 ∨ 64 < W) := hW
  obtain ⟨h1, h2⟩ := h
  clear hW
  go_enter Tryd.func29, Tryd.ntmps29
  go_wp2_with (first | (go_at_call_of 24 (Value.int IntKind.i64 2); refine (within_yes _ _ _ _ (by omega) (by omega)).mono ?_; rintro e w1 ⟨rfl, rfl⟩) | (go_at_call 24; refine (within_no _ _ _ _ H.out).mono ?_; rintro e w1 ⟨rfl, rfl⟩))
  go_ret2
  exact ⟨rfl, rfl⟩
end Go.Proofs.YtmchpmfogjhpoaaDoor.digs
