/- Texts laid together: RefDig2, Er7, Er8. -/
import Derived.Test.YtfngcphklfjhjaaGreatDoorZ16
import Derived.Test.YtfngcphklfjhjaaGreatDoorZ18
import Derived.Test.YtfngcphklfjhjaaGreatDoorZ14
import Derived.Deep.QuietTactic
import Derived.BigQuiet
import Derived.Test.YtfngcphklfjhjaaGreatDoorZ19
import Derived.Deep.RegionWith
/- What the document's own DigitsPrint answers. -/
namespace Go.Proofs.YtfngcphklfjhjaaGreatDoor.digs
open Go.ChangeShapes Go.WideShapes Go.ChangeAt Go.RowKit
open mem dig

def szOf : Value → Nat
  | .string s => s.size
  | _ => 0
theorem isK_one (b n W K K' : Nat) (hb : 2 ≤ b) (h : isK b n W K) (h' : isK b n W K') : K = K' := by
  have key : ∀ {A B : Nat}, isK b n W A → isK b n W B → ¬ A < B := by
    intro A B hA hB hlt
    obtain ⟨a1, a2, a3, a4⟩ := hA
    have := isK_stop b n W B A hb hB hlt (by omega)
    rw [Nat.div_eq_of_lt a3] at this
    omega
  have := key h h'
  have := key h' h
  omega
theorem pr_empty (b n k : Nat) : (strOfNums (pr b n k)).toList.isEmpty = decide (k = 0) := by
  rw [ByteArray.toList_eq, strOfNums_data]
  cases k <;> simp [pr]
theorem isK_max (b n W D k : Nat) (hb : 2 ≤ b) (hD : isK b n 0 D) (hk : D ≤ k) (hW : W ≤ k) (h : k = D ∨ k ≤ W) : isK b n W k := by
  obtain ⟨h1, h2, h3, h4⟩ := hD
  refine ⟨by omega, hW, Nat.lt_of_lt_of_le h3 (Nat.pow_le_pow_right (by omega) hk), ?_⟩
  rcases h with rfl | h
  · omega
  · omega
set_option maxRecDepth 4000 in
theorem refPrint_at (n B W K : Nat) (w : World) (hb : 2 ≤ B) (hb' : B ≤ 16) (hn : n < 2 ^ 64) (hW : W ≤ 64) (hK : isK B n W K) :
    Calls Tryz.prog 30 #[.int .u64 n, .int .i64 B, .int .i64 W] w fun e w' => e = .returned (.tuple #[.string (strOfNums (pr B n K)), .int .i64 0]) ∧ w' = w := by
  obtain ⟨D, hD⟩ := isK_some B n 0 hb hn
  have hD64 := isK_le B n 0 D hb hn (by omega) hD
  have HD : Hid (isK B n 0 D) := hD
  have HK : Hid (isK B n W K) := hK
  have hn' : n < 18446744073709551616 := hn
  clear hK hn hD
  go_enter Tryz.func30, Tryz.ntmps30
  go_wp2_with (go_at_call 47; refine (within_yes _ _ _ _ (by omega) (by omega)).mono ?_; rintro e w1 ⟨rfl, rfl⟩)
  go_loop [0, 8] (fun m s => ∃ k q : Nat, k ≤ D ∧ m = .int .u64 (q : Int) ∧ s = .string (strOfNums (pr B n k)) ∧ Hid (q = n / B ^ k)) (fun _ s => 65 - szOf s)
  case atStart => exact ⟨0, n, Nat.zero_le _, rfl, rfl, by simp [Hid]⟩
  case round =>
    obtain ⟨k, q, hk, rfl, rfl, HQ⟩ := hrel
    have hz := strOfNums_size (pr B n k)
    rw [pr_len] at hz
    have hE := pr_empty B n k
    by_cases hlt : k < D
    · have hm : 0 ≤ (q : Int) % (B : Int) ∧ (q : Int) % (B : Int) < 16 := ⟨Int.emod_nonneg _ (by omega), by have := Int.emod_lt_of_pos (q : Int) (show (0 : Int) < (B : Int) by omega); omega⟩
      obtain ⟨q', hq'⟩ : ∃ q' : Nat, q' = q / B := ⟨_, rfl⟩
      have hql : q ≤ n := by rw [HQ.out]; exact Nat.div_le_self _ _
      have hdq : IntKind.u64.wrap ((q : Int) / (B : Int)) = (q' : Int) := by
        have e : (q : Int) / (B : Int) = (q' : Int) := by rw [hq']; rfl
        have := Nat.div_le_self q B
        rw [e, IntKind.wrap_u64]; omega
      have HQ' : Hid (q' = n / B ^ (k + 1)) := by rw [hq', HQ.out]; exact div_next B n k
      have HDq : Hid (q' = q / B) := hq'
      have HS : Hid ((lit.extract (q % B) 16).extract 0 1 ++ strOfNums (pr B n k) = strOfNums (pr B n (k + 1))) := by
        show _ = _
        rw [lit_cut _ (by omega), HQ.out]; exact pr_push B n k
      have hcs : ((lit.extract (q % B) 16).extract 0 1).size = 1 := by rw [lit_cut _ (by omega)]; rfl
      have HZ : Hid (((lit.extract (q % B) 16).extract 0 1 ++ strOfNums (pr B n k)).size = k + 1) := by
        show _ = _
        rw [HS.out, strOfNums_size, pr_len]
      clear hq' hql
      unfold lit at HS hcs HZ
      by_cases hk0 : k = 0
      · subst hk0
        have hE' : (strOfNums (pr B n 0)).toList.isEmpty = true := hE
        clear hE
        by_cases hq : q = 0
        · subst hq
          go_wp2
          go_round
          case rel => exact ⟨1, 0, by omega, rfl, by rw [← HS.out, Nat.zero_mod], by rw [← HQ'.out, HDq.out]; simp [Hid]⟩
          case measure => have := HZ.out; rw [Nat.zero_mod] at this; simp only [szOf, this, hz]; omega
        · go_wp2
          go_round
          case rel => exact ⟨1, q', by omega, rfl, by rw [← HS.out], HQ'⟩
          case measure => have := HZ.out; simp only [szOf, this, hz]; omega
      · have hq : 0 < q := by rw [HQ.out]; exact isK_stop B n 0 D k hb HD.out hlt (by omega)
        go_wp2
        go_round
        case rel => exact ⟨k + 1, q', by omega, rfl, by rw [← HS.out], HQ'⟩
        case measure => have := HZ.out; simp only [szOf, this, hz]; omega
    · obtain rfl : k = D := by omega
      have hq0 : q = 0 := by rw [HQ.out]; exact Nat.div_eq_of_lt HD.out.2.2.1
      have hk1 : 1 ≤ k := HD.out.1
      have hE' : (strOfNums (pr B n k)).toList.isEmpty = false := by rw [hE]; simp; omega
      clear hE
      subst hq0
      go_wp2
      go_loop [8] (fun s => ∃ j : Nat, k ≤ j ∧ (j = k ∨ j ≤ W) ∧ s = .string (strOfNums (pr B n j))) (fun s => 64 - szOf s)
      case atStart => exact ⟨k, Nat.le_refl _, Or.inl rfl, rfl⟩
      case round =>
        obtain ⟨j, hj, hjw, rfl⟩ := hrel
        have hzj := strOfNums_size (pr B n j)
        rw [pr_len] at hzj
        by_cases hlw : j < W
        · have HS : Hid (strOfNums [48] ++ strOfNums (pr B n j) = strOfNums (pr B n (j + 1))) := pr_nought B n j (Nat.lt_of_lt_of_le HD.out.2.2.1 (Nat.pow_le_pow_right (by omega) hj))
          have HZ : Hid ((strOfNums [48] ++ strOfNums (pr B n j)).size = j + 1) := by
            show _ = _
            rw [HS.out, strOfNums_size, pr_len]
          go_wp2
          go_round
          case rel => exact ⟨j + 1, by omega, by omega, by rw [← HS.out]; rfl⟩
          case measure => have : (ByteArray.mk #[48] ++ strOfNums (pr B n j)).size = j + 1 := HZ.out; simp only [szOf, this, hzj]; omega
        · have hjK : j = K := isK_one B n W j K hb (isK_max B n W k j hb HD.out hj (by omega) hjw) HK.out
          subst hjK
          go_wp2
          go_ret2
          exact ⟨rfl, rfl⟩
theorem refPrint_noB (n b W : Int) (w : World) (h : ¬ okB b) : Calls Tryz.prog 30 #[.int .u64 n, .int .i64 b, .int .i64 W] w fun e w' => e = .returned (.tuple #[.string ⟨#[]⟩, .int .i64 1]) ∧ w' = w := by
  have H : Hid (b < 2 ∨ 16 < b) := by show _ ∨ _; unfold okB at h; omega
  clear h
  go_enter Tryz.func30, Tryz.ntmps30
  go_wp2_with (go_at_call 47; refine (within_no _ _ _ _ H.out).mono ?_; rintro e w1 ⟨rfl, rfl⟩)
  go_ret2
  exact ⟨rfl, rfl⟩
theorem refPrint_noW (n b W : Int) (w : World) (h : okB b) (hW : W < 0 ∨ 64 < W) : Calls Tryz.prog 30 #[.int .u64 n, .int .i64 b, .int .i64 W] w fun e w' => e = .returned (.tuple #[.string ⟨#[]⟩, .int .i64 2]) ∧ w' = w := by
  have H : Hid (W < 0 ∨ 64 < W) := hW
  obtain ⟨h1, h2⟩ := h
  clear hW
  go_enter Tryz.func30, Tryz.ntmps30
  go_wp2_with (first | (go_at_call_of 47 (Value.int IntKind.i64 2); refine (within_yes _ _ _ _ (by omega) (by omega)).mono ?_; rintro e w1 ⟨rfl, rfl⟩) | (go_at_call 47; refine (within_no _ _ _ _ H.out).mono ?_; rintro e w1 ⟨rfl, rfl⟩))
  go_ret2
  exact ⟨rfl, rfl⟩
end Go.Proofs.YtfngcphklfjhjaaGreatDoor.digs
/- The document's text of an expression; two expressions held against each other. -/
namespace Go.Proofs.YtfngcphklfjhjaaGreatDoor.ex
set_option linter.unusedVariables false
open Go.ChangeShapes Go.WideShapes Go.ChangeAt Go.RowKit
open mem lx

theorem pr_last (b n k : Nat) : dig.pr b n (k + 1) = dig.pr b (n / b) k ++ [dig.ch (n % b)] := by
  induction k with
  | zero => simp [dig.pr]
  | succ k ih =>
    rw [dig.pr, ih]
    show _ = dig.ch (n / b / b ^ k % b) :: dig.pr b (n / b) k ++ [dig.ch (n % b)]
    rw [Nat.div_div_eq_div_mul, ← Nat.pow_succ']
    rfl
theorem ch_is (d : Nat) (h : d < 10) : UInt8.ofNat (dig.ch d).toNat = UInt8.ofNat (48 + d) := by
  unfold dig.ch
  rw [if_pos h]
  congr 1
theorem dec_pr (K : Nat) : ∀ n, dig.isK 10 n 0 K → (dig.pr 10 n K).map (fun x => UInt8.ofNat x.toNat) = Lib.decDigits n := by
  induction K with
  | zero => intro n h; have := h.1; omega
  | succ k ih =>
    intro n h
    obtain ⟨_, _, h3, h4⟩ := h
    rw [pr_last, List.map_append]
    cases k with
    | zero =>
      have hn : n < 10 := by simpa using h3
      rw [Lib.decDigits, dif_pos hn, Nat.mod_eq_of_lt hn]
      show [UInt8.ofNat (dig.ch n).toNat] = _
      rw [ch_is n hn]
    | succ j =>
      have h5 : 10 ^ (j + 1) ≤ n := by
        rcases h4 with h4 | h4 | h4
        · omega
        · omega
        · exact h4
      have h10 : 10 ≤ n := by
        have : 10 ^ 1 ≤ 10 ^ (j + 1) := Nat.pow_le_pow_right (by omega) (by omega)
        omega
      rw [Lib.decDigits, dif_neg (by omega), ih (n / 10) ⟨by omega, by omega, ?_, ?_⟩]
      · show _ ++ [UInt8.ofNat (dig.ch (n % 10)).toNat] = _
        rw [ch_is _ (by omega)]
      · rw [Nat.div_lt_iff_lt_mul (by omega), ← Nat.pow_succ]; exact h3
      · by_cases hj : j = 0
        · left; omega
        · right; right
          rw [Nat.le_div_iff_mul_le (by omega), ← Nat.pow_succ]
          exact (show 10 ^ (j + 1 - 1 + 1) ≤ n by rw [show j + 1 - 1 + 1 = j + 1 by omega]; exact h5)
theorem print_at (n : Nat) (w : World) (hn : n < 9223372036854775808) : Calls Tryz.prog 30 #[.int .u64 (n : Int), .int .i64 10, .int .i64 0] w fun e w' => e = .returned (.tuple #[.string (tx (Lib.itoa (n : Int))), .int .i64 0]) ∧ w' = w := by
  obtain ⟨K, hK⟩ := dig.isK_some 10 n 0 (by omega) (by omega)
  refine (digs.refPrint_at n 10 0 K w (by omega) (by omega) (by omega) (by omega) hK).mono ?_
  rintro e w' ⟨rfl, rfl⟩
  refine ⟨?_, rfl⟩
  rw [itoa_pos _ (by omega), show ((n : Int)).toNat = n from rfl, ← dec_pr K n hK]
  rfl
theorem tx_cat (a b : List UInt8) : tx a ++ tx b = tx (a ++ b) := by
  unfold tx
  apply ByteArray.ext
  rw [ByteArray.data_append]
  simp
theorem ret_tx {X : ByteArray} {l : List UInt8} (h : X = tx l) : Ending.returned (.string X) = .returned (.string (tx l)) := by rw [h]
/-- What is asked of ExprText. -/
def RTx (x : Ex) : Prop := ∀ (v : Value) (w : World), IsX w v x → Nw x → Okb x → (txt x).length ≤ 1000000 →
  Calls Tryz.prog 13 #[v] w fun e w' => e = .returned (.string (tx (txt x))) ∧ ∃ q, w' = w.drewN q
def RSd (x : Ex) : Prop := ∀ (m : Nat) (v : Value) (w : World), m ≤ 4 → IsX w v x → Nw x → Okb x → (txt x).length ≤ 1000000 →
  Calls Tryz.prog 31 #[v, .int .i64 (m : Int)] w fun e w' => e = .returned (.string (tx (sdt x m))) ∧ ∃ q, w' = w.drewN q
set_option maxRecDepth 10000 in
theorem rside_of (x : Ex) (h : RTx x) : RSd x := by
  intro m v w hm hx hn ho hl
  have c := h v w hx hn ho hl
  have hz : (tx (txt x)).size = (txt x).length := tx_size _
  by_cases ht : top x < m
  · have hs : sdt x m = [40] ++ txt x ++ [41] := by unfold sdt; rw [if_pos ht]
    rw [hs]
    cases x with
    | num a n => exact absurd ht (by show ¬ 4 < m; omega)
    | nam a t => exact absurd ht (by show ¬ 4 < m; omega)
    | bin a o xl xr =>
      obtain ⟨xb, vl, vr, rfl, hc, _, _⟩ := hx
      have k0 : w.cell? ⟨xb, 0, none⟩ = some (.int .i64 3) := by rw [cell_of hc]; rfl
      have k4 : w.cell? ⟨xb, 4, none⟩ = some (.string (tx o)) := by rw [cell_of hc]; rfl
      have ht' : bd o < m := ht
      obtain ⟨k, hk⟩ : ∃ k, k = bd o := ⟨_, rfl⟩
      have hge : decide (k < m) = true := decide_eq_true (by omega)
      have hge' : k < m := by omega
      have cB := hold_at o
      rw [← hk] at cB
      have HT : Hid (txt (.bin a o xl xr) = txt (.bin a o xl xr)) := rfl
      obtain ⟨T, hT⟩ : ∃ T, T = tx (txt (.bin a o xl xr)) := ⟨_, rfl⟩
      rw [← hT] at c hz
      have HH : Hid (T = tx (txt (.bin a o xl xr))) := hT
      clear hT hk ht ht' hc HT hs
      go_enter Tryz.func31, Tryz.ntmps31
      go_wp2_with fail
      refine (cB _).mono ?_
      rintro e w1 ⟨rfl, rfl⟩
      go_wp2_with fail
      refine c.mono ?_
      rintro e w2 ⟨rfl, q, rfl⟩
      go_wp2
      go_ret
      exact ⟨ret_tx (by rw [HH.out, show ({ data := #[40] } : ByteArray) = tx [40] from rfl, show ({ data := #[41] } : ByteArray) = tx [41] from rfl, tx_cat, tx_cat]; rfl), q, rfl⟩
  · have hs : sdt x m = txt x := by unfold sdt; rw [if_neg ht]
    rw [hs]
    cases x with
    | num a n =>
      obtain ⟨xb, rfl, hc⟩ := hx
      have k0 : w.cell? ⟨xb, 0, none⟩ = some (.int .i64 1) := by rw [cell_of hc]; rfl
      go_enter Tryz.func31, Tryz.ntmps31
      go_wp2_with fail
      refine c.mono ?_
      rintro e w2 ⟨rfl, q, rfl⟩
      go_wp2
      go_ret
      exact ⟨rfl, q, rfl⟩
    | nam a t =>
      obtain ⟨xb, rfl, hc⟩ := hx
      have k0 : w.cell? ⟨xb, 0, none⟩ = some (.int .i64 2) := by rw [cell_of hc]; rfl
      go_enter Tryz.func31, Tryz.ntmps31
      go_wp2_with fail
      refine c.mono ?_
      rintro e w2 ⟨rfl, q, rfl⟩
      go_wp2
      go_ret
      exact ⟨rfl, q, rfl⟩
    | bin a o xl xr =>
      obtain ⟨xb, vl, vr, rfl, hc, _, _⟩ := hx
      have k0 : w.cell? ⟨xb, 0, none⟩ = some (.int .i64 3) := by rw [cell_of hc]; rfl
      have k4 : w.cell? ⟨xb, 4, none⟩ = some (.string (tx o)) := by rw [cell_of hc]; rfl
      have ht' : ¬ bd o < m := ht
      obtain ⟨k, hk⟩ : ∃ k, k = bd o := ⟨_, rfl⟩
      have hge : decide (k < m) = false := decide_eq_false (by omega)
      have hge' : ¬ k < m := by omega
      have cB := hold_at o
      rw [← hk] at cB
      clear ht ht' hk hc hs
      go_enter Tryz.func31, Tryz.ntmps31
      go_wp2_with fail
      refine (cB _).mono ?_
      rintro e w1 ⟨rfl, rfl⟩
      go_wp2_with fail
      refine c.mono ?_
      rintro e w2 ⟨rfl, q, rfl⟩
      go_wp2
      go_ret
      exact ⟨rfl, q, rfl⟩
set_option maxRecDepth 10000 in
set_option maxHeartbeats 1000000 in
theorem rtext_of (x : Ex) : RTx x := by
  induction x with
  | num a n =>
    intro v w hx hn ho hl
    obtain ⟨xb, rfl, hc⟩ := hx
    obtain ⟨h0, h1⟩ := (show 0 ≤ n ∧ n < 9223372036854775808 from hn)
    obtain ⟨k, rfl⟩ : ∃ k : Nat, n = (k : Int) := ⟨n.toNat, by omega⟩
    have k0 : w.cell? ⟨xb, 0, none⟩ = some (.int .i64 1) := by rw [cell_of hc]; rfl
    have k2 : w.cell? ⟨xb, 2, none⟩ = some (.int .i64 (k : Int)) := by rw [cell_of hc]; rfl
    have cP := print_at k w (by omega)
    have hcv : IntKind.u64.wrap (k : Int) = (k : Int) := by rw [IntKind.wrap_u64]; omega
    have HT : Hid (txt (.num a (k : Int)) = Lib.itoa (k : Int)) := rfl
    rw [HT.out]
    go_enter Tryz.func13, Tryz.ntmps13
    go_wp2_with fail
    refine cP.mono ?_
    rintro e w2 ⟨rfl, rfl⟩
    go_wp2
    go_ret
    exact ⟨rfl, 0, rfl⟩
  | nam a t =>
    intro v w hx hn ho hl
    obtain ⟨xb, rfl, hc⟩ := hx
    have k0 : w.cell? ⟨xb, 0, none⟩ = some (.int .i64 2) := by rw [cell_of hc]; rfl
    have k3 : w.cell? ⟨xb, 3, none⟩ = some (.string (tx t)) := by rw [cell_of hc]; rfl
    go_enter Tryz.func13, Tryz.ntmps13
    go_wp2
    go_ret
    exact ⟨rfl, 0, rfl⟩
  | bin a o l r il ir =>
    intro v w hx hn ho hl
    obtain ⟨xb, vl, vr, rfl, hc, hxl, hxr⟩ := hx
    have hlen := hl
    rw [txt_bin] at hl
    have hsl : (txt l).length ≤ (sdt l (bd o)).length := by unfold sdt; split <;> simp <;> omega
    have hsr : (txt r).length ≤ (sdt r (bd o + 1)).length := by unfold sdt; split <;> simp <;> omega
    simp only [List.length_append, List.length_cons, List.length_nil] at hl
    have hbo := bd_le o
    have cl := fun wx (hw : Kx w wx) => rside_of l il (bd o) vl wx (by omega) (hxl.keep hw) hn.1 ho.2.1 (by omega)
    have cr := fun wx (hw : Kx w wx) => rside_of r ir (bd o + 1) vr wx (by omega) (hxr.keep hw) hn.2 ho.2.2 (by omega)
    have k0 : w.cell? ⟨xb, 0, none⟩ = some (.int .i64 3) := by rw [cell_of hc]; rfl
    have k4 : w.cell? ⟨xb, 4, none⟩ = some (.string (tx o)) := by rw [cell_of hc]; rfl
    have k5 : w.cell? ⟨xb, 5, none⟩ = some vl := by rw [cell_of hc]; rfl
    have k6 : w.cell? ⟨xb, 6, none⟩ = some vr := by rw [cell_of hc]; rfl
    obtain ⟨vbl, rfl, _⟩ := hxl.ptr
    obtain ⟨vbr, rfl, _⟩ := hxr.ptr
    have cH := hold_at o
    have z1 : (tx (sdt l (bd o))).size ≤ 1000000 := by rw [tx_size]; omega
    have z2 : (tx (sdt r (bd o + 1))).size ≤ 1000000 := by rw [tx_size]; omega
    have z3 : (tx o).size ≤ 1000000 := by rw [tx_size]; omega
    have HT : Hid (tx (sdt l (bd o)) ++ tx [32] ++ tx o ++ tx [32] ++ tx (sdt r (bd o + 1)) = tx (txt (.bin a o l r))) := by
      unfold Hid
      rw [tx_cat, tx_cat, tx_cat, tx_cat, txt_bin]
      simp
    obtain ⟨k, hk⟩ : ∃ k, k = bd o := ⟨_, rfl⟩
    rw [← hk] at cl cr cH z1 z2 hbo HT
    obtain ⟨X, hX⟩ : ∃ X, X = tx (sdt l k) := ⟨_, rfl⟩
    obtain ⟨Y, hY⟩ : ∃ Y, Y = tx (sdt r (k + 1)) := ⟨_, rfl⟩
    obtain ⟨O, hO⟩ : ∃ O, O = tx o := ⟨_, rfl⟩
    rw [← hX] at cl z1 HT
    rw [← hY] at cr z2 HT
    rw [← hO] at cH k4 z3 HT
    clear hX hY hO hk hc hxl hxr il ir hl hsl hsr hlen
    have hk1 : wrap64 ((k : Int) + 1) = ((k + 1 : Nat) : Int) := by unfold wrap64; omega
    have hk2 : IntKind.i64.wrap ((k : Int) + 1) = ((k + 1 : Nat) : Int) := by rw [IntKind.wrap_i64]; omega
    have hdw : ∀ n, Kx w (w.drewN n) := fun n => Kx.bl ((Bl.refl w).drewN n)
    go_enter Tryz.func13, Tryz.ntmps13
    go_wp2_with fail
    go_quiet (first
      | (go_at_call 32; exact Calls.quiet_of_same (cH _))
      | (go_at_call_of 31 (Addr.mk vbl 0 none); exact Calls.quiet_of (cl _ (hdw _)))
      | (go_at_call_of 31 (Addr.mk vbr 0 none); first | exact Calls.quiet_of (cr _ (hdw _)) | (rw [hk2]; exact Calls.quiet_of (cr _ (hdw _))) | (rw [hk1]; exact Calls.quiet_of (cr _ (hdw _)))))
    go_wp2
    go_ret
    exact ⟨ret_tx HT.out, _, rfl⟩
set_option maxRecDepth 10000 in
set_option maxHeartbeats 1000000 in
/-- Two that are the same. -/
theorem same_at (x : Ex) : ∀ (u v : Value) (w : World), IsX w u x → IsX w v x → Calls Tryz.prog 8 #[u, v] w fun e w' => e = .returned (.bool true) ∧ ∃ q, w' = w.drewN q := by
  have c0 : ∀ w, Calls Tryz.prog 8 #[.pointer none, .pointer none] w fun e w' => e = .returned (.bool true) ∧ w' = w := fun w => by
    go_enter Tryz.func8, Tryz.ntmps8
    go_wp2
    go_ret
    exact ⟨rfl, rfl⟩
  induction x with
  | num a n =>
    intro u v w hx hy
    obtain ⟨xb, rfl, hc⟩ := hx
    obtain ⟨yb, rfl, hd⟩ := hy
    have a0 : w.cell? ⟨xb, 0, none⟩ = some (.int .i64 1) := by rw [cell_of hc]; rfl
    have a1 : w.cell? ⟨xb, 1, none⟩ = some (.int .i64 (a : Int)) := by rw [cell_of hc]; rfl
    have a2 : w.cell? ⟨xb, 2, none⟩ = some (.int .i64 n) := by rw [cell_of hc]; rfl
    have a3 : w.cell? ⟨xb, 3, none⟩ = some (.string (tx [])) := by rw [cell_of hc]; rfl
    have a4 : w.cell? ⟨xb, 4, none⟩ = some (.string (tx [])) := by rw [cell_of hc]; rfl
    have a5 : w.cell? ⟨xb, 5, none⟩ = some (.pointer none) := by rw [cell_of hc]; rfl
    have a6 : w.cell? ⟨xb, 6, none⟩ = some (.pointer none) := by rw [cell_of hc]; rfl
    have b0 : w.cell? ⟨yb, 0, none⟩ = some (.int .i64 1) := by rw [cell_of hd]; rfl
    have b1 : w.cell? ⟨yb, 1, none⟩ = some (.int .i64 (a : Int)) := by rw [cell_of hd]; rfl
    have b2 : w.cell? ⟨yb, 2, none⟩ = some (.int .i64 n) := by rw [cell_of hd]; rfl
    have b3 : w.cell? ⟨yb, 3, none⟩ = some (.string (tx [])) := by rw [cell_of hd]; rfl
    have b4 : w.cell? ⟨yb, 4, none⟩ = some (.string (tx [])) := by rw [cell_of hd]; rfl
    have b5 : w.cell? ⟨yb, 5, none⟩ = some (.pointer none) := by rw [cell_of hd]; rfl
    have b6 : w.cell? ⟨yb, 6, none⟩ = some (.pointer none) := by rw [cell_of hd]; rfl
    clear hc hd
    go_enter Tryz.func8, Tryz.ntmps8
    go_wp2_with fail
    simp only [List.append]
    go_quiet (first | (go_at_call 8; exact Calls.quiet_of_same (c0 _)))
    go_wp2
    go_ret
    exact ⟨rfl, _, rfl⟩
  | nam a t =>
    intro u v w hx hy
    obtain ⟨xb, rfl, hc⟩ := hx
    obtain ⟨yb, rfl, hd⟩ := hy
    have a0 : w.cell? ⟨xb, 0, none⟩ = some (.int .i64 2) := by rw [cell_of hc]; rfl
    have a1 : w.cell? ⟨xb, 1, none⟩ = some (.int .i64 (a : Int)) := by rw [cell_of hc]; rfl
    have a2 : w.cell? ⟨xb, 2, none⟩ = some (.int .i64 0) := by rw [cell_of hc]; rfl
    have a3 : w.cell? ⟨xb, 3, none⟩ = some (.string (tx t)) := by rw [cell_of hc]; rfl
    have a4 : w.cell? ⟨xb, 4, none⟩ = some (.string (tx [])) := by rw [cell_of hc]; rfl
    have a5 : w.cell? ⟨xb, 5, none⟩ = some (.pointer none) := by rw [cell_of hc]; rfl
    have a6 : w.cell? ⟨xb, 6, none⟩ = some (.pointer none) := by rw [cell_of hc]; rfl
    have b0 : w.cell? ⟨yb, 0, none⟩ = some (.int .i64 2) := by rw [cell_of hd]; rfl
    have b1 : w.cell? ⟨yb, 1, none⟩ = some (.int .i64 (a : Int)) := by rw [cell_of hd]; rfl
    have b2 : w.cell? ⟨yb, 2, none⟩ = some (.int .i64 0) := by rw [cell_of hd]; rfl
    have b3 : w.cell? ⟨yb, 3, none⟩ = some (.string (tx t)) := by rw [cell_of hd]; rfl
    have b4 : w.cell? ⟨yb, 4, none⟩ = some (.string (tx [])) := by rw [cell_of hd]; rfl
    have b5 : w.cell? ⟨yb, 5, none⟩ = some (.pointer none) := by rw [cell_of hd]; rfl
    have b6 : w.cell? ⟨yb, 6, none⟩ = some (.pointer none) := by rw [cell_of hd]; rfl
    clear hc hd
    go_enter Tryz.func8, Tryz.ntmps8
    go_wp2_with fail
    simp only [List.append]
    go_quiet (first | (go_at_call 8; exact Calls.quiet_of_same (c0 _)))
    go_wp2
    go_ret
    exact ⟨rfl, _, rfl⟩
  | bin a o l r il ir =>
    intro u v w hx hy
    obtain ⟨xb, vl, vr, rfl, hc, hxl, hxr⟩ := hx
    obtain ⟨yb, ul, ur, rfl, hd, hyl, hyr⟩ := hy
    have a0 : w.cell? ⟨xb, 0, none⟩ = some (.int .i64 3) := by rw [cell_of hc]; rfl
    have a1 : w.cell? ⟨xb, 1, none⟩ = some (.int .i64 (a : Int)) := by rw [cell_of hc]; rfl
    have a2 : w.cell? ⟨xb, 2, none⟩ = some (.int .i64 0) := by rw [cell_of hc]; rfl
    have a3 : w.cell? ⟨xb, 3, none⟩ = some (.string (tx [])) := by rw [cell_of hc]; rfl
    have a4 : w.cell? ⟨xb, 4, none⟩ = some (.string (tx o)) := by rw [cell_of hc]; rfl
    have a5 : w.cell? ⟨xb, 5, none⟩ = some vl := by rw [cell_of hc]; rfl
    have a6 : w.cell? ⟨xb, 6, none⟩ = some vr := by rw [cell_of hc]; rfl
    have b0 : w.cell? ⟨yb, 0, none⟩ = some (.int .i64 3) := by rw [cell_of hd]; rfl
    have b1 : w.cell? ⟨yb, 1, none⟩ = some (.int .i64 (a : Int)) := by rw [cell_of hd]; rfl
    have b2 : w.cell? ⟨yb, 2, none⟩ = some (.int .i64 0) := by rw [cell_of hd]; rfl
    have b3 : w.cell? ⟨yb, 3, none⟩ = some (.string (tx [])) := by rw [cell_of hd]; rfl
    have b4 : w.cell? ⟨yb, 4, none⟩ = some (.string (tx o)) := by rw [cell_of hd]; rfl
    have b5 : w.cell? ⟨yb, 5, none⟩ = some ul := by rw [cell_of hd]; rfl
    have b6 : w.cell? ⟨yb, 6, none⟩ = some ur := by rw [cell_of hd]; rfl
    have hdw : ∀ n, Kx w (w.drewN n) := fun n => Kx.bl ((Bl.refl w).drewN n)
    have cl := fun n => il vl ul (w.drewN n) (hxl.keep (hdw n)) (hyl.keep (hdw n))
    have cr := fun n => ir vr ur (w.drewN n) (hxr.keep (hdw n)) (hyr.keep (hdw n))
    obtain ⟨p1, rfl, _⟩ := hxl.ptr
    obtain ⟨p2, rfl, _⟩ := hxr.ptr
    obtain ⟨p3, rfl, _⟩ := hyl.ptr
    obtain ⟨p4, rfl, _⟩ := hyr.ptr
    clear hc hd il ir hxl hxr hyl hyr
    go_enter Tryz.func8, Tryz.ntmps8
    go_wp2_with fail
    simp only [List.append]
    go_quiet (first
      | (go_at_call_of 8 (Addr.mk p1 0 none); exact Calls.quiet_of (cl _))
      | (go_at_call_of 8 (Addr.mk p2 0 none); exact Calls.quiet_of (cr _)))
    go_wp2
    go_ret
    exact ⟨rfl, _, rfl⟩
theorem same_nil (w : World) : Calls Tryz.prog 8 #[.pointer none, .pointer none] w fun e w' => e = .returned (.bool true) ∧ w' = w := by
  go_enter Tryz.func8, Tryz.ntmps8
  go_wp2
  go_ret
  exact ⟨rfl, rfl⟩
end Go.Proofs.YtfngcphklfjhjaaGreatDoor.ex
/- What an expression comes to by the document. -/
namespace Go.Proofs.YtfngcphklfjhjaaGreatDoor.ex
set_option linter.unusedVariables false
open Go.ChangeShapes Go.WideShapes Go.ChangeAt Go.RowKit
open mem lx

/-- One variable of a function that tells what is wrong. -/
structure Fo (w W : World) (M : Nat) : Prop where
  bl : Bl w W
  m : W.heap[M]? = some (.cells #[.int .i64 0, .int .i64 0] 27 (0, 0))
  ge : w.heap.size ≤ M
theorem Fo.new (w : World) : Fo w (w.alloc (.cells #[.int .i64 0, .int .i64 0] 27)) w.heap.size := ⟨(Bl.refl _).alloc _, new_at w _, Nat.le_refl _⟩
theorem Fo.step {w W W' : World} {M : Nat} (h : Fo w W M) (hb : Bl W W') : Fo w W' M :=
  ⟨h.bl.trans hb, by rw [Below.block hb M (lt_of_heap h.m)]; exact h.m, h.ge⟩
theorem Fo.cells {w W : World} {M : Nat} (h : Fo w W M) : W.cell? ⟨M, 0, none⟩ = some (.int .i64 0) ∧ W.cell? ⟨M, 1, none⟩ = some (.int .i64 0) ∧ W.frozen? ⟨M, 0, none⟩ = false ∧ W.frozen? ⟨M, 1, none⟩ = false ∧ M < W.heap.size :=
  ⟨by rw [cell_of h.m]; rfl, by rw [cell_of h.m]; rfl, by simp [World.frozen?, h.m], by simp [World.frozen?, h.m], lt_of_heap h.m⟩
theorem Fo.told {w W : World} {M : Nat} (h : Fo w W M) (a b : Int) : Bl w ((W.setCell ⟨M, 0, none⟩ (.int .i64 a)).setCell ⟨M, 1, none⟩ (.int .i64 b)) ∧ ((W.setCell ⟨M, 0, none⟩ (.int .i64 a)).setCell ⟨M, 1, none⟩ (.int .i64 b)).heap[M]? = some (.cells #[.int .i64 a, .int .i64 b] 27 (0, 0)) :=
  ⟨Gp.below h.bl ((Gp.set _).trans (Gp.set _)) h.ge, upd2 W M _ _ _ _ _ h.m⟩
/-- A second one, told otherwise. -/
theorem Fl.again {w W : World} {M N : Nat} {c p : Int} (h : Fl w W M N c p) (a b : Int) : Fl w ((W.setCell ⟨N, 0, none⟩ (.int .i64 a)).setCell ⟨N, 1, none⟩ (.int .i64 b)) M N a b :=
  ⟨Gp.below h.bl ((Gp.set _).trans (Gp.set _)) h.ge.2.1, by
    have hg : Gp N W ((W.setCell ⟨N, 0, none⟩ (.int .i64 a)).setCell ⟨N, 1, none⟩ (.int .i64 b)) := (Gp.set _).trans (Gp.set _)
    rw [hg.block M (lt_of_heap h.m) h.ge.2.2]; exact h.m, upd2 W N _ _ _ _ _ h.n, h.ge⟩
def ReAns (q : Except Nat Int) (w : World) (e : Ending) (w' : World) : Prop :=
  Bl w w' ∧ match q with
  | .ok n => e = .returned (.tuple #[.int .i64 n, flt 0 (-1)])
  | .error p => e = .returned (.tuple #[.int .i64 0, flt 5 (p : Int)])
theorem GoodX (w : World) : Calls Tryz.prog 19 #[] w fun e w' => e = .returned (.agg #[.int .i64 0, .int .i64 (-1)]) ∧ Bl w w' := Good_at w
theorem one_at' (b : Bool) (w : World) : Calls Tryz.prog 26 #[.bool b] w fun e w' => e = .returned (.int .i64 (if b then 1 else 0)) ∧ w' = w := by
  cases b
  · go_enter Tryz.func26, Tryz.ntmps26
    go_wp2
    go_ret
    exact ⟨rfl, rfl⟩
  · go_enter Tryz.func26, Tryz.ntmps26
    go_wp2
    go_ret
    exact ⟨rfl, rfl⟩
set_option maxRecDepth 10000 in
set_option maxHeartbeats 1000000 in
theorem reval_num (env : List UInt8 → Option Int) (m : Value) (a : Nat) (n : Int) (v : Value) (w : World) (hx : IsX w v (.num a n)) : Calls Tryz.prog 10 #[v, m] w fun e w' => ReAns (ev env (.num a n)) w e w' := by
  obtain ⟨xb, rfl, hc⟩ := hx
  have hF := Fo.new w
  have cG := GoodX
  have HB := hF.bl
  obtain ⟨W, hW⟩ : ∃ W, W = w.alloc (.cells #[.int .i64 0, .int .i64 0] 27) := ⟨_, rfl⟩
  obtain ⟨M, hM⟩ : ∃ M, M = w.heap.size := ⟨_, rfl⟩
  rw [← hW] at HB
  rw [← hW, ← hM] at hF
  have k0 : W.cell? ⟨xb, 0, none⟩ = some (.int .i64 1) := at_bl HB (by rw [cell_of hc]; rfl)
  have k2 : W.cell? ⟨xb, 2, none⟩ = some (.int .i64 n) := at_bl HB (by rw [cell_of hc]; rfl)
  have HF : Hid (Fo w W M) := hF
  obtain ⟨m0, m1, z0, z1, hMs⟩ := hF.cells
  clear hF HB hc
  go_enter Tryz.func10, Tryz.ntmps10
  go_upto_region 1 with fail
  rw [← hW, ← hM]
  clear hW hM
  go_upto_region 3 with fail
  go_region_with (go_at_call 19; refine (cG _).mono ?_; rintro e w6 ⟨rfl, hb6⟩; have HB6 : Hid (Bl W w6) := ((Bl.refl W).drew).trans hb6; obtain ⟨q2, q3, y0, y1, hM6⟩ := (HF.out.step HB6.out).cells; have k2' := at_bl HB6.out k2; clear hb6)
  all_goals
    go_wp2
    obtain ⟨j1, j2⟩ := (HF.out.step HB6.out).told 0 (-1)
    exact bodyPost_ret (v := .tuple #[.int .i64 n, flt 0 (-1)]) (results_tmp_cell (p := 5) (u := 4) (ty := 27) rfl _ _ _ M (flt 0 (-1)) rfl (ldF _ _ _ _ j2)) rfl ⟨j1, rfl⟩
set_option maxRecDepth 10000 in
set_option maxHeartbeats 1000000 in
theorem reval_nam (env : List UInt8 → Option Int) (m : Value) (a : Nat) (t : List UInt8) (v : Value) (w : World) (hx : IsX w v (.nam a t)) (ho : t.length ≤ 3000) (hm : IsM w m env) : Calls Tryz.prog 10 #[v, m] w fun e w' => ReAns (ev env (.nam a t)) w e w' := by
  obtain ⟨xb, rfl, hc⟩ := hx
  have hF := Fo.new w
  have cG := GoodX
  have HB := hF.bl
  obtain ⟨W, hW⟩ : ∃ W, W = w.alloc (.cells #[.int .i64 0, .int .i64 0] 27) := ⟨_, rfl⟩
  obtain ⟨M, hM⟩ : ∃ M, M = w.heap.size := ⟨_, rfl⟩
  rw [← hW] at HB
  rw [← hW, ← hM] at hF
  have k0 : W.cell? ⟨xb, 0, none⟩ = some (.int .i64 2) := at_bl HB (by rw [cell_of hc]; rfl)
  have k1 : W.cell? ⟨xb, 1, none⟩ = some (.int .i64 (a : Int)) := at_bl HB (by rw [cell_of hc]; rfl)
  have k3 : W.cell? ⟨xb, 3, none⟩ = some (.string (tx t)) := at_bl HB (by rw [cell_of hc]; rfl)
  have hlk := hm.lk W HB t ho
  have HF : Hid (Fo w W M) := hF
  obtain ⟨m0, m1, z0, z1, hMs⟩ := hF.cells
  clear hF HB hc hm
  cases he : env t with
  | some n =>
    rw [he] at hlk
    dsimp only at hlk
    have HE : Hid (ev env (.nam a t) = .ok n) := by unfold Hid; rw [ev, he]
    go_enter Tryz.func10, Tryz.ntmps10
    go_upto_region 1 with fail
    rw [← hW, ← hM]
    clear hW hM
    go_wp2_with fail
    refine (cG _).mono ?_
    rintro e w6 ⟨rfl, hb6⟩
    have HB6 : Hid (Bl W w6) := hb6
    obtain ⟨q2, q3, y0, y1, hM6⟩ := (HF.out.step HB6.out).cells
    clear hb6
    go_wp2
    obtain ⟨j1, j2⟩ := (HF.out.step HB6.out).told 0 (-1)
    rw [HE.out]
    exact bodyPost_ret (v := .tuple #[.int .i64 n, flt 0 (-1)]) (results_tmp_cell (p := 5) (u := 4) (ty := 27) rfl _ _ _ M (flt 0 (-1)) rfl (ldF _ _ _ _ j2)) rfl ⟨j1, rfl⟩
  | none =>
    rw [he] at hlk
    dsimp only at hlk
    have HE : Hid (ev env (.nam a t) = .error a) := by unfold Hid; rw [ev, he]
    go_enter Tryz.func10, Tryz.ntmps10
    go_upto_region 1 with fail
    rw [← hW, ← hM]
    clear hW hM
    go_upto_region 7 with fail
    go_region
    all_goals
      go_wp2
      obtain ⟨j1, j2⟩ := HF.out.told 5 (a : Int)
      rw [HE.out]
      exact bodyPost_ret (v := .tuple #[.int .i64 0, flt 5 (a : Int)]) (results_tmp_cell (p := 5) (u := 4) (ty := 27) rfl _ _ _ M (flt 5 (a : Int)) rfl (ldF _ _ _ _ j2)) rfl ⟨j1.trans ((Bl.refl _).drew), rfl⟩
end Go.Proofs.YtfngcphklfjhjaaGreatDoor.ex
