/- The document's own: what a pattern's beginnings begin and end with. -/
import Derived.Test.YtehmjffbfgnijaaDoorFe1
namespace Go.Proofs.YtehmjffbfgnijaaDoor.find
set_option linter.unusedVariables false
open Go.ChangeShapes Go.WideShapes Go.ChangeAt Go.RowKit
open mem rows fd

theorem part_eq (p : ByteArray) (n k : Nat) (hn : n ≤ p.size) (hk : k < n) : (p.extract 0 k = p.extract (n - k) n) ↔ En (sb p) (tl (sb p)) k (n - 1) := by
  have hz : (p.extract (n - k) n).size = k := by rw [ByteArray.size_extract]; omega
  constructor
  · intro e
    refine ⟨by omega, fun j hj => ?_⟩
    have h1 : sb (p.extract 0 k) j = sb (p.extract (n - k) n) j := by rw [e]
    rw [sb_get _ _ (by rw [ByteArray.size_extract]; omega), sb_get _ _ (by rw [hz]; exact hj), ByteArray.getElem_extract, ByteArray.getElem_extract] at h1
    unfold tl
    rw [sb_get _ _ (show j < p.size by omega), sb_get _ _ (show n - 1 - k + j + 1 < p.size by omega)]
    simp only [Nat.zero_add] at h1
    rw [h1]
    congr 3
    omega
  · rintro ⟨h1, h2⟩
    apply ByteArray.ext_getElem
    · rw [hz, ByteArray.size_extract]; omega
    · intro j g1 g2
      rw [hz] at g2
      have := h2 j g2
      unfold tl at this
      rw [sb_get _ _ (show j < p.size by omega), sb_get _ _ (show n - 1 - k + j + 1 < p.size by omega)] at this
      rw [ByteArray.getElem_extract, ByteArray.getElem_extract]
      apply UInt8.toNat.inj
      simp only [Nat.zero_add]
      have e : n - 1 - k + j + 1 = n - k + j := by omega
      simp only [e] at this
      omega
set_option maxHeartbeats 2000000 in
set_option maxRecDepth 20000 in
theorem refBorders_at (p : ByteArray) (w : World) (hp : p.size ≤ 1000) :
    Calls Tryd.prog 14 #[.string p] w fun e w' => ∃ v, e = .returned v ∧ Own w' w.heap.size v (brs (sb p) p.size p.size) ∧ Bl w w' := by
  obtain ⟨B, hB⟩ : ∃ B, B = w.heap.size := ⟨_, rfl⟩
  rw [← hB]
  have HB : Hid (B = w.heap.size) := hB
  clear hB
  go_enter Tryd.func14, Tryd.ntmps14
  go_wp2
  go_loopw [3, 4] (fun ov nv wr => ∃ k : Nat, k ≤ p.size ∧ nv = .int .i64 ((k : Int) + 1) ∧ Own wr B ov (brs (sb p) p.size k) ∧ Bl w wr) (fun _ nv _ => p.size + 1 - (intOf nv).toNat)
  case atStart => exact ⟨0, Nat.zero_le _, rfl, Own.nil _ _, Bl.refl _⟩
  case round =>
    obtain ⟨n, hn, rfl, hown, hbl⟩ := hrel
    rename World => wq
    by_cases hlt : n < p.size
    · have hlz : (n : Int) + 1 ≤ (p.size : Int) := by omega
      go_wp2
      go_loopw [5] (fun kv ws => ∃ k : Nat, k ≤ n ∧ kv = .int .i64 (k : Int) ∧ Hid (∀ j, k < j → j ≤ n → ¬ En (sb p) (tl (sb p)) j n) ∧ Dr wq ws) (fun kv _ => (intOf kv).toNat)
      case atStart => exact ⟨n, Nat.le_refl _, by go_num, fun j h1 h2 => by omega, Dr.refl _⟩
      case round =>
        obtain ⟨k, hk, rfl, HK, hd⟩ := hrel
        have hpe := part_eq p (n + 1) k (by omega) (by omega)
        rw [Nat.add_sub_cancel] at hpe
        have hbq := toList_beq (p.extract 0 k) (p.extract (n + 1 - k) (n + 1))
        rw [show decide (p.extract 0 k = p.extract (n + 1 - k) (n + 1)) = decide (En (sb p) (tl (sb p)) k n) from decide_eq_decide.2 hpe] at hbq
        have hll := brs_len (sb p) p.size n
        by_cases hk0 : k = 0
        · subst hk0
          have hlg : lg (sb p) (tl (sb p)) p.size n = 0 := (Lg.eq ⟨Nat.zero_le _, En.zero _ _ _, fun j hj he => by
            rcases Nat.eq_zero_or_pos j with h | h
            · omega
            · exact absurd he (HK.out j h he.1)⟩).symm
          have HE : Hid (brs (sb p) p.size (n + 1) = brs (sb p) p.size n ++ [0]) := by
            unfold Hid brs
            rw [List.range_succ, List.map_append]
            simp [hlg]
          have hd2 := hd.bl
          have hown2 := hown.step hd2
          have hbl2 := hbl.trans hd2
          clear hbq hpe HK hlg
          go_wp2
          go_quiet (fail)
          have hown3 := hown2.step (Dr.drewN nq (Dr.refl wr)).bl
          have hbl3 := hbl2.drewN nq
          generalize wr.drewN nq = wz at hown3 hbl3 ⊢
          go_wp2_with (at_builtin; refine wpL_app rfl (.tmp 30) (.tmp 32) rfl rfl _ _ ((0 : Nat) : Int) wz.heap.size rfl rfl B (hown3.step ((Bl.refl _).alloc _)) (by go_simp) (by omega) (by have := hbl3.size; have := HB.out; simp; omega) ?_; intro v' w3 ho3 hg3 hv3; have hb3 : Bl w w3 := bl_grown (hbl3.alloc _) hg3 (fun j e => by rw [← HB.out]; exact (hown3.block j e).1); clear hg3 hv3)
          go_roundw
          case rel => exact ⟨n + 1, by omega, by go_num, by rw [HE.out]; exact ho3, hb3⟩
          case measure => simp [intOf]; omega
        · have g0 : decide ((0 : Int) < (k : Int)) = true := decide_eq_true (by omega)
          have g00 : decide (0 < k) = true := decide_eq_true (by omega)
          have g01 : 0 < k := by omega
          have g2 : 0 ≤ (n : Int) + 1 - (k : Int) ∧ (n : Int) + 1 - (k : Int) ≤ (n : Int) + 1 := by omega
          have g4 : (k : Int) ≤ (p.size : Int) := by omega
          by_cases he : En (sb p) (tl (sb p)) k n
          · rw [decide_eq_true he] at hbq
            have hlg : lg (sb p) (tl (sb p)) p.size n = k := (Lg.eq ⟨by omega, he, fun j hj he' => by
              rcases Nat.lt_or_ge k j with h | h
              · exact absurd he' (HK.out j h he'.1)
              · exact h⟩).symm
            have HE : Hid (brs (sb p) p.size (n + 1) = brs (sb p) p.size n ++ [(k : Int)]) := by
              unfold Hid brs
              rw [List.range_succ, List.map_append]
              simp [hlg]
            have hd2 := hd.bl
            have hown2 := hown.step hd2
            have hbl2 := hbl.trans hd2
            clear hpe HK hlg he
            go_wp2
            go_quiet (fail)
            have hown3 := hown2.step (Dr.drewN nq (Dr.refl wr)).bl
            have hbl3 := hbl2.drewN nq
            generalize wr.drewN nq = wz at hown3 hbl3 ⊢
            go_wp2_with (at_builtin; refine wpL_app rfl (.tmp 30) (.tmp 32) rfl rfl _ _ (k : Int) wz.heap.size rfl rfl B (hown3.step ((Bl.refl _).alloc _)) (by go_simp) (by omega) (by have := hbl3.size; have := HB.out; simp; omega) ?_; intro v' w3 ho3 hg3 hv3; have hb3 : Bl w w3 := bl_grown (hbl3.alloc _) hg3 (fun j e => by rw [← HB.out]; exact (hown3.block j e).1); clear hg3 hv3)
            go_roundw
            case rel => exact ⟨n + 1, by omega, by go_num, by rw [HE.out]; exact ho3, hb3⟩
            case measure => simp [intOf]; omega
          · rw [decide_eq_false he] at hbq
            have HK2 : Hid (∀ j, k - 1 < j → j ≤ n → ¬ En (sb p) (tl (sb p)) j n) := fun j h1 h2 => by
              rcases Nat.lt_or_ge k j with h | h
              · exact HK.out j h h2
              · obtain rfl : j = k := by omega
                exact he
            obtain ⟨k', hk'⟩ : ∃ k', k = k' + 1 := ⟨k - 1, by omega⟩
            have e1 : (k : Int) - 1 = (k' : Int) := by omega
            rw [show k - 1 = k' by omega] at HK2
            have HKK : Hid (k = k' + 1) := hk'
            clear hpe HK he hk'
            go_wp2
            go_quiet (fail)
            go_wp2
            go_roundw
            case rel => exact ⟨k', by have := HKK.out; omega, by go_num, HK2, Dr.drewN _ hd⟩
            case measure => have := HKK.out; simp [intOf]; omega
    · have hnl : ¬ ((n : Int) + 1 ≤ (p.size : Int)) := by omega
      have HK : Hid (n = p.size) := by unfold Hid; omega
      go_wp2
      go_ret
      rw [HK.out] at hown
      exact ⟨_, rfl, hown, hbl⟩
end Go.Proofs.YtehmjffbfgnijaaDoor.find
