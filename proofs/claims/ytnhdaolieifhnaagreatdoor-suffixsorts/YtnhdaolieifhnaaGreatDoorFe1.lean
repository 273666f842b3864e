/- The document's own: where a pattern stands. -/
import Derived.Test.YtnhdaolieifhnaaGreatDoorFdV
import Derived.Test.YtnhdaolieifhnaaGreatDoorFdP
import Derived.Laws.OwnMore
namespace Go.Proofs.YtnhdaolieifhnaaGreatDoor.find
set_option linter.unusedVariables false
open Go.ChangeShapes Go.WideShapes Go.ChangeAt Go.RowKit
open mem rows fd

theorem extract_eq (s p : ByteArray) (i : Nat) (h : i + p.size ≤ s.size) : (s.extract i (i + p.size) = p) ↔ ∀ j, j < p.size → sb p j = sb s (i + j) := by
  constructor
  · intro e j hj
    have h1 : sb (s.extract i (i + p.size)) j = sb p j := by rw [e]
    have hz : j < (s.extract i (i + p.size)).size := by rw [ByteArray.size_extract]; omega
    rw [← h1, sb_get _ _ hz, sb_get _ _ (show i + j < s.size by omega), ByteArray.getElem_extract]
  · intro h'
    apply ByteArray.ext_getElem
    · rw [ByteArray.size_extract]; omega
    · intro j h1 h2
      have := h' j h2
      rw [sb_get _ _ h2, sb_get _ _ (show i + j < s.size by omega)] at this
      rw [ByteArray.getElem_extract]
      have h3 : (s[i + j]).toNat = (p[j]).toNat := by omega
      exact UInt8.toNat.inj h3
theorem toList_beq (a b : ByteArray) : (a.toList == b.toList) = decide (a = b) := by
  rw [Bool.eq_iff_iff, beq_iff_eq, decide_eq_true_iff, ByteArray.toList_eq, ByteArray.toList_eq]
  constructor
  · intro h
    obtain ⟨⟨x⟩⟩ := a
    obtain ⟨⟨y⟩⟩ := b
    simp at h
    rw [h]
  · intro h; rw [h]
theorem stands_at (s p : ByteArray) (i : Nat) (w : World) (hs : s.size ≤ 4000) (hp : p.size ≤ 4000) (hi : i ≤ 4000) :
    Calls Tryz.prog 31 #[.string s, .string p, .int .i64 i] w fun e w' => e = .returned (.bool (decide (i + p.size ≤ s.size) && St (sb p) (sb s) p.size i)) ∧ w' = w := by
  by_cases h : i + p.size ≤ s.size
  · have hz : (i : Int) + (p.size : Int) ≤ (s.size : Int) := by omega
    go_enter Tryz.func31, Tryz.ntmps31
    go_wp2
    go_ret
    refine ⟨ret_bool ?_, rfl⟩
    rw [decide_eq_true h, Bool.true_and, St, toList_beq]
    exact decide_eq_decide.2 (extract_eq s p i h)
  · have hz : ¬ (i : Int) + (p.size : Int) ≤ (s.size : Int) := by omega
    go_enter Tryz.func31, Tryz.ntmps31
    go_wp2
    go_ret
    exact ⟨rfl, rfl⟩
theorem ref_pls (p f : Nat → Int) (L N : Nat) (hL : 0 < L) : sta (fun i => decide (i + L ≤ N) && St p f L i) N = pls p f L N := by
  unfold pls
  rw [sta_beyond _ (N + 1 - L) N (by omega) (fun x hx => by rw [decide_eq_false (by omega), Bool.false_and])]
  exact sta_congr _ _ _ fun x hx => by rw [decide_eq_true (by omega), Bool.true_and]
set_option maxRecDepth 10000 in
theorem refAll_at (s p : ByteArray) (w : World) (hs : s.size ≤ 4000) (hp : p.size ≤ 1000) (h0 : 0 < p.size) :
    Calls Tryz.prog 10 #[.string s, .string p] w fun e w' => ∃ v, e = .returned (.tuple #[v, .int .i64 0]) ∧ Own w' w.heap.size v (ints (pls (sb p) (sb s) p.size s.size)) ∧ Bl w w' := by
  have hne : p.toList.isEmpty = false := by rw [isEmpty_at]; exact decide_eq_false (by omega)
  obtain ⟨B, hB⟩ : ∃ B, B = w.heap.size := ⟨_, rfl⟩
  rw [← hB, ← ref_pls _ _ _ _ h0]
  have HB : Hid (B = w.heap.size) := hB
  clear hB
  obtain ⟨q, hq⟩ : ∃ q, q = (fun i => decide (i + p.size ≤ s.size) && St (sb p) (sb s) p.size i) := ⟨_, rfl⟩
  rw [← hq]
  have HQ : Hid _ := hq
  clear hq
  go_enter Tryz.func10, Tryz.ntmps10
  go_wp2
  go_loopw [6, 12] (fun lv i wr => ∃ k : Nat, k ≤ s.size ∧ i = .int .i64 (k : Int) ∧ Own wr B lv (ints (sta q k)) ∧ Bl w wr) (fun _ i _ => s.size - (intOf i).toNat)
  case atStart => exact ⟨0, Nat.zero_le _, rfl, Own.nil _ _, Bl.refl _⟩
  case round =>
    obtain ⟨k, hk, rfl, hown, hbl⟩ := hrel
    by_cases hlt : k < s.size
    · have hlz : (k : Int) < (s.size : Int) := by omega
      have cS := fun w => stands_at s p k w hs (by omega) (by omega)
      have hqk : (decide (k + p.size ≤ s.size) && St (sb p) (sb s) p.size k) = q k := by rw [HQ.out]
      rw [hqk] at cS
      have hll := sta_len q k
      cases hc : q k with
      | true =>
        rw [hc] at cS
        have HP : Hid _ := sta_yes q k hc
        clear hqk hc
        go_wp2_with (first
          | (go_at_call 31; refine (cS _).mono ?_; rintro e w2 ⟨rfl, rfl⟩)
          | (at_builtin; refine wpL_app rfl (.tmp 19) (.tmp 21) rfl rfl _ _ (k : Int) w2.heap.size rfl rfl B (hown.step ((Bl.refl _).alloc _)) (by go_simp) (by rw [ints_len]; omega) (by have := hbl.size; have := HB.out; simp; omega) ?_; intro v' w3 ho3 hg3 hv3; have hb3 : Bl w w3 := bl_grown (hbl.alloc _) hg3 (fun j e => by rw [← HB.out]; exact (hown.block j e).1); clear hg3 hv3))
        go_roundw
        case rel => exact ⟨k + 1, by omega, by go_num, by rw [HP.out, ints_app]; exact ho3, hb3⟩
        case measure => simp [intOf]; omega
      | false =>
        rw [hc] at cS
        have HP : Hid _ := sta_no q k hc
        clear hqk hc
        go_wp2_with (go_at_call 31; refine (cS _).mono ?_; rintro e w2 ⟨rfl, rfl⟩)
        go_roundw
        case rel => exact ⟨k + 1, by omega, by go_num, by rw [HP.out]; exact hown, hbl⟩
        case measure => simp [intOf]; omega
    · have hnl : ¬ ((k : Int) < (s.size : Int)) := by omega
      have HK : Hid (k = s.size) := by unfold Hid; omega
      go_wp2
      go_ret2
      rw [HK.out] at hown
      exact ⟨_, rfl, hown, hbl⟩
theorem refAll_none (s p : ByteArray) (w : World) (h0 : p.size = 0) :
    Calls Tryz.prog 10 #[.string s, .string p] w fun e w' => e = .returned (.tuple #[.slice none 0 0, .int .i64 1]) ∧ w' = w := by
  have hne : p.toList.isEmpty = true := by rw [isEmpty_at]; exact decide_eq_true h0
  clear h0
  go_enter Tryz.func10, Tryz.ntmps10
  go_wp2
  go_ret2
  exact ⟨rfl, rfl⟩
end Go.Proofs.YtnhdaolieifhnaaGreatDoor.find
