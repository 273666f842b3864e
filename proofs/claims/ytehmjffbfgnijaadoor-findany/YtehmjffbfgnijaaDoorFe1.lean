/- The document's own: where a pattern stands. -/
import Derived.Test.YtehmjffbfgnijaaDoorFd3
import Derived.Laws.OwnMore
namespace Go.Proofs.YtehmjffbfgnijaaDoor.find
set_option linter.unusedVariables false
open Go.ChangeShapes Go.WideShapes Go.ChangeAt Go.RowKit
open mem rows fd

theorem extract_eq (s p : ByteArray) (i : Nat) (h : i + p.size ≤ s.size) : (s.extract i (i + p.size) = p) ↔ ∀ j, j < p.size → sb p j = sb s (i + j) := by
  constructor
  · intro e j hj
    have h1 : sb (s.extract i (i + p.size)) j = sb p j := by rw [e]
    have hz : j < (s.extract i (i + p.size)).size := by rw [ByteArray.size_extract]; omega
    rw [← h1, sb_get _ _ hz, sb_get _ _ (show i + j < s.size by omega), ByteArray.getElem_extract]
  · intro h'
    apply ByteArray.ext_getElem
    · rw [ByteArray.size_extract]; omega
    · intro j h1 h2
      have := h' j h2
      rw [sb_get _ _ h2, sb_get _ _ (show i + j < s.size by omega)] at this
      rw [ByteArray.getElem_extract]
      have h3 : (s[i + j]).toNat = (p[j]).toNat := by omega
      exact UInt8.toNat.inj h3
theorem toList_beq (a b : ByteArray) : (a.toList == b.toList) = decide (a = b) := by
  rw [Bool.eq_iff_iff, beq_iff_eq, decide_eq_true_iff, ByteArray.toList_eq, ByteArray.toList_eq]
  constructor
  · intro h
    obtain ⟨⟨x⟩⟩ := a
    obtain ⟨⟨y⟩⟩ := b
    simp at h
    rw [h]
  · intro h; rw [h]
theorem stands_at (s p : ByteArray) (i : Nat) (w : World) (hs : s.size ≤ 4000) (hp : p.size ≤ 4000) (hi : i ≤ 4000) :
    Calls Tryd.prog 21 #[.string s, .string p, .int .i64 i] w fun e w' => e = .returned (.bool (decide (i + p.size ≤ s.size) && St (sb p) (sb s) p.size i)) ∧ w' = w := by
  by_cases h : i + p.size ≤ s.size
  · have hz : (i : Int) + (p.size : Int) ≤ (s.size : Int) := by omega
    go_enter Tryd.func21, Tryd.ntmps21
    go_wp2
    go_ret
    refine ⟨ret_bool ?_, rfl⟩
    rw [decide_eq_true h, Bool.true_and, St, toList_beq]
    exact decide_eq_decide.2 (extract_eq s p i h)
  · have hz : ¬ (i : Int) + (p.size : Int) ≤ (s.size : Int) := by omega
    go_enter Tryd.func21, Tryd.ntmps21
    go_wp2
    go_ret
    exact ⟨rfl, rfl⟩
theorem ref_pls (p f : Nat → Int) (L N : Nat) (hL : 0 < L) : sta (fun i => decide (i + L ≤ N) && St p f L i) N = pls p f L N := by
  unfold pls
  rw [sta_beyond _ (N + 1 - L) N (by omega) (fun x hx => by rw [decide_eq_false (by omega), Bool.false_and])]
  exact sta_congr _ _ _ fun x hx => by rw [decide_eq_true (by omega), Bool.true_and]
set_option maxRecDepth 10000 in
theorem refAll_at (s p : ByteArray) (w : World) (hs : s.size ≤ 4000) (hp : p.size ≤ 1000) (h0 : 0 < p.size) :
    Calls Tryd.prog 6 #[.string s, .string p] w fun e w' => ∃ v, e = .returned (.tuple #[v, .int .i64 0]) ∧ Own w' w.heap.size v (ints (pls (sb p) (sb s) p.size s.size)) ∧ Bl w w' := by
  have hne : p.toList.isEmpty = false := by rw [isEmpty_at]; exact decide_eq_false (by omega)
  obtain ⟨B, hB⟩ : ∃ B, B = w.heap.size := ⟨_, rfl⟩
  rw [← hB, ← ref_pls _ _ _ _ h0]
  have HB : Hid (B = w.heap.size) := hB
  clear hB
  obtain ⟨q, hq⟩ : ∃ q, q = (fun i => decide (i + p.size ≤ s.size) && St (sb p) (sb s) p.size i) := ⟨_, rfl⟩
  rw [← hq]
  have HQ : Hid _ := hq
  clear hq
  go_enter Tryd.func6, Tryd.ntmps6
  go_wp2
  go_loopw [6, 12] (fun lv i wr => ∃ k : Nat, k ≤ s.size ∧ i = .int .i64 (k : Int) ∧ Own wr B lv (ints (sta q k)) ∧ Bl w wr) (fun _ i _ => s.size - (intOf i).toNat)
  case atStart => exact ⟨0, Nat.zero_le _, rfl, Own.nil _ _, Bl.refl _⟩
  case round =>
    obtain ⟨k, hk, rfl, hown, hbl⟩ := hrel
    by_cases hlt : k < s.size
    · have hlz : (k : Int) < (s.size : Int) := by omega
      have cS := fun w => stands_at s p k w hs (by omega) (by omega)
      have hqk : (decide (k + p.size ≤ s.size) && St (sb p) (sb s) p.size k) = q k := by rw [HQ.out]
      rw [hqk] at cS
      have hll := sta_len q k
      cases hc : q k with
      | true =>
        rw [hc] at cS
        have HP : Hid _ := sta_yes q k hc
        clear hqk hc
        go_wp2_with (first
          | (go_at_call 21; refine (cS _).mono ?_; rintro e w2 ⟨rfl, rfl⟩)
          | (at_builtin; refine wpL_app rfl (.tmp 19) (.tmp 21) rfl rfl _ _ (k : Int) w2.heap.size rfl rfl B (hown.step ((Bl.refl _).alloc _)) (by go_simp) (by rw [ints_len]; omega) (by have := hbl.size; have := HB.out; simp; omega) ?_; intro v' w3 ho3 hg3 hv3; have hb3 : Bl w w3 := bl_grown (hbl.alloc _) hg3 (fun j e => by rw [← HB.out]; exact (hown.block j e).1); clear hg3 hv3))
        go_roundw
        case rel => exact ⟨k + 1, by omega, by go_num, by rw [HP.out, ints_app]; exact ho3, hb3⟩
        case measure => simp [intOf]; omega
      | false =>
        rw [hc] at cS
        have HP : Hid _ := sta_no q k hc
        clear hqk hc
        go_wp2_with (go_at_call 21; refine (cS _).mono ?_; rintro e w2 ⟨rfl, rfl⟩)
        go_roundw
        case rel => exact ⟨k + 1, by omega, by go_num, by rw [HP.out]; exact hown, hbl⟩
        case measure => simp [intOf]; omega
    · have hnl : ¬ ((k : Int) < (s.size : Int)) := by omega
      have HK : Hid (k = s.size) := by unfold Hid; omega
      go_wp2
      go_ret2
      rw [HK.out] at hown
      exact ⟨_, rfl, hown, hbl⟩
theorem refAll_none (s p : ByteArray) (w : World) (h0 : p.size = 0) :
    Calls Tryd.prog 6 #[.string s, .string p] w fun e w' => e = .returned (.tuple #[.slice none 0 0, .int .i64 1]) ∧ w' = w := by
  have hne : p.toList.isEmpty = true := by rw [isEmpty_at]; exact decide_eq_true h0
  clear h0
  go_enter Tryd.func6, Tryd.ntmps6
  go_wp2
  go_ret2
  exact ⟨rfl, rfl⟩
theorem All_none (s p : ByteArray) (w : World) (h0 : p.size = 0) :
    Calls Tryd.prog 7 #[.string s, .string p] w fun e w' => e = .returned (.tuple #[.slice none 0 0, .iface 23 (.int .i64 1)]) ∧ w' = w := by
  have hne : p.toList.isEmpty = true := by rw [isEmpty_at]; exact decide_eq_true h0
  clear h0
  go_enter Tryd.func7, Tryd.ntmps7
  go_wp2
  go_ret2
  exact ⟨rfl, rfl⟩
set_option maxRecDepth 10000 in
/-- One row behind the other. -/
theorem app_row (w : World) (base : Nat) (v x : Value) (l m : List Int) (hown : Own w base v l) (hx : Own w base x m) (hn : l.length + m.length ≤ 9000) (hb : base ≤ w.heap.size) :
    ∃ v' w', (Builtin.append_ #[22, 22] 22 #[v, x]).run Tryd.prog w = .ok v' w' ∧ Own w' base v' (l ++ m) ∧ w.grownBy w' v.ownBlock := by
  obtain ⟨i, hi, hz, h1, h2⟩ := infoI'
  rcases hx.shape with ⟨rfl, rfl⟩ | ⟨g, cap, rfl, _, _, _, _, hc⟩
  · exact ⟨v, w, run_append_owned_none w base 22 22 3 i 1 Tryd.underlying22 hi v l.length (rowI l) hown, by rw [List.append_nil]; exact hown, ⟨rfl, rfl, rfl, Nat.le_refl _, fun _ _ _ => rfl⟩⟩
  · obtain ⟨v', w', hr, ho, hg, _⟩ := run_append_own (P := Tryd.prog) w base 22 22 3 i (.int .i64 0) 1 8 Tryd.underlying22 hi hz h1 h2 rfl (by decide) v l.length (rowI l) hown
      ⟨g, 0, none⟩ m.length cap (rowI m) (by simp [rowI]) (fun j u hu => by
        have hj : j < m.length := by
          have := (List.getElem?_eq_some_iff.1 hu).1
          simpa [rowI] using this
        rw [rowI_get m j hj] at hu
        rw [Addr.add_lit, Nat.zero_add, hc j hj]
        exact hu) (fun u hu => by
        simp only [rowI, List.mem_map] at hu
        obtain ⟨z, _, rfl⟩ := hu
        rfl) (by simp [maxLen]; omega) (by omega) hb
    refine ⟨v', w', hr, ?_, hg⟩
    have e : rowI (l ++ m) = rowI l ++ rowI m := by simp [rowI]
    unfold Own
    rw [e, List.length_append]
    exact ho
end Go.Proofs.YtehmjffbfgnijaaDoor.find
