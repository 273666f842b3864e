/- What All of package find answers. -/
import Derived.Test.YtnhdaolieifhnaaFd2
namespace Go.Proofs.Ytnhdaolieifhnaa.find
set_option linter.unusedVariables false
open Go.ChangeShapes Go.WideShapes Go.ChangeAt Go.RowKit
open mem rows fd

theorem Own.mono {w : World} {base base' : Nat} {v : Value} {l : List Int} (h : Own w base v l) (hb : base' ≤ base) : Own w base' v l := by
  refine ⟨h.1, ?_⟩
  rcases h.2 with h | ⟨g, cap, cur, h1, h2, h3⟩
  · exact Or.inl h
  · exact Or.inr ⟨g, cap, cur, h1, Nat.le_trans hb h2, h3⟩
set_option maxRecDepth 10000 in
theorem All_at (s p : ByteArray) (w : World) (hs : s.size ≤ 4000) (hp : p.size ≤ 1000) (h0 : 0 < p.size) :
    Calls Try.prog 10 #[.string s, .string p] w fun e w' => ∃ v, e = .returned (.tuple #[v, .nilIface]) ∧ Own w' w.heap.size v (ints (pls (sb p) (sb s) p.size s.size)) ∧ Bl w w' := by
  have cB := fun w => Borders_at p w hp
  have hne : p.toList.isEmpty = false := by rw [isEmpty_at]; exact decide_eq_false (by omega)
  go_enter Try.func10, Try.ntmps10
  go_wp2_with (go_at_call 22; refine (cB _).mono ?_; rintro e w1 ⟨bv, rfl, hbo, hb1⟩; have HV : Hid (View w1 bv (brs (sb p) p.size p.size)) := view_own hbo; clear hbo cB)
  obtain ⟨B, hB⟩ : ∃ B, B = w1.heap.size := ⟨_, rfl⟩
  have HB : Hid (B = w1.heap.size) := hB
  clear hB
  go_loopw [6, 8, 17] (fun lv nv i wr => ∃ k : Nat, k ≤ s.size ∧ i = .int .i64 (k : Int) ∧ nv = .int .i64 ((lg (sb p) (sb s) p.size k : Nat) : Int) ∧ Own wr B lv (ints (pls (sb p) (sb s) p.size k)) ∧ Bl w1 wr) (fun _ _ i _ => s.size - (intOf i).toNat)
  case atStart => exact ⟨0, Nat.zero_le _, rfl, by rw [lg_zero]; rfl, by rw [pls_zero _ _ _ h0]; exact Own.nil _ _, Bl.refl _⟩
  case round =>
    obtain ⟨k, hk, rfl, rfl, hown, hbl⟩ := hrel
    by_cases hlt : k < s.size
    · have hlz : (k : Int) < (s.size : Int) := by omega
      have hgk : (((s[k]'hlt).toNat : Nat) : Int) = sb s k := (sb_get s k hlt).symm
      have hbd := sb_bd s k
      have hlen := brs_len (sb p) p.size p.size
      have cM := met_at p bv (brs (sb p) p.size p.size) (lg (sb p) (sb s) p.size k) (sb s) k (sb s k) wr (by omega) (HV.out.step hbl) (by rw [hlen]; exact lg_le _ _ _ _) (fun j hj => Or.inl (brs_at _ _ _ _ (by rw [hlen] at hj; exact hj))) (lg_is _ _ _ _) rfl hbd
      have hyes := pls_yes (sb p) (sb s) p.size k h0
      have hno := pls_no (sb p) (sb s) p.size k
      have hll := pls_len (sb p) (sb s) p.size k h0
      have hle := lg_le (sb p) (sb s) p.size (k + 1)
      generalize lg (sb p) (sb s) p.size k = n at cM ⊢
      obtain ⟨n', hn'⟩ : ∃ n', n' = lg (sb p) (sb s) p.size (k + 1) := ⟨_, rfl⟩
      rw [← hn'] at cM hyes hno hle
      have HN : Hid (n' = lg (sb p) (sb s) p.size (k + 1)) := hn'
      clear hn' hlen
      by_cases hf : n' = p.size
      · obtain ⟨h1, h2⟩ := hyes hf
        have HP : Hid (pls (sb p) (sb s) p.size (k + 1) = pls (sb p) (sb s) p.size k ++ [k + 1 - p.size]) := h2
        obtain ⟨x, hx⟩ : ∃ x : Nat, x = k + 1 - p.size := ⟨_, rfl⟩
        have hxi : (k : Int) + 1 - (n' : Int) = (x : Int) := by omega
        have HX : Hid (x = k + 1 - p.size) := hx
        have hfb : ((n' : Int) == (p.size : Int)) = true := by rw [beq_iff_eq]; omega
        clear hyes hno hf h1 h2 hx
        go_wp2_with (first
          | (go_at_call 29; refine cM.mono ?_; rintro e w2 ⟨rfl, rfl⟩)
          | (at_builtin; refine wpL_app rfl (.tmp 31) (.tmp 36) rfl rfl _ _ (x : Int) w2.heap.size rfl rfl B (hown.step ((Bl.refl _).alloc _)) (by go_simp) (by rw [ints_len]; omega) (by have := hbl.size; have := HB.out; simp; omega) ?_; intro v' w3 ho3 hg3 hv3; have hb3 : Bl w1 w3 := bl_grown (hbl.alloc _) hg3 (fun j e => by rw [← HB.out]; exact (hown.block j e).1); clear hg3 hv3))
        go_roundw
        case rel => exact ⟨k + 1, by omega, by go_num, by rw [HN.out], by rw [HP.out, ints_app, ← HX.out]; exact ho3, hb3⟩
        case measure => simp [intOf]; omega
      · have HP : Hid (pls (sb p) (sb s) p.size (k + 1) = pls (sb p) (sb s) p.size k) := hno hf
        have hfb : ((n' : Int) == (p.size : Int)) = false := by rw [beq_eq_false_iff_ne]; omega
        clear hyes hno hf
        go_wp2_with (go_at_call 29; refine cM.mono ?_; rintro e w2 ⟨rfl, rfl⟩)
        go_roundw
        case rel => exact ⟨k + 1, by omega, by go_num, by rw [HN.out], by rw [HP.out]; exact hown, hbl⟩
        case measure => simp [intOf]; omega
    · have hnl : ¬ ((k : Int) < (s.size : Int)) := by omega
      have HK : Hid (k = s.size) := by unfold Hid; omega
      go_wp2
      go_ret2
      rw [HK.out] at hown
      exact ⟨_, rfl, Own.mono hown (by have := HB.out; have := hb1.size; omega), hb1.trans hbl⟩
end Go.Proofs.Ytnhdaolieifhnaa.find
