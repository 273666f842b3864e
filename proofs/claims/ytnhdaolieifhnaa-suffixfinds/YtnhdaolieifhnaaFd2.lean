/- What Borders of package find answers. -/
import Derived.Test.YtnhdaolieifhnaaFd1
import Derived.StillTailTactics
namespace Go.Proofs.Ytnhdaolieifhnaa.find
set_option linter.unusedVariables false
open Go.ChangeShapes Go.WideShapes Go.ChangeAt Go.RowKit
open mem rows fd

set_option maxRecDepth 10000 in
theorem Borders_at (p : ByteArray) (w : World) (hp : p.size ≤ 1000) :
    Calls Try.prog 22 #[.string p] w fun e w' => ∃ v, e = .returned v ∧ Own w' w.heap.size v (brs (sb p) p.size p.size) ∧ Bl w w' := by
  have hr0 := RowI.made w p.size
  have hmk := fun w => run_make_row' (P := Try.prog) 23 3 (.int .i64 0) 8 Try.underlying23 infoI rfl .i64 .i64 p.size (by omega) (by omega) w
  rcases Nat.eq_zero_or_pos p.size with h0 | h0
  · have hz : ¬ (1 : Int) < (p.size : Int) := by omega
    have H0 : Hid (p.size = 0) := h0
    have HR : Hid (RowI (w.alloc (.cells (madeCells #[.int .i64 0] p.size) 3)) w.heap.size (List.replicate p.size 0)) := hr0
    clear h0 hr0
    go_enter Try.func22, Try.ntmps22
    go_wp2
    go_loopw [4] (fun i wr => i = .int .i64 1 ∧ wr = w.alloc (.cells (madeCells #[.int .i64 0] p.size) 3)) (fun _ _ => 0)
    case atStart => exact ⟨rfl, rfl⟩
    case round =>
      obtain ⟨rfl, rfl⟩ := hrel
      go_wp2
      go_ret
      refine ⟨_, rfl, ?_, (Bl.refl w).alloc _⟩
      have := HR.out.own (base := w.heap.size) (Nat.le_refl _) (by simp; omega)
      rw [List.length_replicate] at this
      rw [show brs (sb p) p.size p.size = List.replicate p.size 0 by rw [H0.out]; rfl]
      exact this
  · obtain ⟨L, hL⟩ : ∃ L, L = p.size := ⟨_, rfl⟩
    have hr1 : RowI (w.alloc (.cells (madeCells #[.int .i64 0] p.size) 3)) w.heap.size (brz (sb p) p.size 1) := by rw [brz_one _ _ h0]; exact hr0
    have HR : Hid (RowI (w.alloc (.cells (madeCells #[.int .i64 0] p.size) 3)) w.heap.size (brz (sb p) p.size 1)) := hr1
    clear hr0 hr1
    go_enter Try.func22, Try.ntmps22
    go_wp2
    go_loopw [4] (fun i wr => ∃ k : Nat, 1 ≤ k ∧ k ≤ p.size ∧ i = .int .i64 (k : Int) ∧ RowI wr w.heap.size (brz (sb p) p.size k) ∧ Bl w wr) (fun i _ => p.size - (intOf i).toNat)
    case atStart => exact ⟨1, Nat.le_refl _, h0, rfl, HR.out, (Bl.refl w).alloc _⟩
    case round =>
      obtain ⟨k, hk1, hk, rfl, hrow, hbl⟩ := hrel
      by_cases hlt : k < p.size
      · have hlz : (k : Int) < (p.size : Int) := by omega
        obtain ⟨j, rfl⟩ : ∃ j, k = j + 1 := ⟨k - 1, by omega⟩
        have hlen := brz_len (sb p) p.size (j + 1) hk
        have hc := hrow.cell (j := j) (by rw [hlen]; omega)
        rw [brz_at _ _ _ _ (Nat.lt_succ_self j)] at hc
        have hfr := hrow.frozen (j + 1)
        have hc2 := hrow.cell (j := j + 1) (by rw [hlen]; omega)
        have hbd := sb_bd p (j + 1)
        have hv := (hrow.view (w := wr) p.size)
        rw [hlen] at hv
        have hle := lg_le' (sb p) (tl (sb p)) p.size j
        have cM := fun w' (h : View w' (.slice (some ⟨w.heap.size, 0, none⟩) p.size p.size) (brz (sb p) p.size (j + 1))) => met_at p _ (brz (sb p) p.size (j + 1)) (lg (sb p) (tl (sb p)) p.size j) (tl (sb p)) j (sb p (j + 1)) w' (by omega) h (by rw [hlen]; omega) (fun k hk => by
          rcases Nat.lt_or_ge k (j + 1) with h | h
          · exact Or.inl (brz_at _ _ _ _ h)
          · exact Or.inr (by omega)) (lg_is _ _ _ _) rfl hbd
        have hgk : (((p[j + 1]'hlt).toNat : Nat) : Int) = sb p (j + 1) := (sb_get p (j + 1) hlt).symm
        have hnx := brz_next (sb p) p.size (j + 1) hlt
        generalize lg (sb p) (tl (sb p)) p.size j = n at *
        generalize lg (sb p) (tl (sb p)) p.size (j + 1) = n' at *
        generalize (brz (sb p) p.size (j + 1)).getD (j + 1) 0 = z at hc2
        have HX : Hid _ := hnx
        have hwj : IntKind.i64.wrap (j : Int) = (j : Int) := by rw [IntKind.wrap_i64]; omega
        have hj0 : 0 ≤ (j : Int) + 1 := by omega
        have hji : 0 ≤ (j : Int) ∧ (j : Int) < (p.size : Int) := by omega
        clear hnx hle hlen
        go_wp2
        refine wp_region_still_tail 13 (by kernel_rfl) (by kernel_rfl) ?_
        change wpStill _ _ wr.drew (fun a' => wpList _ _ _ _ a' wr.drew) _ _
        simp only [List.take_succ_cons, List.take_zero, List.drop_succ_cons, List.drop_zero]
        iterate 12 still_step
        still_call (cM _ hv)
        refine wpStill_nil ?_
        go_wp2
        go_roundw
        case rel => exact ⟨j + 1 + 1, by omega, hlt, by go_num, by
          have h := hrow.set (j + 1) (n' : Int)
          rw [HX.out] at h
          exact h, (hbl.setCell (Nat.le_refl _) _).drew⟩
        case measure => simp [intOf]; omega
      · obtain ⟨L, hL⟩ : ∃ L, L = p.size := ⟨_, rfl⟩
        have hkp : k = L := by omega
        have hnl : ¬ ((k : Int) < (p.size : Int)) := by omega
        have HL : Hid (L = p.size) := hL
        subst hkp
        clear hL
        go_wp2
        go_ret
        refine ⟨_, rfl, ?_, hbl⟩
        rw [HL.out, brz_all] at hrow
        have := hrow.own (base := w.heap.size) (Nat.le_refl _) (by rw [brs_len]; omega)
        rw [brs_len] at this
        exact this
end Go.Proofs.Ytnhdaolieifhnaa.find
