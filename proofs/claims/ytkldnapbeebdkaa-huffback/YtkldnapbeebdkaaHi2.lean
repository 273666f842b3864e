/- What bySigns answers. -/
import Derived.Test.YtkldnapbeebdkaaHi1
import Derived.Test.YtkldnapbeebdkaaHh3
namespace Go.Proofs.Ytkldnapbeebdkaa.hi
set_option linter.unusedVariables false
open Go.ChangeShapes Go.WideShapes Go.ChangeAt Go.RowKit Go.Maps
open mem rows hg hh
/-- The first k bytes of a text, as numbers; noughts behind them. -/
def bl (z : ByteArray) (n k : Nat) : List Int := (List.range n).map fun j => if j < k then sb z j else 0
theorem bl_len (z : ByteArray) (n k : Nat) : (bl z n k).length = n := by simp [bl]
theorem bl_zero (z : ByteArray) (n : Nat) : bl z n 0 = List.replicate n 0 := by
  apply List.ext_getElem
  · simp [bl]
  · intro i h1 h2
    simp [bl]
theorem bl_step (z : ByteArray) (n k : Nat) (h : k < n) : (bl z n k).set k (sb z k) = bl z n (k + 1) := by
  apply List.ext_getElem
  · simp [bl]
  · intro i h1 h2
    rw [List.getElem_set]
    simp only [bl, List.getElem_map, List.getElem_range]
    by_cases hik : k = i
    · subst hik
      rw [if_pos rfl, if_pos (by omega)]
    · rw [if_neg hik]
      by_cases hl : i < k
      · rw [if_pos hl, if_pos (by omega)]
      · rw [if_neg hl, if_neg (by omega)]
theorem bl_get (z : ByteArray) (n i : Nat) (h : i < n) : (bl z n n).getD i 0 = sb z i := by
  unfold bl
  rw [List.getD_eq_getElem?_getD, List.getElem?_map, List.getElem?_range h]
  simp [h]
/-- Which of the first k things a sign stands for. -/
def mf (D S : List Int) : Nat → Int → Int → Option Int
  | 0, _, _ => none
  | k + 1, n, v => if 0 < D.getD k 0 ∧ n = D.getD k 0 ∧ v = S.getD k 0 then some (k : Int) else mf D S k n v
set_option maxHeartbeats 4000000 in
theorem bySigns_at (z : ByteArray) (w : World) (hz : z.size = 256) : Calls Try.prog 26 #[.string z] w fun e w' => Bl w w' ∧
    ((∃ i, ¬ (okS (bl z 256 256) 256 ∧ tk (bl z 256 256) 256 ≤ 16777216) ∧ e = .returned (.tuple #[.map none, .iface 49 (.int .i64 i)])) ∨
     (okS (bl z 256 256) 256 ∧ tk (bl z 256 256) 256 ≤ 16777216 ∧ ∃ b, e = .returned (.tuple #[.map (some b), .nilIface]) ∧ w.heap.size ≤ b ∧ Mp w' b (mf (bl z 256 256) (signsOf (bl z 256 256)) 256) 256)) := by
  have hmk := fun w => run_make_row' (P := Try.prog) 22 3 (.int .i64 0) 8 Try.underlying22 infoI rfl .i64 .i64 256 (by omega) (by omega) w
  obtain ⟨N, hN⟩ : ∃ N, N = z.size := ⟨_, rfl⟩
  have hmk2 := fun w => run_make_row' (P := Try.prog) 22 3 (.int .i64 0) 8 Try.underlying22 infoI rfl .i64 .i64 z.size (by omega) (by omega) w
  obtain ⟨w2, hw2⟩ : ∃ w2, w2 = w.alloc (.cells (madeCells #[.int .i64 0] z.size) 3) := ⟨_, rfl⟩
  have HB2 : Hid (Bl w w2) := by rw [hw2]; exact (Bl.refl w).alloc _
  have HR0 : Hid (RowI w2 w.heap.size (bl z z.size 0)) := by rw [bl_zero, hw2]; exact RowI.made w z.size
  have HZ : Hid (z.size = 256) := hz
  have hzl : z.size ≤ 256 := by omega
  clear hz hN hmk
  go_enter Try.func26, Try.ntmps26
  go_wp2
  rw [← hw2]
  obtain ⟨B, hB⟩ : ∃ B, B = w.heap.size := ⟨_, rfl⟩
  rw [← hB] at HR0 ⊢
  have HB : Hid (B = w.heap.size) := hB
  clear hw2 hmk2 hB
  go_loopw [5, 16] (fun _ i wr => ∃ k : Nat, k ≤ z.size ∧ i = .int .i64 (k : Int) ∧ Hid (RowI wr B (bl z z.size k) ∧ Bl w wr)) (fun _ i _ => z.size - (intOf i).toNat)
  case atStart => exact ⟨0, Nat.zero_le _, rfl, ⟨HR0.out, HB2.out⟩⟩
  case round =>
    clear HR0 HB2
    obtain ⟨k, hk, rfl, H⟩ := hrel
    by_cases hlt : k < z.size
    · have hltz : (k : Int) < z.size := by omega
      have hc := H.out.1.cell (j := k) (by rw [bl_len]; exact hlt)
      have hf := H.out.1.frozen k
      have HS : Hid (RowI (wr.setCell ⟨B, k, none⟩ (.int .i64 ((z[k]'hlt).toNat : Int))) B (bl z z.size (k + 1)) ∧ Bl w (wr.setCell ⟨B, k, none⟩ (.int .i64 ((z[k]'hlt).toNat : Int)))) := by
        refine ⟨?_, H.out.2.setCell (by rw [HB.out]; exact Nat.le_refl _) _⟩
        have := H.out.1.set k (sb z k)
        rw [bl_step z z.size k hlt, sb_get z k hlt] at this
        exact this
      generalize (bl z z.size k).getD k 0 = old at hc
      have hcb : ((z[k]'hlt).toNat : Int) < 256 := by have := (z[k]'hlt).toNat_lt; omega
      clear H
      go_wp2
      go_roundw
      case rel => exact ⟨k + 1, hlt, by go_num, HS⟩
      case measure => simp [intOf]; omega
    · have hltz : ¬ (k : Int) < z.size := by omega
      obtain rfl : k = z.size := by omega
      have in1 : In wr (some ⟨B, 0, none⟩) (bl z z.size z.size) := Or.inr ⟨_, rfl, fun k hk => by rw [Addr.add_lit, Nat.zero_add]; exact H.out.1.cell hk⟩
      go_wp2_with fail
      refine (Signs_at (some ⟨B, 0, none⟩) z.size z.size (bl z z.size z.size) wr in1 (by rw [bl_len]) (by omega)).mono ?_
      have HRB : Hid (RowI wr B (bl z z.size z.size) ∧ Bl w wr) := H.out
      clear H in1
      rintro e w3 ⟨hb3, h | h | h | h⟩
      · exact absurd h.1 (by rw [bl_len]; omega)
      · obtain ⟨_, h2, rfl⟩ := h
        rw [bl_len, HZ.out] at h2
        have H2 : Hid _ := h2
        clear h2
        go_wp2
        go_ret2
        exact ⟨HRB.out.2.trans hb3, Or.inl ⟨2, fun h => H2.out h.1, rfl⟩⟩
      · obtain ⟨_, h2, h3, rfl⟩ := h
        rw [bl_len, HZ.out] at h3
        have H2 : Hid _ := h3
        clear h2 h3
        go_wp2
        go_ret2
        exact ⟨HRB.out.2.trans hb3, Or.inl ⟨12, fun h => by have := H2.out; have := h.2; omega, rfl⟩⟩
      · obtain ⟨_, h2, h3, B3, rfl, hB3, hr3⟩ := h
        rw [bl_len, HZ.out] at h2 h3
        have HOK : Hid (okS (bl z 256 256) 256 ∧ tk (bl z 256 256) 256 ≤ 16777216) := ⟨h2, h3⟩
        have HR3 : Hid (RowI w3 B3 (signsOf (bl z z.size z.size)) ∧ RowI w3 B (bl z z.size z.size) ∧ Bl w w3) := ⟨hr3, HRB.out.1.step hb3, HRB.out.2.trans hb3⟩
        rw [bl_len]
        clear h2 h3 hr3 hB3 hb3 HRB
        obtain ⟨w4, hw4⟩ : ∃ w4, w4 = w3.alloc (.map #[] 0) := ⟨_, rfl⟩
        have HM0 : Hid (Mp w4 w3.heap.size (mf (bl z z.size z.size) (signsOf (bl z z.size z.size)) 0) 0 ∧ Bl w3 w4) := ⟨by rw [hw4]; exact Mp.made w3, by rw [hw4]; exact (Bl.refl _).alloc _⟩
        have hmm : ∀ w, (Instr.makeMap 53 none).run Try.prog w = .ok (.map (some w.heap.size)) (w.alloc (.map #[] 0)) := fun w => by kernel_rfl
        go_wp2
        rw [← hw4]
        obtain ⟨b, hbe⟩ : ∃ b, b = w3.heap.size := ⟨_, rfl⟩
        rw [← hbe] at HM0 ⊢
        have HBE : Hid (b = w3.heap.size) := hbe
        clear hw4 hmm hbe
        go_loopw [9, 10, 38] (fun _ _ i wx => ∃ k : Nat, k ≤ z.size ∧ i = .int .i64 (k : Int) ∧ Hid (Mp wx b (mf (bl z z.size z.size) (signsOf (bl z z.size z.size)) k) k ∧ Bl w3 wx)) (fun _ _ i _ => z.size - (intOf i).toNat)
        case atStart => exact ⟨0, Nat.zero_le _, rfl, HM0⟩
        case round =>
          clear HM0
          obtain ⟨k, hk, rfl, H⟩ := hrel
          by_cases hlt : k < z.size
          · have hltz : (k : Int) < z.size := by omega
            have hc1 := (HR3.out.2.1.step H.out.2).cell (j := k) (by rw [bl_len]; exact hlt)
            have hsl : (signsOf (bl z z.size z.size)).length = z.size := by unfold signsOf; rw [List.length_map, List.length_range, bl_len]
            have hc2 := (HR3.out.1.step H.out.2).cell (j := k) (by rw [hsl]; exact hlt)
            have hy0 : 0 ≤ (bl z z.size z.size).getD k 0 ∧ (bl z z.size z.size).getD k 0 ≤ 255 := by rw [bl_get z z.size k hlt]; have := sb_bd z k; omega
            have hv0 : 0 ≤ (signsOf (bl z z.size z.size)).getD k 0 ∧ (signsOf (bl z z.size z.size)).getD k 0 < 16777216 := by
              have e : (signsOf (bl z z.size z.size)).getD k 0 = sgn (bl z z.size z.size) z.size k := by
                unfold signsOf
                rw [bl_len, List.getD_eq_getElem?_getD, List.getElem?_map, List.getElem?_range hlt]
                rfl
              rw [e]
              exact sgn_lt (by rw [HZ.out]; exact HOK.out.1) (by rw [HZ.out]; exact HOK.out.2) hlt
            by_cases hpos : 0 < (bl z z.size z.size).getD k 0
            · obtain ⟨w', hr, hm', hg'⟩ := H.out.1.put ((bl z z.size z.size).getD k 0) ((signsOf (bl z z.size z.size)).getD k 0) (k : Int) ⟨by omega, by omega⟩ ⟨by omega, by omega⟩ ⟨by omega, by omega⟩ (by omega)
              have HF : Hid (Mp w' b (mf (bl z z.size z.size) (signsOf (bl z z.size z.size)) (k + 1)) (k + 1) ∧ Bl w3 w') := by
                refine ⟨?_, bl_grown H.out.2 hg' (fun j e => by injection e with e; rw [← e, HBE.out]; exact Nat.le_refl _)⟩
                have e : (fun n' v' => if n' = (bl z z.size z.size).getD k 0 ∧ v' = (signsOf (bl z z.size z.size)).getD k 0 then some (k : Int) else mf (bl z z.size z.size) (signsOf (bl z z.size z.size)) k n' v') = mf (bl z z.size z.size) (signsOf (bl z z.size z.size)) (k + 1) := by
                  funext n' v'
                  rw [mf]
                  simp only [hpos, true_and]
                rw [← e]
                exact hm'
              generalize (bl z z.size z.size).getD k 0 = y at hc1 hpos hy0 hr
              generalize (signsOf (bl z z.size z.size)).getD k 0 = v at hc2 hv0 hr
              have hkm : (k : Int) % 256 = (k : Int) := by omega
              clear H hm' hg'
              go_wp2
              go_roundw
              case rel => exact ⟨k + 1, hlt, by go_num, HF⟩
              case measure => simp [intOf]; omega
            · have HF : Hid (Mp wr b (mf (bl z z.size z.size) (signsOf (bl z z.size z.size)) (k + 1)) (k + 1) ∧ Bl w3 wr) := by
                refine ⟨?_, H.out.2⟩
                have e : mf (bl z z.size z.size) (signsOf (bl z z.size z.size)) (k + 1) = mf (bl z z.size z.size) (signsOf (bl z z.size z.size)) k := by
                  funext n' v'
                  rw [mf, if_neg (fun h => hpos h.1)]
                rw [e]
                obtain ⟨D, h1, h2⟩ := H.out.1
                exact ⟨D, h1.mono (Nat.le_succ _), h2⟩
              generalize (bl z z.size z.size).getD k 0 = y at hc1 hpos hy0
              clear H
              go_wp2
              go_roundw
              case rel => exact ⟨k + 1, hlt, by go_num, HF⟩
              case measure => simp [intOf]; omega
          · have hltz : ¬ (k : Int) < z.size := by omega
            obtain rfl : k = z.size := by omega
            have HF : Hid (Mp wr b (mf (bl z 256 256) (signsOf (bl z 256 256)) 256) 256 ∧ Bl w wr ∧ w.heap.size ≤ b) := by
              have h := H.out.1
              rw [HZ.out] at h
              exact ⟨h, HR3.out.2.2.trans H.out.2, by rw [HBE.out]; exact HR3.out.2.2.size⟩
            clear H
            go_wp2
            go_ret2
            exact ⟨HF.out.2.1, Or.inr ⟨HOK.out.1, HOK.out.2, b, rfl, HF.out.2.2, HF.out.1⟩⟩
end Go.Proofs.Ytkldnapbeebdkaa.hi
