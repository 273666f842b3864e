/- Texts laid together: Hg5, Hg2. -/
import Derived.Test.YtkldnapbeebdkaaDoorZ3
import Derived.Test.YtkldnapbeebdkaaDoorZ16
/- What Cost answers. -/
namespace Go.Proofs.YtkldnapbeebdkaaDoor.hg
set_option linter.unusedVariables false
open Go.ChangeShapes Go.WideShapes Go.ChangeAt Go.RowKit
open mem rows
/-- The sum of each number times its bits, in 64 bits. -/
def cw (l D : List Int) : Nat → Int
  | 0 => 0
  | k + 1 => wrap64 (cw l D k + wrap64 (l.getD k 0 * D.getD k 0))
theorem num_k (j : Nat) : Value.int .i64 ((j : Int) + 1) = Value.int .i64 ((j + 1 : Nat) : Int) := by congr 1
theorem meas_k (N j : Nat) (h : j < N) : N - (intOf (Value.int .i64 ((j : Int) + 1))).toNat < N - (intOf (Value.int .i64 (j : Int))).toNat := by
  simp only [intOf]
  omega
theorem Cost_at (p p' : Option Addr) (n c c' : Nat) (l D : List Int) (w : World) (hin : In w p l) (hin' : In w p' D) (hn : n = l.length) (hn' : n = D.length) (hn63 : n ≤ 100000) :
    Calls Tryd.prog 11 #[.slice p n c, .slice p' n c'] w fun e w' => e = .returned (.tuple #[.int .i64 (cw l D n), .nilIface]) ∧ w' = w := by
  have HIN : Hid (In w p l) := hin
  have HIN' : Hid (In w p' D) := hin'
  have HN : Hid (n = l.length ∧ n = D.length) := ⟨hn, hn'⟩
  clear hin hin' hn hn'
  go_enter Tryd.func11, Tryd.ntmps11
  go_wp2
  go_loopw [6, 7, 8, 17] (fun v6 _ _ v17 wr => ∃ (k : Nat) (s : Int), k ≤ n ∧ v17 = .int .i64 (k : Int) ∧ v6 = .int .i64 s ∧ wr = w ∧ Hid (s = cw l D k)) (fun _ _ _ v17 _ => n - (intOf v17).toNat)
  case atStart => exact ⟨0, 0, Nat.zero_le _, rfl, rfl, rfl, rfl⟩
  case round =>
    obtain ⟨k, s, hk, rfl, rfl, hwr, H⟩ := hrel
    subst hwr
    by_cases hlt : k < n
    · have hltz : (k : Int) < n := by omega
      obtain ⟨x, rfl, hc1⟩ := HIN.out.at k (by rw [← HN.out.1]; exact hlt)
      obtain ⟨x', rfl, hc2⟩ := HIN'.out.at k (by rw [← HN.out.2]; exact hlt)
      have HS : Hid (wrap64 (s + wrap64 (l.getD k 0 * D.getD k 0)) = cw l D (k + 1)) := by
        show _ = wrap64 (cw l D k + wrap64 (l.getD k 0 * D.getD k 0))
        rw [H.out]
      generalize l.getD k 0 = z at hc1 HS
      generalize D.getD k 0 = y at hc2 HS
      go_wp2
      go_roundw
      case rel => exact ⟨k + 1, _, hlt, by first | exact num_k k | go_num, rfl, by trivial, HS⟩
      case measure => exact meas_k n k hlt
    · have hltz : ¬ (k : Int) < n := by omega
      obtain rfl : k = n := by omega
      go_wp2
      go_ret2
      exact ⟨by rw [← H.out]; rfl, by trivial⟩
theorem Cost_no (p p' : Option Addr) (n m c c' : Nat) (w : World) (h : n ≠ m) :
    Calls Tryd.prog 11 #[.slice p n c, .slice p' m c'] w fun e w' => e = .returned (.tuple #[.int .i64 0, .iface 23 (.int .i64 1)]) ∧ w' = w := by
  have hz : ((n : Int) == (m : Int)) = false := by rw [beq_eq_false_iff_ne]; omega
  go_enter Tryd.func11, Tryd.ntmps11
  go_wp2
  go_ret2
  exact ⟨rfl, rfl⟩
end Go.Proofs.YtkldnapbeebdkaaDoor.hg
/- What Signs answers. -/
namespace Go.Proofs.YtkldnapbeebdkaaDoor.hg
set_option linter.unusedVariables false
open Go.ChangeShapes Go.WideShapes Go.ChangeAt Go.RowKit
open mem rows
def signsOf (l : List Int) : List Int := (List.range l.length).map (sgn l l.length)
/-- The signs of up to m bits, and those of one bit more among the first k. -/
def sr (l : List Int) (n m k : Nat) : List Int := (List.range n).map fun i => if l.getD i 0 ≤ (m : Int) ∨ (l.getD i 0 = (m : Int) + 1 ∧ i < k) then sgn l n i else 0
theorem sr_len (l : List Int) (n m k : Nat) : (sr l n m k).length = n := by simp [sr]
theorem sr_zero (l : List Int) (n : Nat) : sr l n 0 0 = List.replicate n 0 := by
  apply List.ext_getElem
  · simp [sr]
  · intro i h1 h2
    simp only [sr, List.getElem_map, List.getElem_range, List.getElem_replicate]
    split
    · next h =>
      unfold sgn
      rw [if_neg (by omega)]
    · rfl
theorem sr_next (l : List Int) (n m : Nat) : sr l n m n = sr l n (m + 1) 0 := by
  unfold sr
  apply List.map_congr_left
  intro i hi
  have := List.mem_range.1 hi
  by_cases h : l.getD i 0 ≤ (m : Int) + 1
  · rw [if_pos (by omega), if_pos (by omega)]
  · rw [if_neg (by omega), if_neg (by omega)]
theorem sr_skip {l : List Int} {n m k : Nat} (h : l.getD k 0 ≠ (m : Int) + 1) : sr l n m (k + 1) = sr l n m k := by
  unfold sr
  apply List.map_congr_left
  intro i hi
  by_cases hik : i = k
  · subst hik
    by_cases h2 : l.getD i 0 ≤ (m : Int)
    · rw [if_pos (by omega), if_pos (by omega)]
    · rw [if_neg (by omega), if_neg (by omega)]
  · by_cases h2 : l.getD i 0 ≤ (m : Int) ∨ (l.getD i 0 = (m : Int) + 1 ∧ i < k)
    · rw [if_pos (by omega), if_pos h2]
    · rw [if_neg (by omega), if_neg h2]
theorem sr_set {l : List Int} {n m k : Nat} (h : l.getD k 0 = (m : Int) + 1) (hk : k < n) : (sr l n m k).set k ((2 * E l n m + cnt l (m + 1) k : Nat) : Int) = sr l n m (k + 1) := by
  apply List.ext_getElem
  · simp [sr]
  · intro i h1 h2
    rw [List.getElem_set]
    have hs : sgn l n k = ((2 * E l n m + cnt l (m + 1) k : Nat) : Int) := by
      unfold sgn
      rw [if_pos (by omega), h]
      have e : ((m : Int) + 1).toNat = m + 1 := by omega
      rw [e]
      rfl
    by_cases hik : k = i
    · subst hik
      rw [if_pos rfl]
      simp only [sr, List.getElem_map, List.getElem_range]
      rw [if_pos (Or.inr ⟨h, by omega⟩), hs]
    · rw [if_neg hik]
      simp only [sr, List.getElem_map, List.getElem_range]
      by_cases h2 : l.getD i 0 ≤ (m : Int) ∨ (l.getD i 0 = (m : Int) + 1 ∧ i < k)
      · rw [if_pos h2, if_pos (by omega)]
      · rw [if_neg h2, if_neg (by omega)]
theorem sr_all {l : List Int} {n : Nat} (hok : okS l n) (hn : n = l.length) : sr l n 24 0 = signsOf l := by
  unfold sr signsOf
  rw [← hn]
  apply List.map_congr_left
  intro i hi
  have := hok i (List.mem_range.1 hi)
  rw [if_pos (Or.inl (by omega))]
/-- What Signs answers: an error, or the signs, in a new block. -/
def SignsP (l : List Int) (w : World) (e : Ending) (w' : World) : Prop :=
  Bl w w' ∧ ((256 < l.length ∧ e = .returned (.tuple #[.slice none 0 0, .iface 23 (.int .i64 4)])) ∨
    (l.length ≤ 256 ∧ ¬ okS l l.length ∧ e = .returned (.tuple #[.slice none 0 0, .iface 23 (.int .i64 2)])) ∨
    (l.length ≤ 256 ∧ okS l l.length ∧ 16777216 < tk l l.length ∧ e = .returned (.tuple #[.slice none 0 0, .iface 23 (.int .i64 12)])) ∨
    (l.length ≤ 256 ∧ okS l l.length ∧ tk l l.length ≤ 16777216 ∧ ∃ B, e = .returned (.tuple #[.slice (some ⟨B, 0, none⟩) l.length l.length, .nilIface]) ∧ w.heap.size ≤ B ∧ RowI w' B (signsOf l)))
set_option maxHeartbeats 4000000 in
theorem Signs_at (p : Option Addr) (n c : Nat) (l : List Int) (w : World) (hin : In w p l) (hn : n = l.length) (hn63 : n ≤ 9223372036854775807) :
    Calls Tryd.prog 8 #[.slice p n c] w fun e w' => SignsP l w e w' := by
  have cN := noSigns_at p n c l w hin hn hn63
  have HIN : Hid (In w p l) := hin
  have HN : Hid (n = l.length) := hn
  clear hin hn
  go_enter Tryd.func8, Tryd.ntmps8
  go_wp2_with fail
  refine Calls.mono cN ?_
  rintro e w1 ⟨h, rfl⟩
  rcases h with ⟨h1, rfl⟩ | ⟨h1, h2, rfl⟩ | ⟨h1, h2, h3, rfl⟩ | ⟨h1, h2, h3, rfl⟩
  · clear cN
    go_wp2
    go_ret2
    exact ⟨Bl.refl _, Or.inl ⟨by rw [← HN.out]; exact h1, rfl⟩⟩
  · have H2 : Hid _ := h2
    clear cN h2
    go_wp2
    go_ret2
    exact ⟨Bl.refl _, Or.inr (Or.inl ⟨by rw [← HN.out]; exact h1, by rw [← HN.out]; exact H2.out, rfl⟩)⟩
  · have H2 : Hid _ := And.intro h2 h3
    clear cN h2 h3
    go_wp2
    go_ret2
    exact ⟨Bl.refl _, Or.inr (Or.inr (Or.inl ⟨by rw [← HN.out]; exact h1, by rw [← HN.out]; exact H2.out.1, by rw [← HN.out]; exact H2.out.2, rfl⟩))⟩
  · have H2 : Hid (okS l n ∧ tk l n ≤ 16777216) := And.intro h2 h3
    have hmk := fun w => run_make_row' (P := Tryd.prog) 22 3 (.int .i64 0) 8 Tryd.underlying22 infoI rfl .i64 .i64 n (by omega) (by omega) w
    clear cN h2 h3
    obtain ⟨w2, hw2⟩ : ∃ w2, w2 = w1.alloc (.cells (madeCells #[.int .i64 0] n) 3) := ⟨_, rfl⟩
    have HB2 : Hid (Bl w1 w2) := by rw [hw2]; exact (Bl.refl w1).alloc _
    have HR0 : Hid (RowI w2 w1.heap.size (sr l n 0 0)) := by rw [sr_zero, hw2]; exact RowI.made w1 n
    go_wp2
    rw [← hw2]
    obtain ⟨B, hB⟩ : ∃ B, B = w1.heap.size := ⟨_, rfl⟩
    rw [← hB] at HR0 ⊢
    have HB : Hid (B = w1.heap.size) := hB
    clear hw2 hmk hB
    go_loopw [6, 7] (fun v6 v7 wr => ∃ m : Nat, m ≤ 24 ∧ v7 = .int .i64 ((m : Int) + 1) ∧ v6 = .int .i64 (E l n m : Nat) ∧ Hid (RowI wr B (sr l n m 0) ∧ Bl w1 wr)) (fun _ v7 _ => 26 - (intOf v7).toNat)
    case atStart => exact ⟨0, by omega, rfl, rfl, ⟨HR0.out, HB2.out⟩⟩
    case round =>
      clear HR0 HB2
      obtain ⟨m, hm, rfl, rfl, H⟩ := hrel
      have hEs := E_small (l := l) (n := n) (m := m) (by omega) (by omega)
      by_cases hm24 : m < 24
      · have hmz : (m : Int) + 1 ≤ 24 := by omega
        generalize hEm : E l n m = em at hEs
        have HE : Hid (E l n m = em) := hEm
        clear hEm
        go_wp2_with fail
        go_loopw [6, 8, 9, 26] (fun v6 _ _ v26 wx => ∃ k cc : Nat, k ≤ n ∧ cc ≤ k ∧ v26 = .int .i64 (k : Int) ∧ v6 = .int .i64 (2 * (em : Int) + (cc : Int)) ∧ Hid (cc = cnt l (m + 1) k ∧ RowI wx B (sr l n m k) ∧ Bl w1 wx)) (fun _ _ _ v26 _ => n - (intOf v26).toNat)
        case atStart => exact ⟨0, 0, Nat.zero_le _, Nat.le_refl _, rfl, by first | rfl | (congr 1; omega), ⟨rfl, H.out⟩⟩
        case round =>
          clear H
          obtain ⟨k, cc, hk, hcc, rfl, rfl, H⟩ := hrel
          by_cases hkn : k < n
          · have hkz : (k : Int) < n := by omega
            obtain ⟨x, rfl, hcell⟩ := (HIN.out.step H.out.2.2).at k (by rw [← HN.out]; exact hkn)
            obtain ⟨z, hz⟩ : ∃ z, z = l.getD k 0 := ⟨_, rfl⟩
            rw [← hz] at hcell
            have HZ : Hid (z = l.getD k 0) := hz
            clear hz
            have hlc := H.out.2.1.cell (j := k) (by rw [sr_len]; exact hkn)
            have hlf := H.out.2.1.frozen k
            generalize (sr l n m k).getD k 0 = old at hlc
            by_cases hzm : z = (m : Int) + 1
            · have hzb : (z == (m : Int) + 1) = true := by rw [beq_iff_eq]; exact hzm
              have HS : Hid (RowI (wr.setCell ⟨B, k, none⟩ (.int .i64 (2 * (em : Int) + (cc : Int)))) B (sr l n m (k + 1)) ∧ Bl w1 (wr.setCell ⟨B, k, none⟩ (.int .i64 (2 * (em : Int) + (cc : Int)))) ∧ cc + 1 = cnt l (m + 1) (k + 1)) := by
                refine ⟨?_, H.out.2.2.setCell (by rw [HB.out]; exact Nat.le_refl _) _, ?_⟩
                · have := H.out.2.1.set k (2 * (em : Int) + (cc : Int))
                  rw [show (2 * (em : Int) + (cc : Int)) = ((2 * E l n m + cnt l (m + 1) k : Nat) : Int) by rw [HE.out, ← H.out.1]; omega, sr_set (by rw [← HZ.out]; exact hzm) hkn] at this
                  rw [show (2 * (em : Int) + (cc : Int)) = ((2 * E l n m + cnt l (m + 1) k : Nat) : Int) by rw [HE.out, ← H.out.1]; omega]
                  exact this
                · rw [cnt, if_pos (by rw [← HZ.out, hzm]; omega), ← H.out.1]
              clear H
              subst hzm
              go_wp2
              go_roundw
              case rel => exact ⟨k + 1, cc + 1, hkn, by omega, by go_num, by first | rfl | (congr 1; omega), ⟨HS.out.2.2, HS.out.1, HS.out.2.1⟩⟩
              case measure => simp [intOf]; omega
            · have hzb : (z == (m : Int) + 1) = false := by rw [beq_eq_false_iff_ne]; exact hzm
              have HS : Hid (cc = cnt l (m + 1) (k + 1) ∧ RowI wr B (sr l n m (k + 1)) ∧ Bl w1 wr) := by
                refine ⟨?_, ?_, H.out.2.2⟩
                · rw [cnt, if_neg (by rw [← HZ.out]; omega), ← H.out.1, Nat.add_zero]
                · rw [sr_skip (by rw [← HZ.out]; exact hzm)]; exact H.out.2.1
              clear H
              go_wp2
              go_roundw
              case rel => exact ⟨k + 1, cc, hkn, by omega, by go_num, rfl, HS⟩
              case measure => simp [intOf]; omega
          · have hkz : ¬ (k : Int) < n := by omega
            obtain rfl : k = n := by omega
            have HS : Hid (2 * em + cc = E l k (m + 1) ∧ RowI wr B (sr l k (m + 1) 0) ∧ Bl w1 wr) := ⟨by rw [E, HE.out, ← H.out.1], by rw [← sr_next]; exact H.out.2.1, H.out.2.2⟩
            clear H
            go_wp2
            go_roundw
            case rel => exact ⟨m + 1, by omega, by first | rfl | go_num | (congr 1; omega), by first | (congr 1; have := HS.out.1; omega) | rfl, HS.out.2⟩
            case measure => simp [intOf]; omega
      · have hmz : ¬ (m : Int) + 1 ≤ 24 := by omega
        obtain rfl : m = 24 := by omega
        go_wp2
        go_ret2
        exact ⟨H.out.2, Or.inr (Or.inr (Or.inr ⟨by rw [← HN.out]; exact h1, by rw [← HN.out]; exact H2.out.1, by rw [← HN.out]; exact H2.out.2, B, by rw [← HN.out]; rfl, by rw [HB.out]; exact Nat.le_refl _, by rw [← sr_all H2.out.1 HN.out]; exact H.out.1⟩))⟩
end Go.Proofs.YtkldnapbeebdkaaDoor.hg
