/- A row of keys, each an array of two numbers; what keysOf of package suffix answers. -/
import Derived.Test.YtnhdaolieifhnaaGreatDoorSx1
namespace Go.Proofs.YtnhdaolieifhnaaGreatDoor.sx
set_option linter.unusedVariables false
open Go.ChangeShapes Go.WideShapes Go.ChangeAt Go.RowKit
open mem rows fd

/-- Block B holds just these numbers, two a key, and may be written. -/
def RowK (w : World) (B : Nat) (l : List Int) : Prop := w.heap[B]? = some (.cells (rowI l).toArray 49 (0, 0))
theorem RowK.cell {w : World} {B : Nat} {l : List Int} (h : RowK w B l) {j : Nat} (hj : j < l.length) : w.cell? ⟨B, j, none⟩ = some (.int .i64 (l.getD j 0)) := by
  unfold RowK at h
  have := rowI_get l j hj
  simp only [World.cell?, h]
  simpa using this
theorem RowK.frozen {w : World} {B : Nat} {l : List Int} (h : RowK w B l) (j : Nat) : w.frozen? ⟨B, j, none⟩ = false := by
  unfold RowK at h
  simp [World.frozen?, h]
theorem RowK.lt {w : World} {B : Nat} {l : List Int} (h : RowK w B l) : B < w.heap.size := by
  unfold RowK at h
  rcases Nat.lt_or_ge B w.heap.size with h' | h'
  · exact h'
  · rw [Array.getElem?_eq_none h'] at h; cases h
theorem RowK.set {w : World} {B : Nat} {l : List Int} (h : RowK w B l) (j : Nat) (v : Int) : RowK (w.setCell ⟨B, j, none⟩ (.int .i64 v)) B (l.set j v) := by
  unfold RowK at h ⊢
  simp [World.setCell, Array.getElem?_modify, h, rowI]
theorem RowK.step {w w' : World} {B : Nat} {l : List Int} (h : RowK w B l) (hb : Bl w w') : RowK w' B l := by
  have := h.lt
  unfold RowK at h ⊢
  rw [Below.block hb B this]
  exact h
theorem infoK : (Tryz.prog.info? 49).map (fun i => (i.zero, i.size, i.bytes)) = some (some (.agg #[.int .i64 0, .int .i64 0]), 2, 16) := by kernel_rfl
theorem infoK' : ∃ i, Tryz.prog.info? 49 = some i ∧ i.zero = some (.agg #[.int .i64 0, .int .i64 0]) ∧ i.size = 2 ∧ i.bytes = 16 := by
  obtain ⟨i, h1, h2⟩ := Option.map_eq_some_iff.1 infoK
  simp only [Prod.mk.injEq] at h2
  exact ⟨i, h1, h2.1, h2.2.1, h2.2.2⟩
theorem madeK (n : Nat) : madeCells #[Value.int .i64 0, Value.int .i64 0] n = (rowI (List.replicate n (0 : Int))).toArray := by
  apply Array.ext'
  apply List.ext_getElem?
  intro j
  by_cases hj : j < n
  · simp [madeCells, hj, rowI]
    rcases Nat.mod_two_eq_zero_or_one j with h | h <;> rw [h] <;> rfl
  · simp [madeCells, hj, rowI]
theorem make_keys (n : Nat) (hn : n ≤ 5000) (w : World) : (Instr.makeSlice 44 (.int .i64 (n : Int)) (.int .i64 (n : Int))).run Tryz.prog w = .ok (.slice (some ⟨w.heap.size, 0, none⟩) n n) (w.alloc (.cells (rowI (List.replicate (n * 2) (0 : Int))).toArray 49)) := by
  obtain ⟨i, hi, hz, h1, h2⟩ := infoK'
  have hr := run_make (P := Tryz.prog) w 44 49 i _ Tryz.underlying44 hi hz .i64 .i64 n n (by omega) (Int.le_refl _) (by rw [h2]; omega) (by omega)
  simp only [Int.toNat_natCast, h1] at hr
  rw [hr, ← madeK]
  rfl
/-- The numbers of all keys. -/
def kf (r : Nat → Int) (N n : Nat) (j : Nat) : Int := if j % 2 = 0 then r (j / 2) else k2 r N n (j / 2)
theorem kf_even (r : Nat → Int) (N n k : Nat) : kf r N n (k * 2) = r k := by
  unfold kf
  rw [if_pos (by omega), Nat.mul_div_cancel _ (by decide)]
theorem kf_odd (r : Nat → Int) (N n k : Nat) : kf r N n (k * 2 + 1) = k2 r N n k := by
  unfold kf
  rw [if_neg (by omega), show (k * 2 + 1) / 2 = k by omega]
theorem fil_skip (h : Nat → Int) (N k : Nat) (hz : h k = 0) : fil h N k = fil h N (k + 1) := by
  unfold fil
  refine List.map_congr_left fun i _ => ?_
  by_cases e : i = k
  · subst e; rw [if_neg (Nat.lt_irrefl _), if_pos (Nat.lt_succ_self _), hz]
  · have e2 : (i < k) ↔ (i < k + 1) := by omega
    simp only [e2]
set_option maxRecDepth 10000 in
theorem keysOf_at (v : Value) (r : Nat → Int) (N n : Nat) (w : World) (hN : N ≤ 4000) (hn : n ≤ 8000) (hv : View w v (tab r N)) :
    Calls Tryz.prog 17 #[v, .int .i64 (n : Int)] w fun e w' => ∃ K, e = .returned (.slice (some ⟨K, 0, none⟩) N N) ∧ w.heap.size ≤ K ∧ RowK w' K (tab (kf r N n) (N * 2)) ∧ Bl w w' := by
  obtain ⟨p, c, rfl, hp⟩ := hv
  rw [tab_len]
  have HP : Hid (In w p (tab r N)) := hp
  have hmk := make_keys N (by omega)
  obtain ⟨K, hK⟩ : ∃ K, K = w.heap.size := ⟨_, rfl⟩
  obtain ⟨W, hW⟩ : ∃ W, W = w.alloc (.cells (rowI (List.replicate (N * 2) (0 : Int))).toArray 49) := ⟨_, rfl⟩
  have h1 : RowK W K (fil (kf r N n) (N * 2) 0) := by
    rw [fil_zero, hW, hK]
    unfold RowK
    show (w.heap.push _)[w.heap.size]? = _
    rw [Array.getElem?_push, if_pos rfl]
  have hb : Bl w W := by rw [hW]; exact (Bl.refl w).alloc _
  have HW : Hid (W = w.alloc (.cells (rowI (List.replicate (N * 2) (0 : Int))).toArray 49)) := hW
  have HK : Hid (K = w.heap.size) := hK
  have H : Hid (RowK W K (fil (kf r N n) (N * 2) 0) ∧ Bl w W) := ⟨h1, hb⟩
  clear hW hK h1 hb hp
  go_enter Tryz.func17, Tryz.ntmps17
  go_wp2
  rw [← HW.out, ← HK.out]
  go_loopw [13] (fun i wr => ∃ k : Nat, k ≤ N ∧ i = .int .i64 (k : Int) ∧ RowK wr K (fil (kf r N n) (N * 2) (k * 2)) ∧ Bl w wr) (fun i _ => N - (intOf i).toNat)
  case atStart => exact ⟨0, Nat.zero_le _, rfl, H.out⟩
  case round =>
    obtain ⟨k, hk, rfl, hr1, hbl⟩ := hrel
    by_cases hlt : k < N
    · have hlz : (k : Int) < (N : Int) := by omega
      obtain ⟨x, rfl, cx⟩ := (HP.out.step hbl).at k (by rw [tab_len]; exact hlt)
      rw [tab_at _ _ _ hlt] at cx
      have c1 := hr1.cell (j := k * 2) (by rw [fil_len]; omega)
      have f1 := hr1.frozen (k * 2)
      have c2 := hr1.cell (j := k * 2 + 1) (by rw [fil_len]; omega)
      have f2 := hr1.frozen (k * 2 + 1)
      by_cases h2 : k + n < N
      · have l2 : (k : Int) + (n : Int) < (N : Int) := by omega
        obtain ⟨x', hx, cx2⟩ := (HP.out.step hbl).at (k + n) (by rw [tab_len]; exact h2)
        obtain rfl : x = x' := by simpa using hx
        rw [tab_at _ _ _ h2] at cx2
        have hr2 := hr1.set (k * 2) (r k)
        rw [← kf_even r N n k, fil_set] at hr2
        rw [kf_even] at hr2
        have hbl2 : Bl w (wr.setCell ⟨K, k * 2, none⟩ (.int .i64 (r k))) := hbl.setCell (by rw [HK.out]; exact Nat.le_refl _) _
        obtain ⟨x2, hx2, cx3⟩ := (HP.out.step hbl2).at (k + n) (by rw [tab_len]; exact h2)
        obtain rfl : x = x2 := by simpa using hx2
        rw [tab_at _ _ _ h2] at cx3
        clear cx2 hx hx2 c2 f2
        go_wp2
        clear cx c1 f1 hr1 hbl
        generalize wr.setCell ⟨K, k * 2, none⟩ (.int .i64 (r k)) = wq at *
        have c2 := hr2.cell (j := k * 2 + 1) (by rw [fil_len]; omega)
        have f2 := hr2.frozen (k * 2 + 1)
        have hr3 := hr2.set (k * 2 + 1) (r (k + n))
        have e3 : r (k + n) = kf r N n (k * 2 + 1) := by rw [kf_odd, k2, if_pos h2]
        have HR : Hid (RowK (wq.setCell ⟨K, k * 2 + 1, none⟩ (.int .i64 (r (k + n)))) K (fil (kf r N n) (N * 2) ((k + 1) * 2))) := by
          have h := hr3
          rw [show (fil (kf r N n) (N * 2) (k * 2 + 1)).set (k * 2 + 1) (r (k + n)) = fil (kf r N n) (N * 2) ((k + 1) * 2) by rw [e3, fil_set]; congr 1; omega] at h
          exact h
        have hB : Bl w (wq.setCell ⟨K, k * 2 + 1, none⟩ (.int .i64 (r (k + n)))) := hbl2.setCell (by rw [HK.out]; exact Nat.le_refl _) _
        generalize (fil (kf r N n) (N * 2) (k * 2 + 1)).getD (k * 2 + 1) 0 = z at c2
        generalize r (k + n) = y at *
        clear hr2 hr3 e3 hbl2
        go_region
        go_wp2
        go_roundw
        case rel => exact ⟨k + 1, hlt, by go_num, HR.out, hB.drew⟩
        case measure => simp [intOf]; omega
      · have l2 : ¬ ((k : Int) + (n : Int) < (N : Int)) := by omega
        have hr2 := hr1.set (k * 2) (r k)
        rw [← kf_even r N n k, fil_set] at hr2
        rw [kf_even, fil_skip _ _ _ (by rw [kf_odd, k2, if_neg h2])] at hr2
        have hB : Bl w (wr.setCell ⟨K, k * 2, none⟩ (.int .i64 (r k))) := hbl.setCell (by rw [HK.out]; exact Nat.le_refl _) _
        go_wp2
        go_roundw
        case rel => exact ⟨k + 1, hlt, by go_num, by rw [show (k + 1) * 2 = k * 2 + 1 + 1 by omega]; exact hr2, hB⟩
        case measure => simp [intOf]; omega
    · have hnl : ¬ ((k : Int) < (N : Int)) := by omega
      have HKK : Hid (k = N) := by unfold Hid; omega
      go_wp2
      go_ret
      rw [HKK.out, fil_all] at hr1
      exact ⟨K, rfl, by rw [HK.out]; exact Nat.le_refl _, hr1, hbl⟩
end Go.Proofs.YtnhdaolieifhnaaGreatDoor.sx
