/- What the document's own SuffixSort and SuffixCommon answer. -/
import Derived.Test.YtnhdaolieifhnaaGreatDoorSy1
import Derived.Deep.RegionHeld3
import Derived.Deep.RegionWith
namespace Go.Proofs.YtnhdaolieifhnaaGreatDoor.sx
set_option linter.unusedVariables false
open Go.ChangeShapes Go.WideShapes Go.ChangeAt Go.RowKit
open mem rows fd

theorem cell_last (w : World) (v : Value) (t : TypeId) (b : Nat) (hb : b = w.heap.size) : (w.alloc (.cells #[v] t)).cell? ⟨b, 0, none⟩ = some v := by
  subst hb
  simp
set_option maxRecDepth 10000 in
theorem refSort_at (s : ByteArray) (w : World) (hs : s.size ≤ 4000) :
    Calls Tryz.prog 13 #[.string s] w fun e w' => ∃ A, e = .returned (.slice (some ⟨A, 0, none⟩) s.size s.size) ∧ w.heap.size ≤ A ∧ Bl w w' ∧ ∃ L, RowI w' A (ints L) ∧ IsSort (gs s) s.size L := by
  have hmk := fun w => run_make_row' (P := Tryz.prog) 22 3 (.int .i64 0) 8 Tryz.underlying22 infoI rfl .i64 .i64 s.size (by omega) (by omega) w
  obtain ⟨X, hX⟩ : ∃ X, X = w.heap.size := ⟨_, rfl⟩
  obtain ⟨W, hW⟩ : ∃ W, W = ((w.alloc (.cells #[.string s] 9)).alloc (.cells (madeCells #[.int .i64 0] s.size) 3)).alloc (.cells #[.slice (some ⟨X + 1, 0, none⟩) s.size s.size] 22) := ⟨_, rfl⟩
  have h1 : RowI W (X + 1) (fil (fun i => (i : Int)) s.size 0) := by
    rw [fil_zero, hW, hX]
    have := (RowI.made (w.alloc (.cells #[.string s] 9)) s.size).step ((Bl.refl _).alloc (.cells #[.slice (some ⟨w.heap.size + 1, 0, none⟩) s.size s.size] 22))
    simpa using this
  have h2 : W.cell? ⟨X, 0, none⟩ = some (.string s) := by rw [hW, hX]; exact at_bl (((Bl.refl _).alloc _).alloc _) (by simp)
  have h3 : W.cell? ⟨X + 2, 0, none⟩ = some (.slice (some ⟨X + 1, 0, none⟩) s.size s.size) := by rw [hW, hX]; exact cell_last _ _ _ _ (by simp)
  have hb : Bl w W := by rw [hW]; exact (((Bl.refl w).alloc _).alloc _).alloc _
  have HW : Hid (W = ((w.alloc (.cells #[.string s] 9)).alloc (.cells (madeCells #[.int .i64 0] s.size) 3)).alloc (.cells #[.slice (some ⟨X + 1, 0, none⟩) s.size s.size] 22)) := hW
  have HX : Hid (X = w.heap.size) := hX
  have H : Hid (RowI W (X + 1) (fil (fun i => (i : Int)) s.size 0) ∧ W.cell? ⟨X, 0, none⟩ = some (.string s) ∧ W.cell? ⟨X + 2, 0, none⟩ = some (.slice (some ⟨X + 1, 0, none⟩) s.size s.size) ∧ Bl w W) := ⟨h1, h2, h3, hb⟩
  clear hW hX h1 h2 h3 hb
  go_enter Tryz.func13, Tryz.ntmps13
  go_wp2
  rw [← HX.out, ← HW.out]
  go_loopw [10] (fun i wr => ∃ k : Nat, k ≤ s.size ∧ i = .int .i64 (k : Int) ∧ RowI wr (X + 1) (fil (fun i => (i : Int)) s.size k) ∧ wr.cell? ⟨X, 0, none⟩ = some (.string s) ∧ wr.cell? ⟨X + 2, 0, none⟩ = some (.slice (some ⟨X + 1, 0, none⟩) s.size s.size) ∧ Bl w wr) (fun i _ => s.size - (intOf i).toNat)
  case atStart => exact ⟨0, Nat.zero_le _, rfl, H.out⟩
  case round =>
    obtain ⟨k, hk, rfl, hr1, c1, c2, hbl⟩ := hrel
    by_cases hlt : k < s.size
    · have hlz : (k : Int) < (s.size : Int) := by omega
      have d1 := hr1.cell (j := k) (by rw [fil_len]; exact hlt)
      have f1 := hr1.frozen k
      have hr1' := hr1.set k (k : Int)
      rw [fil_set (fun i => (i : Int)) s.size k] at hr1'
      have HR : Hid (RowI (wr.setCell ⟨X + 1, k, none⟩ (.int .i64 (k : Int))) (X + 1) (fil (fun i => (i : Int)) s.size (k + 1))) := hr1'
      have hB : Bl w (wr.setCell ⟨X + 1, k, none⟩ (.int .i64 (k : Int))) := hbl.setCell (by rw [HX.out]; exact Nat.le_succ _) _
      have e1 : (wr.setCell ⟨X + 1, k, none⟩ (.int .i64 (k : Int))).cell? ⟨X, 0, none⟩ = some (.string s) := by rw [World.cell?_setCell_far _ _ _ _ (by simp)]; exact c1
      have e2 : (wr.setCell ⟨X + 1, k, none⟩ (.int .i64 (k : Int))).cell? ⟨X + 2, 0, none⟩ = some (.slice (some ⟨X + 1, 0, none⟩) s.size s.size) := by rw [World.cell?_setCell_far _ _ _ _ (by simp)]; exact c2
      have HE : Hid (_ ∧ _) := ⟨e1, e2⟩
      generalize (fil (fun i => (i : Int)) s.size k).getD k 0 = z1 at d1
      clear hr1 hr1' e1 e2
      go_wp2
      go_roundw
      case rel => exact ⟨k + 1, hlt, by go_num, HR.out, HE.out.1, HE.out.2, hB⟩
      case measure => simp [intOf]; omega
    · have hnl : ¬ ((k : Int) < (s.size : Int)) := by omega
      have hke : k = s.size := by omega
      rw [hke, fil_all, tab_ints] at hr1
      have cS := slice_at s X (X + 2) (X + 1) s.size (List.range s.size) wr hs (List.Perm.refl _) hr1 c1 c2 (by omega) (by omega)
      clear hke
      go_wp2_with (fail)
      refine cS.mono ?_
      rintro e w4 ⟨rfl, hg4, L, hL, hr4⟩
      have c4 := cell_grown c2 hg4 (by simp)
      have hb4 : Bl w w4 := bl_grown hbl hg4 (fun j e => by injection e with e; rw [← e, HX.out]; exact Nat.le_succ _)
      clear cS hr1 c1 c2 hbl hg4
      go_wp2
      go_ret
      exact ⟨X + 1, rfl, by rw [HX.out]; exact Nat.le_succ _, hb4, L, hr4, hL⟩
set_option maxRecDepth 10000 in
theorem refAlike_at (a b : ByteArray) (w : World) (ha : a.size ≤ 4000) (hb : b.size ≤ 4000) :
    Calls Tryz.prog 35 #[.string a, .string b] w fun e w' => e = .returned (.int .i64 ((alk a b : Nat) : Int)) ∧ Dr w w' := by
  have HA : Hid (∀ k, IsAl a b k → k = alk a b) := fun k h => h.same (alk_is a b)
  go_enter Tryz.func35, Tryz.ntmps35
  go_wp2
  go_loopw [5] (fun i wr => ∃ k : Nat, k ≤ a.size ∧ k ≤ b.size ∧ i = .int .i64 (k : Int) ∧ Hid (∀ t, t < k → sb a t = sb b t) ∧ Dr w wr) (fun i _ => a.size - (intOf i).toNat)
  case atStart => exact ⟨0, Nat.zero_le _, Nat.zero_le _, rfl, fun t ht => absurd ht (Nat.not_lt_zero _), Dr.refl _⟩
  case round =>
    obtain ⟨k, hka, hkb, rfl, HT, hd⟩ := hrel
    obtain ⟨q, rfl⟩ := hd
    generalize hwq : w.drewN q = wq
    have HW : Hid (w.drewN q = wq) := hwq
    clear hwq
    by_cases h1 : k < a.size
    · have d1 : decide ((k : Int) < (a.size : Int)) = true := decide_eq_true (by omega)
      by_cases h2 : k < b.size
      · have d2 : decide ((k : Int) < (b.size : Int)) = true := decide_eq_true (by omega)
        have e1 : (((a[k]'h1).toNat : Nat) : Int) = sb a k := (sb_get a k h1).symm
        have e2 : (((b[k]'h2).toNat : Nat) : Int) = sb b k := (sb_get b k h2).symm
        by_cases h3 : sb a k = sb b k
        · have d3 : (sb a k == sb b k) = true := by rw [beq_iff_eq]; exact h3
          have HT2 : Hid (∀ t, t < k + 1 → sb a t = sb b t) := fun t ht => by
            rcases Nat.lt_or_ge t k with h | h
            · exact HT.out t h
            · obtain rfl : t = k := by omega
              exact h3
          clear h3
          go_wp2
          go_quiet (fail)
          go_wp2
          go_roundw
          case rel => exact ⟨k + 1, h1, h2, by go_num, HT2, by rw [← HW.out]; exact Dr.drewN _ ⟨q, rfl⟩⟩
          case measure => simp [intOf]; omega
        · have d3 : (sb a k == sb b k) = false := by rw [beq_eq_false_iff_ne]; exact h3
          have H3 : Hid (sb a k ≠ sb b k) := h3
          clear h3
          go_wp2
          go_quiet (fail)
          go_wp2
          go_ret
          exact ⟨ret_int (by rw [HA.out k ⟨hka, hkb, HT.out, fun _ _ => H3.out⟩]), by rw [← HW.out]; exact Dr.drewN _ ⟨q, rfl⟩⟩
      · have d2 : decide ((k : Int) < (b.size : Int)) = false := decide_eq_false (by omega)
        go_wp2
        go_quiet (fail)
        go_wp2
        go_ret
        exact ⟨ret_int (by rw [HA.out k ⟨hka, hkb, HT.out, fun _ h => absurd h h2⟩]), by rw [← HW.out]; exact Dr.drewN _ ⟨q, rfl⟩⟩
    · have d1 : decide ((k : Int) < (a.size : Int)) = false := decide_eq_false (by omega)
      go_wp2
      go_quiet (fail)
      go_wp2
      go_ret
      exact ⟨ret_int (by rw [HA.out k ⟨hka, hkb, HT.out, fun h _ => absurd h h1⟩]), by rw [← HW.out]; exact Dr.drewN _ ⟨q, rfl⟩⟩
set_option maxRecDepth 10000 in
theorem refCommon_at (s : ByteArray) (w : World) (hs : s.size ≤ 4000) :
    Calls Tryz.prog 14 #[.string s] w fun e w' => ∃ C, e = .returned (.slice (some ⟨C, 0, none⟩) s.size s.size) ∧ w.heap.size ≤ C ∧ Bl w w' ∧ ∃ L, RowI w' C (com (gs s) s.size L) ∧ IsSort (gs s) s.size L := by
  have hmk := fun w => run_make_row' (P := Tryz.prog) 22 3 (.int .i64 0) 8 Tryz.underlying22 infoI rfl .i64 .i64 s.size (by omega) (by omega) w
  go_enter Tryz.func14, Tryz.ntmps14
  go_wp2_with (fail)
  refine (refSort_at s w hs).mono ?_
  rintro e w1 ⟨A, rfl, hA, hb1, L, hr1, hL⟩
  obtain ⟨C, hC⟩ : ∃ C, C = w1.heap.size := ⟨_, rfl⟩
  obtain ⟨W, hW⟩ : ∃ W, W = w1.alloc (.cells (madeCells #[.int .i64 0] s.size) 3) := ⟨_, rfl⟩
  have h1 : RowI W C (fil (fun k => ((cm (gs s) s.size L k : Nat) : Int)) s.size 1) := by
    rw [← fil_skip _ _ 0 (by simp [cm]), fil_zero, hW, hC]
    exact RowI.made w1 s.size
  have hb : Bl w1 W := by rw [hW]; exact (Bl.refl _).alloc _
  have HW : Hid (W = w1.alloc (.cells (madeCells #[.int .i64 0] s.size) 3)) := hW
  have HC : Hid (C = w1.heap.size) := hC
  have H : Hid (RowI W C (fil (fun k => ((cm (gs s) s.size L k : Nat) : Int)) s.size 1) ∧ Bl w1 W) := ⟨h1, hb⟩
  have HR : Hid (RowI w1 A (ints L)) := hr1
  have HL : Hid (IsSort (gs s) s.size L) := hL
  clear hW hC h1 hb hr1 hL
  go_wp2
  rw [← HW.out, ← HC.out]
  go_loopw [5] (fun i wr => ∃ k : Nat, 1 ≤ k ∧ (k ≤ s.size ∨ k = 1) ∧ i = .int .i64 (k : Int) ∧ RowI wr C (fil (fun k => ((cm (gs s) s.size L k : Nat) : Int)) s.size k) ∧ Bl w1 wr) (fun i _ => s.size - (intOf i).toNat)
  case atStart => exact ⟨1, Nat.le_refl _, Or.inr rfl, rfl, H.out⟩
  case round =>
    obtain ⟨k, hk1, hk, rfl, hr, hbl⟩ := hrel
    by_cases hlt : k < s.size
    · have hlz : (k : Int) < (s.size : Int) := by omega
      obtain ⟨j, hj⟩ : ∃ j, k = j + 1 := ⟨k - 1, by omega⟩
      have hrA := HR.out.step hbl
      have d1 := hrA.cell (j := j) (by rw [ints_len, HL.out.len]; omega)
      have d2 := hrA.cell (j := k) (by rw [ints_len, HL.out.len]; exact hlt)
      rw [sx.ints_at] at d1 d2
      have c1 := hr.cell (j := k) (by rw [fil_len]; exact hlt)
      have f1 := hr.frozen k
      have hpN := HL.out.lt_N j (by omega)
      have haN := HL.out.lt_N k hlt
      have hci := cm_is (k := j) (gs_tx s) HL.out (by omega)
      have hne : L.getD j 0 ≠ L.getD k 0 := fun e => by have := HL.out.inj (by omega) hlt e; omega
      rw [← hj] at hci
      obtain ⟨p, hp⟩ : ∃ p, p = L.getD j 0 := ⟨_, rfl⟩
      obtain ⟨a, ha⟩ : ∃ a, a = L.getD k 0 := ⟨_, rfl⟩
      rw [← hp] at d1 hpN hci hne
      rw [← ha] at d2 haN hci hne
      obtain ⟨h1, h2, h3, h4⟩ := alk_is (s.extract p s.size) (s.extract a s.size)
      have hal := lc_of s p a 0 _ hpN haN hne (Eqm.zero _ _ _) h1 h2 h3 h4
      rw [Nat.zero_add] at hal
      have hcm : alk (s.extract p s.size) (s.extract a s.size) = cm (gs s) s.size L k := hal.same hci
      have cA := fun w => refAlike_at (s.extract p s.size) (s.extract a s.size) w (by rw [size_end]; omega) (by rw [size_end]; omega)
      rw [hcm] at cA
      have cA2 : ∀ w, Calls Tryz.prog 35 #[.string (s.extract p s.size), .string (s.extract a s.size)] w fun e w' => e = .returned (.int .i64 ((cm (gs s) s.size L k : Nat) : Int)) ∧ ∃ q, w' = w.drewN q := fun w => cA w
      clear cA
      have hle : cm (gs s) s.size L k ≤ 4000 := by have := cm_le (gs_tx s) HL.out hlt; omega
      have hset := hr.set k ((cm (gs s) s.size L k : Nat) : Int)
      rw [fil_set (fun k => ((cm (gs s) s.size L k : Nat) : Int)) s.size k] at hset
      generalize cm (gs s) s.size L k = m at cA2 hle hset
      generalize (fil (fun k => ((cm (gs s) s.size L k : Nat) : Int)) s.size k).getD k 0 = y at c1
      have HS : Hid (RowI (wr.setCell ⟨C, k, none⟩ (.int .i64 (m : Int))) C (fil (fun k => ((cm (gs s) s.size L k : Nat) : Int)) s.size (k + 1))) := hset
      have hB : Bl w1 (wr.setCell ⟨C, k, none⟩ (.int .i64 (m : Int))) := hbl.setCell (by rw [HC.out]; exact Nat.le_refl _) _
      have i2 : (k : Int) - 1 = (j : Int) := by omega
      have i3 : IntKind.i64.wrap (j : Int) = (j : Int) := by rw [IntKind.wrap_i64]; omega
      have i4 : 0 ≤ (j : Int) ∧ (j : Int) < (s.size : Int) := by omega
      have i5 : 0 ≤ (k : Int) ∧ (k : Int) < (s.size : Int) := by omega
      clear hset hr hrA h1 h2 h3 h4 hal hci hne hcm hp ha hj
      have i6 : p ≤ s.size := by omega
      have i7 : a ≤ s.size := by omega
      have hCA : C ≠ A := by have := HR.out.lt; have := HC.out; omega
      go_wp2
      go_region_held3 (fun w' => w'.cell? ⟨A, j, none⟩ = some (.int .i64 (p : Int)) ∧ w'.cell? ⟨A, k, none⟩ = some (.int .i64 (a : Int))) (go_keep) (first | (go_at_call 35; with_reducible refine (cA2 _).mono ?_; rintro e w3 ⟨rfl, q, rfl⟩))
      go_wp2
      go_roundw
      case rel => exact ⟨k + 1, by omega, Or.inl hlt, by go_num, HS.out, hB.drewN _⟩
      case measure => simp [intOf]; omega
    · have hnl : ¬ ((k : Int) < (s.size : Int)) := by omega
      have hall : fil (fun k => ((cm (gs s) s.size L k : Nat) : Int)) s.size k = com (gs s) s.size L := by
        rcases Nat.lt_or_ge s.size 1 with h | h
        · have h0 : s.size = 0 := by omega
          simp [fil, com, h0]
        · have : k = s.size := by omega
          rw [this, fil_all]; rfl
      rw [hall] at hr
      clear hall
      go_wp2
      go_ret
      exact ⟨C, rfl, by have := HC.out; have := hb1.size; omega, hb1.trans hbl, L, hr, HL.out⟩
end Go.Proofs.YtnhdaolieifhnaaGreatDoor.sx
