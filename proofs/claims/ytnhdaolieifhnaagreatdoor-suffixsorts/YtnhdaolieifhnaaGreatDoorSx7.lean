/- What Common and Parts of package suffix answer. -/
import Derived.Test.YtnhdaolieifhnaaGreatDoorSx6
namespace Go.Proofs.YtnhdaolieifhnaaGreatDoor.sx
set_option linter.unusedVariables false
open Go.ChangeShapes Go.WideShapes Go.ChangeAt Go.RowKit
open mem rows fd

/-- The first k of the ends in order are told where they stand. -/
def Wh (L : List Nat) (N k : Nat) (ws : List Int) : Prop := ws.length = N ∧ ∀ j, j < k → ws.getD (L.getD j 0) 0 = (j : Int)
theorem Wh.next {g : Nat → Int} {L : List Nat} {N k : Nat} {ws : List Int} (h : Wh L N k ws) (hp : IsSort g N L) (hk : k < N) : Wh L N (k + 1) (ws.set (L.getD k 0) (k : Int)) := by
  refine ⟨by rw [List.length_set]; exact h.1, fun j hj => ?_⟩
  rcases Nat.lt_or_ge j k with h1 | h1
  · have hne : L.getD k 0 ≠ L.getD j 0 := fun e => by
      have := hp.inj hk (by omega) e
      omega
    rw [List.getD_eq_getElem?_getD, List.getElem?_set_ne hne, ← List.getD_eq_getElem?_getD]
    exact h.2 j h1
  · obtain rfl : j = k := by omega
    rw [List.getD_eq_getElem?_getD, List.getElem?_set_self (by rw [h.1]; exact hp.lt_N _ hk)]
    rfl
theorem size_end (s : ByteArray) (i : Nat) : (s.extract i s.size).size = s.size - i := by
  rw [ByteArray.size_extract]; omega
theorem sb_end (s : ByteArray) (i t : Nat) (h : i + t < s.size) : sb (s.extract i s.size) t = sb s (i + t) := by
  have h1 : t < (s.extract i s.size).size := by rw [size_end]; omega
  rw [sb_get _ _ h1, sb_get _ _ h, ByteArray.getElem_extract]
theorem gs_end (s : ByteArray) (i t : Nat) : gs s (i + t) = if t < (s.extract i s.size).size then sb (s.extract i s.size) t + 1 else 0 := by
  rw [size_end]
  unfold gs
  by_cases h : i + t < s.size
  · rw [if_pos h, if_pos (by omega), sb_end s i t h]
  · rw [if_neg h, if_neg (by omega)]
/-- What two ends begin alike with, beyond n bytes that are known. -/
theorem lc_of (s : ByteArray) (i j n a : Nat) (hi : i < s.size) (hj : j < s.size) (hne : i ≠ j) (he : Eqm (gs s) n i j) (h1 : a ≤ (s.extract (i + n) s.size).size) (h2 : a ≤ (s.extract (j + n) s.size).size)
    (h3 : ∀ t, t < a → sb (s.extract (i + n) s.size) t = sb (s.extract (j + n) s.size) t) (h4 : a < (s.extract (i + n) s.size).size → a < (s.extract (j + n) s.size).size → sb (s.extract (i + n) s.size) a ≠ sb (s.extract (j + n) s.size) a) :
    IsLc (gs s) i j (n + a) := by
  obtain ⟨b1, b2⟩ := (gs_tx s).short hi hj hne he
  constructor
  · rw [Eqm.add]
    refine ⟨he, fun t ht => ?_⟩
    rw [gs_end, gs_end, if_pos (by omega), if_pos (by omega), h3 t ht]
  · rw [← Nat.add_assoc, ← Nat.add_assoc, gs_end, gs_end]
    rw [size_end] at h1 h2
    by_cases c1 : a < (s.extract (i + n) s.size).size
    · by_cases c2 : a < (s.extract (j + n) s.size).size
      · rw [if_pos c1, if_pos c2]
        have := h4 c1 c2
        omega
      · rw [if_pos c1, if_neg c2]
        have := sb_bd (s.extract (i + n) s.size) a
        omega
    · by_cases c2 : a < (s.extract (j + n) s.size).size
      · rw [if_neg c1, if_pos c2]
        have := sb_bd (s.extract (j + n) s.size) a
        omega
      · rw [size_end] at c1 c2
        omega
set_option maxRecDepth 10000 in
theorem common_at (s : ByteArray) (v : Value) (L : List Nat) (w : World) (hs : s.size ≤ 4000) (hv : View w v (ints L)) (hL : IsSort (gs s) s.size L) :
    Calls Tryz.prog 22 #[.string s, v] w fun e w' => ∃ C, e = .returned (.slice (some ⟨C, 0, none⟩) s.size s.size) ∧ w.heap.size ≤ C ∧ RowI w' C (com (gs s) s.size L) ∧ Bl w w' := by
  obtain ⟨p, c, rfl, hq⟩ := hv
  rw [ints_len, hL.len]
  have HP : Hid (In w p (ints L)) := hq
  have HL : Hid (IsSort (gs s) s.size L) := hL
  have hmk := fun w => run_make_row' (P := Tryz.prog) 22 3 (.int .i64 0) 8 Tryz.underlying22 infoI rfl .i64 .i64 s.size (by omega) (by omega) w
  obtain ⟨R, hR⟩ : ∃ R, R = w.heap.size := ⟨_, rfl⟩
  obtain ⟨W, hW⟩ : ∃ W, W = w.alloc (.cells (madeCells #[.int .i64 0] s.size) 3) := ⟨_, rfl⟩
  have h1 : RowI W R (List.replicate s.size 0) := by rw [hW, hR]; exact RowI.made w s.size
  have hb : Bl w W := by rw [hW]; exact (Bl.refl w).alloc _
  have HW : Hid (W = w.alloc (.cells (madeCells #[.int .i64 0] s.size) 3)) := hW
  have HR : Hid (R = w.heap.size) := hR
  have H : Hid (RowI W R (List.replicate s.size 0) ∧ Bl w W) := ⟨h1, hb⟩
  clear hW hR h1 hb hq hL
  go_enter Tryz.func22, Tryz.ntmps22
  go_wp2
  rw [← HW.out, ← HR.out]
  go_loopw [17] (fun i wr => ∃ (k : Nat) (ws : List Int), k ≤ s.size ∧ i = .int .i64 (k : Int) ∧ RowI wr R ws ∧ Wh L s.size k ws ∧ Bl w wr) (fun i _ => s.size - (intOf i).toNat)
  case atStart => exact ⟨0, _, Nat.zero_le _, rfl, H.out.1, ⟨by simp, fun j hj => absurd hj (Nat.not_lt_zero _)⟩, H.out.2⟩
  case round =>
    obtain ⟨k, ws, hk, rfl, hr1, hws, hbl⟩ := hrel
    by_cases hlt : k < s.size
    · have hlz : (k : Int) < (s.size : Int) := by omega
      obtain ⟨x, rfl, cx⟩ := (HP.out.step hbl).at k (by rw [ints_len, HL.out.len]; exact hlt)
      rw [ints_at] at cx
      have hLk := HL.out.lt_N k hlt
      have hnx := hws.next HL.out hlt
      obtain ⟨a, ha⟩ : ∃ a, a = L.getD k 0 := ⟨_, rfl⟩
      rw [← ha] at cx hLk hnx
      have hf := hr1.frozen a
      have hc := hr1.cell (j := a) (by rw [hws.1]; exact hLk)
      have HS : Hid (RowI (wr.setCell ⟨R, a, none⟩ (.int .i64 (k : Int))) R (ws.set a (k : Int))) := hr1.set a (k : Int)
      have HN : Hid (Wh L s.size (k + 1) (ws.set a (k : Int))) := hnx
      have hB : Bl w (wr.setCell ⟨R, a, none⟩ (.int .i64 (k : Int))) := hbl.setCell (by rw [HR.out]; exact Nat.le_refl _) _
      have ia : 0 ≤ (a : Int) ∧ (a : Int) < (s.size : Int) := by omega
      generalize ws.getD a 0 = y at hc
      clear hnx hr1 hws ha
      go_wp2
      go_roundw
      case rel => exact ⟨k + 1, _, hlt, by go_num, HS.out, HN.out, hB⟩
      case measure => simp [intOf]; omega
    · have hnl : ¬ ((k : Int) < (s.size : Int)) := by omega
      have hke : k = s.size := by omega
      have HWs : Hid (RowI wr R ws ∧ Wh L s.size s.size ws ∧ Bl w wr) := ⟨hr1, ⟨hws.1, fun j hj => hws.2 j (by omega)⟩, hbl⟩
      clear hke hr1 hws hbl
      rename World => wv
      obtain ⟨C, hC⟩ : ∃ C, C = wv.heap.size := ⟨_, rfl⟩
      obtain ⟨V, hV⟩ : ∃ V, V = wv.alloc (.cells (madeCells #[.int .i64 0] s.size) 3) := ⟨_, rfl⟩
      have g1 : RowI V C (comz (gs s) s.size L 0) := by rw [hV, hC, comz_zero]; exact RowI.made wv s.size
      have gb : Bl wv V := by rw [hV]; exact (Bl.refl wv).alloc _
      have HV : Hid (V = wv.alloc (.cells (madeCells #[.int .i64 0] s.size) 3)) := hV
      have HC : Hid (C = wv.heap.size) := hC
      have G : Hid (RowI V C (comz (gs s) s.size L 0) ∧ Bl wv V) := ⟨g1, gb⟩
      clear hV hC g1 gb
      go_wp2
      rw [← HV.out, ← HC.out]
      go_loopw [9, 32] (fun nv i wr => ∃ (a n : Nat), a ≤ s.size ∧ i = .int .i64 (a : Int) ∧ nv = .int .i64 (n : Int) ∧ n ≤ s.size ∧ RowI wr C (comz (gs s) s.size L a) ∧ Ks (gs s) s.size a n ∧ Bl wv wr) (fun _ i _ => s.size - (intOf i).toNat)
      case atStart => exact ⟨0, 0, Nat.zero_le _, rfl, rfl, Nat.zero_le _, G.out.1, Or.inl rfl, G.out.2⟩
      case round =>
        obtain ⟨a, n, ha, rfl, rfl, hn, hr, hks, hbl⟩ := hrel
        by_cases hat : a < s.size
        · have hlz : (a : Int) < (s.size : Int) := by omega
          obtain ⟨k, hkN, hka⟩ := HL.out.at a hat
          have hcw := (HWs.out.1.step hbl).cell (j := a) (by rw [HWs.out.2.1.1]; exact hat)
          have hwk := HWs.out.2.1.2 k hkN
          rw [hka] at hwk
          rw [hwk] at hcw
          clear hwk
          rcases Nat.eq_zero_or_pos k with h0 | h0
          · have i1 : ((k : Int) == 0) = true := by rw [beq_iff_eq]; omega
            subst h0
            have hn0 := hks.first HL.out (by omega) hka
            have HC1 : Hid (comz (gs s) s.size L a = comz (gs s) s.size L (a + 1)) := comz_first HL.out (by omega) hka
            have HN0 : Hid (n = 0) := hn0
            clear hn0 hks hka
            go_wp2
            go_roundw
            case rel => exact ⟨a + 1, n, hat, by go_num, rfl, hn, by rw [← HC1.out]; exact hr, Or.inl HN0.out, hbl⟩
            case measure => simp [intOf]; omega
          · obtain ⟨j, hj⟩ : ∃ j, k = j + 1 := ⟨k - 1, by omega⟩
            obtain ⟨x, rfl, cx⟩ := (HP.out.step (HWs.out.2.2.trans hbl)).at j (by rw [ints_len, HL.out.len]; omega)
            rw [ints_at] at cx
            have hpN := HL.out.lt_N j (by omega)
            have hpr := hks.pred (k := j) HL.out (by omega) (by rw [← hj]; exact hka)
            have hci := cm_is (k := j) (gs_tx s) HL.out (by omega)
            have hne : L.getD j 0 ≠ a := fun e => by have := HL.out.inj (by omega) hkN (e.trans hka.symm); omega
            have hkn := Ks.next (k := j) (a := a) (gs_tx s) HL.out (by omega) (by rw [← hj]; exact hka)
            have hst := comz_set HL.out hkN hka
            rw [← hj] at hci hkn
            rw [hka] at hci
            obtain ⟨q, hq⟩ : ∃ q, q = L.getD j 0 := ⟨_, rfl⟩
            rw [← hq] at cx hpN hpr hci hne
            obtain ⟨b1, b2⟩ := (gs_tx s).short hpN hat hne hpr
            obtain ⟨h1, h2, h3, h4⟩ := alk_is (s.extract (a + n) s.size) (s.extract (q + n) s.size)
            have hal := lc_of s a q n _ hat hpN (fun e => hne e.symm) hpr.symm h1 h2 h3 h4
            have hcm : n + alk (s.extract (a + n) s.size) (s.extract (q + n) s.size) = cm (gs s) s.size L k := IsLc.same hal ⟨hci.1.symm, fun e => hci.2 e.symm⟩
            have cA := fun w => alike_at (s.extract (a + n) s.size) (s.extract (q + n) s.size) w (by rw [size_end]; omega) (by rw [size_end]; omega)
            have hle := (gs_tx s).short hpN hat hne hci.1
            clear h1 h2 h3 h4 hal hci hpr hks hka
            generalize alk (s.extract (a + n) s.size) (s.extract (q + n) s.size) = z at *
            generalize cm (gs s) s.size L k = m at *
            have hcell := hr.cell (j := k) (by rw [comz_len]; exact hkN)
            have hfz := hr.frozen k
            have hset := hr.set k (m : Int)
            rw [hst] at hset
            have hB : Bl wv (wr.setCell ⟨C, k, none⟩ (.int .i64 (m : Int))) := hbl.setCell (by rw [HC.out]; exact Nat.le_refl _) _
            have i1 : ((k : Int) == 0) = false := by rw [beq_eq_false_iff_ne]; omega
            have i2 : (k : Int) - 1 = (j : Int) := by omega
            have i3 : IntKind.i64.wrap (j : Int) = (j : Int) := by rw [IntKind.wrap_i64]; omega
            have i4 : 0 ≤ (j : Int) ∧ (j : Int) < (s.size : Int) := by omega
            obtain ⟨P1, hP1⟩ : ∃ P1, P1 = a + n := ⟨_, rfl⟩
            obtain ⟨P2, hP2⟩ : ∃ P2, P2 = q + n := ⟨_, rfl⟩
            have i5 : (a : Int) + (n : Int) = (P1 : Int) := by omega
            have i6 : (q : Int) + (n : Int) = (P2 : Int) := by omega
            have i8 : P1 ≤ s.size := by omega
            have i9 : P2 ≤ s.size := by omega
            rw [← hP1, ← hP2] at cA
            have j1 : IntKind.i64.wrap (P1 : Int) = (P1 : Int) := by rw [IntKind.wrap_i64]; omega
            have j2 : IntKind.i64.wrap (P2 : Int) = (P2 : Int) := by rw [IntKind.wrap_i64]; omega
            have j3 : IntKind.i64.wrap (m : Int) = (m : Int) := by rw [IntKind.wrap_i64]; omega
            have i7 : (n : Int) + (z : Int) = (m : Int) := by omega
            have HS : Hid (RowI (wr.setCell ⟨C, k, none⟩ (.int .i64 (m : Int))) C (comz (gs s) s.size L (a + 1))) := hset
            have HK : Hid (Ks (gs s) s.size (a + 1) (m - 1)) := hkn
            generalize (comz (gs s) s.size L a).getD k 0 = y at hcell
            clear hset hkn hst hr hj hq hne hP1 hP2 hcm
            go_wp2
            go_quiet ((go_at_call 39; exact Calls.quiet_of (cA _)))
            go_wp2
            go_roundw
            case rel => exact ⟨a + 1, m - 1, hat, by go_num, by rw [show max ((m : Int) - 1) 0 = ((m - 1 : Nat) : Int) by omega], by omega, HS.out, HK.out, hB.drewN nq⟩
            case measure => simp [intOf]; omega
        · have hnl : ¬ ((a : Int) < (s.size : Int)) := by omega
          have HA : Hid (a = s.size) := by unfold Hid; omega
          go_wp2
          go_ret
          rw [HA.out, comz_all HL.out] at hr
          exact ⟨C, rfl, by have := HC.out; have := HWs.out.2.2.size; omega, hr, HWs.out.2.2.trans hbl⟩
theorem Common_at (s : ByteArray) (w : World) (hs : s.size ≤ 4000) :
    Calls Tryz.prog 5 #[.string s] w fun e w' => ∃ C, e = .returned (.tuple #[.slice (some ⟨C, 0, none⟩) s.size s.size, .nilIface]) ∧ w.heap.size ≤ C ∧ Bl w w' ∧ ∃ L, RowI w' C (com (gs s) s.size L) ∧ IsSort (gs s) s.size L := by
  have cS := Sort_at s w hs
  go_enter Tryz.func5, Tryz.ntmps5
  go_wp2_with (fail)
  refine cS.mono ?_
  rintro e w1 ⟨A, rfl, hA, hb1, L, hr1, hL⟩
  have hv := hr1.view s.size
  rw [ints_len, hL.len] at hv
  have cC := common_at s _ L w1 hs hv hL
  clear cS hv
  go_wp2_with (fail)
  refine cC.mono ?_
  rintro e w2 ⟨C, rfl, hC, hr2, hb2⟩
  clear cC
  go_wp2
  go_ret2
  exact ⟨C, rfl, by have := hb1.size; omega, hb1.trans hb2, L, hr2, hL⟩
/-- The first k of some numbers together. -/
def sumTo (l : List Int) (k : Nat) : Int := (l.take k).sum
theorem sumTo_next (l : List Int) (k : Nat) (h : k < l.length) : sumTo l (k + 1) = sumTo l k + l.getD k 0 := by
  unfold sumTo
  rw [List.take_add_one, List.sum_append]
  simp [h]
theorem sumTo_all (l : List Int) (k : Nat) (h : l.length = k) : sumTo l k = l.sum := by
  unfold sumTo
  rw [← h, List.take_length]
theorem sumTo_bd (l : List Int) (c : Int) (hc : 0 ≤ c) (h : ∀ x, x ∈ l → 0 ≤ x ∧ x ≤ c) (k : Nat) : 0 ≤ sumTo l k ∧ sumTo l k ≤ c * k := by
  induction k with
  | zero => simp [sumTo]
  | succ k ih =>
    by_cases hk : k < l.length
    · rw [sumTo_next l k hk]
      have := h (l.getD k 0) (by simp [hk])
      rw [Int.natCast_add, Int.mul_add]
      omega
    · have : sumTo l (k + 1) = sumTo l k := by
        unfold sumTo
        rw [List.take_of_length_le (by omega), List.take_of_length_le (by omega)]
      rw [this, Int.natCast_add, Int.mul_add]
      omega
theorem com_bd (g : Nat → Int) (N : Nat) (L : List Nat) (x : Int) (h : x ∈ com g N L) : 0 ≤ x ∧ x ≤ N := by
  obtain ⟨k, hk, rfl⟩ := List.mem_map.1 h
  have : cm g N L k ≤ N := by
    unfold cm
    split
    · omega
    · exact lcF_le _ _ _ _
  omega
theorem half (N : Nat) (h : N ≤ 4000) : (N : Int) * ((N : Int) + 1) / 2 = ((N * (N + 1) / 2 : Nat) : Int) ∧ N * (N + 1) / 2 ≤ 20000000 ∧ 0 ≤ (N : Int) * ((N : Int) + 1) ∧ (N : Int) * ((N : Int) + 1) ≤ 40000000 := by
  have h1 : N * (N + 1) ≤ 4000 * 4001 := Nat.mul_le_mul h (by omega)
  have e : (N : Int) * ((N : Int) + 1) = ((N * (N + 1) : Nat) : Int) := by rw [Int.natCast_mul]; rfl
  rw [e]
  generalize N * (N + 1) = M at *
  omega
set_option maxRecDepth 10000 in
theorem Parts_at (s : ByteArray) (w : World) (hs : s.size ≤ 4000) :
    Calls Tryz.prog 8 #[.string s] w fun e w' => ∃ n : Nat, e = .returned (.tuple #[.int .i64 (n : Int), .nilIface]) ∧ Bl w w' ∧ ∃ L, IsSort (gs s) s.size L ∧ n = (prt (gs s) s.size L).length := by
  have cC := Common_at s w hs
  obtain ⟨e1, e2, e3, e4⟩ := half s.size hs
  obtain ⟨M, hM⟩ : ∃ M, M = s.size * (s.size + 1) / 2 := ⟨_, rfl⟩
  obtain ⟨Q, hQ⟩ : ∃ Q : Int, Q = (s.size : Int) * ((s.size : Int) + 1) := ⟨_, rfl⟩
  rw [← hM, ← hQ] at e1
  rw [← hQ] at e3 e4
  rw [← hM] at e2
  have d1 : (s.size : Int) * ((s.size : Int) + 1) = Q := hQ.symm
  have d2 : Q / 2 = (M : Int) := e1
  have HM : Hid (M = s.size * (s.size + 1) / 2) := hM
  clear hM hQ e1
  go_enter Tryz.func8, Tryz.ntmps8
  go_wp2_with (fail)
  refine cC.mono ?_
  rintro e w1 ⟨C, rfl, hC, hb1, L, hr1, hL⟩
  clear cC
  have hbd := sumTo_bd (com (gs s) s.size L) s.size (by omega) (com_bd _ _ _)
  have HR : Hid (RowI w1 C (com (gs s) s.size L)) := hr1
  have HL : Hid (IsSort (gs s) s.size L) := hL
  have HB : Hid (∀ k : Nat, k ≤ s.size → 0 ≤ sumTo (com (gs s) s.size L) k ∧ sumTo (com (gs s) s.size L) k ≤ 16000000) := fun k hk => by
    have h1 := hbd k
    have h2 : s.size * k ≤ 4000 * 4000 := Nat.mul_le_mul hs (by omega)
    have h3 : (s.size : Int) * (k : Int) = ((s.size * k : Nat) : Int) := by rw [Int.natCast_mul]
    omega
  clear hr1 hL hbd
  go_wp2
  go_loop [6, 26] (fun pv i => ∃ k : Nat, k ≤ s.size ∧ i = .int .i64 (k : Int) ∧ pv = .int .i64 ((M : Int) - sumTo (com (gs s) s.size L) k)) (fun _ i => s.size - (intOf i).toNat)
  case atStart => exact ⟨0, Nat.zero_le _, rfl, by rw [show sumTo (com (gs s) s.size L) 0 = 0 from rfl, Int.sub_zero, d2]⟩
  case round =>
    obtain ⟨k, hk, rfl, rfl⟩ := hrel
    by_cases hlt : k < s.size
    · have hlz : (k : Int) < (s.size : Int) := by omega
      have hc := HR.out.cell (j := k) (by rw [com_len]; exact hlt)
      have hnx := sumTo_next (com (gs s) s.size L) k (by rw [com_len]; exact hlt)
      have b1 := HB.out k hk
      have b2 := HB.out (k + 1) hlt
      generalize (com (gs s) s.size L).getD k 0 = z at *
      generalize sumTo (com (gs s) s.size L) k = S at *
      obtain ⟨S', hS'⟩ : ∃ S', S' = sumTo (com (gs s) s.size L) (k + 1) := ⟨_, rfl⟩
      rw [← hS'] at b2 hnx
      have HS : Hid (S' = sumTo (com (gs s) s.size L) (k + 1)) := hS'
      clear hS'
      have b3 : (M : Int) - S - z = (M : Int) - S' := by omega
      clear hnx
      go_wp2
      go_round
      case rel => exact ⟨k + 1, hlt, by go_num, by rw [HS.out]⟩
      case measure => simp [intOf]; omega
    · have hnl : ¬ ((k : Int) < (s.size : Int)) := by omega
      have HK : Hid (k = s.size) := by unfold Hid; omega
      go_wp2
      go_ret2
      refine ⟨(prt (gs s) s.size L).length, ?_, hb1, L, HL.out, rfl⟩
      rw [HK.out, sumTo_all _ _ (com_len _ _ _), HM.out, len_prt (gs_tx s) HL.out]
      rfl
end Go.Proofs.YtnhdaolieifhnaaGreatDoor.sx
