/- Texts laid together: Hh3, Hi2. -/
import Derived.Test.YtkldnapbeebdkaaDoorZ19
import Derived.Test.YtkldnapbeebdkaaDoorZ4
/- A row of bytes that grows, and what Pack answers. -/
namespace Go.Proofs.YtkldnapbeebdkaaDoor.hh
set_option linter.unusedVariables false
open Go.ChangeShapes Go.WideShapes Go.ChangeAt Go.RowKit
open mem rows bit hf hg
/-- A row of the call's own that holds just these bytes. -/
def BOwn (w : World) (base : Nat) (v : Value) (l : List Int) : Prop := w.ownsRow base 5 1 v l.length (l.map (Value.int .u8))
theorem BOwn.block {w : World} {base : Nat} {v : Value} {l : List Int} (h : BOwn w base v l) : ∀ k, v.ownBlock = some k → base ≤ k ∧ k < w.heap.size := World.ownsRow.lt h
theorem BOwn.step {w w' : World} {base : Nat} {v : Value} {l : List Int} (h : BOwn w base v l) (hb : Bl w w') : BOwn w' base v l := by
  refine ⟨h.1, ?_⟩
  rcases h.2 with h | ⟨g, cap, cur, h1, h2, h3, h4⟩
  · exact Or.inl h
  · refine Or.inr ⟨g, cap, cur, h1, h2, ?_, h4⟩
    have hg : g < w.heap.size := by
      rcases Nat.lt_or_ge g w.heap.size with h | h
      · exact h
      · rw [Array.getElem?_eq_none h] at h3; cases h3
    rw [Below.block hb g hg]
    exact h3
theorem BOwn.set_other {w : World} {base : Nat} {v : Value} {l : List Int} (h : BOwn w base v l) {a : Addr} (ha : ∀ k, v.ownBlock = some k → a.block ≠ k) (x : Value) : BOwn (w.setCell a x) base v l := by
  refine ⟨h.1, ?_⟩
  rcases h.2 with h | ⟨g, cap, cur, h1, h2, h3, h4⟩
  · exact Or.inl h
  · refine Or.inr ⟨g, cap, cur, h1, h2, ?_, h4⟩
    have hne : ¬ a.block = g := ha g (by rw [h1]; rfl)
    simp [World.setCell, Array.getElem?_modify, hne, h3]
/-- Its text. -/
theorem BOwn.text {w : World} {base : Nat} {v : Value} {l : List Int} (h : BOwn w base v l) : (convert 66 9 v).run Tryd.prog w = .ok (.string (strOfNums l)) w := by
  rcases h.2 with ⟨rfl, h0⟩ | ⟨g, cap, cur, rfl, _, h3, _, _, hcs, htake⟩
  · have : l = [] := List.eq_nil_of_length_eq_zero h0
    subst this
    show (convert 66 9 (.slice none 0 0)).run Tryd.prog w = .ok (.string (strOfNums [])) w
    kernel_rfl
  · refine run_convert_bytes_arg w 66 5 Tryd.underlying66 Tryd.underlying5 g 0 l.length cap l rfl (fun i hi => ?_) 9 Tryd.underlying9
    have : (l.map (Value.int .u8))[i]? = some (.int .u8 (l.getD i 0)) := by simp [hi]
    rw [← htake, Nat.mul_one, List.getElem?_take, if_pos hi] at this
    simp only [World.cell?, h3, Nat.zero_add]
    simpa using this
theorem info8 : (Tryd.prog.info? 5).map (fun i => (i.zero, i.size, i.bytes)) = some (some (.int .u8 0), 1, 1) := by kernel_rfl
theorem make_cap (c : Nat) (hc : c ≤ 20000) (w : World) : (Instr.makeSlice 66 (.int .i64 0) (.int .i64 (c : Int))).run Tryd.prog w = .ok (.slice (some ⟨w.heap.size, 0, none⟩) 0 c) (w.alloc (.cells (madeCells #[.int .u8 0] c) 5)) := by
  obtain ⟨i0, hi, hz0, hz1, hz2⟩ := info_parts info8
  have h := run_make (P := Tryd.prog) w 66 5 i0 (.int .u8 0) Tryd.underlying66 hi hz0 .i64 .i64 0 (c : Int) (by omega) (by omega) (by rw [hz2]; omega) (by omega)
  rw [h, hz1, Int.toNat_natCast, Nat.mul_one]
  rfl
theorem BOwn.made (w : World) (base c : Nat) (hb : base ≤ w.heap.size) (hc : c ≤ 20000) : BOwn (w.alloc (.cells (madeCells #[.int .u8 0] c) 5)) base (.slice (some ⟨w.heap.size, 0, none⟩) 0 c) [] :=
  World.ownsRow_made w _ c hb (by unfold maxLen; omega) (by rw [← Array.length_toList, toList_madeCells_one]; simp)
theorem app_bytes (w : World) (base : Nat) (v : Value) (l t : List Int) (X n c : Nat) (hown : BOwn w base v l) (hn : n = t.length) (hX : ∀ j, j < t.length → w.cell? ⟨X, j, none⟩ = some (.int .u8 (t.getD j 0))) (hl : l.length + t.length ≤ 30000) (hb : base ≤ w.heap.size) :
    ∃ v' w', (Builtin.append_ #[66, 66] 66 #[v, .slice (some ⟨X, 0, none⟩) n c]).run Tryd.prog w = .ok v' w' ∧ BOwn w' base v' (l ++ t) ∧ w.grownBy w' v.ownBlock := by
  obtain ⟨i0, hi, hz0, hz1, hz2⟩ := info_parts info8
  subst hn
  obtain ⟨v', w', hr, ho, hg, _⟩ := run_append_own (P := Tryd.prog) w base 66 66 5 i0 (.int .u8 0) 1 1 Tryd.underlying66 hi hz0 hz1 hz2 rfl (by decide) v l.length (l.map (Value.int .u8)) hown
    ⟨X, 0, none⟩ t.length c (t.map (Value.int .u8)) (by simp) (fun j u hu => by
      have hj : j < t.length := by have := (List.getElem?_eq_some_iff.1 hu).1; simpa using this
      rw [Addr.add_lit, Nat.zero_add, hX j hj]
      simp [hj] at hu
      rw [← hu]
      simp [hj]) (fun u hu => by obtain ⟨y, _, rfl⟩ := List.mem_map.1 hu; rfl) (by unfold maxLen; omega) (by omega) hb
  refine ⟨v', w', hr, ?_, hg⟩
  unfold BOwn
  rw [List.map_append, List.length_append]
  exact ho
/-- The bytes that Pack writes. -/
def packL (s : ByteArray) : List Int := lensT s ++ [((s.size / 65536 % 256 : Nat) : Int), ((s.size / 256 % 256 : Nat) : Int), ((s.size % 256 : Nat) : Int)] ++ bytesOf (gb (bk (lensT s) (signsT s) s s.size)) true (((bk (lensT s) (signsT s) s s.size).length + 7) / 8)
def packT (s : ByteArray) : ByteArray := strOfNums (packL s)
/-- What Pack answers. -/
theorem Pack_big (s : ByteArray) (w : World) (h : 4000 < s.size) (h63 : s.size ≤ 9223372036854775807) : Calls Tryd.prog 13 #[.string s] w fun e w' => e = .returned (.tuple #[.string ⟨#[]⟩, .iface 23 (.int .i64 4)]) ∧ w' = w := by
  have hz : (4000 : Int) < s.size := by omega
  go_enter Tryd.func13, Tryd.ntmps13
  go_wp2
  go_ret2
  exact ⟨rfl, rfl⟩
theorem sgn_lt {l : List Int} {n x : Nat} (hok : okS l n) (ht : tk l n ≤ 16777216) (hx : x < n) : 0 ≤ sgn l n x ∧ sgn l n x < 16777216 := by
  by_cases ha : 0 < l.getD x 0
  · obtain ⟨a, hA⟩ : ∃ a : Nat, l.getD x 0 = ((a + 1 : Nat) : Int) := ⟨(l.getD x 0).toNat - 1, by omega⟩
    have hxo := hok x hx
    have ex : sgn l n x = ((2 * E l n a + cnt l (a + 1) x : Nat) : Int) := by unfold sgn; rw [if_pos ha, hA]; rfl
    have hE := E_le (l := l) (n := n) (m := a + 1) (by omega) ht
    have h1 : 2 * E l n a + cnt l (a + 1) x + 1 ≤ E l n (a + 1) := by
      rw [E]
      have := cnt_lt (l := l) (m := a + 1) hx hA
      omega
    have h2 : (2 : Nat) ^ (a + 1) ≤ 2 ^ 24 := Nat.pow_le_pow_right (by decide) (by omega)
    have h3 : (2 : Nat) ^ 24 = 16777216 := by decide
    rw [ex]
    generalize (2 : Nat) ^ (a + 1) = q at hE h2
    omega
  · have ex : sgn l n x = 0 := by unfold sgn; rw [if_neg ha]
    rw [ex]
    omega
theorem sgn_bd {s : ByteArray} (hs : s.size ≤ 4000) : ∀ c, c < 256 → 0 ≤ (lensT s).getD c 0 ∧ (lensT s).getD c 0 ≤ 24 ∧ 0 ≤ (signsT s).getD c 0 ∧ (signsT s).getD c 0 < 16777216 := fun c hc => by
  have h := (lensT_facts hs).1 c hc
  have h2 := sgn_lt (lensT_signs hs).1 (lensT_signs hs).2 hc
  have e : (signsT s).getD c 0 = sgn (lensT s) 256 c := by
    unfold signsT signsOf
    rw [lensT_len hs, List.getD_eq_getElem?_getD, List.getElem?_map, List.getElem?_range hc]
    rfl
  rw [e]
  omega
theorem signsT_len {s : ByteArray} (hs : s.size ≤ 4000) : (signsT s).length = 256 := by
  unfold signsT signsOf
  rw [List.length_map, List.length_range, lensT_len hs]
theorem csum_bd {l D : List Int} : ∀ k, okL l k → (∀ i, i < k → 0 ≤ D.getD i 0 ∧ D.getD i 0 ≤ 255) → 0 ≤ csum l D k ∧ csum l D k ≤ 280375465082880 * (k : Int)
  | 0, _, _ => by simp [csum]
  | k + 1, h, hd => by
    have ih := csum_bd k (fun i hi => h i (by omega)) (fun i hi => hd i (by omega))
    have h1 := h k (by omega)
    have h2 := hd k (by omega)
    have h3 := Int.mul_nonneg h1.1 h2.1
    have h4 : l.getD k 0 * D.getD k 0 ≤ 1099511627776 * 255 := Int.mul_le_mul h1.2 h2.2 h2.1 (by decide)
    rw [csum]
    omega
theorem w64 (x : Int) (h : 0 ≤ x) (h2 : x ≤ 9223372036854775807) : wrap64 x = x := by unfold wrap64; omega
theorem cw_is {l D : List Int} : ∀ k, k ≤ 256 → okL l k → (∀ i, i < k → 0 ≤ D.getD i 0 ∧ D.getD i 0 ≤ 255) → cw l D k = csum l D k
  | 0, _, _, _ => rfl
  | k + 1, hk, h, hd => by
    have ih := cw_is k (by omega) (fun i hi => h i (by omega)) (fun i hi => hd i (by omega))
    have hb := csum_bd (k + 1) h hd
    have hb2 := csum_bd k (fun i hi => h i (by omega)) (fun i hi => hd i (by omega))
    have h1 := h k (by omega)
    have h2 := hd k (by omega)
    have h3 := Int.mul_nonneg h1.1 h2.1
    rw [csum] at hb
    rw [cw, csum, ih, w64 (l.getD k 0 * D.getD k 0) h3 (by omega), w64 _ hb.1 (by omega)]
theorem abc_is {s : ByteArray} (hs : s.size ≤ 4000) {a b c : Int} (ha : (s.size : Int) / 65536 = a) (hb : (s.size : Int) / 256 = b) (hc : (s.size : Int) % 256 = c) : [a, b, c] = [((s.size / 65536 % 256 : Nat) : Int), ((s.size / 256 % 256 : Nat) : Int), ((s.size % 256 : Nat) : Int)] := by
  have h1 : a = ((s.size / 65536 % 256 : Nat) : Int) := by omega
  have h2 : b = ((s.size / 256 % 256 : Nat) : Int) := by omega
  have h3 : c = ((s.size % 256 : Nat) : Int) := by omega
  rw [h1, h2, h3]
theorem cost_is {s : ByteArray} (hs : s.size ≤ 4000) : cw (cntL s s.size) (lensT s) 256 = ((bk (lensT s) (signsT s) s s.size).length : Int) := by
  have h := (lensT_facts hs).1
  rw [cw_is 256 (Nat.le_refl _) (cnt_ok hs) (fun i hi => by have := h i hi; omega), bits_all (S := signsT s) (fun c hc => (h c hc).1)]
theorem len_is {s : ByteArray} (hs : s.size ≤ 4000) : (bk (lensT s) (signsT s) s s.size).length ≤ 68000 := by
  have h := (lensT_facts hs).1
  have := bits_bd (s := s) (D := lensT s) (S := signsT s) (M := 17) (fun c hc => by have := h c hc; omega) s.size
  omega
set_option maxHeartbeats 4000000 in
set_option maxRecDepth 10000 in
theorem Pack_at (s : ByteArray) (w : World) (hs : s.size ≤ 4000) : Calls Tryd.prog 13 #[.string s] w fun e w' => e = .returned (.tuple #[.string (packT s), .nilIface]) ∧ Bl w w' := by
  have hz : ¬ (4000 : Int) < s.size := by omega
  go_enter Tryd.func13, Tryd.ntmps13
  go_wp2_with fail
  refine (Count_at s w (by omega)).mono ?_
  rintro e w1 ⟨B1, rfl, hB1, hr1, hb1⟩
  have HR1 : Hid (RowI w1 B1 (cntL s s.size)) := hr1
  have HB1 : Hid (Bl w w1) := hb1
  clear hr1 hb1 hB1
  go_wp2_with fail
  have in1 : In w1 (some ⟨B1, 0, none⟩) (cntL s s.size) := Or.inr ⟨_, rfl, fun k hk => by rw [Addr.add_lit, Nat.zero_add]; exact HR1.out.cell hk⟩
  refine (Lens_at (some ⟨B1, 0, none⟩) 256 256 (cntL s s.size) w1 in1 (by rw [cntL_len]) (by omega)).mono ?_
  rintro e w2 ⟨hb2, h | h | h⟩
  · exact absurd h.1 (by rw [cntL_len]; omega)
  · exact absurd (by rw [cntL_len]; exact cnt_ok hs) h.2.1
  obtain ⟨_, _, B2, rfl, hB2, hr2⟩ := h
  have HR2 : Hid (RowI w2 B2 (lensT s)) := hr2
  have HB2 : Hid (Bl w w2 ∧ Bl w1 w2) := ⟨HB1.out.trans hb2, hb2⟩
  rw [cntL_len]
  clear hr2 hb2 hB2 in1
  go_wp2_with fail
  have in2 : In w2 (some ⟨B2, 0, none⟩) (lensT s) := Or.inr ⟨_, rfl, fun k hk => by rw [Addr.add_lit, Nat.zero_add]; exact HR2.out.cell hk⟩
  refine (Signs_at (some ⟨B2, 0, none⟩) 256 256 (lensT s) w2 in2 (by rw [lensT_len hs]) (by omega)).mono ?_
  rintro e w3 ⟨hb3, h | h | h | h⟩
  · exact absurd h.1 (by rw [lensT_len hs]; omega)
  · exact absurd (by rw [lensT_len hs]; exact (lensT_signs hs).1) h.2.1
  · exact absurd h.2.2.1 (by rw [lensT_len hs]; have := (lensT_signs hs).2; omega)
  obtain ⟨_, _, _, B3, rfl, hB3, hr3⟩ := h
  have HR3 : Hid (RowI w3 B3 (signsT s)) := hr3
  have HB3 : Hid (Bl w w3 ∧ Bl w1 w3 ∧ Bl w2 w3) := ⟨HB2.out.1.trans hb3, HB2.out.2.trans hb3, hb3⟩
  rw [lensT_len hs]
  clear hr3 hb3 hB3 in2
  have in1 : In w3 (some ⟨B1, 0, none⟩) (cntL s s.size) := Or.inr ⟨_, rfl, fun k hk => by rw [Addr.add_lit, Nat.zero_add]; exact (HR1.out.step HB3.out.2.1).cell hk⟩
  have in2 : In w3 (some ⟨B2, 0, none⟩) (lensT s) := Or.inr ⟨_, rfl, fun k hk => by rw [Addr.add_lit, Nat.zero_add]; exact (HR2.out.step HB3.out.2.2).cell hk⟩
  have cC := Cost_at (some ⟨B1, 0, none⟩) (some ⟨B2, 0, none⟩) 256 256 256 (cntL s s.size) (lensT s) w3 in1 in2 (by rw [cntL_len]) (by rw [lensT_len hs]) (by omega)
  rw [cost_is hs] at cC
  have hN := len_is hs
  obtain ⟨N, hNe⟩ : ∃ N, N = (bk (lensT s) (signsT s) s s.size).length := ⟨_, rfl⟩
  rw [← hNe] at cC hN
  have HN : Hid (N = (bk (lensT s) (signsT s) s s.size).length) := hNe
  have HI2 : Hid (In w3 (some ⟨B2, 0, none⟩) (lensT s)) := in2
  clear hNe in1 in2
  go_wp2_with fail
  refine cC.mono ?_
  rintro e w4 ⟨rfl, hw4⟩
  subst hw4
  clear cC
  obtain ⟨m, hm⟩ : ∃ m, m = (N + 7) / 8 := ⟨_, rfl⟩
  have hm1 : ((N : Int) + 7).tdiv 8 = (m : Int) := by rw [Int.tdiv_eq_ediv_of_nonneg (by omega)]; omega
  have hm2 : wrap64 ((N : Int) + 7) = (N : Int) + 7 := by unfold wrap64; omega
  have hmb : m ≤ 8600 := by omega
  have hmk := make_cap (259 + m) (by omega)
  rw [show ((259 + m : Nat) : Int) = 259 + (m : Int) by omega] at hmk
  have HM : Hid (m = (N + 7) / 8) := hm
  obtain ⟨w5, hw5⟩ : ∃ w5, w5 = w4.alloc (.cells (madeCells #[.int .u8 0] (259 + m)) 5) := ⟨_, rfl⟩
  have HB5 : Hid (Bl w4 w5) := by rw [hw5]; exact (Bl.refl _).alloc _
  have HO5 : Hid (BOwn w5 w4.heap.size (.slice (some ⟨w4.heap.size, 0, none⟩) 0 (259 + m)) []) := by rw [hw5]; exact BOwn.made _ _ _ (Nat.le_refl _) (by omega)
  clear hm
  go_wp2
  rw [← hw5]
  obtain ⟨base, hbase⟩ : ∃ b, b = w4.heap.size := ⟨_, rfl⟩
  rw [← hbase] at HO5 ⊢
  have HBA : Hid (base = w4.heap.size) := hbase
  clear hw5 hmk hbase
  go_loopw [9, 11, 50] (fun v _ i wr => ∃ k : Nat, k ≤ 256 ∧ i = .int .i64 (k : Int) ∧ Hid (BOwn wr base v ((lensT s).take k) ∧ Bl w4 wr)) (fun _ _ i _ => 256 - (intOf i).toNat)
  case atStart => exact ⟨0, Nat.zero_le _, rfl, ⟨by rw [List.take_zero]; exact HO5.out, HB5.out⟩⟩
  case round =>
    clear HO5 HB5
    obtain ⟨k, hk, rfl, H⟩ := hrel
    by_cases hlt : k < 256
    · have hltz : (k : Int) < 256 := by omega
      obtain ⟨x, e1, hc1⟩ := (HI2.out.step H.out.2).at k (by rw [lensT_len hs]; exact hlt)
      injection e1 with e1
      subst e1
      rw [Addr.add_lit, Nat.zero_add] at hc1
      have hy := (lensT_facts hs).1 k hlt
      have htk : (lensT s).take (k + 1) = (lensT s).take k ++ [(lensT s).getD k 0] := by
        rw [List.take_succ_eq_append_getElem (by rw [lensT_len hs]; exact hlt), List.getD_eq_getElem?_getD, List.getElem?_eq_getElem (by rw [lensT_len hs]; exact hlt)]
        rfl
      obtain ⟨y, hye⟩ : ∃ y, y = (lensT s).getD k 0 := ⟨_, rfl⟩
      rw [← hye] at hc1 hy htk
      have hym : y % 256 = y := by omega
      obtain ⟨v', w', hr, ho', hg'⟩ := app_bytes (wr.alloc (.cells #[.int .u8 y] 5)) base u9 ((lensT s).take k) [y] wr.heap.size 1 1 (H.out.1.step ((Bl.refl _).alloc _)) rfl (fun j hj => by
        obtain rfl : j = 0 := by simp only [List.length_singleton] at hj; omega
        go_simp) (by rw [List.length_take, List.length_singleton]; omega) (by have := H.out.2.size; rw [HBA.out]; simp; omega)
      have HF : Hid (BOwn w' base v' ((lensT s).take (k + 1)) ∧ Bl w4 w') := ⟨by rw [htk]; exact ho', bl_grown (H.out.2.trans ((Bl.refl _).alloc _)) hg' (fun j e => by rw [← HBA.out]; exact (H.out.1.block j e).1)⟩
      have HR : Hid _ := hr
      clear hr ho' hg' htk hye hy H
      go_wp2_with (at_builtin; refine Lib.wpList_append_run _ rfl (.tmp 54) (.tmp 57) _ _ rfl _ _ rfl rfl _ _ HR.out ?_)
      go_roundw
      case rel => exact ⟨k + 1, hlt, by go_num, HF⟩
      case measure => simp [intOf]; omega
    · have hltz : ¬ (k : Int) < 256 := by omega
      obtain rfl : k = 256 := by omega
      have HO : Hid (BOwn wr base u9 (lensT s) ∧ Bl w4 wr) := by
        have h := H.out.1
        rw [List.take_of_length_le (by rw [lensT_len hs]; omega)] at h
        exact ⟨h, H.out.2⟩
      clear H
      obtain ⟨a, ha⟩ : ∃ a : Int, (s.size : Int) / 65536 = a := ⟨_, rfl⟩
      obtain ⟨b, hb⟩ : ∃ b : Int, (s.size : Int) / 256 = b := ⟨_, rfl⟩
      obtain ⟨c, hc⟩ : ∃ c : Int, (s.size : Int) % 256 = c := ⟨_, rfl⟩
      have HABC : Hid ([a, b, c] = [((s.size / 65536 % 256 : Nat) : Int), ((s.size / 256 % 256 : Nat) : Int), ((s.size % 256 : Nat) : Int)]) := by
        exact abc_is hs ha hb hc
      obtain ⟨v6, w6, hr, ho6, hg6⟩ := app_bytes (wr.alloc (.cells #[.int .u8 a, .int .u8 b, .int .u8 c] 5)) base u9 (lensT s) [a, b, c] wr.heap.size 3 3 (HO.out.1.step ((Bl.refl _).alloc _)) rfl (fun j hj => by
        have hj3 : j = 0 ∨ j = 1 ∨ j = 2 := by simp only [List.length_cons, List.length_nil] at hj; omega
        rcases hj3 with rfl | rfl | rfl <;> go_simp) (by rw [lensT_len hs]; simp) (by have := HO.out.2.size; rw [HBA.out]; simp; omega)
      have HR : Hid _ := hr
      have HO6 : Hid (BOwn w6 base v6 (lensT s ++ [a, b, c]) ∧ Bl w4 w6) := ⟨ho6, bl_grown (HO.out.2.trans ((Bl.refl _).alloc _)) hg6 (fun j e => by rw [← HBA.out]; exact (HO.out.1.block j e).1)⟩
      clear hr ho6 hg6
      have in2 : In w6 (some ⟨B2, 0, none⟩) (lensT s) := HI2.out.step HO6.out.2
      have in3 : In w6 (some ⟨B3, 0, none⟩) (signsT s) := Or.inr ⟨_, rfl, fun k hk => by rw [Addr.add_lit, Nat.zero_add]; exact (HR3.out.step HO6.out.2).cell hk⟩
      have cW := written_at s (some ⟨B2, 0, none⟩) (some ⟨B3, 0, none⟩) 256 256 (lensT s) (signsT s) w6 in2 in3 (lensT_len hs) (signsT_len hs) (sgn_bd hs) N HN.out (by omega) (by omega)
      rw [← HM.out] at cW
      clear in2 in3
      go_wp2_with (at_builtin; refine Lib.wpList_append_run _ rfl (.tmp 60) (.tmp 72) _ _ rfl _ _ rfl rfl _ _ HR.out ?_)
      refine cW.mono ?_
      rintro e w7 ⟨B4, rfl, hB4, hr4, hb4⟩
      obtain ⟨v8, w8, hr8, ho8, hg8⟩ := app_bytes w7 base v6 (lensT s ++ [a, b, c]) (bytesOf (gb (bk (lensT s) (signsT s) s s.size)) true m) B4 m m (HO6.out.1.step hb4) (by rw [bytesOf_len]) (fun j hj => hr4.cell hj) (by rw [List.length_append, lensT_len hs, bytesOf_len]; simp; omega) (by have h1 := HO6.out.2.size; have h2 := hb4.size; rw [HBA.out]; omega)
      have htx := ho8.text
      have HE : Hid (strOfNums (lensT s ++ [a, b, c] ++ bytesOf (gb (bk (lensT s) (signsT s) s s.size)) true m) = packT s) := by
        show _ = strOfNums (packL s)
        unfold packL
        rw [HABC.out, HM.out, HN.out]
      have HBF : Hid (Bl w w8) := bl_grown ((HB3.out.1.trans HO6.out.2).trans hb4) hg8 (fun j e => by have h1 := (HO6.out.1.block j e).1; have h2 := HB3.out.1.size; rw [HBA.out] at h1; omega)
      rw [HE.out] at htx
      have HR8 : Hid _ := hr8
      clear hr8 ho8 hg8 cW
      go_wp2_with (at_builtin; refine Lib.wpList_append_run _ rfl (.tmp 74) (.tmp 79) _ _ rfl _ _ rfl rfl _ _ HR8.out ?_)
      go_ret2
      exact ⟨rfl, HBF.out⟩
end Go.Proofs.YtkldnapbeebdkaaDoor.hh
/- What bySigns answers. -/
namespace Go.Proofs.YtkldnapbeebdkaaDoor.hi
set_option linter.unusedVariables false
open Go.ChangeShapes Go.WideShapes Go.ChangeAt Go.RowKit Go.Maps
open mem rows hg hh
/-- The first k bytes of a text, as numbers; noughts behind them. -/
def bl (z : ByteArray) (n k : Nat) : List Int := (List.range n).map fun j => if j < k then sb z j else 0
theorem bl_len (z : ByteArray) (n k : Nat) : (bl z n k).length = n := by simp [bl]
theorem bl_zero (z : ByteArray) (n : Nat) : bl z n 0 = List.replicate n 0 := by
  apply List.ext_getElem
  · simp [bl]
  · intro i h1 h2
    simp [bl]
theorem bl_step (z : ByteArray) (n k : Nat) (h : k < n) : (bl z n k).set k (sb z k) = bl z n (k + 1) := by
  apply List.ext_getElem
  · simp [bl]
  · intro i h1 h2
    rw [List.getElem_set]
    simp only [bl, List.getElem_map, List.getElem_range]
    by_cases hik : k = i
    · subst hik
      rw [if_pos rfl, if_pos (by omega)]
    · rw [if_neg hik]
      by_cases hl : i < k
      · rw [if_pos hl, if_pos (by omega)]
      · rw [if_neg hl, if_neg (by omega)]
theorem bl_get (z : ByteArray) (n i : Nat) (h : i < n) : (bl z n n).getD i 0 = sb z i := by
  unfold bl
  rw [List.getD_eq_getElem?_getD, List.getElem?_map, List.getElem?_range h]
  simp [h]
/-- Which of the first k things a sign stands for. -/
def mf (D S : List Int) : Nat → Int → Int → Option Int
  | 0, _, _ => none
  | k + 1, n, v => if 0 < D.getD k 0 ∧ n = D.getD k 0 ∧ v = S.getD k 0 then some (k : Int) else mf D S k n v
set_option maxHeartbeats 4000000 in
theorem bySigns_at (z : ByteArray) (w : World) (hz : z.size = 256) : Calls Tryd.prog 34 #[.string z] w fun e w' => Bl w w' ∧
    ((∃ i, ¬ (okS (bl z 256 256) 256 ∧ tk (bl z 256 256) 256 ≤ 16777216) ∧ e = .returned (.tuple #[.map none, .iface 23 (.int .i64 i)])) ∨
     (okS (bl z 256 256) 256 ∧ tk (bl z 256 256) 256 ≤ 16777216 ∧ ∃ b, e = .returned (.tuple #[.map (some b), .nilIface]) ∧ w.heap.size ≤ b ∧ Mp w' b (mf (bl z 256 256) (signsOf (bl z 256 256)) 256) 256)) := by
  have hmk := fun w => run_make_row' (P := Tryd.prog) 22 3 (.int .i64 0) 8 Tryd.underlying22 infoI rfl .i64 .i64 256 (by omega) (by omega) w
  obtain ⟨N, hN⟩ : ∃ N, N = z.size := ⟨_, rfl⟩
  have hmk2 := fun w => run_make_row' (P := Tryd.prog) 22 3 (.int .i64 0) 8 Tryd.underlying22 infoI rfl .i64 .i64 z.size (by omega) (by omega) w
  obtain ⟨w2, hw2⟩ : ∃ w2, w2 = w.alloc (.cells (madeCells #[.int .i64 0] z.size) 3) := ⟨_, rfl⟩
  have HB2 : Hid (Bl w w2) := by rw [hw2]; exact (Bl.refl w).alloc _
  have HR0 : Hid (RowI w2 w.heap.size (bl z z.size 0)) := by rw [bl_zero, hw2]; exact RowI.made w z.size
  have HZ : Hid (z.size = 256) := hz
  have hzl : z.size ≤ 256 := by omega
  clear hz hN hmk
  go_enter Tryd.func34, Tryd.ntmps34
  go_wp2
  rw [← hw2]
  obtain ⟨B, hB⟩ : ∃ B, B = w.heap.size := ⟨_, rfl⟩
  rw [← hB] at HR0 ⊢
  have HB : Hid (B = w.heap.size) := hB
  clear hw2 hmk2 hB
  go_loopw [5, 16] (fun _ i wr => ∃ k : Nat, k ≤ z.size ∧ i = .int .i64 (k : Int) ∧ Hid (RowI wr B (bl z z.size k) ∧ Bl w wr)) (fun _ i _ => z.size - (intOf i).toNat)
  case atStart => exact ⟨0, Nat.zero_le _, rfl, ⟨HR0.out, HB2.out⟩⟩
  case round =>
    clear HR0 HB2
    obtain ⟨k, hk, rfl, H⟩ := hrel
    by_cases hlt : k < z.size
    · have hltz : (k : Int) < z.size := by omega
      have hc := H.out.1.cell (j := k) (by rw [bl_len]; exact hlt)
      have hf := H.out.1.frozen k
      have HS : Hid (RowI (wr.setCell ⟨B, k, none⟩ (.int .i64 ((z[k]'hlt).toNat : Int))) B (bl z z.size (k + 1)) ∧ Bl w (wr.setCell ⟨B, k, none⟩ (.int .i64 ((z[k]'hlt).toNat : Int)))) := by
        refine ⟨?_, H.out.2.setCell (by rw [HB.out]; exact Nat.le_refl _) _⟩
        have := H.out.1.set k (sb z k)
        rw [bl_step z z.size k hlt, sb_get z k hlt] at this
        exact this
      generalize (bl z z.size k).getD k 0 = old at hc
      have hcb : ((z[k]'hlt).toNat : Int) < 256 := by have := (z[k]'hlt).toNat_lt; omega
      clear H
      go_wp2
      go_roundw
      case rel => exact ⟨k + 1, hlt, by go_num, HS⟩
      case measure => simp [intOf]; omega
    · have hltz : ¬ (k : Int) < z.size := by omega
      obtain rfl : k = z.size := by omega
      have in1 : In wr (some ⟨B, 0, none⟩) (bl z z.size z.size) := Or.inr ⟨_, rfl, fun k hk => by rw [Addr.add_lit, Nat.zero_add]; exact H.out.1.cell hk⟩
      go_wp2_with fail
      refine (Signs_at (some ⟨B, 0, none⟩) z.size z.size (bl z z.size z.size) wr in1 (by rw [bl_len]) (by omega)).mono ?_
      have HRB : Hid (RowI wr B (bl z z.size z.size) ∧ Bl w wr) := H.out
      clear H in1
      rintro e w3 ⟨hb3, h | h | h | h⟩
      · exact absurd h.1 (by rw [bl_len]; omega)
      · obtain ⟨_, h2, rfl⟩ := h
        rw [bl_len, HZ.out] at h2
        have H2 : Hid _ := h2
        clear h2
        go_wp2
        go_ret2
        exact ⟨HRB.out.2.trans hb3, Or.inl ⟨2, fun h => H2.out h.1, rfl⟩⟩
      · obtain ⟨_, h2, h3, rfl⟩ := h
        rw [bl_len, HZ.out] at h3
        have H2 : Hid _ := h3
        clear h2 h3
        go_wp2
        go_ret2
        exact ⟨HRB.out.2.trans hb3, Or.inl ⟨12, fun h => by have := H2.out; have := h.2; omega, rfl⟩⟩
      · obtain ⟨_, h2, h3, B3, rfl, hB3, hr3⟩ := h
        rw [bl_len, HZ.out] at h2 h3
        have HOK : Hid (okS (bl z 256 256) 256 ∧ tk (bl z 256 256) 256 ≤ 16777216) := ⟨h2, h3⟩
        have HR3 : Hid (RowI w3 B3 (signsOf (bl z z.size z.size)) ∧ RowI w3 B (bl z z.size z.size) ∧ Bl w w3) := ⟨hr3, HRB.out.1.step hb3, HRB.out.2.trans hb3⟩
        rw [bl_len]
        clear h2 h3 hr3 hB3 hb3 HRB
        obtain ⟨w4, hw4⟩ : ∃ w4, w4 = w3.alloc (.map #[] 0) := ⟨_, rfl⟩
        have HM0 : Hid (Mp w4 w3.heap.size (mf (bl z z.size z.size) (signsOf (bl z z.size z.size)) 0) 0 ∧ Bl w3 w4) := ⟨by rw [hw4]; exact Mp.made w3, by rw [hw4]; exact (Bl.refl _).alloc _⟩
        have hmm : ∀ w, (Instr.makeMap 69 none).run Tryd.prog w = .ok (.map (some w.heap.size)) (w.alloc (.map #[] 0)) := fun w => by kernel_rfl
        go_wp2
        rw [← hw4]
        obtain ⟨b, hbe⟩ : ∃ b, b = w3.heap.size := ⟨_, rfl⟩
        rw [← hbe] at HM0 ⊢
        have HBE : Hid (b = w3.heap.size) := hbe
        clear hw4 hmm hbe
        go_loopw [9, 10, 38] (fun _ _ i wx => ∃ k : Nat, k ≤ z.size ∧ i = .int .i64 (k : Int) ∧ Hid (Mp wx b (mf (bl z z.size z.size) (signsOf (bl z z.size z.size)) k) k ∧ Bl w3 wx)) (fun _ _ i _ => z.size - (intOf i).toNat)
        case atStart => exact ⟨0, Nat.zero_le _, rfl, HM0⟩
        case round =>
          clear HM0
          obtain ⟨k, hk, rfl, H⟩ := hrel
          by_cases hlt : k < z.size
          · have hltz : (k : Int) < z.size := by omega
            have hc1 := (HR3.out.2.1.step H.out.2).cell (j := k) (by rw [bl_len]; exact hlt)
            have hsl : (signsOf (bl z z.size z.size)).length = z.size := by unfold signsOf; rw [List.length_map, List.length_range, bl_len]
            have hc2 := (HR3.out.1.step H.out.2).cell (j := k) (by rw [hsl]; exact hlt)
            have hy0 : 0 ≤ (bl z z.size z.size).getD k 0 ∧ (bl z z.size z.size).getD k 0 ≤ 255 := by rw [bl_get z z.size k hlt]; have := sb_bd z k; omega
            have hv0 : 0 ≤ (signsOf (bl z z.size z.size)).getD k 0 ∧ (signsOf (bl z z.size z.size)).getD k 0 < 16777216 := by
              have e : (signsOf (bl z z.size z.size)).getD k 0 = sgn (bl z z.size z.size) z.size k := by
                unfold signsOf
                rw [bl_len, List.getD_eq_getElem?_getD, List.getElem?_map, List.getElem?_range hlt]
                rfl
              rw [e]
              exact sgn_lt (by rw [HZ.out]; exact HOK.out.1) (by rw [HZ.out]; exact HOK.out.2) hlt
            by_cases hpos : 0 < (bl z z.size z.size).getD k 0
            · obtain ⟨w', hr, hm', hg'⟩ := H.out.1.put ((bl z z.size z.size).getD k 0) ((signsOf (bl z z.size z.size)).getD k 0) (k : Int) ⟨by omega, by omega⟩ ⟨by omega, by omega⟩ ⟨by omega, by omega⟩ (by omega)
              have HF : Hid (Mp w' b (mf (bl z z.size z.size) (signsOf (bl z z.size z.size)) (k + 1)) (k + 1) ∧ Bl w3 w') := by
                refine ⟨?_, bl_grown H.out.2 hg' (fun j e => by injection e with e; rw [← e, HBE.out]; exact Nat.le_refl _)⟩
                have e : (fun n' v' => if n' = (bl z z.size z.size).getD k 0 ∧ v' = (signsOf (bl z z.size z.size)).getD k 0 then some (k : Int) else mf (bl z z.size z.size) (signsOf (bl z z.size z.size)) k n' v') = mf (bl z z.size z.size) (signsOf (bl z z.size z.size)) (k + 1) := by
                  funext n' v'
                  rw [mf]
                  simp only [hpos, true_and]
                rw [← e]
                exact hm'
              generalize (bl z z.size z.size).getD k 0 = y at hc1 hpos hy0 hr
              generalize (signsOf (bl z z.size z.size)).getD k 0 = v at hc2 hv0 hr
              have hkm : (k : Int) % 256 = (k : Int) := by omega
              clear H hm' hg'
              go_wp2
              go_roundw
              case rel => exact ⟨k + 1, hlt, by go_num, HF⟩
              case measure => simp [intOf]; omega
            · have HF : Hid (Mp wr b (mf (bl z z.size z.size) (signsOf (bl z z.size z.size)) (k + 1)) (k + 1) ∧ Bl w3 wr) := by
                refine ⟨?_, H.out.2⟩
                have e : mf (bl z z.size z.size) (signsOf (bl z z.size z.size)) (k + 1) = mf (bl z z.size z.size) (signsOf (bl z z.size z.size)) k := by
                  funext n' v'
                  rw [mf, if_neg (fun h => hpos h.1)]
                rw [e]
                obtain ⟨D, h1, h2⟩ := H.out.1
                exact ⟨D, h1.mono (Nat.le_succ _), h2⟩
              generalize (bl z z.size z.size).getD k 0 = y at hc1 hpos hy0
              clear H
              go_wp2
              go_roundw
              case rel => exact ⟨k + 1, hlt, by go_num, HF⟩
              case measure => simp [intOf]; omega
          · have hltz : ¬ (k : Int) < z.size := by omega
            obtain rfl : k = z.size := by omega
            have HF : Hid (Mp wr b (mf (bl z 256 256) (signsOf (bl z 256 256)) 256) 256 ∧ Bl w wr ∧ w.heap.size ≤ b) := by
              have h := H.out.1
              rw [HZ.out] at h
              exact ⟨h, HR3.out.2.2.trans H.out.2, by rw [HBE.out]; exact HR3.out.2.2.size⟩
            clear H
            go_wp2
            go_ret2
            exact ⟨HF.out.2.1, Or.inr ⟨HOK.out.1, HOK.out.2, b, rfl, HF.out.2.2, HF.out.1⟩⟩
end Go.Proofs.YtkldnapbeebdkaaDoor.hi
