/- The document's own side: the ends of spans, rising. -/
import Derived.Test.YtfblmfjgbbeheaaEn2
namespace Go.Proofs.Ytfblmfjgbbeheaa.sp
set_option linter.unusedVariables false
open Go.ChangeShapes Go.WideShapes Go.ChangeAt Go.RowKit Go.Maps
open mem rows span

set_option maxRecDepth 20000 in
set_option maxHeartbeats 8000000 in
theorem ends_at (X m : Nat) (LL : List (List (Int × Int))) (w : World) (hm : m = LL.length) (hm2 : m ≤ 2) (hls : LS w X LL) (hfit : FitL LL) :
    Calls Try.prog 32 #[.slice (some ⟨X, 0, none⟩) m m] w fun e w' => ∃ v L, e = .returned v ∧ Own w' w.heap.size v L ∧ L.Pairwise (fun x y => x < y) ∧ (∀ z, z ∈ L ↔ E1 LL m z) ∧ L.length ≤ 5000 ∧ Bl w w' := by
  have HM : Hid (m = LL.length) := hm
  have HLS : Hid (LS w X LL) := hls
  have HF : Hid (FitL LL) := hfit
  clear hm hls hfit
  obtain ⟨w1, D0, hr1, hs1, hb1⟩ := made_seen w
  have hs1 : Seen w1 w.heap.size 1 D0 (E1 LL 0) := hs1.congr (E1_zero LL)
  have hmm := @run_makeMap Try.prog
  go_enter Try.func32, Try.ntmps32
  go_wp2
  clear hr1 hmm
  obtain ⟨B, hB⟩ : ∃ B, B = w.heap.size := ⟨_, rfl⟩
  rw [← hB] at hs1 ⊢
  have HB : Hid (B = w.heap.size) := hB
  clear hB
  go_loopw [15] (fun i wr => ∃ (k n : Nat) (D : DataW Unit), k ≤ m ∧ i = .int .i64 (k : Int) ∧ Seen wr B n D (E1 LL k) ∧ n ≤ 1 + 2000 * k ∧ Bl w wr) (fun i _ => m - (intOf i).toNat)
  case atStart => exact ⟨0, 1, D0, Nat.zero_le _, rfl, hs1, by omega, hb1⟩
  case round =>
    clear hs1 hb1
    obtain ⟨k, n, D, hk, rfl, hs, hn, hbl⟩ := hrel
    by_cases hlt : k < m
    · have hlz : (k : Int) < (m : Int) := by omega
      have hkL : k < LL.length := by rw [← HM.out]; exact hlt
      obtain ⟨p, c, hc0, hin⟩ := HLS.out k hkL
      have hc := at_bl hbl hc0
      clear hc0
      have hfl := HF.out k hkL
      obtain ⟨q, hq⟩ : ∃ q, q = (LL.getD k []).length := ⟨_, rfl⟩
      rw [← hq] at hc hfl
      have HQ : Hid (q = (LL.getD k []).length) := hq
      have HIN : Hid (InS w p (LL.getD k [])) := hin
      have HFT : Hid (Fit (LL.getD k [])) := hfl.1
      have hq1 := hfl.2
      clear hq hin hfl
      have hs' : Seen wr B n D (E2 LL k 0) := hs.congr (E2_zero LL k)
      have HE : Hid (∀ z, E2 LL k q z ↔ E1 LL (k + 1) z) := E2_end LL k q HQ.out
      clear hs
      rename World => wr0
      go_wp2
      go_loopw [21] (fun j wr => ∃ (i n' : Nat) (D' : DataW Unit), i ≤ q ∧ j = .int .i64 (i : Int) ∧ Seen wr B n' D' (E2 LL k i) ∧ n' ≤ n + 2 * i ∧ Bl w wr) (fun j _ => q - (intOf j).toNat)
      case atStart => exact ⟨0, n, D, Nat.zero_le _, rfl, hs', by omega, hbl⟩
      case round =>
        clear hs' hbl hc
        obtain ⟨i, n', D', hi, rfl, hs2, hn2, hbl⟩ := hrel
        by_cases hlt2 : i < q
        · have hlz2 : (i : Int) < (q : Int) := by omega
          obtain ⟨x, rfl, hc1, hc2⟩ := (HIN.out.step hbl).at i (by rw [← HQ.out]; exact hlt2)
          have hft := HFT.out.nth i (by rw [← HQ.out]; exact hlt2)
          have HES : Hid (∀ z, ((E2 LL k i z ∨ z = max (nth (LL.getD k []) i).1 0) ∨ z = max (nth (LL.getD k []) i).2 0) ↔ E2 LL k (i + 1) z) := E2_step LL k i
          generalize (nth (LL.getD k []) i).1 = a at hc1 hft HES
          generalize (nth (LL.getD k []) i).2 = b at hc2 hft HES
          have hfa := max_i64 hft.1
          have hfb := max_i64 hft.2
          obtain ⟨M, hM⟩ : ∃ M, max a 0 = M := ⟨_, rfl⟩
          obtain ⟨M', hM'⟩ : ∃ M, max b 0 = M := ⟨_, rfl⟩
          rw [hM] at hfa HES
          rw [hM'] at hfb HES
          have HFA : Hid (i64 M) := hfa
          have HFB : Hid (i64 M') := hfb
          clear hft hfa hfb
          go_wp2
          have hsz := hs2.alloc (Obj.cells #[Value.int IntKind.i64 a, Value.int IntKind.i64 b] 28)
          have hbz : Bl w _ := hbl.alloc (Obj.cells #[Value.int IntKind.i64 a, Value.int IntKind.i64 b] 28)
          have hz0 : (wr.alloc (Obj.cells #[Value.int IntKind.i64 a, Value.int IntKind.i64 b] 28)).cell? ⟨wr.heap.size, 0, none⟩ = some (.int .i64 a) := by simp
          have hz1 : (wr.alloc (Obj.cells #[Value.int IntKind.i64 a, Value.int IntKind.i64 b] 28)).cell? ⟨wr.heap.size, 1, none⟩ = some (.int .i64 b) := by simp
          have hYl : wr.heap.size < (wr.alloc (Obj.cells #[Value.int IntKind.i64 a, Value.int IntKind.i64 b] 28)).heap.size := by simp
          have hYw := hbl.size
          generalize wr.alloc (Obj.cells #[Value.int IntKind.i64 a, Value.int IntKind.i64 b] 28) = wz at hsz hbz hz0 hz1 hYl ⊢
          have hYn : B < wr.heap.size := hs2.1.lt
          generalize wr.heap.size = Y at hz0 hz1 hYl hYw hYn ⊢
          clear hc1 hc2 hs2 hbl
          have hYB : B ≠ Y := by omega
          obtain ⟨wa, hra, hoa, hga⟩ := hsz.1.drew.update law3 Try.underlying47 (by unfold maxLen; omega) (key_of HFA.out) (plainElem_bool Try.underlying4 true)
          have hsa := hsz.put hoa
          obtain ⟨wb, hrb, hob, hgb⟩ := hsa.1.update law3 Try.underlying47 (by unfold maxLen; omega) (key_of HFB.out) (plainElem_bool Try.underlying4 true)
          have hsb := hsa.put hob
          have hba : Bl w wa := bl_grown hbz.drew hga (fun k e => by cases e; rw [HB.out]; exact Nat.le_refl _)
          have hbb : Bl w wb := bl_grown hba hgb (fun k e => by cases e; rw [HB.out]; exact Nat.le_refl _)
          have hz0a : wa.cell? ⟨Y, 0, none⟩ = some (.int .i64 a) := at_grownE hga (by simpa using hYl) (fun k e => by cases e; exact fun e => hYB e.symm) (by simpa using hz0)
          have hz1a : wa.cell? ⟨Y, 1, none⟩ = some (.int .i64 b) := at_grownE hga (by simpa using hYl) (fun k e => by cases e; exact fun e => hYB e.symm) (by simpa using hz1)
          have hYla : Y < wa.heap.size := Nat.lt_of_lt_of_le (by simpa using hYl) hga.size
          have hz0b : wb.cell? ⟨Y, 0, none⟩ = some (.int .i64 a) := at_grownE hgb hYla (fun k e => by cases e; exact fun e => hYB e.symm) hz0a
          have hz1b : wb.cell? ⟨Y, 1, none⟩ = some (.int .i64 b) := at_grownE hgb hYla (fun k e => by cases e; exact fun e => hYB e.symm) hz1a
          have HSB : Hid (Seen wb B (n' + 1 + 1) _ _) := hsb
          clear hsz hsa hsb hoa hob hga hgb hba
          go_region_held3 (fun w' => w'.cell? ⟨Y, 0, none⟩ = some (.int .i64 a) ∧ w'.cell? ⟨Y, 1, none⟩ = some (.int .i64 b)) (refine ⟨?_, ?_⟩ <;> first | assumption | exact at_bl (Bl.drew (Bl.refl _)) (by assumption)) (fail)
          all_goals go_wp2
          all_goals go_roundw
          all_goals first | exact ⟨i + 1, _, _, by omega, by go_num, HSB.out.congr HES.out, by omega, hbb⟩ | (simp [intOf]; omega)
        · obtain rfl : i = q := by omega
          go_wp2
          go_roundw
          case rel => exact ⟨k + 1, n', D', by omega, by go_num, hs2.congr HE.out, by omega, hbl⟩
          case measure => simp [intOf]; omega
    · obtain rfl : k = m := by omega
      have HSN : Hid (∀ z, has D (key z) = true ↔ E1 LL k z) := hs.2
      have hsz := hs.1.size_le
      go_wp2_with (first
        | (at_range; refine wpList_range_own _ rfl _ 47 rfl 3 4 law3 Try.underlying47 _ B n _ rfl hs.1 ?_; intro w3 hrg3 hg3 hs3)
        | go_in)
      go_frame
      have hb3 : Bl w w3 := bl_grown hbl hg3 (fun k e => by cases e)
      have hBr : B < wr.heap.size := hs.1.lt
      obtain ⟨r, hr⟩ : ∃ r, r = wr.heap.size := ⟨_, rfl⟩
      rw [← hr] at hrg3 hs3 hBr ⊢
      obtain ⟨b3, hb3e⟩ : ∃ b, b = r + 1 := ⟨_, rfl⟩
      rw [← hb3e] at hs3
      have HB3 : Hid (b3 = r + 1) := hb3e
      have HW3 : Hid (w3.heap.size = b3) := hs3
      have HBR : Hid (B < r) := hBr
      have HN : Hid (n ≤ 1 + 2000 * k) := hn
      clear hs hr hg3 hs3 hbl hb3e hBr hn
      go_loopw [8] (fun sv wx => ∃ (left : Lit → Bool) (cnt : Nat) (L : List Int), wx.ranges Try.prog 3 (plainElem Try.prog 4) B r n D left cnt ∧ Own wx b3 sv L ∧ (L = [] → sv = .slice none 0 0) ∧ Hid (L.Pairwise fun x y => x < y) ∧ Hid (∀ z, z ∈ L ↔ has D (key z) = true ∧ left (key z) = false) ∧ L.length + cnt ≤ n ∧ Bl w wx ∧ b3 ≤ wx.heap.size) (fun _ wx => wx.rangeLeft B r)
      case atStart => exact ⟨_, _, [], hrg3, Own.nil _ _, fun _ => rfl, List.Pairwise.nil, fun z => ⟨fun h => (by cases h), fun h => (by rw [h.1] at h; exact absurd h.2 (by decide))⟩, by simpa using hsz, hb3, by rw [HW3.out]; exact Nat.le_refl _⟩
      case round =>
        clear hrg3 hb3 hsz
        obtain ⟨left, cnt, L, hrg, hown, hnil, HLP, HLM, hcl, hbl, hb3s⟩ := hrel
        go_wp2_with (first
          | (at_next; refine wpList_next_ranges _ rfl _ rfl 3 law3 (plainElem Try.prog 4) (Value.int .i64) boolOf invK invV B r n _ _ _ rfl hrg ?_ ?_)
          | go_in)
        · intro hc0 hl0
          have HL0 : Hid (∀ kl, left kl = false) := hl0
          clear hl0
          go_wp2
          go_ret
          refine ⟨_, L, rfl, ?_, HLP.out, fun z => ?_, by have := HN.out; omega, hbl⟩
          · refine hown.down ?_
            rw [HB3.out, ← HB.out]
            have := HBR.out
            omega
          · rw [HLM.out, HSN.out]
            exact ⟨fun h => h.1, fun h => ⟨h, HL0.out _⟩⟩
        · intro x c kl yd yp w4 cnt4 hkey hlk hv hat hrg4 hlt4 hg4 hs4 hen
          have HXD0 : has D kl = true := has_true_of_atKey hat
          clear hs4 hv hat
          obtain ⟨x', ex, rfl, hwf⟩ := Maps.keyOf_int_inv Try.underlying3 hkey
          obtain rfl : x = x' := by injection ex
          have HXD : Hid (has D (key x) = true) := HXD0
          clear HXD0
          have hown4 := hown.kept hg4 (fun j e e' => by have := (hown.block j e).1; have := HB3.out; injection e' with e'; omega)
          have hbl4 : Bl w w4 := bl_grown hbl hg4 (fun j e => by injection e with e; have := HBR.out; have := HB.out; omega)
          have hb3s4 : b3 ≤ w4.heap.size := Nat.le_trans hb3s hg4.size
          have HLN : Hid (x ∉ L) := fun h => by
            have := (HLM.out x).1 h
            unfold key at this
            rw [hlk] at this
            exact absurd this.2 (by decide)
          have HLM4 : Hid (∀ z, (z ∈ L ∨ z = x) ↔ has D (key z) = true ∧ (left (key z) && !(key z).sameKey (.int .i64 x)) = false) := by
            exact left_is HLM.out HXD.out
          clear hkey ex hown hbl hb3s HLM hg4
          rcases hown4.shape with ⟨rfl, rfl⟩ | ⟨g, cap, rfl, hg0, hg1, hg2, hg3', hcells⟩
          · obtain ⟨v2, wB, hr1, hr2, hoB, hgB⟩ := ins_nil (w := w4) x hb3s4
            have HR1 : Hid _ := hr1
            have HR2 : Hid _ := hr2
            have hrgB := hrg4.kept hgB (fun e => by cases e) (fun e => by cases e)
            have hblB : Bl w wB := bl_grown hbl4 hgB (fun j e => by cases e)
            clear hr1 hr2 hrg4 hbl4 hown4
            go_wp2
            refine wp_loop_rounds 1 ?_
            rw [rounds_succ]
            go_wp2
            go_region_held3 (fun _ => True) (trivial) (first | (refine step_append_run rfl (.tmp 60) (.tmp 63) 43 43 rfl _ _ rfl rfl _ _ HR1.out ?_) | (refine step_append_run rfl (.tmp 58) (.tmp 64) 43 43 rfl _ _ rfl rfl _ _ HR2.out ?_))
            all_goals go_wp2
            all_goals go_roundw
            all_goals first | exact ⟨_, cnt4, [x], hrgB, hoB, fun e => (by simp at e), List.pairwise_singleton _ _, fun z => (by rw [← HLM4.out z]; simp), by simp at hcl ⊢; omega, hblB, Nat.le_trans hb3s4 hgB.size⟩ | (rw [hrgB.left_eq, hrg.left_eq]; exact hlt4)
          · obtain ⟨len, hlen⟩ : ∃ n, n = L.length := ⟨_, rfl⟩
            rw [← hlen] at hg2 hcl hcells hown4 ⊢
            have HLEN : Hid (len = L.length) := hlen
            have hlb : len ≤ 4001 := by have := HN.out; omega
            have HCE : Hid (∀ j, j < len → w4.cell? ⟨g, j, none⟩ = some (.int .i64 (L.getD j 0))) := hcells
            clear hlen hcells
            go_wp2
            go_loop [10] (fun kv => ∃ q : Nat, q ≤ len ∧ kv = .int .i64 (q : Int) ∧ Hid (∀ j, q ≤ j → j < len → x < L.getD j 0)) (fun kv => (intOf kv).toNat)
            case atStart => exact ⟨len, Nat.le_refl _, rfl, fun j h1 h2 => by omega⟩
            case round =>
              obtain ⟨q, hq, rfl, HQ⟩ := hrel
              by_cases hq0 : 0 < q
              · have hqz : (0 : Int) < (q : Int) := by omega
                obtain ⟨q', hq'⟩ : ∃ q', q = q' + 1 := ⟨q - 1, by omega⟩
                have hqs : (q : Int) - 1 = (q' : Int) := by omega
                have hql : (q' : Int) < (len : Int) := by omega
                have hce := HCE.out q' (by omega)
                have HQ1 : Hid (q = q' + 1) := hq'
                have HQ' : Hid (x < L.getD q' 0 → ∀ j, q' ≤ j → j < len → x < L.getD j 0) := fun h j h1 h2 => by
                  rcases Nat.lt_or_ge q' j with h' | h'
                  · exact HQ.out j (by omega) h2
                  · obtain rfl : j = q' := by omega
                    exact h
                obtain ⟨y, hye⟩ : ∃ y, y = L.getD q' 0 := ⟨_, rfl⟩
                have HYE : Hid (y = L.getD q' 0) := hye
                rw [← hye] at hce HQ'
                clear hye hq'
                by_cases hy : x < y
                · go_wp2
                  go_round
                  case rel => exact ⟨q', by have := HQ1.out; omega, by go_num, HQ'.out hy⟩
                  case measure => simp [intOf]; have := HQ1.out; omega
                · skip
                  have HST : Hid (∀ j, j < q → L.getD j 0 ≤ x) := below_of HLP.out HLEN.out HQ1.out hq (by rw [← HYE.out]; omega)
                  obtain ⟨v1, wA, v2, wB, hr1, hr2, hoB, hgB⟩ := ins_some hown4 HLEN.out hq hg2 x hb3s4 hlb
                  have HR1 : Hid _ := hr1
                  have HR2 : Hid _ := hr2
                  have hrgB := hrg4.kept hgB (fun e => by injection e with e; have := HBR.out; have := HB3.out; omega) (fun e => by injection e with e; have := HB3.out; omega)
                  have hblB : Bl w wB := bl_grown hbl4 hgB (fun j e => by injection e with e; have := HBR.out; have := HB3.out; have := HB.out; omega)
                  have HI : Hid (Ins L q x) := ⟨HLP.out, HLN.out, fun j h1 h2 => HQ.out j h1 (by rw [HLEN.out]; exact h2), HST.out, by rw [← HLEN.out]; exact hq⟩
                  clear hr1 hr2 HST hrg4 hbl4 hown4
                  have hi1 : (q : Int) ≤ (len : Int) := by omega
                  have hi2 : (q : Int) ≤ (cap : Int) := by omega
                  have hi3 : (len : Int) ≤ (cap : Int) := by omega
                  have hi4 : (0 : Int) ≤ (q : Int) := by omega
                  go_wp2
                  go_region_held3 (fun _ => True) (trivial) (first | (refine step_append_run rfl (.tmp 60) (.tmp 63) 43 43 rfl _ _ rfl rfl _ _ HR1.out ?_) | (refine step_append_run rfl (.tmp 58) (.tmp 64) 43 43 rfl _ _ rfl rfl _ _ HR2.out ?_))
                  all_goals go_wp2
                  all_goals go_roundw
                  all_goals first | exact ⟨_, cnt4, _, hrgB, hoB, fun e => (by simp at e), HI.out.sorted, fun z => (HI.out.mem z).trans (HLM4.out z), by rw [HI.out.len, ← HLEN.out]; omega, hblB, Nat.le_trans hb3s4 hgB.size⟩ | (rw [hrgB.left_eq, hrg.left_eq]; exact hlt4)
              · have hqz : ¬ ((0 : Int) < (q : Int)) := by omega
                have HST : Hid (∀ j, j < q → L.getD j 0 ≤ x) := fun j hj => by omega
                obtain ⟨v1, wA, v2, wB, hr1, hr2, hoB, hgB⟩ := ins_some hown4 HLEN.out hq hg2 x hb3s4 hlb
                have HR1 : Hid _ := hr1
                have HR2 : Hid _ := hr2
                have hrgB := hrg4.kept hgB (fun e => by injection e with e; have := HBR.out; have := HB3.out; omega) (fun e => by injection e with e; have := HB3.out; omega)
                have hblB : Bl w wB := bl_grown hbl4 hgB (fun j e => by injection e with e; have := HBR.out; have := HB3.out; have := HB.out; omega)
                have HI : Hid (Ins L q x) := ⟨HLP.out, HLN.out, fun j h1 h2 => HQ.out j h1 (by rw [HLEN.out]; exact h2), HST.out, by rw [← HLEN.out]; exact hq⟩
                clear hr1 hr2 HST hrg4 hbl4 hown4
                have hi1 : (q : Int) ≤ (len : Int) := by omega
                have hi2 : (q : Int) ≤ (cap : Int) := by omega
                have hi3 : (len : Int) ≤ (cap : Int) := by omega
                have hi4 : (0 : Int) ≤ (q : Int) := by omega
                go_wp2
                go_region_held3 (fun _ => True) (trivial) (first | (refine step_append_run rfl (.tmp 60) (.tmp 63) 43 43 rfl _ _ rfl rfl _ _ HR1.out ?_) | (refine step_append_run rfl (.tmp 58) (.tmp 64) 43 43 rfl _ _ rfl rfl _ _ HR2.out ?_))
                all_goals go_wp2
                all_goals go_roundw
                all_goals first | exact ⟨_, cnt4, _, hrgB, hoB, fun e => (by simp at e), HI.out.sorted, fun z => (HI.out.mem z).trans (HLM4.out z), by rw [HI.out.len, ← HLEN.out]; omega, hblB, Nat.le_trans hb3s4 hgB.size⟩ | (rw [hrgB.left_eq, hrg.left_eq]; exact hlt4)
end Go.Proofs.Ytfblmfjgbbeheaa.sp
