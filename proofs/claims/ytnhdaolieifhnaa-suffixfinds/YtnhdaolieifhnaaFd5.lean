/- What Like of package find answers. -/
import Derived.Test.YtnhdaolieifhnaaFd3
import Derived.Test.YtnhdaolieifhnaaFd4
namespace Go.Proofs.Ytnhdaolieifhnaa.find
set_option linter.unusedVariables false
open Go.ChangeShapes Go.WideShapes Go.ChangeAt Go.RowKit
open mem rows fd

theorem bg_step (m f : Nat → Int) (n k b : Nat) (hn : n ≤ 64) (hb : f k = b) : bits .and .u64 (bits .or .u64 (IntKind.u64.wrap ((bg m f n k : Int) * 2)) 1) ((FV m b n : Nat) : Int) = ((bg m f n (k + 1) : Nat) : Int) := by
  have h1 : IntKind.u64.wrap ((bg m f n k : Int) * 2) = ((bg m f n k * 2 % 18446744073709551616 : Nat) : Int) := by rw [IntKind.wrap_u64]; omega
  have h2 : bg m f n k * 2 % 18446744073709551616 < 18446744073709551616 := Nat.mod_lt _ (by decide)
  have h3 : (1 : Int) = ((1 : Nat) : Int) := rfl
  rw [h1, h3, bits_or_u64_nat _ _ h2 (by decide), bits_and_u64_nat _ _ ?_ (FV_lt _ _ _ hn), bg, hb]
  exact Nat.or_lt_two_pow (n := 64) h2 (by decide)
theorem last_step (B n : Nat) (hB : B < 18446744073709551616) (h0 : 0 < n) (hn : n ≤ 64) : bits .and .u64 (B : Int) (IntKind.u64.wrap (2 ^ (n - 1))) = ((B &&& 2 ^ (n - 1) : Nat) : Int) := by
  obtain ⟨h1, h2⟩ := two_k (n - 1) (by omega)
  rw [h1, bits_and_u64_nat _ _ hB h2]
theorem Ar.setAll {w : World} {g : Nat} {f : Nat → Nat} (h : Ar w g f) (f' : Nat → Nat) : Ar (w.setCells g 0 (arf f')) g f' := fun j hj => by
  have t := h.there
  refine ⟨?_, ?_⟩
  · have := World.rangeAt_setCells_same w g 0 (arf f') (by rw [arf_len]; exact t) j (.int .u64 (f' j : Int)) (by simp [arf, List.getElem?_range hj])
    simpa using this
  · rw [World.frozen?_setCells]; exact (h j hj).2
theorem wp256_alloc {Q : Exit → Act → World → Prop} {o : Oper} {a : Act} {w : World} {K : Act → World → Prop} (ho : o.op = .alloc 68)
    (h : K (a.put o.dst (.pointer (some ⟨w.heap.size, 0, none⟩))) (w.alloc (.cells (arf fun _ => 0).toArray 68))) : o.wp Try.prog a w K Q := by
  obtain ⟨od, oo, ot, op, oa, og⟩ := o
  dsimp only at ho h
  subst ho
  have hal := run_zero256
  unfold Oper.wp execOp
  go_simp
  exact h
set_option maxRecDepth 20000 in
set_option maxHeartbeats 1000000 in
theorem Like_at (s : ByteArray) (v : Value) (m : List Int) (n : Nat) (w : World) (hs : s.size ≤ 4000) (hv : View w v m) (hm : m.length = 2 * n) (h0 : 0 < n) (hn : n ≤ 64) :
    Calls Try.prog 21 #[.string s, v] w fun e w' => ∃ v, e = .returned (.tuple #[v, .nilIface]) ∧ Own w' w.heap.size v (ints (lks (mfn m) (sb s) n s.size)) ∧ Bl w w' := by
  have cF := fitting_at v m n w hv (by omega) hn
  obtain ⟨q, cp, rfl, -⟩ := hv
  obtain ⟨L, hL⟩ : ∃ L, L = m.length := ⟨_, rfl⟩
  rw [← hL] at cF hm ⊢
  have HL : Hid (L = m.length) := hL
  clear hL
  have hdv : (L : Int).tdiv 2 = (n : Int) := by rw [Int.tdiv_eq_ediv_of_nonneg (by omega)]; omega
  have cW := fun w => whole_at q L cp w (by omega)
  rw [decide_eq_true (show L % 2 = 0 by omega)] at cW
  have d1 : ((n : Int) == 0) = false := by rw [beq_eq_false_iff_ne]; omega
  have d2 : ¬ (64 : Int) < (n : Int) := by omega
  have hal := run_zero256
  have HM : Hid (L = 2 * n) := hm
  clear hm
  go_enter Try.func21, Try.ntmps21
  go_upto_region 5 with (go_at_call 34; refine (cW _).mono ?_; rintro e w2 ⟨rfl, rfl⟩)
  obtain ⟨fF, hfF⟩ : ∃ fF, fF = (fun b : Nat => FV (mfn m) b n) := ⟨_, rfl⟩
  rw [← hfF] at cF
  have HFF : Hid _ := hfF
  clear hfF hal
  refine wp_region_lit ?_
  refine wpList_plain rfl (fun K hK => ?_)
  have hK' : Shut _ := hK
  clear hK
  go_simp
  refine hK'.out _ _ ?_
  clear hK' K
  try simp only [Act.put, List.setIfInBounds_toArray, List.set_cons_zero, List.set_cons_succ]
  refine wpList_plain rfl (fun K hK => ?_)
  have hK' : Shut _ := hK
  clear hK
  go_simp
  refine cF.mono ?_
  rintro e w3 ⟨rfl, hb3⟩
  refine hK'.out _ _ ?_
  clear hK' K cF
  try simp only [Act.put, List.setIfInBounds_toArray, List.set_cons_zero, List.set_cons_succ]
  refine wpList_plain rfl (fun K hK => ?_)
  refine wp256_alloc rfl ?_
  refine hK _ _ ?_
  clear hK K
  try simp only [Act.put, List.setIfInBounds_toArray, List.set_cons_zero, List.set_cons_succ]
  have hz := Ar.new w3 (fun _ => 0) 68
  refine wpList_store_mid rfl 68 _ _ rfl w3.heap.size 0 (arf fF).toArray rfl rfl (by simpa [arf_len] using hz.there) (by simpa [arf_len] using info256) (arf_one _) ?_
  have ha := hz.setAll fF
  have hb4 : Bl w2 ((w3.alloc (.cells (arf fun _ => 0).toArray 68)).setCells w3.heap.size 0 (arf fF)) := bl_setCells hb3.size _ _ _ (hb3.alloc _)
  have hsz := ha.lt
  change wpList _ _ _ [] _ ((w3.alloc (.cells (arf fun _ => 0).toArray 68)).setCells w3.heap.size 0 (arf fF))
  generalize (w3.alloc (.cells (arf fun _ => 0).toArray 68)).setCells w3.heap.size 0 (arf fF) = w1 at *
  generalize w3.heap.size = g at *
  clear hz hb3
  simp only [Act.put]
  obtain ⟨n1, hn1⟩ : ∃ n1, n = n1 + 1 := ⟨n - 1, by omega⟩
  have HN1 : Hid (n = n1 + 1) := hn1
  have hsub : (n : Int) - 1 = (n1 : Int) := by omega
  clear hn1
  go_wp2
  obtain ⟨B, hB⟩ : ∃ B, B = w1.heap.size := ⟨_, rfl⟩
  have HB : Hid (B = w1.heap.size) := hB
  clear hB
  go_loopw [7, 10, 34] (fun lv bv i wr => ∃ k : Nat, k ≤ s.size ∧ i = .int .i64 (k : Int) ∧ bv = .int .u64 ((bg (mfn m) (sb s) n k : Nat) : Int) ∧ Own wr B lv (ints (lks (mfn m) (sb s) n k)) ∧ Bl w1 wr) (fun _ _ i _ => s.size - (intOf i).toNat)
  case atStart => exact ⟨0, Nat.zero_le _, rfl, rfl, by rw [lks_zero _ _ _ h0]; exact Own.nil _ _, Bl.refl _⟩
  case round =>
    obtain ⟨k, hk, rfl, rfl, hown, hbl⟩ := hrel
    by_cases hlt : k < s.size
    · have hlz : (k : Int) < (s.size : Int) := by omega
      have hgk : (((s[k]'hlt).toNat : Nat) : Int) = sb s k := (sb_get s k hlt).symm
      have hbd := sb_bd s k
      obtain ⟨b, hb⟩ := Int.eq_ofNat_of_zero_le hbd.1
      have hb256 : b < 256 := by omega
      have hcell := ((ha.bl hbl) b hb256).1
      rw [show fF b = FV (mfn m) (b : Int) n by rw [HFF.out]] at hcell
      have h1 := bg_step (mfn m) (sb s) n k b hn hb
      have hB' := bg_lt (mfn m) (sb s) n (k + 1) hn
      have h2 := last_step _ n hB' h0 hn
      rw [show n - 1 = n1 by have := HN1.out; omega] at h2
      have hyes := lks_yes (mfn m) (sb s) n k h0 hn
      have hno := lks_no (mfn m) (sb s) n k h0 hn
      have hll := lks_len (mfn m) (sb s) n k h0
      rw [show n - 1 = n1 by have := HN1.out; omega] at hyes hno
      obtain ⟨b1, hb1⟩ : ∃ b1, b1 = bg (mfn m) (sb s) n (k + 1) := ⟨_, rfl⟩
      rw [← hb1] at h1 h2 hyes hno hB'
      have HB1 : Hid _ := hb1
      obtain ⟨b2, hb2⟩ : ∃ b2, b2 = b1 &&& 2 ^ n1 := ⟨_, rfl⟩
      rw [← hb2] at h2 hyes hno
      clear hb1 hb2
      generalize bg (mfn m) (sb s) n k = b0 at h1 ⊢
      generalize FV (mfn m) (b : Int) n = F at hcell h1
      rw [hb] at hgk
      clear hb hbd
      by_cases hf : b2 = 0
      · have hz : ((b2 : Int) != 0) = false := by rw [hf]; rfl
        have HP : Hid _ := hno hf
        clear hyes hno hf hB'
        go_wp2
        go_roundw
        case rel => exact ⟨k + 1, by omega, by go_num, by rw [HB1.out], by rw [HP.out]; exact hown, hbl⟩
        case measure => simp [intOf]; omega
      · have hz : ((b2 : Int) != 0) = true := by rw [bne_iff_ne]; omega
        obtain ⟨e1, e2⟩ := hyes hf
        obtain ⟨x, hx⟩ : ∃ x : Nat, x = k + 1 - n := ⟨_, rfl⟩
        rw [← hx] at e2
        have hxi : (k : Int) + 1 - (n : Int) = (x : Int) := by omega
        have HP : Hid _ := e2
        clear hyes hno hf e1 e2 hx hB'
        go_wp2_with (at_builtin; refine wpL_app rfl (.tmp 50) (.tmp 55) rfl rfl _ _ (x : Int) wr.heap.size rfl rfl B (hown.step ((Bl.refl _).alloc _)) (by go_simp) (by rw [ints_len]; omega) (by have := hbl.size; have := HB.out; simp; omega) ?_; intro v' w4 ho3 hg3 hv3; have hb3 : Bl w1 w4 := bl_grown (hbl.alloc _) hg3 (fun j e => by rw [← HB.out]; exact (hown.block j e).1); clear hg3 hv3)
        go_roundw
        case rel => exact ⟨k + 1, by omega, by go_num, by rw [HB1.out], by rw [HP.out, ints_app]; exact ho3, hb3⟩
        case measure => simp [intOf]; omega
    · have hnl : ¬ ((k : Int) < (s.size : Int)) := by omega
      have HK : Hid (k = s.size) := by unfold Hid; omega
      go_wp2
      go_ret2
      rw [HK.out] at hown
      exact ⟨_, rfl, Own.mono hown (by have := HB.out; have := hb4.size; omega), hb4.trans hbl⟩
end Go.Proofs.Ytnhdaolieifhnaa.find
