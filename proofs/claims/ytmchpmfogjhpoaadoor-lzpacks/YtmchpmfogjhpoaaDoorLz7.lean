/- What tell of package lz, and Unpack, answer. -/
import Derived.Test.YtmchpmfogjhpoaaDoorLz6
namespace Go.Proofs.YtmchpmfogjhpoaaDoor.lz
set_option linter.unusedVariables false
open Go.ChangeShapes Go.WideShapes Go.ChangeAt Go.RowKit
open mem rows

theorem tell_plain (p : ByteArray) (v : Value) (l : List Int) (w0 w : World) (hp : 1 ≤ p.size) (hp2 : p.size ≤ 4000) (hc : sb p 0 < 128) (hl : l.length ≤ 10000) (hb : Bl w0 w) (ho : BOwn w w0.heap.size v l) :
    Calls Tryd.prog 26 #[v, .string p] w fun e w' => ∃ v', e = .returned v' ∧ BOwn w' w0.heap.size v' (l ++ bs (p.extract 1 p.size)) ∧ Bl w0 w' := by
  have e0 := (sb_get p 0 (by omega)).symm
  have b0 := sb_bd p 0
  obtain ⟨c, hce⟩ : ∃ c : Nat, sb p 0 = (c : Int) := ⟨(sb p 0).toNat, by omega⟩
  rw [hce] at e0 b0 hc
  have d0 : (0 : Int) < p.size := by omega
  have d1 : (1 : Int) ≤ p.size := by omega
  obtain ⟨t, ht⟩ : ∃ t, t = p.extract 1 p.size := ⟨_, rfl⟩
  have hex : p.extract 1 p.size = t := ht.symm
  have hts : t.size ≤ 4000 := by rw [ht, ByteArray.size_extract]; omega
  obtain ⟨v', w', hr, ho', hg⟩ := app_str w w0.heap.size v l t ho (by omega) hb.size
  have HF : Hid (BOwn w' w0.heap.size v' (l ++ bs t) ∧ Bl w0 w') := ⟨ho', bl_grown hb hg (fun k e => (ho.block k e).1)⟩
  rw [← ht]
  have HR : Hid _ := hr
  clear hr ho' hg ho hb ht hce
  go_enter Tryd.func26, Tryd.ntmps26
  go_wp2_with (at_builtin; refine Lib.wpList_append_run _ rfl (.tmp 9) (.tmp 11) _ _ rfl _ _ rfl rfl _ _ HR.out ?_)
  go_ret
  exact ⟨_, rfl, HF.out⟩
set_option maxRecDepth 10000 in
set_option maxHeartbeats 1000000 in
theorem tell_again (p : ByteArray) (v : Value) (l : List Int) (w0 w : World) (hp : 3 ≤ p.size) (hp2 : p.size ≤ 4000) (hc : ¬ sb p 0 < 128) (hl : l.length ≤ 10000) (hf1 : 1 ≤ sb p 1 * 256 + sb p 2) (hf2 : sb p 1 * 256 + sb p 2 ≤ l.length) (hb : Bl w0 w) (ho : BOwn w w0.heap.size v l) :
    Calls Tryd.prog 26 #[v, .string p] w fun e w' => ∃ v', e = .returned v' ∧ BOwn w' w0.heap.size v' (cp l (sb p 1 * 256 + sb p 2).toNat ((sb p 0).toNat - 125)) ∧ Bl w0 w' := by
  have e0 := (sb_get p 0 (by omega)).symm
  have b0 := sb_bd p 0
  have cB := fun w => back_at p w hp (by omega)
  obtain ⟨c, hce⟩ : ∃ c : Nat, sb p 0 = (c : Int) := ⟨(sb p 0).toNat, by omega⟩
  obtain ⟨f, hfe⟩ : ∃ f : Nat, sb p 1 * 256 + sb p 2 = (f : Int) := ⟨(sb p 1 * 256 + sb p 2).toNat, by omega⟩
  rw [hce] at e0 b0 hc
  rw [hfe] at cB hf1 hf2
  rw [hce, hfe, Int.toNat_natCast, Int.toNat_natCast]
  have hcz : ¬ (c : Int) < 128 := by omega
  have d0 : (0 : Int) < p.size := by omega
  obtain ⟨m, hm⟩ : ∃ m, m = c - 125 := ⟨_, rfl⟩
  have hmz : (c : Int) - 125 = (m : Int) := by omega
  rw [← hm]
  have hmb : m ≤ 130 := by omega
  obtain ⟨base, hbase⟩ : ∃ b, b = w0.heap.size := ⟨_, rfl⟩
  rw [← hbase] at ho ⊢
  have HO : Hid (BOwn w base v l ∧ Bl w0 w) := ⟨ho, hb⟩
  have HBA : Hid (base = w0.heap.size) := hbase
  clear hce hfe hm ho hb hbase
  go_enter Tryd.func26, Tryd.ntmps26
  go_wp2_with (go_at_call 49; refine (cB _).mono ?_; rintro e w2 ⟨rfl, hd⟩)
  have HO2 : Hid (BOwn w2 base v l ∧ Bl w0 w2) := ⟨HO.out.1.step hd.bl, HO.out.2.trans hd.bl⟩
  clear HO hd cB
  go_loopw [0, 19] (fun vv iv wr => ∃ i : Nat, i ≤ m ∧ iv = .int .i64 (i : Int) ∧ Hid (BOwn wr base vv (cp l f i) ∧ Bl w0 wr)) (fun _ iv _ => m - (intOf iv).toNat)
  case atStart => exact ⟨0, Nat.zero_le _, rfl, HO2⟩
  case round =>
    clear HO2
    obtain ⟨i, hi, rfl, H⟩ := hrel
    by_cases hlt : i < m
    · have hltz : (i : Int) < m := by omega
      have hcl := cp_len l f i
      obtain ⟨n, hn⟩ : ∃ n, n = (cp l f i).length := ⟨_, rfl⟩
      obtain ⟨k, hk⟩ : ∃ k, k = n - f := ⟨_, rfl⟩
      obtain ⟨g, cap, hv, hcell, _⟩ := H.out.1.cells (j := k) (by omega)
      rw [← hn] at hv
      subst hv
      have hy := cp l f i
      obtain ⟨y, hye⟩ : ∃ y, y = (cp l f i).getD k 0 := ⟨_, rfl⟩
      rw [← hye] at hcell
      have hnx : cp l f (i + 1) = cp l f i ++ [y] := by rw [cp, hye, hk, hn]
      obtain ⟨v', w', hr, ho', hg⟩ := app_lit wr base (.slice (some ⟨g, 0, none⟩) n cap) (cp l f i) [y] H.out.1 (by simp; omega) (by rw [HBA.out]; exact H.out.2.size)
      have HF : Hid (BOwn w' base v' (cp l f (i + 1)) ∧ Bl w0 w') := by
        rw [hnx]
        refine ⟨ho', bl_grown (H.out.2.trans ((Bl.refl _).alloc _)) hg (fun k e => ?_)⟩
        rw [← HBA.out]
        exact (H.out.1.block k e).1
      have hkz : (n : Int) - (f : Int) = (k : Int) := by omega
      have hk1 : (k : Int) < n := by omega
      have HR : Hid _ := hr
      have hnb : n ≤ 11000 := by omega
      clear hr ho' hg H hy hnx hye hn hk hcl
      go_wp2_with (at_builtin; refine Lib.wpList_append_run _ rfl (.tmp 21) (.tmp 29) _ _ rfl _ _ rfl rfl _ _ HR.out ?_)
      go_roundw
      case rel => exact ⟨i + 1, hlt, by go_num, HF⟩
      case measure => simp [intOf]; omega
    · have hltz : ¬ (i : Int) < m := by omega
      obtain rfl : i = m := by omega
      go_wp2
      go_ret
      exact ⟨_, rfl, H.out⟩
end Go.Proofs.YtmchpmfogjhpoaaDoor.lz
