/- Far of package diff. -/
import Derived.Test.YtoiiphkcpdphbaaDoorDf2
namespace Go.Proofs.YtoiiphkcpdphbaaDoor.df
set_option linter.unusedVariables false
open Go.ChangeShapes Go.WideShapes Go.ChangeAt Go.RowKit Go.Maps
open mem
set_option maxHeartbeats 1000000 in
set_option maxRecDepth 10000 in
theorem Far_at (a b : ByteArray) (w : World) (hab : a.size + b.size ≤ 4000) :
    Calls Tryd.prog 7 #[.string a, .string b] w fun e w' => e = .returned (.tuple #[.int .i64 (far (L a) (L b) : Int), .nilIface]) ∧ Bl w w' := by
  have hmm : ∀ w, (Instr.makeMap 54 none).run Tryd.prog w = .ok (.map (some w.heap.size)) (w.alloc (.map #[] 0)) := fun w => by kernel_rfl
  obtain ⟨w1, hw1⟩ : ∃ w1, w1 = w.alloc (.map #[] 0) := ⟨_, rfl⟩
  obtain ⟨M, hM⟩ : ∃ M, M = w.heap.size := ⟨_, rfl⟩
  have H0 : Hid (Mp w1 M (fun _ => 0) 0 ∧ Bl w w1) := ⟨by rw [hw1, hM]; exact Mp.made w, by rw [hw1]; exact (Bl.refl w).alloc _⟩
  have HM : Hid (w.heap.size = M) := hM.symm
  have hnl : ¬ 4000 < (a.size : Int) + (b.size : Int) := by omega
  have HF : Hid (far (L a) (L b) ≤ a.size + b.size) := by have := far_le (L a) (L b); rw [L_len, L_len] at this; exact this
  go_enter Tryd.func7, Tryd.ntmps7
  go_wp2
  rw [← hw1, ← hM]
  clear hw1 hM hmm
  go_loopw [7, 8, 9, 10, 11] (fun sv _ _ _ _ wr => ∃ (s : Nat) (f : Int → Int), sv = .int .i64 (s : Int) ∧ Hid (Out (L a) (L b) s f ∧ Mp wr M f (5000 * s) ∧ Bl w wr)) (fun sv _ _ _ _ _ => 5000 - (intOf sv).toNat)
  case atStart => exact ⟨0, _, rfl, out_zero _ _ _, H0.out.1, H0.out.2⟩
  case round =>
    clear H0
    obtain ⟨s, f, rfl, H⟩ := hrel
    have hs : s ≤ 4000 := by have := H.out.1.2.1; have := HF.out; omega
    obtain ⟨wa, hua, hma, hga⟩ := H.out.2.1.put (-(s : Int) - 1) (-1) (by omega) (by omega) (by omega)
    obtain ⟨wb, hub, hmb, hgb⟩ := hma.put ((s : Int) + 1) (-1) (by omega) (by omega) (by omega)
    obtain ⟨lo, hlo⟩ : ∃ lo : Int, lo = max (-(s : Int)) ((s : Int) - 2 * (b.size : Int)) := ⟨_, rfl⟩
    obtain ⟨hi, hhi⟩ : ∃ hi : Int, hi = min (s : Int) (2 * (a.size : Int) - (s : Int)) := ⟨_, rfl⟩
    have em1 : (if -(s : Int) < (s : Int) - 2 * (b.size : Int) then (s : Int) - 2 * (b.size : Int) else -(s : Int)) = lo := by rw [hlo]; split <;> omega
    have em2 : (if 2 * (a.size : Int) - (s : Int) < (s : Int) then 2 * (a.size : Int) - (s : Int) else (s : Int)) = hi := by rw [hhi]; split <;> omega
    have em3 : (if (s : Int) < 2 * (a.size : Int) - (s : Int) then (s : Int) else 2 * (a.size : Int) - (s : Int)) = hi := by rw [hhi]; split <;> omega
    have em4 : (if (s : Int) - 2 * (b.size : Int) < -(s : Int) then -(s : Int) else (s : Int) - 2 * (b.size : Int)) = lo := by rw [hlo]; split <;> omega
    have HB : Hid (Inn (L a) (L b) s lo (put (put f (-(s : Int) - 1) (-1)) ((s : Int) + 1) (-1)) ∧ Mp wb M (put (put f (-(s : Int) - 1) (-1)) ((s : Int) + 1) (-1)) (5000 * s + 2) ∧ Bl w wb) := by
      refine ⟨out_inn H.out.1 lo (by rw [L_len]; exact hlo), hmb, ?_⟩
      exact bl_grown (bl_grown H.out.2.2 hga (fun k e => by injection e with e; have := HM.out; omega)) hgb (fun k e => by injection e with e; have := HM.out; omega)
    have HLO : Hid (lo = max (-(s : Int)) ((s : Int) - 2 * (b.size : Int)) ∧ hi = min (s : Int) (2 * (a.size : Int) - (s : Int))) := ⟨hlo, hhi⟩
    clear hlo hhi hma hga hmb hgb H
    go_wp2
    clear hua hub em1 em2 em3 em4
    go_loopw [10, 11] (fun kv _ wr => ∃ (k : Int) (c : Nat) (f : Int → Int), kv = .int .i64 k ∧ k = lo + 2 * (c : Int) ∧ c ≤ 4001 ∧ Hid (Inn (L a) (L b) s k f ∧ Mp wr M f (5000 * s + 2 + c) ∧ Bl w wr)) (fun kv _ _ => (hi + 2 - intOf kv).toNat)
    case atStart => exact ⟨lo, 0, _, rfl, by omega, by omega, HB⟩
    case round =>
      clear HB
      obtain ⟨k, c, f, rfl, hkc, hc, H⟩ := hrel
      have hk0 : -4000 ≤ k := by have := HLO.out; omega
      have hkz : k ≤ 20000 := by have := HLO.out; omega
      have HK : Hid (k = lo + 2 * (c : Int)) := hkc
      clear hkc
      by_cases hle : k ≤ hi
      · have hr : Inr (L a).length (L b).length s k := by
          rw [L_len, L_len]
          have := HLO.out
          have := HK.out
          exact inr_iff.2 (by omega)
        have hbd := inn_bd H.out.1 hr
        rw [L_len, L_len] at hbd
        have hl1 := H.out.2.1.look (k - 1) (by have := HLO.out; omega)
        have hl2 := H.out.2.1.look (k + 1) (by have := HLO.out; omega)
        obtain ⟨v, hv⟩ : ∃ v, v = max (f (k - 1) + 1) (f (k + 1)) := ⟨_, rfl⟩
        have em5 : (if f (k - 1) + 1 < f (k + 1) then f (k + 1) else f (k - 1) + 1) = v := by rw [hv]; split <;> omega
        have em6 : (if f (k + 1) < f (k - 1) + 1 then f (k - 1) + 1 else f (k + 1)) = v := by rw [hv]; split <;> omega
        have HV : Hid (Inr (L a).length (L b).length s k ∧ v = max (f (k - 1) + 1) (f (k + 1))) := ⟨hr, hv⟩
        obtain ⟨I, rfl⟩ : ∃ I : Nat, v = (I : Int) := ⟨v.toNat, by omega⟩
        obtain ⟨J, hJ⟩ : ∃ J : Nat, (I : Int) - k = (J : Int) := ⟨((I : Int) - k).toNat, by omega⟩
        have hIb : I ≤ 9000 := by omega
        have hJb : J ≤ 9000 := by omega
        generalize f (k - 1) = p at hl1 em5 em6 hbd
        generalize f (k + 1) = q at hl2 em5 em6 hbd
        have hpq : -1 ≤ p ∧ p ≤ 9000 ∧ -1 ≤ q ∧ q ≤ 9000 := by omega
        clear hbd hv hr
        clear em6
        go_wp2_with (go_at_call 19; refine (same_at a b I J _ (by omega) (by omega) (by omega) (by omega)).mono ?_; rintro e w2 ⟨n, rfl, hn1, hn2, hn3, hd⟩; have hn4 : n ≤ 4000 := (by omega); obtain ⟨U, hU⟩ : ∃ U : Nat, (I : Int) + (n : Int) = (U : Int) := ⟨I + n, by omega⟩; obtain ⟨V, hV⟩ : ∃ V : Nat, (U : Int) - k = (V : Int) := ⟨J + n, by omega⟩; have HN : Hid ((n = 0 ∨ I + n ≤ a.size ∧ J + n ≤ b.size) ∧ (∀ t, t < n → Eqb (L a) (L b) (I + t) (J + t)) ∧ ¬ Eqb (L a) (L b) (I + n) (J + n) ∧ Dr wr w2) := ⟨hn1, hn2, hn3, hd⟩; obtain ⟨wc, hup, hmc, hgc⟩ := (H.out.2.1.drew hd).put k (U : Int) (by have := HLO.out; omega) (by omega) (by omega); have HC : Hid (Mp wc M (put f k (U : Int)) (5000 * s + 2 + (c + 1)) ∧ Bl w wc) := ⟨hmc, bl_grown (H.out.2.2.trans hd.bl) hgc (fun k e => by injection e with e; have := HM.out; omega)⟩; clear hmc hgc; clear hn1 hn2 hn3 hd)
        all_goals have HG : Hid (Good (L a) (L b) s k (U : Int)) := (by
          have := inn_good H.out.1 HV.out.1 HV.out.2 n (by rw [Int.toNat_natCast, hJ, Int.toNat_natCast]; exact HN.out.2.1) (by rw [Int.toNat_natCast, hJ, Int.toNat_natCast]; exact HN.out.2.2.1)
          rw [hU] at this
          exact this)
        · go_ret2
          have e := inn_far H.out.1 HG.out (by rw [L_len]; omega) (by rw [L_len]; omega)
          exact ⟨by rw [e]; rfl, H.out.2.2.trans HN.out.2.2.2.bl⟩
        · have HD : Hid (Inn (L a) (L b) s (k + 2) (put f k (U : Int))) := inn_next H.out.1 HV.out.1 HG.out (by rw [L_len, L_len]; omega)
          go_wp2
          go_roundw
          case rel => exact ⟨k + 2, c + 1, _, by go_num, by have := HK.out; omega, by have := HLO.out; have := HK.out; omega, HD.out, HC.out⟩
          case measure => simp only [intOf]; omega
        · have HD : Hid (Inn (L a) (L b) s (k + 2) (put f k (U : Int))) := inn_next H.out.1 HV.out.1 HG.out (by rw [L_len, L_len]; omega)
          go_wp2
          go_roundw
          case rel => exact ⟨k + 2, c + 1, _, by go_num, by have := HK.out; omega, by have := HLO.out; have := HK.out; omega, HD.out, HC.out⟩
          case measure => simp only [intOf]; omega
      · have hgt : hi < k := by omega
        have HE : Hid (Out (L a) (L b) ((s : Int) + 1) f ∧ Mp wr M f (5000 * (s + 1)) ∧ Bl w wr) := by
          refine ⟨inn_end H.out.1 (by rw [L_len]; have := HLO.out; omega), H.out.2.1.more (by omega), H.out.2.2⟩
        go_wp2
        go_roundw
        case rel => exact ⟨s + 1, _, by go_num, HE⟩
        case measure => simp [intOf]; omega
end Go.Proofs.YtoiiphkcpdphbaaDoor.df
