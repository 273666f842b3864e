/- What the document's own XxdDump answers. -/
import Derived.Test.YtmchpmfogjhpoaaDoorXd3
import Derived.Test.YtmchpmfogjhpoaaDoorRefHex
import Derived.Test.YtmchpmfogjhpoaaDoorShownR
namespace Go.Proofs.YtmchpmfogjhpoaaDoor.xr
set_option linter.unusedVariables false
open Go.ChangeShapes Go.WideShapes Go.ChangeAt Go.RowKit
open mem rows xd
open wi (within_at nums_append)
open dig (pr isK pr_len)
open digs (hexL refPrint_at refHex_at)
open shown (shL shL_len refShown_at)

theorem nums_size (l : List Int) : (strOfNums l).size = l.length := strOfNums_size l
theorem hex_two (s : ByteArray) (a e i : Nat) (h1 : a + i < e) (h2 : e ≤ s.size) : strOfNums (hexL (s.extract (a + i) (a + i + 1)) (s.extract (a + i) (a + i + 1)).size) = strOfNums (hx (s.extract a e) i) := by
  rw [hex_one s (a + i) (by omega)]
  have hp : i < (s.extract a e).size := by rw [ByteArray.size_extract]; omega
  have : sb (s.extract a e) i = sb s (a + i) := by rw [sb_get _ _ hp, sb_get s (a + i) (by omega), ByteArray.getElem_extract]
  unfold hx
  rw [this]
theorem Dump_no (s : ByteArray) (c g : Int) (w : World) (hno : ¬ ((1 ≤ c ∧ c ≤ 256) ∧ (1 ≤ g ∧ g ≤ c))) :
    Calls Tryd.prog 11 #[.string s, .int .i64 c, .int .i64 g] w fun e w' => e = .returned (.tuple #[.string ⟨#[]⟩, .int .i64 2]) ∧ w' = w := by
  have c1 := fun w => within_at c 1 256 w
  have c2 := fun w => within_at g 1 c w
  by_cases h1 : 1 ≤ c ∧ c ≤ 256
  · have h2 : ¬ (1 ≤ g ∧ g ≤ c) := fun h => hno ⟨h1, h⟩
    rw [decide_eq_true h1] at c1
    rw [decide_eq_false h2] at c2
    clear hno h1 h2
    go_enter Tryd.func11, Tryd.ntmps11
    go_wp2_with fail
    refine (c1 _).mono ?_
    rintro e w1 ⟨rfl, rfl⟩
    go_wp2_with fail
    refine (c2 _).mono ?_
    rintro e w2 ⟨rfl, rfl⟩
    go_wp2
    go_ret2
    exact ⟨rfl, rfl⟩
  · rw [decide_eq_false h1] at c1
    clear hno h1
    go_enter Tryd.func11, Tryd.ntmps11
    go_wp2_with fail
    refine (c1 _).mono ?_
    rintro e w1 ⟨rfl, rfl⟩
    go_wp2
    go_ret2
    exact ⟨rfl, rfl⟩
set_option maxHeartbeats 4000000 in
set_option maxRecDepth 10000 in
theorem refDump_at (s : ByteArray) (c g : Nat) (w : World) (hs : s.size ≤ 600) (hg : 1 ≤ g) (hgc : g ≤ c) (hc : c ≤ 256) :
    Calls Tryd.prog 11 #[.string s, .int .i64 (c : Int), .int .i64 (g : Int)] w fun e w' => e = .returned (.tuple #[.string (strOfNums (dmp c g (ptl s c (np s c)))), .int .i64 0]) ∧ w' = w := by
  have c1 := fun w => within_at (c : Int) 1 256 w
  have c2 := fun w => within_at (g : Int) 1 (c : Int) w
  rw [decide_eq_true (⟨by omega, by omega⟩ : (1 : Int) ≤ (c : Int) ∧ (c : Int) ≤ 256)] at c1
  rw [decide_eq_true (⟨by omega, by omega⟩ : (1 : Int) ≤ (g : Int) ∧ (g : Int) ≤ (c : Int))] at c2
  have hnp := np_le s c (by omega)
  go_enter Tryd.func11, Tryd.ntmps11
  go_wp2_with fail
  refine (c1 _).mono ?_
  rintro e w1 ⟨rfl, rfl⟩
  go_wp2_with fail
  refine (c2 _).mono ?_
  rintro e w2 ⟨rfl, rfl⟩
  clear c1 c2
  go_wp2
  go_loopw [8, 9, 10, 11, 12, 13] (fun ov av _ _ _ _ wr => ∃ (k a : Nat) (O : ByteArray), k ≤ np s c ∧ a ≤ s.size + 256 ∧ ov = .string O ∧ av = .int .i64 (a : Int) ∧ O.size ≤ 1300000 ∧ Hid (a = k * c ∧ O = strOfNums (dmp c g (ptl s c k)) ∧ wr = w2)) (fun _ av _ _ _ _ _ => s.size + 256 - (intOf av).toNat)
  case atStart => exact ⟨0, 0, ⟨#[]⟩, Nat.zero_le _, Nat.zero_le _, rfl, rfl, by decide, ⟨(Nat.zero_mul c).symm, rfl, rfl⟩⟩
  case round =>
    obtain ⟨k, a, O, hk, ha, rfl, rfl, hO, H⟩ := hrel
    have hiff := np_lt s c k (by omega)
    rw [← H.out.1] at hiff
    by_cases hlt : a < s.size
    · have hltz : (a : Int) < s.size := by omega
      have hkn : k < np s c := hiff.2 hlt
      obtain ⟨e, he⟩ : ∃ e, e = min (a + c) s.size := ⟨_, rfl⟩
      obtain ⟨p, hp⟩ : ∃ p, p = s.extract a e := ⟨_, rfl⟩
      have hps : p.size = e - a := by rw [hp, ByteArray.size_extract]; omega
      have hpb : a ≤ 5000 ∧ (s.extract a e).size ≤ 1000 := ⟨by omega, by rw [ByteArray.size_extract]; omega⟩
      have hnx : dmp c g (ptl s c (k + 1)) = dmp c g (ptl s c k) ++ ln c g a p := by
        rw [ptl_succ, pt_is s c k a e H.out.1 (by omega) (by omega) he hpb, dmp_snoc, hp]
      have HPS : Hid (p.size = e - a ∧ e = min (a + c) s.size ∧ p = s.extract a e) := ⟨hps, he, hp⟩
      have HX : Hid (dmp c g (ptl s c (k + 1)) = dmp c g (ptl s c k) ++ ln c g a p) := hnx
      rename World => wv
      clear hiff hnx hps hp he hpb
      go_wp2
      go_loopw [10, 11] (fun lv iv wr => ∃ (i : Nat) (L : ByteArray), i ≤ c ∧ lv = .string L ∧ iv = .int .i64 (i : Int) ∧ L.size ≤ 768 ∧ Hid (L = strOfNums (rwl p g i) ∧ wr = wv)) (fun _ iv _ => c - (intOf iv).toNat)
      case atStart => exact ⟨0, ⟨#[]⟩, Nat.zero_le _, rfl, rfl, by decide, ⟨rfl, rfl⟩⟩
      case round =>
        obtain ⟨i, L, hi, rfl, rfl, hL, HL⟩ := hrel
        have hwe := HL.out.2
        subst hwe
        by_cases hic : i < c
        · have hicz : (i : Int) < c := by omega
          obtain ⟨r, hr⟩ : ∃ r, r = i % g := ⟨_, rfl⟩
          have hrz : (i : Int).tmod (g : Int) = (r : Int) := by rw [Int.tmod_eq_emod_of_nonneg (by omega), hr]; rfl
          have hgz : ((g : Int) == 0) = false := by rw [beq_eq_false_iff_ne]; omega
          have hstep : rwl p g (i + 1) = rwl p g i ++ (if r = 0 then [32] else []) ++ (if i < p.size then hx p i else [32, 32]) := by rw [hr]; rfl
          have hlen := rwl_len p g (i + 1)
          obtain ⟨b, hb⟩ : ∃ b, b = a + i := ⟨_, rfl⟩
          have hbz : (a : Int) + (i : Int) = (b : Int) := by omega
          have hpi : i < p.size ↔ b < s.size := by
            have h1 := HPS.out.1
            have h2 := HPS.out.2.1
            omega
          by_cases h0 : r = 0
          · have h0z : ((r : Int) == 0) = true := by rw [beq_iff_eq]; omega
            rw [if_pos h0] at hstep
            obtain ⟨M, hM⟩ : ∃ M, M = L ++ ⟨#[32]⟩ := ⟨_, rfl⟩
            have hLM : L ++ (⟨#[32]⟩ : ByteArray) = M := hM.symm
            have hMe : M = strOfNums (rwl p g i ++ [32]) := by rw [hM, HL.out.1, ← nums_append]; rfl
            have hMs : M.size ≤ 769 := by
              have := rwl_len p g i
              rw [hMe, nums_size, List.length_append, List.length_cons, List.length_nil]
              omega
            have HME : Hid (M = strOfNums (rwl p g i ++ [32])) := hMe
            clear hM hMe
            by_cases h1 : b < s.size
            · have h1z : (b : Int) < s.size := by omega
              rw [if_pos (hpi.2 h1)] at hstep
              obtain ⟨d, hd⟩ : ∃ d, d = b + 1 := ⟨_, rfl⟩
              have hdz : (b : Int) + 1 = (d : Int) := by omega
              have g1 : b ≤ d := by omega
              have g2 : d ≤ s.size := by omega
              have cH := fun w => refHex_at (s.extract b d) w (by rw [ByteArray.size_extract]; omega)
              have e1 : strOfNums (hexL (s.extract b d) (s.extract b d).size) = strOfNums (hx p i) := by
                have h5 := hpi.2 h1
                have h6 := HPS.out.1
                have h7 := HPS.out.2.1
                rw [hd, hb, HPS.out.2.2]
                exact hex_two s a e i (by omega) (by omega)
              rw [e1] at cH
              obtain ⟨X, hX⟩ : ∃ X, X = strOfNums (hx p i) := ⟨_, rfl⟩
              rw [← hX] at cH
              have hXs : X.size = 2 := by rw [hX, nums_size]; rfl
              have HF : Hid (M ++ X = strOfNums (rwl p g (i + 1))) := by unfold Hid; rw [hstep, hX, HME.out, nums_append]
              have hsz : (M ++ X).size ≤ 768 := by rw [HF.out, nums_size]; omega
              have hXb : X.size ≤ 2 := by omega
              clear hd e1 hX hXs hstep hlen hb hpi hr
              go_wp2_with (go_at_call 28; refine (cH _).mono ?_; rintro e w3 ⟨rfl, rfl⟩)
              go_roundw
              case rel => exact ⟨i + 1, _, hic, rfl, by go_num, hsz, ⟨HF.out, by trivial⟩⟩
              case measure => simp [intOf]; omega
            · have h1z : ¬ (b : Int) < s.size := by omega
              rw [if_neg (fun h => h1 (hpi.1 h))] at hstep
              have HF : Hid (M ++ ⟨#[32, 32]⟩ = strOfNums (rwl p g (i + 1))) := by
                have e2 : (⟨#[32, 32]⟩ : ByteArray) = strOfNums [32, 32] := rfl
                unfold Hid
                rw [hstep, e2, HME.out, nums_append]
              have hsz : (M ++ (⟨#[32, 32]⟩ : ByteArray)).size ≤ 768 := by rw [HF.out, nums_size]; omega
              clear hstep hlen hb hpi hr
              go_wp2
              go_roundw
              case rel => exact ⟨i + 1, _, hic, rfl, by go_num, hsz, ⟨HF.out, by trivial⟩⟩
              case measure => simp [intOf]; omega
          · have h0z : ((r : Int) == 0) = false := by rw [beq_eq_false_iff_ne]; omega
            rw [if_neg h0, List.append_nil] at hstep
            by_cases h1 : b < s.size
            · have h1z : (b : Int) < s.size := by omega
              rw [if_pos (hpi.2 h1)] at hstep
              obtain ⟨d, hd⟩ : ∃ d, d = b + 1 := ⟨_, rfl⟩
              have hdz : (b : Int) + 1 = (d : Int) := by omega
              have g1 : b ≤ d := by omega
              have g2 : d ≤ s.size := by omega
              have cH := fun w => refHex_at (s.extract b d) w (by rw [ByteArray.size_extract]; omega)
              have e1 : strOfNums (hexL (s.extract b d) (s.extract b d).size) = strOfNums (hx p i) := by
                have h5 := hpi.2 h1
                have h6 := HPS.out.1
                have h7 := HPS.out.2.1
                rw [hd, hb, HPS.out.2.2]
                exact hex_two s a e i (by omega) (by omega)
              rw [e1] at cH
              obtain ⟨X, hX⟩ : ∃ X, X = strOfNums (hx p i) := ⟨_, rfl⟩
              rw [← hX] at cH
              have hXs : X.size = 2 := by rw [hX, nums_size]; rfl
              have HF : Hid (L ++ X = strOfNums (rwl p g (i + 1))) := by unfold Hid; rw [hstep, hX, HL.out.1, nums_append]
              have hsz : (L ++ X).size ≤ 768 := by rw [HF.out, nums_size]; omega
              have hXb : X.size ≤ 2 := by omega
              clear hd e1 hX hXs hstep hlen hb hpi hr
              go_wp2_with (go_at_call 28; refine (cH _).mono ?_; rintro e w3 ⟨rfl, rfl⟩)
              go_roundw
              case rel => exact ⟨i + 1, _, hic, rfl, by go_num, hsz, ⟨HF.out, by trivial⟩⟩
              case measure => simp [intOf]; omega
            · have h1z : ¬ (b : Int) < s.size := by omega
              rw [if_neg (fun h => h1 (hpi.1 h))] at hstep
              have HF : Hid (L ++ ⟨#[32, 32]⟩ = strOfNums (rwl p g (i + 1))) := by
                have e2 : (⟨#[32, 32]⟩ : ByteArray) = strOfNums [32, 32] := rfl
                unfold Hid
                rw [hstep, e2, HL.out.1, nums_append]
              have hsz : (L ++ (⟨#[32, 32]⟩ : ByteArray)).size ≤ 768 := by rw [HF.out, nums_size]; omega
              clear hstep hlen hb hpi hr
              go_wp2
              go_roundw
              case rel => exact ⟨i + 1, _, hic, rfl, by go_num, hsz, ⟨HF.out, by trivial⟩⟩
              case measure => simp [intOf]; omega
        · have hicz : ¬ (i : Int) < c := by omega
          obtain rfl : i = c := by omega
          obtain ⟨d, hd⟩ : ∃ d, d = a + i := ⟨_, rfl⟩
          have hdz : (a : Int) + (i : Int) = (d : Int) := by omega
          have h7 := HPS.out.2.1
          have hmin : (if (s.size : Int) < (d : Int) then (s.size : Int) else (d : Int)) = (e : Int) := by split <;> omega
          have hmin2 : min (d : Int) (s.size : Int) = (e : Int) := by omega
          have g1 : (a : Int) ≤ (e : Int) := by omega
          have g2 : (e : Int) ≤ (s.size : Int) := by omega
          have g3 : a ≤ e := by omega
          have g4 : e ≤ s.size := by omega
          have hex : s.extract a e = p := HPS.out.2.2.symm
          have hps := HPS.out.1
          have cP := fun w => refPrint_at a 16 8 8 w (by omega) (by omega) (by omega) (by omega) (isK8 a (by omega))
          have cS := fun w => refShown_at p w (by omega)
          have hcw : IntKind.u64.wrap (a : Int) = (a : Int) := by rw [IntKind.wrap_u64]; omega
          obtain ⟨Y, hY⟩ : ∃ Y, Y = strOfNums (pr 16 a 8) := ⟨_, rfl⟩
          obtain ⟨Z, hZ⟩ : ∃ Z, Z = strOfNums (shL p p.size) := ⟨_, rfl⟩
          rw [← hY] at cP
          rw [← hZ] at cS
          have hYs : Y.size ≤ 8 := by rw [hY, nums_size, pr_len]; exact Nat.le_refl _
          have hZs : Z.size ≤ 256 := by rw [hZ, nums_size, shL_len]; omega
          have e1 : (⟨#[58]⟩ : ByteArray) = strOfNums [58] := rfl
          have e2 : (⟨#[32, 32]⟩ : ByteArray) = strOfNums [32, 32] := rfl
          have e3 : (⟨#[10]⟩ : ByteArray) = strOfNums [10] := rfl
          have hLe := HL.out.1
          obtain ⟨V1, f1⟩ : ∃ V, Y ++ ⟨#[58]⟩ = V := ⟨_, rfl⟩
          obtain ⟨V2, f2⟩ : ∃ V, V1 ++ L = V := ⟨_, rfl⟩
          obtain ⟨V3, f3⟩ : ∃ V, V2 ++ ⟨#[32, 32]⟩ = V := ⟨_, rfl⟩
          obtain ⟨V4, f4⟩ : ∃ V, V3 ++ Z = V := ⟨_, rfl⟩
          obtain ⟨V5, f5⟩ : ∃ V, V4 ++ ⟨#[10]⟩ = V := ⟨_, rfl⟩
          obtain ⟨V6, f6⟩ : ∃ V, O ++ V5 = V := ⟨_, rfl⟩
          have t1 : V1 = strOfNums (pr 16 a 8 ++ [58]) := by rw [← f1, hY, e1, nums_append]
          have t2 : V2 = strOfNums (pr 16 a 8 ++ [58] ++ rwl p g i) := by rw [← f2, t1, hLe, nums_append]
          have t3 : V3 = strOfNums (pr 16 a 8 ++ [58] ++ rwl p g i ++ [32, 32]) := by rw [← f3, t2, e2, nums_append]
          have t4 : V4 = strOfNums (pr 16 a 8 ++ [58] ++ rwl p g i ++ [32, 32] ++ shL p p.size) := by rw [← f4, t3, hZ, nums_append]
          have t5 : V5 = strOfNums (ln i g a p) := by rw [← f5, t4, e3, nums_append]; rfl
          have t6 : V6 = strOfNums (dmp i g (ptl s i (k + 1))) := by rw [← f6, t5, H.out.2.1, nums_append, HX.out]
          have hrl := rwl_len p g i
          have n1 : V1.size ≤ 9 := by rw [t1, nums_size, List.length_append, pr_len]; exact Nat.le_refl _
          have n2 : V2.size ≤ 777 := by rw [t2, nums_size, List.length_append, List.length_append, pr_len, List.length_cons, List.length_nil]; omega
          have n3 : V3.size ≤ 779 := by rw [t3, nums_size]; simp only [List.length_append, pr_len, List.length_cons, List.length_nil]; omega
          have n4 : V4.size ≤ 1035 := by rw [t4, nums_size]; simp only [List.length_append, pr_len, List.length_cons, List.length_nil, shL_len]; omega
          have n5 : V5.size ≤ 2000 := by rw [t5, nums_size]; exact ln_len i g a p hc (by omega)
          have hsz : V6.size ≤ 1300000 := by
            have := dmp_len i g hc (ptl s i (k + 1))
            rw [ptl_len] at this
            rw [t6, nums_size]
            omega
          have o2 : ¬ 9223372036854775807 < V1.size + L.size := by omega
          have o4 : ¬ 9223372036854775807 < V3.size + Z.size := by omega
          have o6 : ¬ 9223372036854775807 < O.size + V5.size := by omega
          have HF : Hid (V6 = strOfNums (dmp i g (ptl s i (k + 1)))) := t6
          clear t1 t2 t3 t4 t5 t6 e1 e2 e3 hLe hrl
          have HD : Hid (d = a + i ∧ wr = w2) := ⟨hd, H.out.2.2⟩
          clear hY hZ hd h7 hps
          go_wp2_with fail
          refine (cP _).mono ?_
          rintro e' w3 ⟨rfl, hw3⟩
          subst hw3
          go_wp2_with fail
          refine (cS _).mono ?_
          rintro e' w4 ⟨rfl, hw4⟩
          subst hw4
          clear cP cS
          go_wp2
          go_roundw
          case rel =>
            have h1 := HD.out.1
            have h2 := H.out.1
            exact ⟨k + 1, d, _, hkn, by omega, rfl, by go_num, hsz, ⟨by rw [h1, h2, Nat.succ_mul], HF.out, HD.out.2⟩⟩
          case measure => have h1 := HD.out.1; simp [intOf]; omega
    · have hltz : ¬ (a : Int) < s.size := by omega
      have hkm : k = np s c := by
        have : ¬ k < np s c := fun h => hlt (hiff.1 h)
        omega
      have HF : Hid (O = strOfNums (dmp c g (ptl s c (np s c))) ∧ wr = w2) := ⟨by rw [← hkm]; exact H.out.2.1, H.out.2.2⟩
      clear H hiff hkm
      go_wp2
      go_ret2
      exact ⟨by rw [HF.out.1]; rfl, HF.out.2⟩
end Go.Proofs.YtmchpmfogjhpoaaDoor.xr
