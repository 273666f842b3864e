/- What the document's own LzPack answers: the same. -/
import Derived.Test.YtmchpmfogjhpoaaDoorLr2
import Derived.Test.YtmchpmfogjhpoaaDoorLz5
import Derived.StillTailTactics
namespace Go.Proofs.YtmchpmfogjhpoaaDoor.lzr
set_option linter.unusedVariables false
open Go.ChangeShapes Go.WideShapes Go.ChangeAt Go.RowKit
open mem rows lz
theorem al_ex (a b : ByteArray) : ∃ k, IsAl a b k := by
  have key : ∀ m, m ≤ a.size → m ≤ b.size → (∀ t, t < m → sb a t = sb b t) ∨ ∃ k, IsAl a b k := by
    intro m
    induction m with
    | zero => exact fun _ _ => Or.inl fun t ht => absurd ht (Nat.not_lt_zero _)
    | succ m ih =>
      intro h1 h2
      rcases ih (by omega) (by omega) with h | h
      · by_cases e : sb a m = sb b m
        · refine Or.inl fun t ht => ?_
          by_cases e2 : t = m
          · rw [e2]; exact e
          · exact h t (by omega)
        · exact Or.inr ⟨m, by omega, by omega, h, fun _ _ => e⟩
      · exact Or.inr h
  rcases key (min a.size b.size) (by omega) (by omega) with h | h
  · exact ⟨min a.size b.size, by omega, by omega, h, fun h1 h2 => by omega⟩
  · exact h
theorem IsAl.uniq {a b : ByteArray} {n m : Nat} (h : IsAl a b n) (k : IsAl a b m) : n = m := by
  obtain ⟨h1, h2, h3, h4⟩ := h
  obtain ⟨k1, k2, k3, k4⟩ := k
  rcases Nat.lt_trichotomy n m with h | h | h
  · exact absurd (k3 n h) (h4 (by omega) (by omega))
  · exact h
  · exact absurd (h3 m h) (k4 (by omega) (by omega))
theorem alike_is (a b : ByteArray) (k : Nat) (w : World) (ha : a.size ≤ 4000) (hb : b.size ≤ 4000) (h : IsAl a b k) :
    Calls Tryd.prog 20 #[.string a, .string b] w fun e w' => e = .returned (.int .i64 ((k : Nat) : Int)) ∧ Dr w w' :=
  (alike_at a b w ha hb).mono fun e w' ⟨j, he, hj, hd⟩ => ⟨by rw [he, h.uniq hj], hd⟩
/-- The longest one, as the document looks for it: how long, and how far ahead. -/
def rbF (g : Nat → Int) (n a : Nat) : Nat → Nat × Nat
  | 0 => (0, 0)
  | b + 1 => if (rbF g n a b).1 < cm g n (a - (b + 1)) a then (cm g n (a - (b + 1)) a, b + 1) else rbF g n a b
theorem rb_ag (g : Nat → Int) (n a : Nat) : ∀ b, ((rbF g n a b).1 < 3 → agF g n a b = (0, 0)) ∧ (3 ≤ (rbF g n a b).1 → agF g n a b = ((rbF g n a b).2, (rbF g n a b).1))
  | 0 => ⟨fun _ => rfl, fun h => by simp [rbF] at h⟩
  | b + 1 => by
    obtain ⟨h1, h2⟩ := rb_ag g n a b
    rw [rbF, agF]
    generalize rbF g n a b = R at *
    generalize cm g n (a - (b + 1)) a = c
    by_cases h : R.1 < c
    · rw [if_pos h]
      refine ⟨fun h3 => ?_, fun h3 => ?_⟩
      · have h3' : c < 3 := h3
        rw [h1 (by omega), if_neg (by omega)]
      · have h3' : 3 ≤ c := h3
        have h5 : (agF g n a b).2 < c := by
          by_cases h4 : R.1 < 3
          · rw [h1 h4]; exact Nat.lt_of_lt_of_le (by decide) h3'
          · rw [h2 (by omega)]; exact h
        rw [if_pos ⟨h5, h3'⟩]
    · rw [if_neg h]
      refine ⟨fun h3 => ?_, fun h3 => ?_⟩
      · rw [h1 h3, if_neg (by omega)]
      · rw [h2 h3, if_neg (fun h4 => h h4.1)]
theorem rbF_bd (g : Nat → Int) (n a : Nat) : ∀ b, (rbF g n a b).1 ≤ 130 ∧ (rbF g n a b).2 ≤ b
  | 0 => by simp [rbF]
  | b + 1 => by
    have := rbF_bd g n a b
    rw [rbF]
    by_cases h : (rbF g n a b).1 < cm g n (a - (b + 1)) a
    · rw [if_pos h]
      exact ⟨(cm_is _ _ _ _).le, Nat.le_refl _⟩
    · rw [if_neg h]
      omega
theorem cut_more (s : ByteArray) (fr a : Nat) (h : fr ≤ a) : s.extract fr a ++ s.extract a (a + 1) = s.extract fr (a + 1) := by
  apply ByteArray.ext
  rw [ByteArray.data_append, ByteArray.data_extract, ByteArray.data_extract, ByteArray.data_extract, Array.extract_append_extract, show min fr a = fr by omega, show max a (a + 1) = a + 1 by omega]
set_option maxHeartbeats 4000000 in
set_option maxRecDepth 10000 in
theorem refPack_at (s : ByteArray) (w : World) (hs : s.size ≤ 4000) : Calls Tryd.prog 6 #[.string s] w fun e w' => e = .returned (.tuple #[.string (strOfNums (packL s)), .int .i64 0]) ∧ Bl w w' := by
  have hz : ¬ (4000 : Int) < s.size := by omega
  have hpl := packL_len s
  have HPL : Hid (4 * (packL s).length ≤ 5 * s.size + 3) := hpl
  clear hpl
  obtain ⟨A, hA⟩ : ∃ A, A = w.heap.size := ⟨_, rfl⟩
  obtain ⟨W, hW⟩ : ∃ W, W = (w.alloc (.cells #[.string ⟨#[]⟩] 9)).alloc (.cells #[.string ⟨#[]⟩] 9) := ⟨_, rfl⟩
  have hb1 : Bl w (w.alloc (.cells #[.string ⟨#[]⟩] 9)) := (Bl.refl w).alloc _
  have hb2 : Bl (w.alloc (.cells #[.string ⟨#[]⟩] 9)) W := by rw [hW]; exact (Bl.refl _).alloc _
  have HP : Hid (Rk w W A ⟨#[]⟩ ⟨#[]⟩) := by
    refine ⟨?_, ?_, hb1.trans hb2, by rw [hA]; exact Nat.le_refl _⟩
    · rw [hA]; exact (Vr.new w _ _).step hb2
    · have := Vr.new (w.alloc (.cells #[.string ⟨#[]⟩] 9)) (.string ⟨#[]⟩) 9
      rw [World.size_alloc, ← hA, ← hW] at this
      exact this
  go_enter Tryd.func6, Tryd.ntmps6
  go_wp2
  rw [← hW, ← hA]
  clear hW hb1 hb2
  have HA : Hid (A = w.heap.size) := hA
  clear hA
  go_loopw [7, 8, 9, 10, 11] (fun av _ _ _ _ wr => ∃ (a fr : Nat) (L : List Int), a ≤ s.size ∧ fr ≤ a ∧ av = .int .i64 (a : Int) ∧ Hid (Rk w wr A (strOfNums L) (s.extract fr a) ∧ L ++ pkT (sb s) s.size a fr = packL s)) (fun av _ _ _ _ _ => s.size - (intOf av).toNat)
  case atStart => exact ⟨0, 0, [], Nat.zero_le _, Nat.le_refl _, rfl, ⟨by
    have e : s.extract 0 0 = ⟨#[]⟩ := eq_empty (by rw [ByteArray.size_extract]; omega)
    rw [e]
    exact HP.out, rfl⟩⟩
  case round =>
    clear HP
    obtain ⟨a, fr, L, ha, hfr, rfl, H⟩ := hrel
    by_cases hlt : a < s.size
    · have hltz : (a : Int) < s.size := by omega
      rename World => wv
      go_wp2
      go_loopw [8, 9, 10, 11] (fun nv kv bv _ wr => ∃ (b n k : Nat), b ≤ 1023 ∧ b ≤ a ∧ n ≤ 130 ∧ nv = .int .i64 (n : Int) ∧ kv = .int .i64 (k : Int) ∧ bv = .int .i64 ((b + 1 : Nat) : Int) ∧ Hid (rbF (sb s) s.size a b = (n, k) ∧ Bl wv wr)) (fun _ _ bv _ _ => 1024 - (intOf bv).toNat)
      case atStart => exact ⟨0, 0, 0, by omega, by omega, by omega, rfl, rfl, rfl, ⟨rfl, Bl.refl _⟩⟩
      case round =>
        obtain ⟨b, n, k, hb1, hb2, hn, rfl, rfl, rfl, HB⟩ := hrel
        obtain ⟨c, hc⟩ : ∃ c, c = b + 1 := ⟨_, rfl⟩
        rw [← hc]
        have HC : Hid (c = b + 1) := hc
        by_cases h12 : c ≤ 1023 ∧ c ≤ a
        · obtain ⟨h1, h2⟩ := h12
          · have h1z : (c : Int) ≤ 1023 := by omega
            have h2z : (c : Int) ≤ (a : Int) := by omega
            obtain ⟨q, hq⟩ : ∃ q, q = a - c := ⟨_, rfl⟩
            have hqz : (a : Int) - (c : Int) = (q : Int) := by omega
            have hqw : IntKind.i64.wrap ((a : Int) - (c : Int)) = (q : Int) := by rw [IntKind.wrap_i64]; omega
            have hqw2 : IntKind.i64.wrap (q : Int) = (q : Int) := by rw [IntKind.wrap_i64]; omega
            obtain ⟨j, hj⟩ := al_ex (s.extract q s.size) (s.extract a s.size)
            have hcm : min j 130 = cm (sb s) s.size q a := by
              rw [hq] at hj ⊢
              exact hj.cm (by omega) h2 ha
            have cA := fun w => alike_is (s.extract q s.size) (s.extract a s.size) j w (by rw [ByteArray.size_extract]; omega) (by rw [ByteArray.size_extract]; omega) hj
            obtain ⟨m, hm⟩ : ∃ m, m = min j 130 := ⟨_, rfl⟩
            have hmin : (if (130 : Int) < (j : Int) then (130 : Int) else (j : Int)) = (m : Int) := by split <;> omega
            have hmb : m ≤ 130 := by omega
            have hrb : rbF (sb s) s.size a c = if n < m then (m, c) else (n, k) := by
              rw [hc, rbF, HB.out.1, ← hc, ← hq, ← hcm, ← hm]
            have HR : Hid _ := hrb
            have g1 : (q : Int) ≤ (s.size : Int) := by omega
            have g2 : (a : Int) ≤ (s.size : Int) := by omega
            have g3 : q ≤ s.size := by omega
            clear hq hj hcm hm hrb hc
            go_wp2
            go_region_held3 (fun _ => True) (trivial) (first | (go_at_call 20; refine (cA _).mono ?_; rintro e w2 ⟨rfl, ⟨r, rfl⟩⟩))
            have HB2 : Hid (Bl wv wr) := HB.out.2
            by_cases hnm : n < m
            · have hnz : (n : Int) < (m : Int) := by omega
              rw [if_pos hnm] at HR
              clear cA HB
              go_wp2
              go_roundw
              case rel => exact ⟨c, m, c, h1, h2, hmb, rfl, rfl, by go_num, ⟨HR.out, HB2.out.drewN _⟩⟩
              case measure => simp [intOf]; omega
            · have hnz : ¬ (n : Int) < (m : Int) := by omega
              rw [if_neg hnm] at HR
              clear cA HB
              go_wp2
              go_roundw
              case rel => exact ⟨c, n, k, h1, h2, hn, rfl, rfl, by go_num, ⟨HR.out, HB2.out.drewN _⟩⟩
              case measure => simp [intOf]; omega
        · have hbm : b = min 1023 a := by omega
          have hrb := rb_ag (sb s) s.size a b
          rw [HB.out.1] at hrb
          have hbd := rbF_bd (sb s) s.size a b
          rw [HB.out.1] at hbd
          have HG : Hid ((n < 3 → ag (sb s) s.size a = (0, 0)) ∧ (3 ≤ n → ag (sb s) s.size a = (k, n))) := by
            unfold ag
            rw [← hbm]
            exact hrb
          have hkb : k ≤ 1023 := by have : k ≤ b := hbd.2; omega
          have HQ : Hid (Rk w wr A (strOfNums L) (s.extract fr a) ∧ L ++ pkT (sb s) s.size a fr = packL s) := ⟨H.out.1.step HB.out.2, H.out.2⟩
          have two : (c ≤ 1023 ∧ ¬ c ≤ a) ∨ ¬ c ≤ 1023 := by omega
          clear hrb hbd HB H hbm hc h12
          by_cases hn3 : n < 3
          · have hnz : (n : Int) < 3 := by omega
            have cP := HQ.out.1.pl.cell
            obtain ⟨P, hP⟩ : ∃ P, P = s.extract fr a := ⟨_, rfl⟩
            rw [← hP] at cP
            obtain ⟨X, hX⟩ : ∃ X, X = s.extract a (a + 1) := ⟨_, rfl⟩
            obtain ⟨d, hd⟩ : ∃ d, d = a + 1 := ⟨_, rfl⟩
            have hdz : (a : Int) + 1 = (d : Int) := by omega
            have hdw : IntKind.i64.wrap (d : Int) = (d : Int) := by rw [IntKind.wrap_i64]; omega
            have hPX : P ++ X = s.extract fr (a + 1) := by rw [hP, hX]; exact cut_more s fr a hfr
            have HPX : Hid (P ++ X = s.extract fr d) := by rw [hd]; exact hPX
            have hPs : P.size ≤ 4000 := by rw [hP, ByteArray.size_extract]; omega
            have hXs : X.size ≤ 1 := by rw [hX, ByteArray.size_extract]; omega
            have hbig : ¬ 9223372036854775807 < P.size + X.size := by omega
            have hex : s.extract a d = X := by rw [hd, hX]
            have g1 : (a : Int) ≤ (d : Int) := by omega
            have g2 : (d : Int) ≤ (s.size : Int) := by omega
            have g3 : a ≤ d := by omega
            have g4 : d ≤ s.size := by omega
            have hsl : ∀ w, (Instr.slice 9 (.string s) (some (.int .i64 (a : Int))) (some (.int .i64 (d : Int))) none).run Tryd.prog w = .ok (.string X) w := fun w => by
              rw [run_slice_string w 9 s .i64 .i64 (a : Int) (d : Int) Tryd.underlying9 (by omega) g1 g2, Int.toNat_natCast, Int.toNat_natCast, hex]
            have HPK : Hid (L ++ pkT (sb s) s.size d fr = packL s) := by rw [hd, ← pkT_plain hlt (by rw [HG.out.1 hn3])]; exact HQ.out.2
            have HF : Hid (Rk w (wr.drew.setCell ⟨A + 1, 0, none⟩ (.string (P ++ X))) A (strOfNums L) (s.extract fr d)) := by rw [← HPX.out]; exact HQ.out.1.drew.setP _
            have fP := HQ.out.1.pl.frozen
            have HD : Hid (d = a + 1) := hd
            clear hP hX hPX hd HQ HG
            rcases two with ⟨t1, t2⟩ | t1
            · have t1z : (c : Int) ≤ 1023 := by omega
              have t2z : decide ((c : Int) ≤ (a : Int)) = false := decide_eq_false (by omega)
              have t3 : ¬ (c : Int) ≤ (a : Int) := by omega
              go_wp2
              refine wp_region_still_tail 7 (by kernel_rfl) (by kernel_rfl) ?_
              change wpStill _ _ wr.drew (fun a' => wpList _ _ _ _ a' wr.drew) _ _
              simp only [List.take_succ_cons, List.take_zero, List.drop_succ_cons, List.drop_zero]
              iterate 7 still_step
              refine wpStill_nil ?_
              go_wp2
              go_roundw
              case rel => exact ⟨d, fr, L, g4, by omega, by go_num, ⟨HF.out, HPK.out⟩⟩
              case measure => simp [intOf]; omega
            · have t1z : ¬ (c : Int) ≤ 1023 := by omega
              go_wp2
              refine wp_region_still_tail 7 (by kernel_rfl) (by kernel_rfl) ?_
              change wpStill _ _ wr.drew (fun a' => wpList _ _ _ _ a' wr.drew) _ _
              simp only [List.take_succ_cons, List.take_zero, List.drop_succ_cons, List.drop_zero]
              iterate 7 still_step
              refine wpStill_nil ?_
              go_wp2
              go_roundw
              case rel => exact ⟨d, fr, L, g4, by omega, by go_num, ⟨HF.out, HPK.out⟩⟩
              case measure => simp [intOf]; omega
          · have hnz : ¬ (n : Int) < 3 := by omega
            have hag := HG.out.2 (by omega)
            have hpk := pkT_match (fr := fr) hlt (show ¬ (ag (sb s) s.size a).2 = 0 by rw [hag]; show ¬ n = 0; omega)
            rw [hag] at hpk
            have hall := HQ.out.2
            rw [hpk] at hall
            have hlen : (L ++ told (sb s) fr a).length + 3 ≤ 9000 := by
              have e1 := congrArg List.length hall
              have e2 := HPL.out
              simp only [List.length_append, List.length_cons, List.length_nil] at e1 ⊢
              omega
            have hbd : a + n ≤ s.size := by
              rcases ag_spec (sb s) s.size a ha with ⟨h4, _⟩ | ⟨_, _, _, _, _, k6, _⟩
              · rw [hag] at h4
                injection h4 with _ h5
                omega
              · rw [hag] at k6
                exact k6
            have cT := tellr_at s w wr A a fr L hs ha hfr (by omega) HQ.out.1
            have HALL : Hid (L ++ (told (sb s) fr a ++ ([125 + (n : Int), (k : Int) / 256, (k : Int) % 256] ++ pkT (sb s) s.size (a + n) (a + n))) = packL s) := hall
            obtain ⟨L2, hL2⟩ : ∃ L2, L2 = L ++ told (sb s) fr a := ⟨_, rfl⟩
            rw [← hL2] at cT hlen
            have HL2 : Hid (L2 = L ++ told (sb s) fr a) := hL2
            obtain ⟨O, hO⟩ : ∃ O, O = strOfNums L2 := ⟨_, rfl⟩
            rw [← hO] at cT
            have hOs : O.size ≤ 9000 := by rw [hO, nums_size]; omega
            obtain ⟨y1, hy1⟩ : ∃ y : Int, 125 + (n : Int) = y := ⟨_, rfl⟩
            obtain ⟨y2, hy2⟩ : ∃ y : Int, (k : Int) / 256 = y := ⟨_, rfl⟩
            have b1 : 0 ≤ y1 ∧ y1 ≤ 255 := by omega
            have b2 : 0 ≤ y2 ∧ y2 ≤ 3 := by omega
            have v1 : IntKind.i64.wrap y1 = y1 := by rw [IntKind.wrap_i64]; omega
            have v2 : IntKind.u64.wrap y1 = y1 := by rw [IntKind.wrap_u64]; omega
            have v3 : (k : Int).tdiv 256 = y2 := by rw [Int.tdiv_eq_ediv_of_nonneg (by omega)]; exact hy2
            have v4 : IntKind.i64.wrap y2 = y2 := by rw [IntKind.wrap_i64]; omega
            have v5 : IntKind.u64.wrap y2 = y2 := by rw [IntKind.wrap_u64]; omega
            have v6 : IntKind.u64.wrap (k : Int) = (k : Int) := by rw [IntKind.wrap_u64]; omega
            have c1 := fun w => char_at y1 w b1.1 (by omega)
            have c2 := fun w => char_at y2 w b2.1 (by omega)
            have c3 := fun w => char_at (k : Int) w (by omega) (by omega)
            rw [show y1 % 256 = y1 by omega] at c1
            rw [show y2 % 256 = y2 by omega] at c2
            obtain ⟨Y1, hY1⟩ : ∃ Y, Y = strOfNums [y1] := ⟨_, rfl⟩
            obtain ⟨Y2, hY2⟩ : ∃ Y, Y = strOfNums [y2] := ⟨_, rfl⟩
            obtain ⟨Y3, hY3⟩ : ∃ Y, Y = strOfNums [(k : Int) % 256] := ⟨_, rfl⟩
            rw [← hY1] at c1
            rw [← hY2] at c2
            rw [← hY3] at c3
            have s1 : Y1.size ≤ 1 := by rw [hY1, nums_size]; exact Nat.le_refl _
            have s2 : Y2.size ≤ 1 := by rw [hY2, nums_size]; exact Nat.le_refl _
            have s3 : Y3.size ≤ 1 := by rw [hY3, nums_size]; exact Nat.le_refl _
            have l1 : ¬ 9223372036854775807 < Y1.size + Y2.size := by omega
            have l2 : ¬ 9223372036854775807 < Y1.size + Y2.size + Y3.size := by omega
            have l3 : ¬ 9223372036854775807 < O.size + (Y1.size + Y2.size + Y3.size) := by omega
            have HO : Hid (O ++ (Y1 ++ Y2 ++ Y3) = strOfNums (L2 ++ [125 + (n : Int), (k : Int) / 256, (k : Int) % 256])) := by
              rw [hO, hY1, hY2, hY3, nums_append, nums_append, nums_append, hy1, hy2]
              rfl
            obtain ⟨d, hd⟩ : ∃ d, d = a + n := ⟨_, rfl⟩
            have hdz : (a : Int) + (n : Int) = (d : Int) := by omega
            have hds : d ≤ s.size := by omega
            have had : a < d := by omega
            have HD : Hid (d = a + n) := hd
            have HE : Hid (s.extract d d = ⟨#[]⟩) := eq_empty (by rw [ByteArray.size_extract]; omega)
            clear hd hO hY1 hY2 hY3 hy2 hall hpk hag HQ HG hlen hL2
            rcases two with ⟨t1, t2⟩ | t1
            · have t1z : (c : Int) ≤ 1023 := by omega
              have t2z : decide ((c : Int) ≤ (a : Int)) = false := decide_eq_false (by omega)
              have t3 : ¬ (c : Int) ≤ (a : Int) := by omega
              go_wp2_with fail
              refine cT.mono ?_
              rintro e w2 ⟨rfl, hr2⟩
              have cO := hr2.out.cell
              have HR2 : Hid (Rk w w2 A O ⟨#[]⟩) := hr2
              clear hr2 cT
              go_wp2_with fail
              go_region_with (first
                | (go_at_call_of 19 y1; refine (c1 _).mono ?_; rintro e w3 ⟨rfl, hg3⟩; have hr3 := HR2.out.drew.step hg3.bl; have o3 := hr3.out.cell)
                | (go_at_call_of 19 y2; refine (c2 _).mono ?_; rintro e w4 ⟨rfl, hg4⟩; have hr4 := hr3.step hg4.bl; have o4 := hr4.out.cell)
                | (go_at_call_of 19 (k : Int); refine (c3 _).mono ?_; rintro e w5 ⟨rfl, hg5⟩; have hr5 := hr4.step hg5.bl; have o5 := hr5.out.cell; have f5 := hr5.out.frozen))
              all_goals
                have HF : Hid (Rk w (w5.setCell ⟨A, 0, none⟩ (.string (O ++ (Y1 ++ Y2 ++ Y3)))) A (strOfNums (L2 ++ [125 + (n : Int), (k : Int) / 256, (k : Int) % 256])) (s.extract d d)) := by
                  rw [HE.out, ← HO.out]
                  exact hr5.setO _
                clear hr3 hr4 hr5 hg3 hg4 hg5 HR2 c1 c2 c3
                go_wp2
                go_roundw
                case rel => exact ⟨d, d, _, hds, Nat.le_refl _, by go_num, ⟨HF.out, by
                  rw [← HALL.out, HL2.out, HD.out]
                  simp only [List.append_assoc]⟩⟩
                case measure => simp [intOf]; omega
            · have t1z : ¬ (c : Int) ≤ 1023 := by omega
              go_wp2_with fail
              refine cT.mono ?_
              rintro e w2 ⟨rfl, hr2⟩
              have cO := hr2.out.cell
              have HR2 : Hid (Rk w w2 A O ⟨#[]⟩) := hr2
              clear hr2 cT
              go_wp2_with fail
              go_region_with (first
                | (go_at_call_of 19 y1; refine (c1 _).mono ?_; rintro e w3 ⟨rfl, hg3⟩; have hr3 := HR2.out.drew.step hg3.bl; have o3 := hr3.out.cell)
                | (go_at_call_of 19 y2; refine (c2 _).mono ?_; rintro e w4 ⟨rfl, hg4⟩; have hr4 := hr3.step hg4.bl; have o4 := hr4.out.cell)
                | (go_at_call_of 19 (k : Int); refine (c3 _).mono ?_; rintro e w5 ⟨rfl, hg5⟩; have hr5 := hr4.step hg5.bl; have o5 := hr5.out.cell; have f5 := hr5.out.frozen))
              all_goals
                have HF : Hid (Rk w (w5.setCell ⟨A, 0, none⟩ (.string (O ++ (Y1 ++ Y2 ++ Y3)))) A (strOfNums (L2 ++ [125 + (n : Int), (k : Int) / 256, (k : Int) % 256])) (s.extract d d)) := by
                  rw [HE.out, ← HO.out]
                  exact hr5.setO _
                clear hr3 hr4 hr5 hg3 hg4 hg5 HR2 c1 c2 c3
                go_wp2
                go_roundw
                case rel => exact ⟨d, d, _, hds, Nat.le_refl _, by go_num, ⟨HF.out, by
                  rw [← HALL.out, HL2.out, HD.out]
                  simp only [List.append_assoc]⟩⟩
                case measure => simp [intOf]; omega
    · have hltz : ¬ (a : Int) < s.size := by omega
      obtain rfl : a = s.size := by omega
      have hall := H.out.2
      rw [pkT_end] at hall
      have hlen : (L ++ told (sb s) fr s.size).length ≤ 10000 := by
        rw [hall]
        have := HPL.out
        omega
      have cT := tellr_at s w wr A s.size fr L hs (Nat.le_refl _) hfr hlen H.out.1
      rw [hall] at cT
      clear hall H hlen
      go_wp2_with fail
      refine cT.mono ?_
      rintro e w2 ⟨rfl, hr2⟩
      have cO := hr2.out.cell
      have HB2 : Hid (Bl w w2) := hr2.bl
      clear hr2 cT
      go_wp2
      go_ret2
      exact ⟨rfl, HB2.out⟩
theorem refPack_big (s : ByteArray) (w : World) (h : 4000 < s.size) (h63 : s.size ≤ 9223372036854775807) : Calls Tryd.prog 6 #[.string s] w fun e w' => e = .returned (.tuple #[.string ⟨#[]⟩, .int .i64 4]) ∧ Bl w w' := by
  have hz : (4000 : Int) < s.size := by omega
  go_enter Tryd.func6, Tryd.ntmps6
  go_wp2
  go_ret2
  exact ⟨rfl, Bl.refl _⟩
end Go.Proofs.YtmchpmfogjhpoaaDoor.lzr
