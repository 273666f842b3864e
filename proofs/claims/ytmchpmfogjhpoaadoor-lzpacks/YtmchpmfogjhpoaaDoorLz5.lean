/- What lz.Pack answers. -/
import Derived.Test.YtmchpmfogjhpoaaDoorLz4
namespace Go.Proofs.YtmchpmfogjhpoaaDoor.lz
set_option linter.unusedVariables false
open Go.ChangeShapes Go.WideShapes Go.ChangeAt Go.RowKit
open mem rows

/-- All that is told of a text. -/
def packL (s : ByteArray) : List Int := pkT (sb s) s.size 0 0
theorem packL_len (s : ByteArray) : 4 * (packL s).length ≤ 5 * s.size + 3 := by
  have := pkT_len (sb s) s.size 0 0 (Nat.le_refl _) (Nat.zero_le _)
  unfold packL
  omega
theorem Pack_big (s : ByteArray) (w : World) (h : 4000 < s.size) (h63 : s.size ≤ 9223372036854775807) : Calls Tryd.prog 7 #[.string s] w fun e w' => e = .returned (.tuple #[.string ⟨#[]⟩, .iface 22 (.int .i64 4)]) ∧ Bl w w' := by
  have hz : (4000 : Int) < s.size := by omega
  go_enter Tryd.func7, Tryd.ntmps7
  go_wp2
  go_ret2
  exact ⟨rfl, (Bl.refl _).alloc _⟩
theorem pkT_plain {g : Nat → Int} {n a fr : Nat} (h : a < n) (h2 : (ag g n a).2 = 0) : pkT g n a fr = pkT g n (a + 1) fr := by
  conv => lhs; rw [pkT, dif_pos h, dif_pos h2]
theorem pkT_match {g : Nat → Int} {n a fr : Nat} (h : a < n) (h2 : ¬ (ag g n a).2 = 0) : pkT g n a fr = told g fr a ++ ([125 + ((ag g n a).2 : Int), ((ag g n a).1 : Int) / 256, ((ag g n a).1 : Int) % 256] ++ pkT g n (a + (ag g n a).2) (a + (ag g n a).2)) := by
  conv => lhs; rw [pkT, dif_pos h, dif_neg h2]
theorem pkT_end {g : Nat → Int} {n fr : Nat} : pkT g n n fr = told g fr n := by rw [pkT, dif_neg (Nat.lt_irrefl _)]
set_option maxHeartbeats 1000000 in
set_option maxRecDepth 10000 in
theorem Pack_at (s : ByteArray) (w : World) (hs : s.size ≤ 4000) : Calls Tryd.prog 7 #[.string s] w fun e w' => e = .returned (.tuple #[.string (strOfNums (packL s)), .nilIface]) ∧ Bl w w' := by
  have hz : ¬ (4000 : Int) < s.size := by omega
  have hpl := packL_len s
  obtain ⟨A, hA⟩ : ∃ A, A = w.heap.size := ⟨_, rfl⟩
  obtain ⟨W, hW⟩ : ∃ W, W = ((w.alloc (.cells #[.string s] 9)).alloc (.cells #[.slice none 0 0] 44)).alloc (.cells #[.int .i64 0] 3) := ⟨_, rfl⟩
  have hb1 : Bl w (w.alloc (.cells #[.string s] 9)) := (Bl.refl w).alloc _
  have hb2 : Bl (w.alloc (.cells #[.string s] 9)) ((w.alloc (.cells #[.string s] 9)).alloc (.cells #[.slice none 0 0] 44)) := (Bl.refl _).alloc _
  have hb3 : Bl ((w.alloc (.cells #[.string s] 9)).alloc (.cells #[.slice none 0 0] 44)) W := by rw [hW]; exact (Bl.refl _).alloc _
  have HP : Hid (Pk w W A s (.slice none 0 0) [] 0) := by
    refine ⟨?_, ?_, ?_, BOwn.nil _ _, hb1.trans (hb2.trans hb3), by rw [hA]; exact Nat.le_refl _⟩
    · rw [hA]; exact ((Vr.new w _ _).step hb2).step hb3
    · have := (Vr.new (w.alloc (.cells #[.string s] 9)) (.slice none 0 0) 44).step hb3
      rw [World.size_alloc, ← hA] at this
      exact this
    · have := Vr.new ((w.alloc (.cells #[.string s] 9)).alloc (.cells #[.slice none 0 0] 44)) (.int .i64 0) 3
      rw [World.size_alloc, World.size_alloc, ← hA, ← hW] at this
      exact this
  have hWs : W.heap.size = A + 3 := by rw [hW, hA]; simp
  have hcs := HP.out.str.cell
  go_enter Tryd.func7, Tryd.ntmps7
  go_wp2_with fail
  rw [← hW, ← hA, show A + 1 + 1 = A + 2 from rfl]
  have HA : Hid (A = w.heap.size) := hA
  clear hb1 hb2 hb3 hW hA
  refine (nearest_at s W hs).mono ?_
  rintro e w1 ⟨B, rfl, hB1, hB2, hB3⟩
  have H1 : Hid (Pk w w1 A s (.slice none 0 0) [] 0 ∧ RowI w1 B (nrL (sb s) s.size s.size) ∧ B ≠ A + 2) := ⟨HP.out.step hB3, hB2, by omega⟩
  have HPL : Hid (4 * (packL s).length ≤ 5 * s.size + 3) := hpl
  clear HP hB1 hB2 hB3 hWs hcs hpl
  go_wp2
  go_loopw [8, 9, 10] (fun av _ _ wr => ∃ (a fr : Nat) (v : Value) (L : List Int), a ≤ s.size ∧ fr ≤ a ∧ av = .int .i64 (a : Int) ∧ Hid (Pk w wr A s v L fr ∧ L ++ pkT (sb s) s.size a fr = packL s ∧ RowI wr B (nrL (sb s) s.size s.size) ∧ B ≠ A + 2)) (fun av _ _ _ => s.size - (intOf av).toNat)
  case atStart => exact ⟨0, 0, _, [], Nat.zero_le _, Nat.le_refl _, rfl, ⟨H1.out.1, rfl, H1.out.2.1, H1.out.2.2⟩⟩
  case round =>
    clear H1
    obtain ⟨a, fr, v, L, ha, hfr, rfl, H⟩ := hrel
    have cS := H.out.1.str.cell
    by_cases hlt : a < s.size
    · have hltz : (a : Int) < s.size := by omega
      have cA := again_at s a B wr hlt hs H.out.2.2.1
      have hsp := ag_spec (sb s) s.size a (by omega)
      obtain ⟨f, hf⟩ : ∃ f, f = (ag (sb s) s.size a).1 := ⟨_, rfl⟩
      obtain ⟨m, hm⟩ : ∃ m, m = (ag (sb s) s.size a).2 := ⟨_, rfl⟩
      have h0 : m = 0 ∨ (1 ≤ f ∧ f ≤ 1023 ∧ 3 ≤ m ∧ m ≤ 130 ∧ a + m ≤ s.size) := by
        rcases hsp with ⟨h1, _⟩ | ⟨k1, k2, k3, k4, k5, k6, _⟩
        · rw [h1] at hm; exact Or.inl hm
        · rw [hf, hm]; exact Or.inr ⟨k1, k2, k4, k5, k6⟩
      have HFM : Hid (f = (ag (sb s) s.size a).1 ∧ m = (ag (sb s) s.size a).2) := ⟨hf, hm⟩
      rw [← hf, ← hm] at cA
      clear hsp hf hm
      go_wp2_with fail
      refine cA.mono ?_
      rintro e w2 ⟨rfl, hd2⟩
      have hb2 := hd2.bl
      have HQ : Hid (Pk w w2 A s v L fr ∧ L ++ pkT (sb s) s.size a fr = packL s ∧ RowI w2 B (nrL (sb s) s.size s.size) ∧ B ≠ A + 2) := ⟨H.out.1.step hb2, H.out.2.1, H.out.2.2.1.step hb2, H.out.2.2.2⟩
      clear H cA hd2 hb2 cS
      rcases h0 with h0 | h0
      · subst h0
        have HN : Hid (L ++ pkT (sb s) s.size (a + 1) fr = packL s) := by rw [← pkT_plain hlt HFM.out.2.symm]; exact HQ.out.2.1
        go_wp2
        go_roundw
        case rel => exact ⟨a + 1, fr, v, L, hlt, by omega, by go_num, ⟨HQ.out.1, HN.out, HQ.out.2.2⟩⟩
        case measure => simp [intOf]; omega
      · obtain ⟨f1, f2, m1, m2, m3⟩ := h0
        have hmz : ((m : Int) == 0) = false := by rw [beq_eq_false_iff_ne]; omega
        have hpk := pkT_match (fr := fr) hlt (show ¬ (ag (sb s) s.size a).2 = 0 by rw [← HFM.out.2]; omega)
        rw [← HFM.out.1, ← HFM.out.2] at hpk
        have hall := HQ.out.2.1
        rw [hpk] at hall
        have hlen : (L ++ told (sb s) fr a).length + 3 ≤ 9000 := by
          have e1 := congrArg List.length hall
          have e2 := HPL.out
          simp only [List.length_append, List.length_cons, List.length_nil] at e1 ⊢
          omega
        have cP := plain_at s w w2 A a fr v L hs (by omega) hfr (by omega) HQ.out.1
        have HALL : Hid _ := hall
        clear hpk hall
        go_wp2_with fail
        refine cP.mono ?_
        clear cP
        rintro e w3 ⟨rfl, ⟨v3, hp3⟩, hk3⟩
        have HR3 : Hid (Pk w w3 A s v3 (L ++ told (sb s) fr a) a ∧ RowI w3 B (nrL (sb s) s.size s.size) ∧ B ≠ A + 2) := ⟨hp3, hk3 _ _ HQ.out.2.2.2 HQ.out.2.2.1, HQ.out.2.2.2⟩
        clear hp3 hk3 HQ
        obtain ⟨y1, hy1⟩ : ∃ y : Int, 125 + (m : Int) = y := ⟨_, rfl⟩
        obtain ⟨y2, hy2⟩ : ∃ y : Int, (f : Int) / 256 = y := ⟨_, rfl⟩
        obtain ⟨y3, hy3⟩ : ∃ y : Int, (f : Int) % 256 = y := ⟨_, rfl⟩
        have z1 : y1 % 256 = y1 := by omega
        have z2 : y2 % 256 = y2 := by omega
        obtain ⟨v4, w4, hr4, ho4, hg4⟩ := app_lit w3 (A + 3) v3 (L ++ told (sb s) fr a) [y1, y2, y3] HR3.out.1.own (by simp only [List.length_cons, List.length_nil]; omega) (by have := HR3.out.1.frm.lt; omega)
        have hb4 : Bl w3 (w3.alloc (.cells ([y1, y2, y3].map (Value.int .u8)).toArray 5)) := (Bl.refl _).alloc _
        have hp3 := HR3.out.1.step hb4
        have q1 := hp3.pl.grown hg4 (hp3.own.ne hp3.pl (by decide))
        have q2 := hp3.frm.grown hg4 (hp3.own.ne hp3.frm (by decide))
        have hp4 := hp3.put ho4 hg4
        have hk4 : Kp (A + 2) w3 (w4.setCell ⟨A + 1, 0, none⟩ v4) := (Kp.bl hb4).trans (hp3.keep hg4)
        obtain ⟨p4, c4, hv4⟩ := ho4.slice
        obtain ⟨n4, hn4⟩ : ∃ n, n = (L ++ told (sb s) fr a ++ [y1, y2, y3]).length := ⟨_, rfl⟩
        rw [← hn4] at hv4
        subst hv4
        obtain ⟨b, hb⟩ : ∃ b, b = a + m := ⟨_, rfl⟩
        have HF : Hid (Pk w ((w4.setCell ⟨A + 1, 0, none⟩ (.slice p4 n4 c4)).setCell ⟨A + 2, 0, none⟩ (.int .i64 (b : Int))) A s (.slice p4 n4 c4) (L ++ told (sb s) fr a ++ [y1, y2, y3]) b ∧ (L ++ told (sb s) fr a ++ [y1, y2, y3]) ++ pkT (sb s) s.size b b = packL s ∧ RowI ((w4.setCell ⟨A + 1, 0, none⟩ (.slice p4 n4 c4)).setCell ⟨A + 2, 0, none⟩ (.int .i64 (b : Int))) B (nrL (sb s) s.size s.size) ∧ B ≠ A + 2) := by
          refine ⟨hp4.move b, ?_, (hk4.trans (Kp.move A _ _)) _ _ HR3.out.2.2 HR3.out.2.1, HR3.out.2.2⟩
          rw [hb, ← hy1, ← hy2, ← hy3, ← HALL.out]
          simp only [List.append_assoc]
        have cP3 := HR3.out.1.pl.cell
        have cP := q1.cell
        have fP := q1.frozen
        have cF := q2.cell
        have fF := q2.frozen
        have hbz : (a : Int) + (m : Int) = (b : Int) := by omega
        have hbs : b ≤ s.size := by omega
        have hab : a < b := by omega
        have HR4 : Hid _ := hr4
        clear hr4 ho4 hg4 hb4 hp3 q1 q2 hp4 hk4 hn4 hb HR3 HALL hlen
        go_wp2_with (at_builtin; refine Lib.wpList_append_run _ rfl (.tmp 36) (.tmp 45) _ _ rfl _ _ rfl rfl _ _ HR4.out ?_)
        go_roundw
        case rel => exact ⟨b, b, _, _, hbs, Nat.le_refl _, by go_num, HF⟩
        case measure => simp [intOf]; omega
    · have hltz : ¬ (a : Int) < s.size := by omega
      obtain rfl : a = s.size := by omega
      have hall := H.out.2.1
      rw [pkT_end] at hall
      have hlen : (L ++ told (sb s) fr s.size).length ≤ 10000 := by
        rw [hall]
        have := HPL.out
        omega
      have cP := plain_at s w wr A s.size fr v L hs (Nat.le_refl _) hfr hlen H.out.1
      rw [hall] at cP
      clear hall H hlen
      go_wp2_with fail
      refine cP.mono ?_
      clear cP
      rintro e w3 ⟨rfl, ⟨v3, hp3⟩, hk3⟩
      have cP3 := hp3.pl.cell
      have htx := hp3.own.text
      have HB3 : Hid (Bl w w3) := hp3.bl
      clear hp3 hk3
      go_wp2
      go_ret2
      exact ⟨rfl, HB3.out⟩
end Go.Proofs.YtmchpmfogjhpoaaDoor.lz
