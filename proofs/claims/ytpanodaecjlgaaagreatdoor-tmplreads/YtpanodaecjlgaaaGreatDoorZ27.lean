/- Texts laid together: TrI, TrS, TrU, TrW. -/
import Derived.Test.YtpanodaecjlgaaaGreatDoorZ19
import Derived.Test.YtpanodaecjlgaaaGreatDoorZ26
import Derived.Deep.CutBlock
import Derived.Deep.RegionHeld3
/- The document's text of an item. -/
namespace Go.Proofs.YtpanodaecjlgaaaGreatDoor.tr
set_option linter.unusedVariables false
open Go.ChangeShapes Go.WideShapes Go.ChangeAt Go.RowKit Go.Shelf
open mem lx ex tm

/-- What the document writes of an item. -/
def itT (d : D) : List UInt8 := if d.kd = 4 then wWhen ++ [32] ++ txO d.ct ++ [32, 123] else paT d ++ [59]
theorem kw_num {d : D} {t : List UInt8} (h1 : d.kd = 1) (h : tm.numOf t = some (d.wd, d.od, d.sg)) :
    (d.wd = 1 ∧ d.od = 0 ∧ kw d = (if d.sg then [105] else [117]) ++ Lib.itoa ((8 * d.wd : Nat) : Int)) ∨ (1 < d.wd ∧ d.wd ≤ 8 ∧ d.od ≤ 1 ∧ kw d = (if d.sg then [105] else [117]) ++ Lib.itoa ((8 * d.wd : Nat) : Int) ++ (if d.od = 0 then [108, 101] else [98, 101])) := by
  have key : ∀ p ∈ numW, (p.2.1 = 1 ∧ p.2.2.1 = 0 ∧ p.1 = (if p.2.2.2 then [105] else [117]) ++ Lib.itoa ((8 * p.2.1 : Nat) : Int)) ∨ (1 < p.2.1 ∧ p.2.1 ≤ 8 ∧ p.2.2.1 ≤ 1 ∧ p.1 = (if p.2.2.2 then [105] else [117]) ++ Lib.itoa ((8 * p.2.1 : Nat) : Int) ++ (if p.2.2.1 = 0 then [108, 101] else [98, 101])) := by
    have i1 : Lib.itoa ((8 * 1 : Nat) : Int) = [56] := by simp [Lib.itoa, Lib.decDigits]
    have i2 : Lib.itoa ((8 * 2 : Nat) : Int) = [49, 54] := by simp [Lib.itoa, Lib.decDigits]
    have i4 : Lib.itoa ((8 * 4 : Nat) : Int) = [51, 50] := by simp [Lib.itoa, Lib.decDigits]
    have i8 : Lib.itoa ((8 * 8 : Nat) : Int) = [54, 52] := by simp [Lib.itoa, Lib.decDigits]
    intro p hp
    simp only [numW, List.mem_cons, List.not_mem_nil, or_false] at hp
    rcases hp with rfl | rfl | rfl | rfl | rfl | rfl | rfl | rfl | rfl | rfl | rfl | rfl <;> simp only [i1, i2, i4, i8] <;> decide
  have same : ∀ p ∈ numW, ∃ q, numW.find? (fun r => r.2.1 == p.2.1 && r.2.2.1 == p.2.2.1 && r.2.2.2 == p.2.2.2) = some q ∧ q = p := by decide
  unfold tm.numOf at h
  rw [Option.map_eq_some_iff] at h
  obtain ⟨p, hp, he⟩ := h
  have hm := List.mem_of_find?_eq_some hp
  obtain ⟨a, b, s⟩ := (⟨congrArg (·.1) he, congrArg (·.2.1) he, congrArg (·.2.2) he⟩ : p.2.1 = d.wd ∧ p.2.2.1 = d.od ∧ p.2.2.2 = d.sg)
  have hk : kw d = p.1 := by
    obtain ⟨q, hq, rfl⟩ := same p hm
    unfold kw
    rw [if_neg (by rw [h1]; decide), if_neg (by rw [h1]; decide), ← a, ← b, ← s, hq]; rfl
  rw [hk, ← a, ← b, ← s]
  exact key p hm
theorem one_i (b : Bool) (w : World) : Calls Tryz.prog 87 #[.bool b] w fun e w' => e = .returned (.int .i64 (if b then 1 else 0)) ∧ w' = w := by
  cases b
  · go_enter Tryz.func87, Tryz.ntmps87
    go_wp2
    go_ret
    exact ⟨rfl, rfl⟩
  · go_enter Tryz.func87, Tryz.ntmps87
    go_wp2
    go_ret
    exact ⟨rfl, rfl⟩
theorem print_i (V : Int) (n : Nat) (w : World) (h : V = (n : Int)) (hn : n < 9223372036854775808) : Calls Tryz.prog 96 #[.int .u64 V, .int .i64 10, .int .i64 0] w fun e w' => e = .returned (.tuple #[.string (tx (Lib.itoa (n : Int))), .int .i64 0]) ∧ w' = w := by
  subst h
  exact print_at n w hn
theorem rtext_b (x : Ex) (pc : Option Addr) (w : World) (hx : IsO w pc (some x)) (hw : WX x) (hl : (txt x).length ≤ 1000000) : Calls Tryz.prog 95 #[.pointer pc] w fun e w' => e = .returned (.string (tx (txt x))) ∧ Bl w w' :=
  (rtext_of x _ w hx hw.2.1 hw.1.okb hl).mono (by rintro e w' ⟨rfl, n, rfl⟩; exact ⟨rfl, (Bl.refl _).drewN n⟩)
attribute [local go_sem] World.cell?_alloc_some
set_option maxRecDepth 10000 in
set_option maxHeartbeats 4000000 in
theorem itemText_at (w : World) (c : C) (hd : WD c.d) (hx : IsO w c.pc c.d.ct) (hl : (txO c.d.ct).length ≤ 1000000) :
    Calls Tryz.prog 64 #[itV c] w fun e w' => e = .returned (.string (tx (itT c.d))) ∧ Bl w w' := by
  have hb1 : Bl w (w.alloc (.cells (cl c).toArray 75)) := (Bl.refl _).alloc _
  obtain ⟨N, hN⟩ : ∃ N, N = w.heap.size := ⟨_, rfl⟩
  obtain ⟨w1, hw1⟩ : ∃ w1, w1 = w.alloc (.cells (cl c).toArray 75) := ⟨_, rfl⟩
  have hv1 : Iv w1 N c := ⟨by rw [hw1, hN]; exact new_at _ _⟩
  rw [← hw1] at hb1
  have H1 : Hid (Bl w w1 ∧ Iv w1 N c ∧ IsO w1 c.pc c.d.ct) := ⟨hb1, hv1, hx.keep (Kx.bl hb1)⟩
  have HD : Hid (WD c.d ∧ (txO c.d.ct).length ≤ 1000000) := ⟨hd, hl⟩
  obtain ⟨q0, q1, q2, q3, q4, q5, q6, q7, q8, q9, q10, q11, q12⟩ := hv1.facts
  clear hb1 hv1 hx hl
  rcases hd with hd | hd | hd | hd
  · obtain ⟨e1, ⟨x, e2, e3⟩, _⟩ := hd
    rw [e1] at q0
    have cX := rtext_b x c.pc w1 (e2 ▸ H1.out.2.2) e3 (by have := HD.out.2; rw [e2] at this; exact this)
    have hz : (tx (txt x)).size ≤ 1000000 := by rw [tx_size]; have := HD.out.2; rw [e2] at this; exact this
    have HT : Hid (tx wWhen ++ tx [32] ++ tx (txt x) ++ tx [32, 123] = tx (itT c.d)) := by
      show _ = _
      rw [itT, if_pos e1, e2, tx_cat, tx_cat, tx_cat]; rfl
    clear q1 q2 q4 q5 q6 q7 q9 q10 q11 q12 e1 e2 e3
    go_enter Tryz.func64, Tryz.ntmps64
    go_upto_region 1 with fail
    change Code.wp _ _ _ _ (w.alloc (.cells (cl c).toArray 75))
    rw [← hw1, ← hN]
    clear hw1 hN
    go_wp2_with fail
    refine cX.mono ?_
    rintro e w2 ⟨rfl, hb2⟩
    have HB2 : Hid (Bl w w2) := H1.out.1.trans hb2
    clear hb2
    go_wp2
    go_ret
    refine ⟨ret_tx ?_, HB2.out⟩
    rw [← HT.out]; rfl
  · obtain ⟨e1, hnm, ⟨x, e2, e3⟩, em, er, _⟩ := hd
    rw [e1] at q0
    have cX := rtext_b x c.pc w1 (e2 ▸ H1.out.2.2) e3 (by have := HD.out.2; rw [e2] at this; exact this)
    obtain ⟨xb, ex, _⟩ := IsX.ptr (v := .pointer c.pc) (x := x) (w := w1) (by have h := H1.out.2.2; rw [e2] at h; exact h)
    obtain ⟨X, hX⟩ : ∃ X, X = tx (txt x) := ⟨_, rfl⟩
    obtain ⟨M, hM⟩ : ∃ M, M = tx c.d.nm := ⟨_, rfl⟩
    have hz : X.size ≤ 1000000 := by rw [hX, tx_size]; have := HD.out.2; rw [e2] at this; exact this
    have hMs : M.size ≤ 12 := by rw [hM, tx_size]; exact hnm.2.2.1
    have HT : Hid (tx wBytes ++ (tx [32] ++ M) ++ (tx [91] ++ X ++ tx [93]) ++ tx [59] = tx (itT c.d)) := by
      show _ = _
      have h4 : ¬ c.d.kd = 4 := by rw [e1]; decide
      rw [hX, hM, itT, if_neg h4, paT, mnT, if_pos (Or.inr e1), ruT, if_pos (Or.inl er), kw, if_pos e1, e2, tx_cat, tx_cat, tx_cat, tx_cat, tx_cat, tx_cat]
      simp [txO]
    rw [← hX] at cX
    rw [← hM] at q2
    have ex' : c.pc = some ⟨xb, 0, none⟩ := by injection ex
    rw [ex'] at q8 cX
    clear q1 q4 q5 q6 q7 q9 q10 q11 q12 hX hM ex ex'
    go_enter Tryz.func64, Tryz.ntmps64
    go_upto_region 1 with fail
    change Code.wp _ _ _ _ (w.alloc (.cells (cl c).toArray 75))
    rw [← hw1, ← hN]
    clear hw1 hN
    go_wp2_with fail
    refine cX.mono ?_
    rintro e w2 ⟨rfl, hb2⟩
    have HB2 : Hid (Bl w w2) := H1.out.1.trans hb2
    obtain ⟨q0, q1, q2, q3, q4, q5, q6, q7, q8, q9, q10, q11, q12⟩ := (H1.out.2.1.bl hb2).facts
    rw [e1] at q0
    rw [er] at q9
    clear hb2 q1 q2 q3 q4 q5 q6 q7 q8 q10 q11 q12
    go_wp2
    go_ret
    refine ⟨ret_tx ?_, HB2.out⟩
    rw [← HT.out]; rfl
  · obtain ⟨e1, hty, hnm, _, _, _, er, _, _, hm⟩ := hd
    rw [e1] at q0
    obtain ⟨M, hM⟩ : ∃ M, M = tx c.d.nm := ⟨_, rfl⟩
    obtain ⟨K, hK⟩ : ∃ K, K = tx c.d.ty := ⟨_, rfl⟩
    have hMs : M.size ≤ 12 := by rw [hM, tx_size]; exact hnm.2.2.1
    have hKs : K.size ≤ 12 := by rw [hK, tx_size]; exact hty.2.2.1
    have h4 : ¬ c.d.kd = 4 := by rw [e1]; decide
    have h2 : ¬ c.d.kd = 2 := by rw [e1]; decide
    rcases hm with ⟨em, x, e2, e3⟩ | ⟨em, e2⟩
    · have cX := rtext_b x c.pc w1 (e2 ▸ H1.out.2.2) e3 (by have := HD.out.2; rw [e2] at this; exact this)
      obtain ⟨xb, ex, _⟩ := IsX.ptr (v := .pointer c.pc) (x := x) (w := w1) (by have h := H1.out.2.2; rw [e2] at h; exact h)
      obtain ⟨X, hX⟩ : ∃ X, X = tx (txt x) := ⟨_, rfl⟩
      have hz : X.size ≤ 1000000 := by rw [hX, tx_size]; have := HD.out.2; rw [e2] at this; exact this
      have HT : Hid (K ++ (tx [32] ++ M) ++ (tx [91] ++ X ++ tx [93]) ++ tx [59] = tx (itT c.d)) := by
        show _ = _
        rw [hX, hM, hK, itT, if_neg h4, paT, mnT, if_pos (Or.inl em), ruT, if_pos (Or.inl er), kw, if_neg h2, if_pos e1, e2, tx_cat, tx_cat, tx_cat, tx_cat, tx_cat, tx_cat]
        simp [txO]
      rw [← hX] at cX
      rw [← hM] at q2
      rw [← hK] at q3
      have ex' : c.pc = some ⟨xb, 0, none⟩ := by injection ex
      rw [ex'] at q8 cX
      clear q1 q4 q5 q6 q7 q9 q10 q11 q12 hX hM hK ex ex' h4 h2
      go_enter Tryz.func64, Tryz.ntmps64
      go_upto_region 1 with fail
      change Code.wp _ _ _ _ (w.alloc (.cells (cl c).toArray 75))
      rw [← hw1, ← hN]
      clear hw1 hN
      go_wp2_with fail
      refine cX.mono ?_
      rintro e w2 ⟨rfl, hb2⟩
      have HB2 : Hid (Bl w w2) := H1.out.1.trans hb2
      obtain ⟨q0, q1, q2, q3, q4, q5, q6, q7, q8, q9, q10, q11, q12⟩ := (H1.out.2.1.bl hb2).facts
      rw [e1] at q0
      rw [er] at q9
      clear hb2 q1 q2 q3 q4 q5 q6 q7 q8 q10 q11 q12
      go_wp2
      go_ret
      refine ⟨ret_tx ?_, HB2.out⟩
      rw [← HT.out]; rfl
    · have hpc : c.pc = none := by have h := H1.out.2.2; rw [e2] at h; exact h
      have HT : Hid (K ++ (tx [32] ++ M) ++ tx [59] = tx (itT c.d)) := by
        show _ = _
        rw [hM, hK, itT, if_neg h4, paT, mnT, if_neg (by rw [em]; simp [h2]), ruT, if_pos (Or.inl er), kw, if_neg h2, if_pos e1, tx_cat, tx_cat, tx_cat]
        simp
      rw [← hM] at q2
      rw [← hK] at q3
      rw [hpc] at q8
      rw [er] at q9
      have HB1 : Hid (Bl w w1) := H1.out.1
      clear q1 q4 q5 q6 q7 q10 q11 q12 hM hK hpc h4 h2
      go_enter Tryz.func64, Tryz.ntmps64
      go_upto_region 1 with fail
      change Code.wp _ _ _ _ (w.alloc (.cells (cl c).toArray 75))
      rw [← hw1, ← hN]
      clear hw1 hN
      go_wp2
      go_ret
      refine ⟨ret_tx ?_, HB1.out⟩
      rw [← HT.out]; rfl
  · obtain ⟨e1, hty, ⟨t, ht⟩, hnm, hm⟩ := hd
    rw [e1] at q0
    obtain ⟨M, hM⟩ : ∃ M, M = tx c.d.nm := ⟨_, rfl⟩
    obtain ⟨K, hK⟩ : ∃ K, K = tx (kw c.d) := ⟨_, rfl⟩
    have h4 : ¬ c.d.kd = 4 := by rw [e1]; decide
    have h2 : ¬ c.d.kd = 2 := by rw [e1]; decide
    have hMs : M.size ≤ 12 := by rw [hM, tx_size]; exact hnm.2.2.1
    have hKs : K.size ≤ 12 := by rw [hK, tx_size]; exact kw_len HD.out.1 h4
    have HK : Hid ((c.d.wd = 1 ∧ c.d.od = 0 ∧ K = tx ((if c.d.sg then [105] else [117]) ++ Lib.itoa ((8 * c.d.wd : Nat) : Int))) ∨ (1 < c.d.wd ∧ c.d.wd ≤ 8 ∧ c.d.od ≤ 1 ∧ K = tx ((if c.d.sg then [105] else [117]) ++ Lib.itoa ((8 * c.d.wd : Nat) : Int) ++ (if c.d.od = 0 then [108, 101] else [98, 101])))) := by
      rcases kw_num e1 ht with ⟨a, b, e⟩ | ⟨a, b, b', e⟩
      · exact Or.inl ⟨a, b, by rw [hK, e]⟩
      · exact Or.inr ⟨a, b, b', by rw [hK, e]⟩
    go_enter Tryz.func64, Tryz.ntmps64
    go_upto_region 1 with fail
    change Code.wp _ _ _ _ (w.alloc (.cells (cl c).toArray 75))
    rw [← hw1, ← hN]
    clear hw1 hN
    go_upto_block 0 with fail
    go_cut [3] from 4 to 46 (fun s3 wx => s3 = .string K ∧ Hid (Bl w1 wx))
    case first =>
      clear hm hM hnm hty ht hMs HD q1 q2 q3 q7 q8 q9 q10 q11 q12
      obtain ⟨D, hD⟩ : ∃ D, D = tx (Lib.itoa ((8 * c.d.wd : Nat) : Int)) := ⟨_, rfl⟩
      have hDs : D.size ≤ 12 := by
        rcases HK.out with ⟨_, _, e⟩ | ⟨_, _, _, e⟩
        · rw [e, tx_size] at hKs; rw [hD, tx_size]; simp only [List.length_append] at hKs; omega
        · rw [e, tx_size] at hKs; rw [hD, tx_size]; simp only [List.length_append] at hKs; omega
      cases hsg : c.d.sg with
      | true =>
        rw [hsg] at q6
        rcases HK.out with ⟨a, b, e⟩ | ⟨a, b, b', e⟩
        · have HE : Hid (tx [105] ++ D = K) := by
            show _ = _
            rw [e, hsg, hD, tx_cat]; rfl
          have cP := fun wx => print_i 8 8 wx rfl (by decide)
          have hD' : D = tx (Lib.itoa ((8 : Nat) : Int)) := by rw [hD, a]
          rw [← hD'] at cP
          rw [a] at q4
          rw [b] at q5
          clear HK hD hD' e a b
          go_wp2_with fail
          refine (cP w1).mono ?_
          rintro e w2 ⟨rfl, rfl⟩
          go_wp2_with fail
          refine Calls.mono (one_i _ _) ?_
          rintro e w3 ⟨rfl, rfl⟩
          go_wp2_with fail
          go_meet
          exact ⟨by rw [← HE.out]; rfl, (Bl.refl _).alloc _⟩
        · obtain ⟨k, hk⟩ : ∃ k, k = c.d.wd := ⟨_, rfl⟩
          rw [← hk] at q4 hD a b
          have cP := fun V wx h => print_i V (8 * k) wx h (by omega)
          rw [← hD] at cP
          have d1 : decide ((1 : Int) < (k : Int)) = true := decide_eq_true (by omega)
          have d2 : decide ((k : Int) > (1 : Int)) = true := decide_eq_true (by omega)
          have hod : c.d.od = 0 ∨ c.d.od = 1 := by omega
          rcases hod with ho | ho
          · have HE : Hid (tx [105] ++ D ++ tx [108, 101] = K) := by
              show _ = _
              rw [e, hsg, hD, ho, hk, tx_cat, tx_cat]; rfl
            rw [ho] at q5
            clear HK hD e ho hk
            go_wp2_with fail
            refine Calls.mono (cP _ w1 ?_) ?_
            · omega
            · rintro e w2 ⟨rfl, rfl⟩
              go_wp2_with fail
              refine Calls.mono (one_i _ _) ?_
              rintro e w3 ⟨rfl, rfl⟩
              go_wp2_with fail
              go_meet
              exact ⟨by rw [← HE.out]; rfl, ((Bl.refl _).alloc _).alloc _⟩
          · have HE : Hid (tx [105] ++ D ++ tx [98, 101] = K) := by
              show _ = _
              rw [e, hsg, hD, ho, hk, tx_cat, tx_cat]; rfl
            rw [ho] at q5
            clear HK hD e ho hk
            go_wp2_with fail
            refine Calls.mono (cP _ w1 ?_) ?_
            · omega
            · rintro e w2 ⟨rfl, rfl⟩
              go_wp2_with fail
              refine Calls.mono (one_i _ _) ?_
              rintro e w3 ⟨rfl, rfl⟩
              go_wp2_with fail
              go_meet
              exact ⟨by rw [← HE.out]; rfl, ((Bl.refl _).alloc _).alloc _⟩
      | false =>
        rw [hsg] at q6
        rcases HK.out with ⟨a, b, e⟩ | ⟨a, b, b', e⟩
        · have HE : Hid (tx [117] ++ D = K) := by
            show _ = _
            rw [e, hsg, hD, tx_cat]; rfl
          have cP := fun wx => print_i 8 8 wx rfl (by decide)
          have hD' : D = tx (Lib.itoa ((8 : Nat) : Int)) := by rw [hD, a]
          rw [← hD'] at cP
          rw [a] at q4
          rw [b] at q5
          clear HK hD hD' e a b
          go_wp2_with fail
          refine (cP w1).mono ?_
          rintro e w2 ⟨rfl, rfl⟩
          go_wp2_with fail
          refine Calls.mono (one_i _ _) ?_
          rintro e w3 ⟨rfl, rfl⟩
          go_wp2_with fail
          go_meet
          exact ⟨by rw [← HE.out]; rfl, (Bl.refl _).alloc _⟩
        · obtain ⟨k, hk⟩ : ∃ k, k = c.d.wd := ⟨_, rfl⟩
          rw [← hk] at q4 hD a b
          have cP := fun V wx h => print_i V (8 * k) wx h (by omega)
          rw [← hD] at cP
          have d1 : decide ((1 : Int) < (k : Int)) = true := decide_eq_true (by omega)
          have d2 : decide ((k : Int) > (1 : Int)) = true := decide_eq_true (by omega)
          have hod : c.d.od = 0 ∨ c.d.od = 1 := by omega
          rcases hod with ho | ho
          · have HE : Hid (tx [117] ++ D ++ tx [108, 101] = K) := by
              show _ = _
              rw [e, hsg, hD, ho, hk, tx_cat, tx_cat]; rfl
            rw [ho] at q5
            clear HK hD e ho hk
            go_wp2_with fail
            refine Calls.mono (cP _ w1 ?_) ?_
            · omega
            · rintro e w2 ⟨rfl, rfl⟩
              go_wp2_with fail
              refine Calls.mono (one_i _ _) ?_
              rintro e w3 ⟨rfl, rfl⟩
              go_wp2_with fail
              go_meet
              exact ⟨by rw [← HE.out]; rfl, ((Bl.refl _).alloc _).alloc _⟩
          · have HE : Hid (tx [117] ++ D ++ tx [98, 101] = K) := by
              show _ = _
              rw [e, hsg, hD, ho, hk, tx_cat, tx_cat]; rfl
            rw [ho] at q5
            clear HK hD e ho hk
            go_wp2_with fail
            refine Calls.mono (cP _ w1 ?_) ?_
            · omega
            · rintro e w2 ⟨rfl, rfl⟩
              go_wp2_with fail
              refine Calls.mono (one_i _ _) ?_
              rintro e w3 ⟨rfl, rfl⟩
              go_wp2_with fail
              go_meet
              exact ⟨by rw [← HE.out]; rfl, ((Bl.refl _).alloc _).alloc _⟩
    case rest =>
      obtain ⟨rfl, HBc⟩ := hcut
      have hvc := H1.out.2.1.bl HBc.out
      have hxc : IsO wc c.pc c.d.ct := H1.out.2.2.keep (Kx.bl HBc.out)
      have HW : Hid (Bl w wc) := H1.out.1.trans HBc.out
      obtain ⟨q0, q1, q2, q3, q4, q5, q6, q7, q8, q9, q10, q11, q12⟩ := hvc.facts
      rcases hm with ⟨em, ⟨x, e2, e3⟩, er, _⟩ | ⟨em, e2, hr⟩
      · have cX := rtext_b x c.pc wc (by rw [e2] at hxc; exact hxc) e3 (by have := HD.out.2; rw [e2] at this; exact this)
        obtain ⟨xb, ex, _⟩ := IsX.ptr (v := .pointer c.pc) (x := x) (w := wc) (by rw [e2] at hxc; exact hxc)
        obtain ⟨X, hX⟩ : ∃ X, X = tx (txt x) := ⟨_, rfl⟩
        have hz : X.size ≤ 1000000 := by rw [hX, tx_size]; have := HD.out.2; rw [e2] at this; exact this
        have HT : Hid (K ++ (tx [32] ++ M) ++ (tx [91] ++ X ++ tx [93]) ++ tx [59] = tx (itT c.d)) := by
          show _ = _
          rw [hX, hM, hK, itT, if_neg h4, paT, mnT, if_pos (Or.inl em), ruT, if_pos (Or.inl er), e2, tx_cat, tx_cat, tx_cat, tx_cat, tx_cat, tx_cat]
          simp [txO]
        rw [← hX] at cX
        rw [← hM] at q2
        have ex' : c.pc = some ⟨xb, 0, none⟩ := by injection ex
        rw [ex'] at q8 cX
        have Hv : Hid (Iv wc N c) := hvc
        clear hK q0 q1 q3 q4 q5 q6 q7 q9 q10 q11 q12 hX hM ex ex' h4 h2 hvc hxc ht
        go_wp2_with fail
        refine cX.mono ?_
        rintro e w2 ⟨rfl, hb2⟩
        have HB2 : Hid (Bl w w2) := HW.out.trans hb2
        obtain ⟨q0, q1, q2, q3, q4, q5, q6, q7, q8, q9, q10, q11, q12⟩ := (Hv.out.bl hb2).facts
        rw [er] at q9
        clear hb2 q0 q1 q2 q3 q4 q5 q6 q7 q8 q10 q11 q12
        go_wp2
        go_ret
        refine ⟨ret_tx ?_, HB2.out⟩
        rw [← HT.out]; rfl
      · have hpc : c.pc = none := by rw [e2] at hxc; exact hxc
        rcases hr with ⟨er, _, _⟩ | hr
        · have HT : Hid (K ++ (tx [32] ++ M) ++ tx [59] = tx (itT c.d)) := by
            show _ = _
            rw [hM, hK, itT, if_neg h4, paT, mnT, if_neg (by rw [em]; simp [h2]), ruT, if_pos (Or.inl er), tx_cat, tx_cat, tx_cat]
            simp
          rw [← hM] at q2
          rw [hpc] at q8
          rw [er] at q9
          clear q0 q1 q3 q4 q5 q6 q7 q10 q11 q12 hM hK hpc h4 h2 hvc hxc ht
          go_wp2
          go_ret
          refine ⟨ret_tx ?_, HW.out⟩
          rw [← HT.out]; rfl
        · have h1 : NM c.d.f1 := by
            rcases hr with ⟨_, h, _⟩ | ⟨_, h, _⟩ <;> exact h
          obtain ⟨F, hF⟩ : ∃ F, F = tx c.d.f1 := ⟨_, rfl⟩
          have hFs : F.size ≤ 12 := by rw [hF, tx_size]; exact h1.2.2.1
          rw [← hM] at q2
          rw [hpc] at q8
          rw [← hF] at q10
          rcases hr with ⟨hr, _, hl⟩ | ⟨hr, _, hl⟩
          · rcases hr with er | er
            · have HT : Hid (K ++ (tx [32] ++ M) ++ (tx [32, 61, 32] ++ tx wSize ++ tx [32] ++ F) ++ tx [59] = tx (itT c.d)) := by
                show _ = _
                rw [hM, hK, hF, itT, if_neg h4, paT, mnT, if_neg (by rw [em]; simp [h2]), ruT, if_neg (by rw [er]; decide), er, if_neg (fun h => absurd h.1 (by decide)), tx_cat, tx_cat, tx_cat, tx_cat, tx_cat, tx_cat, tx_cat]
                simp [rw_]
              rw [er] at q9
              clear q0 q1 q3 q4 q5 q6 q7 q12 hM hK hF hpc h4 h2 hvc hxc ht er hl
              go_wp2_with fail
              go_region
              go_wp2
              go_ret
              refine ⟨ret_tx ?_, (HW.out.alloc _).drewN 1⟩
              rw [← HT.out]; rfl
            · have HT : Hid (K ++ (tx [32] ++ M) ++ (tx [32, 61, 32] ++ tx wCount ++ tx [32] ++ F) ++ tx [59] = tx (itT c.d)) := by
                show _ = _
                rw [hM, hK, hF, itT, if_neg h4, paT, mnT, if_neg (by rw [em]; simp [h2]), ruT, if_neg (by rw [er]; decide), er, if_neg (fun h => absurd h.1 (by decide)), tx_cat, tx_cat, tx_cat, tx_cat, tx_cat, tx_cat, tx_cat]
                simp [rw_]
              rw [er] at q9
              clear q0 q1 q3 q4 q5 q6 q7 q12 hM hK hF hpc h4 h2 hvc hxc ht er hl
              go_wp2_with fail
              go_region
              go_wp2
              go_ret
              refine ⟨ret_tx ?_, (HW.out.alloc _).drewN 1⟩
              rw [← HT.out]; rfl
          · obtain ⟨G, hG⟩ : ∃ G, G = tx c.d.l1 := ⟨_, rfl⟩
            have hGs : G.size ≤ 12 := by rw [hG, tx_size]; exact hl.2.2.1
            rw [← hG] at q11
            by_cases hfl : c.d.l1 = c.d.f1
            · have HT : Hid (K ++ (tx [32] ++ M) ++ (tx [32, 61, 32] ++ tx wCheck ++ tx [32] ++ F) ++ tx [59] = tx (itT c.d)) := by
                show _ = _
                rw [hM, hK, hF, itT, if_neg h4, paT, mnT, if_neg (by rw [em]; simp [h2]), ruT, if_neg (by rw [hr]; decide), hr, if_neg (fun h => h.2 hfl), tx_cat, tx_cat, tx_cat, tx_cat, tx_cat, tx_cat, tx_cat]
                simp [rw_]
              have hGF : G = F := by rw [hG, hF, hfl]
              rw [hGF] at q11
              rw [hr] at q9
              clear q0 q1 q3 q4 q5 q6 q7 q12 hM hK hF hG hpc h4 h2 hvc hxc ht hr hl hfl hGF
              go_wp2_with fail
              go_region
              go_wp2
              go_ret
              refine ⟨ret_tx ?_, (HW.out.alloc _).drewN 1⟩
              rw [← HT.out]; rfl
            · have HT : Hid (K ++ (tx [32] ++ M) ++ (tx [32, 61, 32] ++ tx wCheck ++ tx [32] ++ F) ++ (tx [32] ++ G) ++ tx [59] = tx (itT c.d)) := by
                show _ = _
                rw [hM, hK, hF, hG, itT, if_neg h4, paT, mnT, if_neg (by rw [em]; simp [h2]), ruT, if_neg (by rw [hr]; decide), hr, if_pos ⟨rfl, hfl⟩, tx_cat, tx_cat, tx_cat, tx_cat, tx_cat, tx_cat, tx_cat, tx_cat, tx_cat]
                simp [rw_]
              have g3 : (G.toList == F.toList) = false := by rw [hG, hF, tl_tx, tl_tx]; simp [hfl]
              rw [hr] at q9
              clear q0 q1 q3 q4 q5 q6 q7 q12 hM hK hF hG hpc h4 h2 hvc hxc ht hr hl hfl
              go_wp2_with fail
              go_region
              go_wp2
              go_ret
              refine ⟨ret_tx ?_, (HW.out.alloc _).drewN 1⟩
              rw [← HT.out]; rfl
end Go.Proofs.YtpanodaecjlgaaaGreatDoor.tr
/- Whether two rows of items are the same. -/
namespace Go.Proofs.YtpanodaecjlgaaaGreatDoor.tr
set_option linter.unusedVariables false
open Go.ChangeShapes Go.WideShapes Go.ChangeAt Go.RowKit Go.Shelf
open mem lx ex tm

attribute [local go_sem] World.cell?_alloc_some
set_option maxRecDepth 10000 in
set_option maxHeartbeats 8000000 in
theorem same_step (cs cs' : List C) (ok ok' : Nat → Prop) (p p' : Option Addr) (n c c' : Nat) (w : World) (hin : ir.Lie w ok p n c cs) (hin' : ir.Lie w ok' p' n c' cs') (hn : n ≤ 16)
    (hd : ∀ (j : Nat) (x y : C), cs[j]? = some x → cs'[j]? = some y → x.d = y.d)
    (cE : ∀ (j : Nat) (x y : C) (wx : World), cs[j]? = some x → cs'[j]? = some y → Bl w wx → Calls Tryz.prog 37 #[.pointer x.pc, .pointer y.pc] wx fun e w' => e = .returned (.bool true) ∧ Bl wx w')
    (cI : ∀ (j : Nat) (x y : C) (wx : World), cs[j]? = some x → cs'[j]? = some y → Bl w wx → Calls Tryz.prog 12 #[.slice x.p x.n x.c, .slice y.p y.n y.c] wx fun e w' => e = .returned (.bool true) ∧ Bl wx w') :
    Calls Tryz.prog 12 #[.slice p n c, .slice p' n c'] w fun e w' => e = .returned (.bool true) ∧ Bl w w' := by
  have H0 : Hid (ir.Lie w ok p n c cs ∧ ir.Lie w ok' p' n c' cs' ∧ n = cs.length ∧ n = cs'.length) := ⟨hin, hin', hin.1, hin'.1⟩
  have HD : Hid (∀ (j : Nat) (x y : C), cs[j]? = some x → cs'[j]? = some y → x.d = y.d) := hd
  clear hin hin' hd
  go_enter Tryz.func12, Tryz.ntmps12
  go_wp2
  go_loopw [5] (fun i wr => ∃ j : Nat, j ≤ n ∧ i = .int .i64 (j : Int) ∧ Hid (Bl w wr)) (fun i _ => n - (intOf i).toNat)
  case atStart => exact ⟨0, Nat.zero_le _, rfl, Bl.refl _⟩
  case round =>
    obtain ⟨j, hj, rfl, HB⟩ := hrel
    by_cases hjn : j < n
    · have d1 : decide ((j : Int) < (n : Int)) = true := decide_eq_true (by omega)
      have i0 : (0 : Int) ≤ (j : Int) := by omega
      have i1 : (j : Int) < (n : Int) := by omega
      obtain ⟨x, e1⟩ : ∃ x, cs[j]? = some x := ⟨_, List.getElem?_eq_getElem (by have := H0.out.2.2.1; omega)⟩
      obtain ⟨y, e2⟩ : ∃ y, cs'[j]? = some y := ⟨_, List.getElem?_eq_getElem (by have := H0.out.2.2.2; omega)⟩
      have hxy := HD.out j x y e1 e2
      have cE' := fun wx (hb : Bl wr wx) => cE j x y wx e1 e2 (HB.out.trans hb)
      have cI' := fun wx (hb : Bl wr wx) => cI j x y wx e1 e2 (HB.out.trans hb)
      obtain ⟨X, rfl, _, g0', g⟩ := lie_at (lie_bl H0.out.1 HB.out) j x e1
      obtain ⟨Y, rfl, _, k0', k⟩ := lie_at (lie_bl H0.out.2.1 HB.out) j y e2
      have g0 : wr.cell? (X.add (j * 13)) = some (.int .i64 (x.d.kd : Int)) := g0'
      have k0 : wr.cell? (Y.add (j * 13)) = some (.int .i64 (y.d.kd : Int)) := k0'
      have g1 := g 1 _ rfl
      have k1 := k 1 _ rfl
      have g2 := g 2 _ rfl
      have k2 := k 2 _ rfl
      have g3 := g 3 _ rfl
      have k3 := k 3 _ rfl
      have g4 := g 4 _ rfl
      have k4 := k 4 _ rfl
      have g5 := g 5 _ rfl
      have k5 := k 5 _ rfl
      have g6 := g 6 _ rfl
      have k6 := k 6 _ rfl
      have g7 := g 7 _ rfl
      have k7 := k 7 _ rfl
      have g8 := g 8 _ rfl
      have k8 := k 8 _ rfl
      have g9 := g 9 _ rfl
      have k9 := k 9 _ rfl
      have g10 := g 10 _ rfl
      have k10 := k 10 _ rfl
      have g11 := g 11 _ rfl
      have k11 := k 11 _ rfl
      have g12 := g 12 _ rfl
      have k12 := k 12 _ rfl
      clear g k g0' k0' e1 e2
      obtain ⟨xd, xpc, xp, xn, xc⟩ := x
      obtain ⟨yd, ypc, yp, yn, yc⟩ := y
      obtain rfl : xd = yd := hxy
      simp only [] at g0 g1 g2 g3 g4 g5 g6 g7 g8 g9 g10 g11 g12 k0 k1 k2 k3 k4 k5 k6 k7 k8 k9 k10 k11 k12 cE' cI'
      have HC : Hid (∀ wx, Bl wr wx → Calls Tryz.prog 37 #[.pointer xpc, .pointer ypc] wx fun e w' => e = .returned (.bool true) ∧ Bl wx w') := cE'
      have HI : Hid (∀ wx, Bl wr wx → Calls Tryz.prog 12 #[.slice xp xn xc, .slice yp yn yc] wx fun e w' => e = .returned (.bool true) ∧ Bl wx w') := cI'
      clear cE' cI' cE cI HD H0
      go_upto_region 6 with fail
      go_region
      · change Exit.then _ _ _ _ (((wr.alloc (.cells (cl ⟨xd, xpc, xp, xn, xc⟩).toArray 75)).alloc (.cells (cl ⟨xd, ypc, yp, yn, yc⟩).toArray 75)).drew)
        obtain ⟨N, hN⟩ : ∃ N, N = wr.heap.size := ⟨_, rfl⟩
        obtain ⟨w2, hw2⟩ : ∃ w2, w2 = ((wr.alloc (.cells (cl ⟨xd, xpc, xp, xn, xc⟩).toArray 75)).alloc (.cells (cl ⟨xd, ypc, yp, yn, yc⟩).toArray 75)).drew := ⟨_, rfl⟩
        rw [← hw2, ← hN]
        have hb2 : Bl wr w2 := by rw [hw2]; exact (((Bl.refl _).alloc _).alloc _).drewN 1
        have v1 : Iv w2 N ⟨xd, xpc, xp, xn, xc⟩ := by
          have h : Iv (wr.alloc (.cells (cl ⟨xd, xpc, xp, xn, xc⟩).toArray 75)) N ⟨xd, xpc, xp, xn, xc⟩ := ⟨by rw [hN]; exact new_at _ _⟩
          rw [hw2]; exact h.bl (((Bl.refl _).alloc _).drewN 1)
        have v2 : Iv w2 (N + 1) ⟨xd, ypc, yp, yn, yc⟩ := by
          have h : Iv ((wr.alloc (.cells (cl ⟨xd, xpc, xp, xn, xc⟩).toArray 75)).alloc (.cells (cl ⟨xd, ypc, yp, yn, yc⟩).toArray 75)) (N + 1) ⟨xd, ypc, yp, yn, yc⟩ := ⟨by
            have hs : N + 1 = (wr.alloc (.cells (cl ⟨xd, xpc, xp, xn, xc⟩).toArray 75)).heap.size := by rw [hN]; exact (Array.size_push _).symm
            rw [hs]; exact new_at _ _⟩
          rw [hw2]; exact h.bl ((Bl.refl _).drewN 1)
        have H2 : Hid (Bl wr w2 ∧ Iv w2 N ⟨xd, xpc, xp, xn, xc⟩ ∧ Iv w2 (N + 1) ⟨xd, ypc, yp, yn, yc⟩) := ⟨hb2, v1, v2⟩
        obtain ⟨g0, g1, g2, g3, g4, g5, g6, g7, g8, g9, g10, g11, g12⟩ := v1.facts
        obtain ⟨k0, k1, k2, k3, k4, k5, k6, k7, k8, k9, k10, k11, k12⟩ := v2.facts
        clear hw2 hN hb2 v1 v2
        simp only [] at g0 g1 g2 g3 g4 g5 g6 g7 g8 g9 g10 g11 g12 k0 k1 k2 k3 k4 k5 k6 k7 k8 k9 k10 k11 k12
        go_wp2_with fail
        refine (HC.out w2 H2.out.1).mono ?_
        rintro e w3 ⟨rfl, hb3⟩
        have HB3 : Hid (Bl wr w3) := H2.out.1.trans hb3
        have s1 := (H2.out.2.1.bl hb3).facts.2.2.2.2.2.2.2.2.2.2.2.2
        have s2 := (H2.out.2.2.bl hb3).facts.2.2.2.2.2.2.2.2.2.2.2.2
        simp only [] at s1 s2
        clear hb3
        go_wp2_with fail
        refine (HI.out w3 HB3.out).mono ?_
        rintro e w4 ⟨rfl, hb4⟩
        have HB4 : Hid (Bl w w4) := HB.out.trans (HB3.out.trans hb4)
        clear hb4
        go_wp2
        go_roundw
        case rel => exact ⟨j + 1, by omega, by go_num, HB4⟩
        case measure => simp [intOf]; omega
      · change Exit.then _ _ _ _ (((wr.alloc (.cells (cl ⟨xd, ypc, yp, yn, yc⟩).toArray 75)).alloc (.cells (cl ⟨xd, xpc, xp, xn, xc⟩).toArray 75)).drew)
        obtain ⟨N, hN⟩ : ∃ N, N = wr.heap.size := ⟨_, rfl⟩
        obtain ⟨w2, hw2⟩ : ∃ w2, w2 = ((wr.alloc (.cells (cl ⟨xd, ypc, yp, yn, yc⟩).toArray 75)).alloc (.cells (cl ⟨xd, xpc, xp, xn, xc⟩).toArray 75)).drew := ⟨_, rfl⟩
        rw [← hw2, ← hN]
        have hb2 : Bl wr w2 := by rw [hw2]; exact (((Bl.refl _).alloc _).alloc _).drewN 1
        have v2 : Iv w2 N ⟨xd, ypc, yp, yn, yc⟩ := by
          have h : Iv (wr.alloc (.cells (cl ⟨xd, ypc, yp, yn, yc⟩).toArray 75)) N ⟨xd, ypc, yp, yn, yc⟩ := ⟨by rw [hN]; exact new_at _ _⟩
          rw [hw2]; exact h.bl (((Bl.refl _).alloc _).drewN 1)
        have v1 : Iv w2 (N + 1) ⟨xd, xpc, xp, xn, xc⟩ := by
          have h : Iv ((wr.alloc (.cells (cl ⟨xd, ypc, yp, yn, yc⟩).toArray 75)).alloc (.cells (cl ⟨xd, xpc, xp, xn, xc⟩).toArray 75)) (N + 1) ⟨xd, xpc, xp, xn, xc⟩ := ⟨by
            have hs : N + 1 = (wr.alloc (.cells (cl ⟨xd, ypc, yp, yn, yc⟩).toArray 75)).heap.size := by rw [hN]; exact (Array.size_push _).symm
            rw [hs]; exact new_at _ _⟩
          rw [hw2]; exact h.bl ((Bl.refl _).drewN 1)
        have H2 : Hid (Bl wr w2 ∧ Iv w2 (N + 1) ⟨xd, xpc, xp, xn, xc⟩ ∧ Iv w2 N ⟨xd, ypc, yp, yn, yc⟩) := ⟨hb2, v1, v2⟩
        obtain ⟨g0, g1, g2, g3, g4, g5, g6, g7, g8, g9, g10, g11, g12⟩ := v1.facts
        obtain ⟨k0, k1, k2, k3, k4, k5, k6, k7, k8, k9, k10, k11, k12⟩ := v2.facts
        clear hw2 hN hb2 v1 v2
        simp only [] at g0 g1 g2 g3 g4 g5 g6 g7 g8 g9 g10 g11 g12 k0 k1 k2 k3 k4 k5 k6 k7 k8 k9 k10 k11 k12
        go_wp2_with fail
        refine (HC.out w2 H2.out.1).mono ?_
        rintro e w3 ⟨rfl, hb3⟩
        have HB3 : Hid (Bl wr w3) := H2.out.1.trans hb3
        have s1 := (H2.out.2.1.bl hb3).facts.2.2.2.2.2.2.2.2.2.2.2.2
        have s2 := (H2.out.2.2.bl hb3).facts.2.2.2.2.2.2.2.2.2.2.2.2
        simp only [] at s1 s2
        clear hb3
        go_wp2_with fail
        refine (HI.out w3 HB3.out).mono ?_
        rintro e w4 ⟨rfl, hb4⟩
        have HB4 : Hid (Bl w w4) := HB.out.trans (HB3.out.trans hb4)
        clear hb4
        go_wp2
        go_roundw
        case rel => exact ⟨j + 1, by omega, by go_num, HB4⟩
        case measure => simp [intOf]; omega
    · have d1 : decide ((j : Int) < (n : Int)) = false := decide_eq_false (by omega)
      go_wp2
      go_ret
      exact ⟨rfl, HB.out⟩
theorem rep_bl {w w' : World} {ok : Nat → Prop} {l : Its} {cs : List C} (h : Rep w ok l cs) (hb : Bl w w') : Rep w' ok l cs := h.keep (fun g _ hg => Below.block hb g hg) hb.size (Kx.bl hb)
theorem same_o (o : Option Ex) (p q : Option Addr) (w : World) (hx : IsO w p o) (hy : IsO w q o) : Calls Tryz.prog 37 #[.pointer p, .pointer q] w fun e w' => e = .returned (.bool true) ∧ Bl w w' := by
  cases o with
  | none =>
    obtain rfl : p = none := hx
    obtain rfl : q = none := hy
    exact (same_nil w).mono (by rintro e w' ⟨rfl, rfl⟩; exact ⟨rfl, Bl.refl _⟩)
  | some x =>
    exact (same_at x _ _ w hx hy).mono (by rintro e w' ⟨rfl, n, rfl⟩; exact ⟨rfl, (Bl.refl _).drewN n⟩)
theorem same_none {ok ok' : Nat → Prop} {p p' : Option Addr} {c c' : Nat} {w : World} (h : ir.Lie w ok p 0 c []) (h' : ir.Lie w ok' p' 0 c' []) : Calls Tryz.prog 12 #[.slice p 0 c, .slice p' 0 c'] w fun e w' => e = .returned (.bool true) ∧ Bl w w' :=
  same_step [] [] ok ok' p p' 0 c c' w h h' (by omega) (by intro j x y h; simp at h) (by intro j x y wx h; simp at h) (by intro j x y wx h; simp at h)
/-- Two rows of the same items are the same. -/
theorem same_items (k : Nat) : ∀ (l : Its) (ok ok' : Nat → Prop) (p p' : Option Addr) (n c c' : Nat) (cs cs' : List C) (w : World), WI k l → l.len ≤ 16 → n = l.len → ir.Lie w ok p n c cs → ir.Lie w ok' p' n c' cs' → Rep w ok l cs → Rep w ok' l cs' → Calls Tryz.prog 12 #[.slice p n c, .slice p' n c'] w fun e w' => e = .returned (.bool true) ∧ Bl w w' := by
  induction k with
  | zero =>
    intro l ok ok' p p' n c c' cs cs' w hW hl hn h1 h2 r1 r2
    have both : ∀ (j : Nat) (x y : C), cs[j]? = some x → cs'[j]? = some y → ∃ d s, l.ps[j]? = some (d, s) ∧ x.d = d ∧ y.d = d ∧ IsO w x.pc d.ct ∧ IsO w y.pc d.ct ∧ (∃ cs2, ir.Lie w ok x.p x.n x.c cs2 ∧ Rep w ok s cs2) ∧ (∃ cs2, ir.Lie w ok' y.p y.n y.c cs2 ∧ Rep w ok' s cs2) := by
      intro j x y hx hy
      have hj : j < l.len := by rw [← r1.len.1]; exact (List.getElem?_eq_some_iff.1 hx).1
      obtain ⟨x', d, s, a1, a2, a3, a4, a5⟩ := r1.at j hj
      obtain ⟨y', d', s', b1, b2, b3, b4, b5⟩ := r2.at j hj
      rw [hx] at a1; rw [hy] at b1
      obtain rfl := Option.some.inj a1
      obtain rfl := Option.some.inj b1
      rw [a2] at b2
      obtain ⟨rfl, rfl⟩ := Prod.mk.inj (Option.some.inj b2)
      exact ⟨d, s, a2, a3, b3, a4, b4, a5, b5⟩
    refine same_step cs cs' ok ok' p p' n c c' w h1 h2 (by omega) ?_ ?_ ?_
    · intro j x y hx hy
      obtain ⟨d, s, _, e1, e2, _⟩ := both j x y hx hy
      rw [e1, e2]
    · intro j x y wx hx hy hb
      obtain ⟨d, s, _, e1, e2, o1, o2, _⟩ := both j x y hx hy
      exact same_o d.ct x.pc y.pc wx (o1.keep (Kx.bl hb)) (o2.keep (Kx.bl hb))
    · intro j x y wx hx hy hb
      obtain ⟨d, s, hj, e1, e2, o1, o2, ⟨cs2, a1, a2⟩, ⟨cs3, b1, b2⟩⟩ := both j x y hx hy
      obtain ⟨_, w2, w3⟩ := hW.at j d s hj
      have hd4 : d.kd ≠ 4 := fun h => absurd (w3 h).1 (by omega)
      have hs := w2 hd4
      cases s with
      | cons _ _ _ => exact absurd hs (by simp [noSub])
      | nil =>
        obtain rfl : cs2 = [] := a2
        obtain rfl : cs3 = [] := b2
        have n1 : x.n = 0 := a1.1
        have n2 : y.n = 0 := b1.1
        rw [n1] at a1 ⊢
        rw [n2] at b1 ⊢
        exact same_none (lie_bl a1 hb) (lie_bl b1 hb)
  | succ k ih =>
    intro l ok ok' p p' n c c' cs cs' w hW hl hn h1 h2 r1 r2
    have both : ∀ (j : Nat) (x y : C), cs[j]? = some x → cs'[j]? = some y → ∃ d s, l.ps[j]? = some (d, s) ∧ x.d = d ∧ y.d = d ∧ IsO w x.pc d.ct ∧ IsO w y.pc d.ct ∧ (∃ cs2, ir.Lie w ok x.p x.n x.c cs2 ∧ Rep w ok s cs2) ∧ (∃ cs2, ir.Lie w ok' y.p y.n y.c cs2 ∧ Rep w ok' s cs2) := by
      intro j x y hx hy
      have hj : j < l.len := by rw [← r1.len.1]; exact (List.getElem?_eq_some_iff.1 hx).1
      obtain ⟨x', d, s, a1, a2, a3, a4, a5⟩ := r1.at j hj
      obtain ⟨y', d', s', b1, b2, b3, b4, b5⟩ := r2.at j hj
      rw [hx] at a1; rw [hy] at b1
      obtain rfl := Option.some.inj a1
      obtain rfl := Option.some.inj b1
      rw [a2] at b2
      obtain ⟨rfl, rfl⟩ := Prod.mk.inj (Option.some.inj b2)
      exact ⟨d, s, a2, a3, b3, a4, b4, a5, b5⟩
    refine same_step cs cs' ok ok' p p' n c c' w h1 h2 (by omega) ?_ ?_ ?_
    · intro j x y hx hy
      obtain ⟨d, s, _, e1, e2, _⟩ := both j x y hx hy
      rw [e1, e2]
    · intro j x y wx hx hy hb
      obtain ⟨d, s, _, e1, e2, o1, o2, _⟩ := both j x y hx hy
      exact same_o d.ct x.pc y.pc wx (o1.keep (Kx.bl hb)) (o2.keep (Kx.bl hb))
    · intro j x y wx hx hy hb
      obtain ⟨d, s, hj, e1, e2, o1, o2, ⟨cs2, a1, a2⟩, ⟨cs3, b1, b2⟩⟩ := both j x y hx hy
      obtain ⟨_, w2, w3⟩ := hW.at j d s hj
      have n1 : x.n = s.len := by rw [a1.1, a2.len.1]
      have n2 : y.n = s.len := by rw [b1.1, b2.len.1]
      rw [n1] at a1 ⊢
      rw [n2] at b1 ⊢
      by_cases hd4 : d.kd = 4
      · obtain ⟨_, hs16, hw⟩ := w3 hd4
        exact ih s ok ok' x.p y.p s.len x.c y.c cs2 cs3 wx hw hs16 rfl (lie_bl a1 hb) (lie_bl b1 hb) (rep_bl a2 hb) (rep_bl b2 hb)
      · have hs := w2 hd4
        cases s with
        | cons _ _ _ => exact absurd hs (by simp [noSub])
        | nil =>
          obtain rfl : cs2 = [] := a2
          obtain rfl : cs3 = [] := b2
          exact same_none (lie_bl a1 hb) (lie_bl b1 hb)
end Go.Proofs.YtpanodaecjlgaaaGreatDoor.tr
/- The document's text of items. -/
namespace Go.Proofs.YtpanodaecjlgaaaGreatDoor.tr
set_option linter.unusedVariables false
open Go.ChangeShapes Go.WideShapes Go.ChangeAt Go.RowKit Go.Shelf
open mem lx ex tm

theorem itx1_it (pad : List UInt8) (e : D × Its) : itx1 pad e = pad ++ [32, 32] ++ itT e.1 ++ [10] ++ (if e.1.kd = 4 then itx (pad ++ [32, 32]) e.2 ++ (pad ++ [32, 32]) ++ [125, 10] else []) := by
  unfold itx1 itT
  split <;> simp
theorem txO_le (pad : List UInt8) (e : D × Its) (hd : WD e.1) : (txO e.1.ct).length ≤ (itx1 pad e).length := by
  have key : (txO e.1.ct).length ≤ (itT e.1).length := by
    unfold itT
    rcases hd with h | h | h | h
    · rw [if_pos h.1]; simp; omega
    · rw [if_neg (by rw [h.1]; decide), paT, mnT, if_pos (Or.inr h.1)]; simp; omega
    · rw [if_neg (by rw [h.1]; decide)]
      rcases h.2.2.2.2.2.2.2.2.2 with ⟨m, _⟩ | ⟨_, m⟩
      · rw [paT, mnT, if_pos (Or.inl m)]; simp; omega
      · rw [m]; exact Nat.zero_le _
    · rw [if_neg (by rw [h.1]; decide)]
      rcases h.2.2.2.2 with ⟨m, _⟩ | ⟨_, m, _⟩
      · rw [paT, mnT, if_pos (Or.inl m)]; simp; omega
      · rw [m]; exact Nat.zero_le _
  rw [itx1_it]
  simp only [List.length_append]
  omega
theorem itT_le (pad : List UInt8) (e : D × Its) : (itT e.1).length ≤ (itx1 pad e).length := by
  rw [itx1_it]
  simp only [List.length_append]
  omega
set_option maxRecDepth 10000 in
set_option maxHeartbeats 4000000 in
theorem itx_step (k : Nat) (l : Its) (ok : Nat → Prop) (p : Option Addr) (n c : Nat) (cs : List C) (pad : List UInt8) (w : World) (hw : WI k l) (hlen : l.len ≤ 16) (hn : n = l.len) (hlie : ir.Lie w ok p n c cs) (hrep : Rep w ok l cs) (hp : pad.length ≤ 1000) (hl : (itx pad l).length ≤ 1000000)
    (cI : ∀ (j : Nat) (x : C) (s : Its) (wx : World), cs[j]? = some x → l.ps[j]? = some (x.d, s) → x.d.kd = 4 → Bl w wx → Calls Tryz.prog 41 #[.slice x.p x.n x.c, .string (tx (pad ++ [32, 32] ++ [32, 32]))] wx fun e w' => e = .returned (.string (tx (itx (pad ++ [32, 32]) s))) ∧ Bl wx w') :
    Calls Tryz.prog 41 #[.slice p n c, .string (tx (pad ++ [32, 32]))] w fun e w' => e = .returned (.string (tx (itx pad l))) ∧ Bl w w' := by
  obtain ⟨PS, hPS⟩ : ∃ PS, PS = tx (pad ++ [32, 32]) := ⟨_, rfl⟩
  have hPSs : PS.size ≤ 1002 := by rw [hPS, tx_size]; simp; omega
  have H0 : Hid (WI k l ∧ ir.Lie w ok p n c cs ∧ Rep w ok l cs ∧ (itx pad l).length ≤ 1000000 ∧ PS = tx (pad ++ [32, 32]) ∧ n = l.len) := ⟨hw, hlie, hrep, hl, hPS, hn⟩
  have hn16 : n ≤ 16 := by omega
  have HI : Hid (∀ (j : Nat) (x : C) (s : Its) (wx : World), cs[j]? = some x → l.ps[j]? = some (x.d, s) → x.d.kd = 4 → Bl w wx → Calls Tryz.prog 41 #[.slice x.p x.n x.c, .string (tx (pad ++ [32, 32] ++ [32, 32]))] wx fun e w' => e = .returned (.string (tx (itx (pad ++ [32, 32]) s))) ∧ Bl wx w') := cI
  rw [← hPS]
  clear hw hlie hrep hl hPS hn hlen cI
  go_enter Tryz.func41, Tryz.ntmps41
  go_wp2
  go_loopw [5, 10] (fun v i wr => ∃ j : Nat, j ≤ n ∧ i = .int .i64 (j : Int) ∧ v = .string (tx (pre1 pad l j)) ∧ Hid (Bl w wr)) (fun _ i _ => n - (intOf i).toNat)
  case atStart => exact ⟨0, Nat.zero_le _, rfl, rfl, Bl.refl _⟩
  case round =>
    obtain ⟨j, hj, rfl, rfl, HB⟩ := hrel
    by_cases hjn : j < n
    · have d1 : decide ((j : Int) < (n : Int)) = true := decide_eq_true (by omega)
      have i0 : (0 : Int) ≤ (j : Int) := by omega
      have i1 : (j : Int) < (n : Int) := by omega
      obtain ⟨x, d, s, e1, e2, e3, e4, cs2, e5, e6⟩ := H0.out.2.2.1.at j (by have := H0.out.2.2.2.2.2; omega)
      subst e3
      have hWD := (H0.out.1.at j x.d s e2).1
      have hst := pre1_step pad l j (x.d, s) e2
      have hle : (pre1 pad l j).length + (itx1 pad (x.d, s)).length ≤ 1000000 := by
        have h1 := pre1_len pad l (j + 1)
        rw [hst, List.length_append] at h1
        have := H0.out.2.2.2.1
        omega
      have hq1 : (itT x.d).length ≤ (itx1 pad (x.d, s)).length := itT_le pad (x.d, s)
      have hq2 : (txO x.d.ct).length ≤ (itx1 pad (x.d, s)).length := txO_le pad (x.d, s) hWD
      obtain ⟨X, rfl, _, g0', g⟩ := lie_at (lie_bl H0.out.2.1 HB.out) j x e1
      have g0 : wr.cell? (X.add (j * 13)) = some (.int .i64 (x.d.kd : Int)) := g0'
      clear g0'
      have g1 := g 1 _ rfl
      have g2 := g 2 _ rfl
      have g3 := g 3 _ rfl
      have g4 := g 4 _ rfl
      have g5 := g 5 _ rfl
      have g6 := g 6 _ rfl
      have g7 := g 7 _ rfl
      have g8 := g 8 _ rfl
      have g9 := g 9 _ rfl
      have g10 := g 10 _ rfl
      have g11 := g 11 _ rfl
      have g12 := g 12 _ rfl
      clear g
      obtain ⟨w3, hw3⟩ : ∃ w3, w3 = wr.alloc (.cells (cl x).toArray 75) := ⟨_, rfl⟩
      obtain ⟨M, hM⟩ : ∃ M, M = wr.heap.size := ⟨_, rfl⟩
      have hv3 : Iv w3 M x := ⟨by rw [hw3, hM]; exact new_at _ _⟩
      have hb3 : Bl wr w3 := by rw [hw3]; exact (Bl.refl _).alloc _
      have cT := itemText_at w3 x hWD (e4.keep (Kx.bl (HB.out.trans hb3))) (by omega)
      have H3 : Hid (Bl w w3 ∧ Iv w3 M x) := ⟨HB.out.trans hb3, hv3⟩
      obtain ⟨S, hS⟩ : ∃ S, S = tx (pre1 pad l j) := ⟨_, rfl⟩
      obtain ⟨T, hT⟩ : ∃ T, T = tx (itT x.d) := ⟨_, rfl⟩
      have hSs : S.size ≤ 1000000 := by rw [hS, tx_size]; omega
      have hTs : T.size ≤ 1000000 := by rw [hT, tx_size]; omega
      have HX : Hid (cs[j]? = some x ∧ l.ps[j]? = some (x.d, s)) := ⟨e1, e2⟩
      have HS : Hid (S = tx (pre1 pad l j) ∧ T = tx (itT x.d) ∧ pre1 pad l (j + 1) = pre1 pad l j ++ itx1 pad (x.d, s) ∧ (pre1 pad l j).length + (itx1 pad (x.d, s)).length ≤ 1000000) := ⟨hS, hT, hst, hle⟩
      rw [← hT] at cT
      rw [← hS]
      clear hS hT hst hle hq1 hq2 e1 e2 e4 e5 e6 hWD hv3 hb3
      go_upto_region 5 with fail
      change Code.wp _ _ _ _ (wr.alloc (.cells (cl x).toArray 75))
      rw [← hw3, ← hM]
      clear hw3 hM g0 g1 g2 g3 g4 g5 g6 g7 g8 g9 g10 g11 g12
      obtain ⟨g0, g1, g2, g3, g4, g5, g6, g7, g8, g9, g10, g11, g12⟩ := H3.out.2.facts
      unfold itV tm.cl at cT
      go_wp2_with fail
      refine cT.mono ?_
      rintro e w4 ⟨rfl, hb4⟩
      have H4 : Hid (Bl w w4 ∧ Iv w4 M x) := ⟨H3.out.1.trans hb4, H3.out.2.bl hb4⟩
      clear g0 g1 g2 g3 g4 g5 g6 g7 g8 g9 g10 g11 g12 hb4 cT
      obtain ⟨g0, _, _, _, _, _, _, _, _, _, _, _, g12⟩ := H4.out.2.facts
      by_cases h4 : x.d.kd = 4
      · rw [h4] at g0
        have cR := HI.out j x s w4 HX.out.1 HX.out.2 h4 H4.out.1
        have hPP : tx (pad ++ [32, 32] ++ [32, 32]) = PS ++ tx [32, 32] := by rw [H0.out.2.2.2.2.1, tx_cat]
        obtain ⟨R, hR⟩ : ∃ R, R = tx (itx (pad ++ [32, 32]) s) := ⟨_, rfl⟩
        have hRs : R.size ≤ 1000000 := by
          have := HS.out.2.2.2
          rw [itx1_it, if_pos h4] at this
          simp only [List.length_append] at this
          rw [hR, tx_size]; omega
        rw [hPP, ← hR] at cR
        have HE : Hid (S ++ (PS ++ T ++ tx [10]) ++ (R ++ PS ++ tx [125, 10]) = tx (pre1 pad l (j + 1))) := by
          show _ = _
          rw [HS.out.2.2.1, itx1_it, if_pos h4, HS.out.1, HS.out.2.1, hR, H0.out.2.2.2.2.1, tx_cat, tx_cat, tx_cat, tx_cat, tx_cat, tx_cat]
          simp
        clear hPP hR h4
        go_wp2_with fail
        refine Calls.mono cR ?_
        rintro e w5 ⟨rfl, hb5⟩
        have HB5 : Hid (Bl w w5) := H4.out.1.trans hb5
        clear hb5 g0 g12 cR
        go_wp2
        go_roundw
        case rel => exact ⟨j + 1, by omega, by go_num, by rw [← HE.out]; rfl, HB5⟩
        case measure => simp [intOf]; omega
      · have HE : Hid (S ++ (PS ++ T ++ tx [10]) = tx (pre1 pad l (j + 1))) := by
          show _ = _
          rw [HS.out.2.2.1, itx1_it, if_neg h4, HS.out.1, HS.out.2.1, H0.out.2.2.2.2.1, tx_cat, tx_cat, tx_cat]
          simp
        have q4 : decide ((x.d.kd : Int) = 4) = false := decide_eq_false (by omega)
        have HB4 : Hid (Bl w w4) := H4.out.1
        clear g12
        go_wp2
        go_roundw
        case rel => exact ⟨j + 1, by omega, by go_num, by rw [← HE.out]; rfl, HB4⟩
        case measure => simp [intOf]; omega
    · have d1 : decide ((j : Int) < (n : Int)) = false := decide_eq_false (by omega)
      have hE : Hid (tx (pre1 pad l j) = tx (itx pad l)) := by
        show _ = _
        rw [show j = l.len by have := H0.out.2.2.2.2.2; omega, pre1_all]
      go_wp2
      go_ret
      exact ⟨ret_tx hE.out, HB.out⟩
/-- The document's text of items. -/
theorem itemsText_at (k : Nat) : ∀ (l : Its) (ok : Nat → Prop) (p : Option Addr) (n c : Nat) (cs : List C) (pad : List UInt8) (w : World), WI k l → l.len ≤ 16 → n = l.len → ir.Lie w ok p n c cs → Rep w ok l cs → pad.length + 2 * k ≤ 1000 → (itx pad l).length ≤ 1000000 →
    Calls Tryz.prog 41 #[.slice p n c, .string (tx (pad ++ [32, 32]))] w fun e w' => e = .returned (.string (tx (itx pad l))) ∧ Bl w w' := by
  have low : ∀ (l : Its) (pad : List UInt8) (j : Nat) (d : D) (s : Its), l.ps[j]? = some (d, s) → d.kd = 4 → (itx (pad ++ [32, 32]) s).length ≤ (itx pad l).length := by
    intro l pad j d s hj h4
    have h1 := pre1_len pad l (j + 1)
    rw [pre1_step pad l j (d, s) hj, List.length_append, itx1_it, if_pos (show (d, s).1.kd = 4 from h4)] at h1
    simp only [List.length_append] at h1
    omega
  induction k with
  | zero =>
    intro l ok p n c cs pad w hW hl hn hlie hrep hp hz
    refine itx_step 0 l ok p n c cs pad w hW hl hn hlie hrep (by omega) hz ?_
    intro j x s wx hx hj h4 hb
    exact absurd ((hW.at j x.d s hj).2.2 h4).1 (by omega)
  | succ k ih =>
    intro l ok p n c cs pad w hW hl hn hlie hrep hp hz
    refine itx_step (k + 1) l ok p n c cs pad w hW hl hn hlie hrep (by omega) hz ?_
    intro j x s wx hx hj h4 hb
    obtain ⟨_, hs16, hw⟩ := (hW.at j x.d s hj).2.2 h4
    have hjl : j < l.len := by rw [← hrep.len.1]; exact (List.getElem?_eq_some_iff.1 hx).1
    obtain ⟨x', d', s', a1, a2, a3, a4, cs2, a5, a6⟩ := hrep.at j hjl
    rw [hx] at a1
    obtain rfl := Option.some.inj a1
    rw [hj] at a2
    obtain ⟨_, rfl⟩ := Prod.mk.inj (Option.some.inj a2)
    exact ih s ok x.p x.n x.c cs2 (pad ++ [32, 32]) wx hw hs16 (by rw [a5.1, a6.len.1]) (lie_bl a5 hb) (rep_bl a6 hb) (by simp; omega) (Nat.le_trans (low l pad j x.d s hj h4) hz)
end Go.Proofs.YtpanodaecjlgaaaGreatDoor.tr
/- The document's text of templates. -/
namespace Go.Proofs.YtpanodaecjlgaaaGreatDoor.tr
set_option linter.unusedVariables false
open Go.ChangeShapes Go.WideShapes Go.ChangeAt Go.RowKit Go.Shelf
open mem lx ex tm

set_option maxRecDepth 10000 in
set_option maxHeartbeats 4000000 in
theorem TPrint_at (l : List Ty) (v : Value) (w : World) (ok : Nat → Prop) (h : IsTs w ok v l) (hw : WT l) (hl : (ptxt l).length + 20 ≤ 1000000) :
    Calls Tryz.prog 14 #[v] w fun e w' => e = .returned (.string (tx (ptxt l))) ∧ Bl w w' := by
  obtain ⟨p, c, cs, rfl, h1, h2⟩ := h
  have h1 := h1.mono (ok' := fun g => g < w.heap.size) (fun g _ hg => hg)
  have h2 := h2.mono (ok' := fun g => g < w.heap.size) (fun g _ hg => hg)
  obtain ⟨n, hn⟩ : ∃ n, n = l.length := ⟨_, rfl⟩
  have hn8 : n ≤ 8 := by rw [hn]; exact hw.1
  have H1 : Hid (sr.Lie w (fun g => g < w.heap.size) p l.length c cs ∧ RepT w (fun g => g < w.heap.size) l cs ∧ WT l ∧ (ptxt l).length + 20 ≤ 1000000 ∧ n = l.length) := ⟨h1, h2, hw, hl, hn⟩
  rw [← hn]
  clear h1 h2 hn hw hl
  go_enter Tryz.func14, Tryz.ntmps14
  go_wp2
  go_loopw [3, 8] (fun v i wr => ∃ j : Nat, j ≤ n ∧ i = .int .i64 (j : Int) ∧ v = .string (tx (pre2 l j)) ∧ Hid (Bl w wr)) (fun _ i _ => n - (intOf i).toNat)
  case atStart => exact ⟨0, Nat.zero_le _, rfl, rfl, Bl.refl _⟩
  case round =>
    obtain ⟨j, hj, rfl, rfl, HB⟩ := hrel
    obtain ⟨Hlie, Hrep, HWT, Hl, Hn⟩ := H1.out
    by_cases hjn : j < n
    · have d1 : decide ((j : Int) < (n : Int)) = true := decide_eq_true (by omega)
      have i0 : (0 : Int) ≤ (j : Int) := by omega
      have i1 : (j : Int) < (n : Int) := by omega
      obtain ⟨x, t, e1, e2, e3, e4, cs2, e5, e6⟩ := Hrep.at j (by rw [← Hn]; exact hjn)
      obtain ⟨X, rfl, _, g0', g⟩ := lieT_at (lieT_low Hlie HB.out) j x e1
      have g0 : wr.cell? (X.add (j * 3)) = some (.string (tx x.nm)) := g0'
      clear g0'
      have g1 := g 1 _ rfl
      have g2 := g 2 _ rfl
      clear g e1
      obtain ⟨w3, hw3⟩ : ∃ w3, w3 = wr.alloc (.cells (clT x).toArray 36) := ⟨_, rfl⟩
      obtain ⟨M, hM⟩ : ∃ M, M = wr.heap.size := ⟨_, rfl⟩
      have hv3 : w3.heap[M]? = some (.cells (clT x).toArray 36 (0, 0)) := by rw [hw3, hM]; exact new_at _ _
      have hbl3 : Bl wr w3 := by rw [hw3]; exact (Bl.refl _).alloc _
      have hpl := pre2_len l (j + 1)
      have hst := pre2_step l j _ e2
      rw [hst, List.length_append] at hpl
      have hit : (tyx t).length = 7 + t.nm.length + 3 + (itx [] t.l).length + 2 := by
        unfold tyx
        simp only [List.length_append, List.length_cons, List.length_nil]
        rw [show wStruct.length = 6 from rfl]
      obtain ⟨t1, t2, t3⟩ := HWT.2 t (List.mem_of_getElem? e2)
      obtain ⟨NMs, hNM⟩ : ∃ NMs, NMs = tx x.nm := ⟨_, rfl⟩
      have hNMs : NMs.size ≤ 12 := by rw [hNM, tx_size, e3]; exact t1.2.2.1
      have hen : x.n = t.l.len := by rw [e5.1]; exact e6.len.1
      have e5' : ir.Lie w (fun g => g < w.heap.size) x.p t.l.len x.c cs2 := by rw [← hen]; exact e5
      obtain ⟨S, hS⟩ : ∃ S, S = tx (pre2 l j) := ⟨_, rfl⟩
      obtain ⟨R, hR⟩ : ∃ R, R = tx (itx [] t.l) := ⟨_, rfl⟩
      have hSs : S.size ≤ 1000000 := by rw [hS, tx_size]; omega
      have hRs : R.size ≤ 1000000 := by rw [hR, tx_size]; omega
      have cR : Hid (∀ wx, Bl w3 wx → Calls Tryz.prog 41 #[.slice x.p x.n x.c, .string ⟨#[32, 32]⟩] wx fun e w' => e = .returned (.string R) ∧ Bl wx w') := by
        intro wx hb
        have hb' := (HB.out.trans hbl3).trans hb
        rw [hen, hR]
        exact itemsText_at 7 t.l (fun g => g < w.heap.size) x.p t.l.len x.c cs2 [] wx t3 t2 rfl (lie_low e5' hb') (e6.low hb' (Kx.bl hb')) (by simp) (by omega)
      have HE : Hid (S ++ (tx (wStruct ++ [32]) ++ NMs ++ tx [32, 123, 10] ++ R ++ tx [125, 10]) = tx (pre2 l (j + 1))) := by
        show _ = _
        rw [hst, hS, hR, hNM, e3, tx_cat, tx_cat, tx_cat, tx_cat, tx_cat]
        unfold tyx
        simp
      have H3 : Hid (Bl w w3 ∧ w3.heap[M]? = some (.cells (clT x).toArray 36 (0, 0)) ∧ NMs = tx x.nm) := ⟨HB.out.trans hbl3, hv3, hNM⟩
      have hMs : M < w3.heap.size := lt_of_heap hv3
      have q0 : w3.drew.cell? ⟨M, 0, none⟩ = some (.string NMs) := by rw [cell_of (w := w3.drew) hv3, hNM]; rfl
      have q2 : w3.drew.cell? ⟨M, 2, none⟩ = some (.slice x.p x.n x.c) := by rw [cell_of (w := w3.drew) hv3]; rfl
      have HB3 : Hid (Bl w3 w3.drew) := (Bl.refl w3).drew
      have z1 : ¬ 9223372036854775807 < 7 + NMs.size := by omega
      have z2 : ¬ 9223372036854775807 < 7 + NMs.size + 3 := by omega
      have z3 : ¬ 9223372036854775807 < 7 + NMs.size + 3 + R.size := by omega
      have z4 : ¬ 9223372036854775807 < 7 + NMs.size + 3 + R.size + 2 := by omega
      have z5 : ¬ 9223372036854775807 < S.size + (7 + NMs.size + 3 + R.size + 2) := by omega
      rw [← hS]
      clear hpl hit hv3 hbl3 t1 t2 t3 e2 e3 e4 e5 e5' e6 Hlie Hrep HWT Hl hen Hn hNM hst hS hR
      go_upto_region 5 with fail
      change Code.wp _ _ _ _ (wr.alloc (.cells (clT x).toArray 36))
      rw [← hw3, ← hM]
      clear hw3 hM g0 g1 g2
      go_region_held3 (fun w' => w'.cell? ⟨M, 0, none⟩ = some (.string NMs) ∧ w'.cell? ⟨M, 2, none⟩ = some (.slice x.p x.n x.c)) (refine ⟨?_, ?_⟩ <;> first | assumption | exact at_bl ((Bl.refl _).drew) (by assumption))
        (first
          | (go_at_call 41; (with_reducible refine (cR.out _ HB3.out).mono ?_); rintro e w6 ⟨rfl, hb6⟩
             have HB6 : Hid (Bl w3 w6) := HB3.out.trans hb6
             have s0 : w6.cell? ⟨M, 0, none⟩ = some (.string NMs) := at_bl hb6 q0
             have s2 : w6.cell? ⟨M, 2, none⟩ = some (.slice x.p x.n x.c) := at_bl hb6 q2
             clear hb6))
      clear q0 q2 cR
      have HB9 : Hid (Bl w w6) := H3.out.1.trans HB6.out
      clear s0 s2
      go_wp2
      go_roundw
      case rel => exact ⟨j + 1, by omega, by go_num, by rw [← HE.out]; rfl, HB9⟩
      case measure => simp [intOf]; omega
    · obtain rfl : j = n := by omega
      have hE : Hid (tx (pre2 l j) = tx (ptxt l)) := by
        show _ = _
        rw [show j = l.length from Hn, pre2_all]
      clear H1 Hlie Hrep HWT Hl
      go_wp2
      go_ret
      exact ⟨ret_tx hE.out, HB.out⟩
end Go.Proofs.YtpanodaecjlgaaaGreatDoor.tr
