/- Texts laid together: OrC, Ty7, TyQ, TyR. -/
import Derived.Test.YtpanodaecjlgaaaZ21
import Derived.Laws.EntriesVeiled
/- In which order rules are done: the walk of Order. -/
namespace Go.Proofs.Ytpanodaecjlgaaa.oq
set_option linter.unusedVariables false
open Go.ChangeShapes Go.WideShapes Go.ChangeAt Go.RowKit Go.Shelf
open mem lx ex tm

def fW (P4 : Nat) : Value := .func (.func 23) #[] #[.pointer (some ⟨P4, 0, none⟩)]
/-- How far Order has come. -/
structure Og (w wr : World) (P1 P4 P7 : Nat) (p : Option Addr) (n c : Nat) (cs : List C) (vo vc : Value) (lo met : List Nat) (f : Nat) : Prop where
  h : Oh w wr P1 P4 p n c vo vc lo (lft (cs.map C.d) met)
  c7 : Vr wr P7 (fW P4) 58
  eq : ordr (cs.map C.d) = lo ++ ordC (cs.map C.d) f (lft (cs.map C.d) met)
  f : (lft (cs.map C.d) met).length ≤ f
  len : lo.length + (lft (cs.map C.d) met).length ≤ 3000
  ne14 : P1 ≠ P4
  ne47 : P4 ≠ P7
set_option maxRecDepth 10000 in
set_option maxHeartbeats 8000000 in
theorem Order_at (cs : List C) (ok : Nat → Prop) (p : Option Addr) (n c : Nat) (w : World) (hin : ir.Lie w ok p n c cs) (hn : n ≤ 1000) :
    Calls Try.prog 11 #[.slice p n c] w fun e w' => ∃ v, e = .returned v ∧ Bl w w' ∧ ri.Own w' w.heap.size v (ints (ordr (cs.map C.d))) := by
  have hmf : ∀ (fn : Fn) (first cap : Array Value) (w : World), (Instr.makeFunc fn first cap).run Try.prog w = .ok (.func fn first cap) w := fun _ _ _ _ => rfl
  have H0 : Hid (ir.Lie w ok p n c cs ∧ n = cs.length ∧ n = (cs.map C.d).length) := ⟨hin, hin.1, by rw [List.length_map]; exact hin.1⟩
  obtain ⟨w1, hw1⟩ : ∃ w1, w1 = (w.alloc (.cells #[.slice p n c] 26)).alloc (.cells #[.slice none 0 0] 38) := ⟨_, rfl⟩
  obtain ⟨P1, hP1⟩ : ∃ P1, P1 = w.heap.size := ⟨_, rfl⟩
  obtain ⟨P4, hP4⟩ : ∃ P4, P4 = P1 + 1 := ⟨_, rfl⟩
  have hb1 : Bl w w1 := by rw [hw1]; exact ((Bl.refl _).alloc _).alloc _
  have hv1 : Vr w1 P1 (.slice p n c) 26 := by rw [hw1, hP1]; exact (Vr.new w _ _).step ((Bl.refl _).alloc _)
  have hv4 : Vr w1 P4 (.slice none 0 0) 38 := by
    have := Vr.new (w.alloc (.cells #[.slice p n c] 26)) (.slice none 0 0) 38
    rw [hw1, hP4, hP1]
    simpa using this
  have H1 : Hid (Oh w w1 P1 P4 p n c (.slice none 0 0) (.slice none 0 0) (idxs (fun d => d.ru == 1 || d.ru == 2) 0 ((cs.map C.d).take 0)) (idxs (fun d => d.ru == 3) 0 ((cs.map C.d).take 0))) :=
    ⟨hb1, hv1, hv4, ⟨ri.Own.nil _ _, ri.Own.nil _ _, fun k e => (by cases e), hb1.size⟩, by omega, by omega⟩
  have HP : Hid (P1 ≠ P4) := by show P1 ≠ P4; omega
  clear hin hb1 hv1 hv4
  go_enter Try.func11, Try.ntmps11
  go_upto_region 3 with fail
  rw [← hw1, ← hP1, ← hP4]
  clear hw1 hP1 hP4
  have c1 := H1.out.c1.cell
  have l1 := H1.out.c1.lt
  go_upto_region 4 with fail
  go_loopw [3, 12] (fun vo i wr => ∃ (j : Nat) (v0 vc : Value), j ≤ n ∧ i = .int .i64 (j : Int) ∧ v0 = vo ∧ Hid (Oh w wr P1 P4 p n c v0 vc (idxs (fun d => d.ru == 1 || d.ru == 2) 0 ((cs.map C.d).take j)) (idxs (fun d => d.ru == 3) 0 ((cs.map C.d).take j)))) (fun _ i _ => n - (intOf i).toNat)
  case atStart => exact ⟨0, _, _, by omega, rfl, rfl, H1.out⟩
  case round =>
    clear H1 c1 l1
    obtain ⟨j, vo, vc, hj, rfl, rfl, HB⟩ := hrel
    by_cases hjn : j < n
    · obtain ⟨x, e1⟩ : ∃ x, cs[j]? = some x := ⟨_, List.getElem?_eq_getElem (by have := H0.out.2.1; omega)⟩
      obtain ⟨X, hX, _, g0', g⟩ := lie_at (lie_bl H0.out.1 HB.out.bl) j x e1
      subst hX
      have g0 : wr.cell? (X.add (j * 13)) = some (.int .i64 (x.d.kd : Int)) := g0'
      clear g0'
      have g1 := g 1 _ rfl
      have g2 := g 2 _ rfl
      have g3 := g 3 _ rfl
      have g4 := g 4 _ rfl
      have g5 := g 5 _ rfl
      have g6 := g 6 _ rfl
      have g7 := g 7 _ rfl
      have g8 := g 8 _ rfl
      have g9 := g 9 _ rfl
      have g10 := g 10 _ rfl
      have g11 := g 11 _ rfl
      have g12 := g 12 _ rfl
      have d1 : decide ((j : Int) < (n : Int)) = true := decide_eq_true (by omega)
      have i0 : (0 : Int) ≤ (j : Int) := by omega
      have i1 : (j : Int) < (n : Int) := by omega
      obtain ⟨w3, hw3⟩ : ∃ w3, w3 = wr.alloc (.cells (cl x).toArray 42) := ⟨_, rfl⟩
      obtain ⟨M, hM⟩ : ∃ M, M = wr.heap.size := ⟨_, rfl⟩
      have hv3 : Iv w3 M x := ⟨by rw [hw3, hM]; exact new_at _ _⟩
      have hbl3 : Bl wr w3 := by rw [hw3]; exact (Bl.refl _).alloc _
      have hd : (cs.map C.d)[j]? = some x.d := by rw [List.getElem?_map, e1]; rfl
      have s1 := idxs_step (fun d : D => d.ru == 1 || d.ru == 2) _ j x.d hd
      have s3 := idxs_step (fun d : D => d.ru == 3) _ j x.d hd
      have hl1 : (idxs (fun d => d.ru == 1 || d.ru == 2) 0 ((cs.map C.d).take j)).length ≤ 5000 := by
        have := idxs_len (fun d => d.ru == 1 || d.ru == 2) ((cs.map C.d).take j)
        rw [List.length_take, ← H0.out.2.2] at this
        omega
      have hl3 : (idxs (fun d => d.ru == 3) 0 ((cs.map C.d).take j)).length ≤ 5000 := by
        have := idxs_len (fun d => d.ru == 3) ((cs.map C.d).take j)
        rw [List.length_take, ← H0.out.2.2] at this
        omega
      have H3 : Hid (Oh w w3 P1 P4 (some X) n c vo vc (idxs (fun d => d.ru == 1 || d.ru == 2) 0 ((cs.map C.d).take j)) (idxs (fun d => d.ru == 3) 0 ((cs.map C.d).take j)) ∧ Iv w3 M x) := ⟨HB.out.bl' hbl3, hv3⟩
      obtain ⟨w4, hw4⟩ : ∃ w4, w4 = w3.alloc (.cells #[.int .i64 (j : Int)] 3) := ⟨_, rfl⟩
      have hb4 : Bl w3 w4 := by rw [hw4]; exact (Bl.refl _).alloc _
      have hX4 : w4.cell? ⟨w3.heap.size, 0, none⟩ = some (.int .i64 (j : Int)) := by rw [hw4]; exact (cell_of (new_at w3 (.cells #[.int .i64 (j : Int)] 3)) 0).trans rfl
      have H4 := H3.out.1.bl' hb4
      obtain ⟨a0, a1, a2, a3, a4, a5, a6, a7, a8, a9, a10, a11, a12⟩ := hv3.facts
      have hMs := hv3.lt
      clear e1 hd hbl3 hv3
      go_upto_region 6 with fail
      change Code.wp _ _ _ _ (wr.alloc (.cells (cl x).toArray 42))
      rw [← hw3, ← hM]
      clear hw3 hM g0 g1 g2 g3 g4 g5 g6 g7 g8 g9 g10 g11 g12 g
      by_cases r1 : x.d.ru = 1
      · obtain ⟨v', w5, hr5, h5, hg5⟩ := H4.order w3.heap.size j hX4 hl1
        rw [hw4] at hr5
        have HR : Hid _ := hr5
        have H5 : Hid (Oh w w5 P1 P4 (some X) n c v' vc (idxs (fun d => d.ru == 1 || d.ru == 2) 0 ((cs.map C.d).take (j + 1))) (idxs (fun d => d.ru == 3) 0 ((cs.map C.d).take (j + 1)))) := by
          show Oh _ _ _ _ _ _ _ _ _ _ _
          rw [s1, s3, if_pos (by rw [r1]; rfl), if_neg (by rw [r1]; decide), List.append_nil]
          exact h5
        rw [r1] at a9
        clear hr5 h5 hg5 hw4 hb4 hX4 H4 s1 s3 hl1 hl3 r1
        go_wp2_with (at_builtin; refine Lib.wpList_append_run _ rfl (.tmp 22) (.tmp 24) _ _ rfl _ _ rfl rfl _ _ HR.out ?_)
        go_roundw
        case rel => exact ⟨j + 1, _, vc, by omega, by go_num, rfl, H5.out⟩
        case measure => simp [intOf]; omega
      · have r1' : ¬ ((x.d.ru : Int) = 1) := by omega
        by_cases r2 : x.d.ru = 2
        · obtain ⟨v', w5, hr5, h5, hg5⟩ := H4.order w3.heap.size j hX4 hl1
          rw [hw4] at hr5
          have HR : Hid _ := hr5
          have H5 : Hid (Oh w w5 P1 P4 (some X) n c v' vc (idxs (fun d => d.ru == 1 || d.ru == 2) 0 ((cs.map C.d).take (j + 1))) (idxs (fun d => d.ru == 3) 0 ((cs.map C.d).take (j + 1)))) := by
            show Oh _ _ _ _ _ _ _ _ _ _ _
            rw [s1, s3, if_pos (by rw [r2]; rfl), if_neg (by rw [r2]; decide), List.append_nil]
            exact h5
          rw [r2] at a9
          clear hr5 h5 hg5 hw4 hb4 hX4 H4 s1 s3 hl1 hl3 r1 r1' r2
          go_wp2_with (at_builtin; refine Lib.wpList_append_run _ rfl (.tmp 22) (.tmp 24) _ _ rfl _ _ rfl rfl _ _ HR.out ?_)
          go_roundw
          case rel => exact ⟨j + 1, _, vc, by omega, by go_num, rfl, H5.out⟩
          case measure => simp [intOf]; omega
        · have r2' : ¬ ((x.d.ru : Int) = 2) := by omega
          by_cases r3 : x.d.ru = 3
          · obtain ⟨v', w5, hr5, h5, h4v⟩ := H4.check HP.out w3.heap.size j hX4 hl3
            rw [hw4] at hr5
            have HR : Hid _ := hr5
            have H5 : Hid (Oh w (w5.setCell ⟨P4, 0, none⟩ v') P1 P4 (some X) n c vo v' (idxs (fun d => d.ru == 1 || d.ru == 2) 0 ((cs.map C.d).take (j + 1))) (idxs (fun d => d.ru == 3) 0 ((cs.map C.d).take (j + 1)))) := by
              show Oh _ _ _ _ _ _ _ _ _ _ _
              rw [s1, s3, if_neg (by rw [r3]; decide), if_pos (by rw [r3]; rfl), List.append_nil]
              exact h5
            obtain ⟨p5, c5, hv5, _, _⟩ := rw_own H5.out.own.b
            subst hv5
            have k4 := H3.out.1.c4.cell
            have kl4 := H3.out.1.c4.lt
            have k5 := h4v.cell
            have k6 := h4v.frozen
            have kl5 := h4v.lt
            rw [r3] at a9
            clear hr5 h5 h4v hw4 hb4 hX4 H4 s1 s3 hl1 hl3 r1 r1' r2 r2' r3
            go_wp2_with (at_builtin; refine Lib.wpList_append_run _ rfl (.tmp 28) (.tmp 30) _ _ rfl _ _ rfl rfl _ _ HR.out ?_)
            go_roundw
            case rel => exact ⟨j + 1, _, _, by omega, by go_num, rfl, H5.out⟩
            case measure => simp [intOf]; omega
          · have r3' : ¬ ((x.d.ru : Int) = 3) := by omega
            have H5 : Hid (Oh w w3 P1 P4 (some X) n c vo vc (idxs (fun d => d.ru == 1 || d.ru == 2) 0 ((cs.map C.d).take (j + 1))) (idxs (fun d => d.ru == 3) 0 ((cs.map C.d).take (j + 1)))) := by
              show Oh _ _ _ _ _ _ _ _ _ _ _
              rw [s1, s3, if_neg (by simp [r1, r2]), if_neg (by simpa using r3), List.append_nil, List.append_nil]
              exact H3.out.1
            clear hw4 hb4 hX4 H4 s1 s3 hl1 hl3 r1 r2 r3
            go_wp2
            go_roundw
            case rel => exact ⟨j + 1, _, vc, by omega, by go_num, rfl, H5.out⟩
            case measure => simp [intOf]; omega
    · obtain rfl : n = j := by omega
      obtain ⟨P7, hP7⟩ : ∃ P7, P7 = wr.heap.size := ⟨_, rfl⟩
      obtain ⟨w5, hw5⟩ : ∃ w5, w5 = wr.alloc (.cells #[.func (.func 23) #[] #[.pointer (some ⟨P4, 0, none⟩)]] 58) := ⟨_, rfl⟩
      have hb5 : Bl wr w5 := by rw [hw5]; exact (Bl.refl _).alloc _
      have hv7 : Vr w5 P7 (fW P4) 58 := by rw [hw5, hP7]; exact Vr.new wr _ _
      have H5 : Hid (Og w w5 P1 P4 P7 p n c cs vo vc (idxs (fun d => d.ru == 1 || d.ru == 2) 0 (cs.map C.d)) [] (cs.map C.d).length) := by
        have h := HB.out.bl' hb5
        rw [H0.out.2.2, idxs_all, idxs_all, lft_start, ← H0.out.2.2] at h
        refine ⟨h, hv7, ordr_is _, lft_len _ _, ?_, HP.out, ?_⟩
        · have h1 := idxs_len (fun d => d.ru == 1 || d.ru == 2) (cs.map C.d)
          have h2 := lft_len (cs.map C.d) []
          have := H0.out.2.2
          omega
        · have := HB.out.c4.lt
          omega
      clear HB hb5 hv7 hj hjn
      go_upto_region 15 with fail
      rw [← hP7, ← hw5]
      clear hP7 hw5
      go_loopw [3] (fun vo wr => ∃ (v0 vc : Value) (lo met : List Nat) (f : Nat), v0 = vo ∧ Hid (Og w wr P1 P4 P7 p n c cs v0 vc lo met f)) (fun _ wr => lnV ((wr.cell? ⟨P4, 0, none⟩).getD (.int .i64 0)))
      case atStart => exact ⟨_, vc, _, [], _, rfl, H5.out⟩
      case round =>
        clear H5
        obtain ⟨vo, vc, lo, met, f, rfl, HG⟩ := hrel
        obtain ⟨pc, cc, hvc, hlc, hRw⟩ := rw_own HG.out.h.own.b
        subst hvc
        have hlm := lft_len (cs.map C.d) met
        have HL : Hid (Lk wr ok P1 P4 P7 p n c cs pc cc (lft (cs.map C.d) met)) :=
          ⟨HG.out.h.c1.cell, HG.out.h.c4.cell, HG.out.c7.cell, HG.out.h.c1.lt, HG.out.h.c4.lt, HG.out.c7.lt, hRw, by have := HG.out.len; omega, lie_bl H0.out.1 HG.out.h.bl, by omega⟩
        have cI := IndexR_at wr ok P1 P4 P7 p n c cs pc cc (lft (cs.map C.d) met) HL.out (fun y hy => by have := lft_lt hy; rw [List.length_map] at this; exact this)
        obtain ⟨m, hm⟩ : ∃ m, m = (lft (cs.map C.d) met).length := ⟨_, rfl⟩
        have c4 := HG.out.h.c4.cell
        have l4 := HG.out.h.c4.lt
        rw [← hm] at cI c4 hlc
        have HM : Hid (m = (lft (cs.map C.d) met).length) := hm
        clear hRw hlm hm
        go_wp2_with fail
        refine cI.mono ?_
        rintro e w6 ⟨⟨r, rfl, hF⟩, hb6⟩
        clear cI c4 l4
        rcases hF with ⟨k, z, rfl, h1, h2, h3⟩ | ⟨rfl, hF⟩
        · obtain ⟨f', hf, hC, hlen, hzm⟩ := ordC_yes (fnd_some h1 h2 h3) HG.out.f
          have hk := (List.getElem?_eq_some_iff.1 h1).1
          have H6 : Hid (Oh w w6 P1 P4 p n c vo (.slice pc m cc) lo (lft (cs.map C.d) met) ∧ Vr w6 P7 (fW P4) 58) := ⟨by rw [HM.out]; exact HG.out.h.bl' hb6, HG.out.c7.step hb6⟩
          obtain ⟨g, rfl, hgs, hcz⟩ := (HL.out.bl hb6).rw k z h1
          have HZ : Hid (ordr (cs.map C.d) = lo ++ [z] ++ ordC (cs.map C.d) f' (lft (cs.map C.d) (z :: met)) ∧ (lft (cs.map C.d) (z :: met)).length + 1 = (lft (cs.map C.d) met).length ∧ (lft (cs.map C.d) met).eraseIdx k = lft (cs.map C.d) (z :: met) ∧ f = f' + 1) := ⟨by rw [HG.out.eq, hC]; simp, hlen, by rw [erase_idx _ k z (lft_nodup _ _) h1, lft_erase], hf⟩
          obtain ⟨w7, hw7⟩ : ∃ w7, w7 = w6.alloc (.cells #[.int .i64 (z : Int)] 3) := ⟨_, rfl⟩
          have hb7 : Bl w6 w7 := by rw [hw7]; exact (Bl.refl _).alloc _
          have hX7 : w7.cell? ⟨w6.heap.size, 0, none⟩ = some (.int .i64 (z : Int)) := by rw [hw7]; exact (cell_of (new_at w6 (.cells #[.int .i64 (z : Int)] 3)) 0).trans rfl
          obtain ⟨v', w8, hr8, h8, hg8⟩ := (H6.out.1.bl' hb7).order w6.heap.size z hX7 (by have := HG.out.len; omega)
          have h87 : Vr w8 P7 (fW P4) 58 := (H6.out.2.step hb7).grown hg8 (own_vr (H6.out.1.bl' hb7).own.a (H6.out.2.step hb7) (by decide))
          rw [hw7] at hr8
          have HR : Hid _ := hr8
          have H8 : Hid (Oh w w8 P1 P4 p n c v' (.slice (some ⟨g, 0, none⟩) m cc) (lo ++ [z]) (lft (cs.map C.d) met) ∧ Vr w8 P7 (fW P4) 58) := ⟨h8, h87⟩
          have cD := Delete_at _ (lft (cs.map C.d) met) w8 w.heap.size k h8.own.b hk
          have t4 := H6.out.1.c4.cell
          have tl4 := H6.out.1.c4.lt
          have u4 := h8.c4.cell
          have ul4 := h8.c4.lt
          have hk0 : (0 : Int) ≤ (k : Int) := by omega
          have hk1 : (k : Int) < (m : Int) := by have := HM.out; omega
          have hk2 : ¬ ((k : Int) < 0) := by omega
          have hkk : ((k + 1 : Nat) : Int) = (k : Int) + 1 := by omega
          rw [hkk] at cD
          clear hb6 h1 h2 h3 hf hC hlen hzm hw7 hb7 hX7 hr8 h8 hg8 h87 hk
          go_wp2_with (at_builtin; refine Lib.wpList_append_run _ rfl (.tmp 41) (.tmp 46) _ _ rfl _ _ rfl rfl _ _ HR.out ?_)
          rw [show wrap64 ((k : Int) + 1) = (k : Int) + 1 by unfold wrap64; have := HG.out.len; have := HM.out; omega]
          with_reducible refine cD.mono ?_
          rintro e w9 ⟨v9, rfl, ho9, hg9, hv9⟩
          obtain ⟨h10, h49⟩ := H8.out.1.drop HG.out.ne14 ho9 hg9 hv9
          have h97 : Vr (w9.setCell ⟨P4, 0, none⟩ v9) P7 (fW P4) 58 := (H8.out.2.grown hg9 (own_vr H8.out.1.own.b H8.out.2 (by decide))).set_other HG.out.ne47 _
          have H10 : Hid (Og w (w9.setCell ⟨P4, 0, none⟩ v9) P1 P4 P7 p n c cs v' v9 (lo ++ [z]) (z :: met) f') := by
            rw [HZ.out.2.2.1] at h10
            exact ⟨h10, h97, HZ.out.1, by have h1 := HZ.out.2.1; have h2 := HG.out.f; have h3 := HZ.out.2.2.2; omega, by have h1 := HZ.out.2.1; have h2 := HG.out.len; rw [List.length_append]; simp; omega, HG.out.ne14, HG.out.ne47⟩
          have k5 := h49.cell
          have k6 := h49.frozen
          have kl5 := h49.lt
          obtain ⟨p9, c9, hv9', _, _⟩ := rw_own H10.out.h.own.b
          subst hv9'
          clear ho9 hg9 hv9 h10 h49 h97 cD t4 tl4 u4 ul4 hcz
          go_wp2
          go_roundw
          case rel => exact ⟨_, _, _, _, _, rfl, H10.out⟩
          case measure =>
            have h1 := H10.out.h.c4.cell
            have h2 := HG.out.h.c4.cell
            rw [h1, h2]
            have h3 := HZ.out.2.1
            simp [lnV]
            omega
        · have hO := ordC_no (f := f) (fnd_none hF)
          have HE : Hid (ordr (cs.map C.d) = lo) := by show _ = _; rw [HG.out.eq, hO, List.append_nil]
          have H6 : Hid (Oh w w6 P1 P4 p n c vo (.slice pc (lft (cs.map C.d) met).length cc) lo (lft (cs.map C.d) met)) := HG.out.h.bl' hb6
          clear hb6 hF hO
          go_wp2
          go_ret
          exact ⟨vo, rfl, H6.out.bl, by rw [HE.out]; exact H6.out.own.a⟩
end Go.Proofs.Ytpanodaecjlgaaa.oq
/- Whether templates fit together: an item that has a name. -/
namespace Go.Proofs.Ytpanodaecjlgaaa.tm
set_option linter.unusedVariables false
open Go.ChangeShapes Go.WideShapes Go.ChangeAt Go.RowKit Go.Shelf
open mem lx ex

theorem SetM.block {w : World} {b k : Nat} {S : List (List UInt8)} (h : SetM w b S k) : ∃ es clock, w.heap[b]? = some (.map es clock) := by
  obtain ⟨f, c, ⟨D, ⟨es, clock, h1, _⟩, _⟩, _⟩ := h
  exact ⟨es, clock, h1⟩
/-- Expressions stay when a map changes. -/
theorem Kx.map {w w' : World} {b k : Nat} {S : List (List UInt8)} (h : SetM w b S k) (hg : w.grownBy w' (some b)) : Kx w w' := fun x cs hx => by
  rw [hg.block x (lt_of_heap hx) (fun e => by
    injection e with e
    subst e
    obtain ⟨es, clock, hb⟩ := h.block
    rw [hx] at hb
    cases hb)]
  exact hx
theorem below_grown {B b : Nat} {w0 w w' : World} (h : Below B w0 w) (hg : w.grownBy w' (some b)) (hB : B ≤ b) (hs : B ≤ w.heap.size) : Below B w0 w' := ⟨hg.os.trans h.os, hg.tape.trans h.tape, hg.output.trans h.output, Nat.le_trans h.size hg.size, fun k hk => by
  rw [hg.block k (by omega) (fun e => by injection e with e; omega)]
  exact h.block k hk⟩
/-- What is seen behind an item. -/
def seenN (seen : List (List UInt8)) (d : D) : List (List UInt8) := if d.kd = 1 ∧ d.mn = false then d.nm :: seen else seen
theorem itemW_is (earl names seen : List (List UInt8)) (d : D) : (d.nm ∈ names → itemW earl names seen d = some (9, d.at_)) ∧ (d.nm ∉ names → (d.kd = 3 → d.ty ∉ earl → itemW earl names seen d = some (7, d.at_)) ∧ (¬ (d.kd = 3 ∧ d.ty ∉ earl) → itemW earl names seen d = (misO seen d.ct).map fun p => (5, p))) := by
  unfold itemW
  exact ⟨fun h => by rw [if_pos h], fun h => ⟨fun h3 h4 => by rw [if_neg h, if_pos ⟨h3, h4⟩], fun h3 => by rw [if_neg h, if_neg h3]⟩⟩
end Go.Proofs.Ytpanodaecjlgaaa.tm
/- Whether templates fit together: items one behind the other (pure). -/
namespace Go.Proofs.Ytpanodaecjlgaaa.tm
set_option linter.unusedVariables false
open lx ex

def Its.dr : Its → Nat → Its
  | l, 0 => l
  | .nil, _ + 1 => .nil
  | .cons _ _ t, k + 1 => t.dr k
/-- How many, all together. -/
def tot : Its → Nat
  | .nil => 0
  | .cons _ s t => 1 + tot s + tot t
theorem dr_at (l : Its) : ∀ (j : Nat) (d : D) (s : Its), l.ps[j]? = some (d, s) → l.dr j = .cons d s (l.dr (j + 1)) := by
  induction l with
  | nil => intro j d s h; cases h
  | cons a b t _ it =>
    intro j d s h
    cases j with
    | zero =>
      simp [Its.ps] at h
      obtain ⟨rfl, rfl⟩ := h
      cases t <;> rfl
    | succ j => exact it j d s (by simpa [Its.ps] using h)
theorem dr_all (l : Its) : l.dr l.len = .nil := by
  induction l with
  | nil => rfl
  | cons a b t _ it => exact it
theorem ps_ds (l : Its) : l.ps.map (·.1) = l.ds := by
  induction l with
  | nil => rfl
  | cons a b t _ it => simp [Its.ps, Its.ds, it]
/-- What the names of items that were looked at are. -/
structure Nmd (l : Its) (j : Nat) (names seen names' seen' : List (List UInt8)) : Prop where
  f1 : ∀ y ∈ seen', y ∈ seen ∨ ∃ d ∈ l.ds, d.nm = y
  f2 : ∀ y ∈ seen, y ∈ seen'
  f3 : ∀ y ∈ seen', y ∈ names'
  f4 : ∀ y ∈ names', y ≠ []
  f5 : ∀ k d s, k < j → l.ps[k]? = some (d, s) → d.nm ∉ seen
  f6 : ∀ y ∈ names, y ∈ names'
theorem Nmd.start (l : Its) {names seen : List (List UInt8)} (h1 : ∀ y ∈ seen, y ∈ names) (h2 : ∀ y ∈ names, y ≠ []) : Nmd l 0 names seen names seen :=
  ⟨fun y hy => Or.inl hy, fun y hy => hy, h1, h2, fun k d s hk => by omega, fun y hy => hy⟩
theorem mem_ds {l : Its} {j : Nat} {d : D} {s : Its} (h : l.ps[j]? = some (d, s)) : d ∈ l.ds := by
  rw [← ps_ds]
  exact List.mem_map.2 ⟨(d, s), List.mem_of_getElem? h, rfl⟩
theorem Nmd.item {l : Its} {j : Nat} {names seen names' seen' : List (List UInt8)} (h : Nmd l j names seen names' seen') {d : D} {s : Its} (hj : l.ps[j]? = some (d, s)) (hn : d.nm ≠ []) (hm : d.nm ∉ names') : Nmd l (j + 1) names seen (d.nm :: names') (seenN seen' d) := by
  refine ⟨fun y hy => ?_, fun y hy => ?_, fun y hy => ?_, fun y hy => ?_, fun k e s' hk he => ?_, fun y hy => List.mem_cons_of_mem _ (h.f6 y hy)⟩
  · unfold seenN at hy
    split at hy
    · rw [List.mem_cons] at hy
      rcases hy with rfl | hy
      · exact Or.inr ⟨d, mem_ds hj, rfl⟩
      · exact h.f1 y hy
    · exact h.f1 y hy
  · unfold seenN
    split
    · exact List.mem_cons_of_mem _ (h.f2 y hy)
    · exact h.f2 y hy
  · unfold seenN at hy
    split at hy
    · rw [List.mem_cons] at hy ⊢
      rcases hy with rfl | hy
      · exact Or.inl rfl
      · exact Or.inr (h.f3 y hy)
    · exact List.mem_cons_of_mem _ (h.f3 y hy)
  · rw [List.mem_cons] at hy
    rcases hy with rfl | hy
    · exact hn
    · exact h.f4 y hy
  · rcases Nat.lt_or_ge k j with hkj | hkj
    · exact h.f5 k e s' hkj he
    · obtain rfl : k = j := by omega
      rw [hj] at he
      injection he with he
      injection he with h1 h2
      subst h1
      exact fun hc => hm (h.f3 _ (h.f2 _ hc))
theorem Nmd.when {l : Its} {j : Nat} {names seen names' seen' names2 : List (List UInt8)} (h : Nmd l j names seen names' seen') {d : D} {s : Its} (hj : l.ps[j]? = some (d, s)) (hn : d.nm = []) (hs : ∀ y ∈ names', y ∈ names2) (h4 : ∀ y ∈ names2, y ≠ []) : Nmd l (j + 1) names seen names2 seen' := by
  refine ⟨h.f1, h.f2, fun y hy => hs y (h.f3 y hy), h4, fun k e s' hk he => ?_, fun y hy => hs y (h.f6 y hy)⟩
  rcases Nat.lt_or_ge k j with hkj | hkj
  · exact h.f5 k e s' hkj he
  · obtain rfl : k = j := by omega
    rw [hj] at he
    injection he with he
    injection he with h1 h2
    subst h1
    exact fun hc => h.f4 _ (h.f3 _ (h.f2 _ hc)) hn
/-- What is left when what was seen here is forgotten. -/
theorem Nmd.left {l : Its} {names seen names' seen' : List (List UInt8)} (h : Nmd l l.len names seen names' seen') (y : List UInt8) : y ∈ seen'.filter (fun y => y ∉ (l.ds.take l.len).map D.nm) ↔ y ∈ seen := by
  have el : l.ds.take l.len = l.ds := by rw [← Its.ds_len, List.take_length]
  rw [el, List.mem_filter]
  constructor
  · rintro ⟨h1, h2⟩
    rcases h.f1 y h1 with h3 | ⟨d, h3, rfl⟩
    · exact h3
    · exfalso
      simp only [decide_eq_true_eq] at h2
      exact h2 (List.mem_map.2 ⟨d, h3, rfl⟩)
  · intro hy
    refine ⟨h.f2 y hy, ?_⟩
    simp only [decide_eq_true_eq]
    intro hc
    obtain ⟨d, h3, rfl⟩ := List.mem_map.1 hc
    rw [← ps_ds] at h3
    obtain ⟨e, h4, rfl⟩ := List.mem_map.1 h3
    obtain ⟨k, h5, h6⟩ := List.mem_iff_getElem.1 h4
    exact h.f5 k e.1 e.2 (by rw [← Its.ps_len]; exact h5) (by rw [List.getElem?_eq_getElem h5, h6]) hy
/-- One step of looking at items. -/
theorem chkI_step (earl : List (List UInt8)) {l : Its} {j : Nat} {d : D} {s : Its} (h : l.ps[j]? = some (d, s)) (names seen : List (List UInt8)) :
    (d.kd = 4 → (∀ p, misO seen d.ct = some p → chkI earl (l.dr j) names seen = .error (5, p)) ∧ (misO seen d.ct = none → (∀ e, chkB earl s names seen = .error e → chkI earl (l.dr j) names seen = .error e) ∧ ∀ n2, chkB earl s names seen = .ok n2 → chkI earl (l.dr j) names seen = chkI earl (l.dr (j + 1)) n2 seen)) ∧
    (d.kd ≠ 4 → (∀ e, itemW earl names seen d = some e → chkI earl (l.dr j) names seen = .error e) ∧ (itemW earl names seen d = none → chkI earl (l.dr j) names seen = chkI earl (l.dr (j + 1)) (d.nm :: names) (seenN seen d))) := by
  rw [dr_at l j d s h, chkI]
  refine ⟨fun h4 => ?_, fun h4 => ?_⟩
  · rw [if_pos h4]
    refine ⟨fun p hp => by rw [hp], fun hp => ?_⟩
    rw [hp]
    dsimp only
    unfold chkB
    cases hc : chkI earl s names seen with
    | error e => exact ⟨fun e' he => (by injection he with he; rw [he]), fun n2 hn => (by cases hn)⟩
    | ok n1 =>
      dsimp only
      cases hr : rulesW s.ds with
      | some e => exact ⟨fun e' he => (by injection he with he; rw [he]), fun n2 hn => (by cases hn)⟩
      | none => exact ⟨fun e' he => (by cases he), fun n2 hn => (by injection hn with hn; rw [hn])⟩
  · rw [if_neg h4]
    cases hw : itemW earl names seen d with
    | some e => exact ⟨fun e' he => (by injection he with he; rw [he]), fun hn => (by cases hn)⟩
    | none => exact ⟨fun e' he => (by cases he), fun _ => rfl⟩
theorem chkI_end (earl : List (List UInt8)) (l : Its) (names seen : List (List UInt8)) : chkI earl (l.dr l.len) names seen = .ok names := by
  rw [dr_all, chkI]
theorem firstW_step (g : Nat → D → Option (Int × Nat)) (ds : List D) (i : Nat) (d : D) (h : ds[i]? = some d) : (∀ e, g i d = some e → firstW g i (ds.drop i) = some e) ∧ (g i d = none → firstW g i (ds.drop i) = firstW g (i + 1) (ds.drop (i + 1))) := by
  obtain ⟨hl, he⟩ := List.getElem?_eq_some_iff.1 h
  rw [List.drop_eq_getElem_cons hl, he, firstW]
  exact ⟨fun e hg => by rw [hg], fun hg => by rw [hg]⟩
theorem firstW_end (g : Nat → D → Option (Int × Nat)) (ds : List D) : firstW g ds.length (ds.drop ds.length) = none := by
  rw [List.drop_length]; rfl
theorem tot_step {l : Its} {j : Nat} {d : D} {s : Its} (h : l.ps[j]? = some (d, s)) : tot (l.dr j) = 1 + tot s + tot (l.dr (j + 1)) := by
  rw [dr_at l j d s h, tot]
/-- Places are no further than that. -/
def AtB : Its → Prop
  | .nil => True
  | .cons d s t => d.at_ ≤ 100000 ∧ AtB s ∧ AtB t
theorem AtB.at {l : Its} (h : AtB l) : ∀ (j : Nat) (d : D) (s : Its), l.ps[j]? = some (d, s) → d.at_ ≤ 100000 ∧ AtB s := by
  induction l with
  | nil => intro j d s hj; cases hj
  | cons a b t _ it =>
    intro j d s hj
    cases j with
    | zero => simp [Its.ps] at hj; obtain ⟨rfl, rfl⟩ := hj; exact ⟨h.1, h.2.1⟩
    | succ j => exact it h.2.2 j d s (by simpa [Its.ps] using hj)
end Go.Proofs.Ytpanodaecjlgaaa.tm
/- Whether templates fit together: a block. -/
namespace Go.Proofs.Ytpanodaecjlgaaa.tm
set_option linter.unusedVariables false
open Go.ChangeShapes Go.WideShapes Go.ChangeAt Go.RowKit Go.Shelf
open mem lx ex

theorem chkB_err {earl names seen : List (List UInt8)} {l : Its} {e : Int × Nat} (h : chkI earl l names seen = .error e) : chkB earl l names seen = .error e := by unfold chkB; rw [h]
theorem wd_ok {d : D} (h : WD d) : (∀ x, d.ct = some x → Okb x) ∧ d.nm.length ≤ 5000 ∧ d.ty.length ≤ 5000 ∧ (d.kd = 4 → d.nm = []) ∧ (d.kd ≠ 4 → d.nm ≠ []) := by
  have nn : ∀ {t : List UInt8}, NM t → t ≠ [] ∧ t.length ≤ 5000 := fun {t} h => ⟨fun e => by have := h.2.1; rw [e] at this; revert this; decide, by have := h.2.2.1; omega⟩
  rcases h with h | h | h | h
  · obtain ⟨h1, ⟨x, hx, wx⟩, h3, _, _, h6, _⟩ := h
    exact ⟨fun y hy => by rw [hx] at hy; injection hy with hy; rw [← hy]; exact wx.1.okb, by rw [h3]; simp, by rw [h6]; simp, fun _ => h3, fun h4 => absurd h1 h4⟩
  · obtain ⟨h1, hn, ⟨x, hx, wx⟩, _, _, h6, _⟩ := h
    exact ⟨fun y hy => by rw [hx] at hy; injection hy with hy; rw [← hy]; exact wx.1.okb, (nn hn).2, by rw [h6]; simp, fun h4 => by omega, fun _ => (nn hn).1⟩
  · obtain ⟨h1, ht, hn, _, _, _, _, _, _, hm⟩ := h
    refine ⟨fun y hy => ?_, (nn hn).2, (nn ht).2, fun h4 => by omega, fun _ => (nn hn).1⟩
    rcases hm with ⟨_, x, hx, wx⟩ | ⟨_, hx⟩
    · rw [hx] at hy; injection hy with hy; rw [← hy]; exact wx.1.okb
    · rw [hx] at hy; cases hy
  · obtain ⟨h1, ht, _, hn, hm⟩ := h
    refine ⟨fun y hy => ?_, (nn hn).2, by rw [ht]; simp, fun h4 => by omega, fun _ => (nn hn).1⟩
    rcases hm with ⟨_, ⟨x, hx, wx⟩, _⟩ | ⟨_, hx, _⟩
    · rw [hx] at hy; injection hy with hy; rw [← hy]; exact wx.1.okb
    · rw [hx] at hy; cases hy
theorem chkB_is {earl names seen names' : List (List UInt8)} {l : Its} (h : chkI earl l names seen = .ok names') : (∀ e, firstW (ruleW l.ds) 0 l.ds = some e → chkB earl l names seen = .error e) ∧ (firstW (ruleW l.ds) 0 l.ds = none → (∀ e, firstW (cycW l.ds) 0 l.ds = some e → chkB earl l names seen = .error e) ∧ (firstW (cycW l.ds) 0 l.ds = none → chkB earl l names seen = .ok names')) := by
  unfold chkB rulesW
  rw [h]
  dsimp only
  refine ⟨fun e he => by rw [he], fun hn => ?_⟩
  rw [hn]
  dsimp only
  exact ⟨fun e he => by rw [he], fun he => by rw [he]⟩
theorem cyc_is (ds : List D) (i : Nat) (d : D) : (¬ d.ru = 3 → cycW ds i d = none) ∧ (d.ru = 3 → (rnd ds i = true → cycW ds i d = some (11, d.at_)) ∧ (rnd ds i = false → cycW ds i d = none)) := by
  unfold cycW
  exact ⟨fun h => by rw [if_neg (fun hc => h hc.1)], fun h => ⟨fun hr => by rw [if_pos ⟨h, hr⟩], fun hr => by rw [if_neg (fun hc => by rw [hr] at hc; cases hc.2)]⟩⟩
end Go.Proofs.Ytpanodaecjlgaaa.tm
