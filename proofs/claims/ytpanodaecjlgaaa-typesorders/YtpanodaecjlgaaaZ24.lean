/- Texts laid together: OrD, SameR, BlA, BlB. -/
import Derived.Test.YtpanodaecjlgaaaZ22
import Derived.Test.YtpanodaecjlgaaaZ23
import Derived.Test.YtpanodaecjlgaaaZ20
import Derived.Deep.QuietTactic
/- In which order rules are done: the document's TypesOrder. -/
namespace Go.Proofs.Ytpanodaecjlgaaa.oq
set_option linter.unusedVariables false
open Go.ChangeShapes Go.WideShapes Go.ChangeAt Go.RowKit Go.Shelf Go.Maps
open mem lx ex tm tc

def bN : Value → Nat
  | .bool true => 1
  | _ => 0
/-- How far TypesOrder has come. -/
structure Oq (w wr : World) (M n : Nat) (cs : List C) (vo : Value) (lo met : List Nat) (f : Nat) : Prop where
  bl : Bl w wr
  own : ri.Own wr w.heap.size vo (ints lo)
  mt : Mq wr M n met
  eq : ordr (cs.map C.d) = lo ++ ordC (cs.map C.d) f (lft (cs.map C.d) met)
  f : (lft (cs.map C.d) met).length ≤ f
  len : lo.length + (lft (cs.map C.d) met).length ≤ 3000
  ml : met.length + (lft (cs.map C.d) met).length ≤ 3000
theorem Oq.bl' {w wr w' : World} {M n : Nat} {cs : List C} {vo : Value} {lo met : List Nat} {f : Nat} (h : Oq w wr M n cs vo lo met f) (hb : Bl wr w') : Oq w w' M n cs vo lo met f :=
  ⟨h.bl.trans hb, h.own.step hb, h.mt.bl hb, h.eq, h.f, h.len, h.ml⟩
theorem own_mq {w : World} {base M n : Nat} {v : Value} {l : List Int} {met : List Nat} (h : ri.Own w base v l) (hM : Mq w M n met) : v.ownBlock ≠ some M := by
  obtain ⟨hn, D, c, hc, h1, h2⟩ := hM
  obtain ⟨es, clock, hb, _⟩ := h1
  rcases h.2 with ⟨rfl, _⟩ | ⟨g, cap, cur, rfl, _, hg, _⟩
  · intro e; cases e
  · intro e
    injection e with e
    subst e
    rw [show (⟨g, 0, none⟩ : Addr).block = g from rfl, hg] at hb
    cases hb
theorem all_take {U met : List Nat} {k z : Nat} (h : U[k]? = some z) : (∀ y ∈ U.take (k + 1), y ∈ met) ↔ ((∀ y ∈ U.take k, y ∈ met) ∧ z ∈ met) := by
  rw [List.take_add_one, h]
  simp only [Option.toList, List.mem_append, List.mem_singleton]
  constructor
  · intro hh
    exact ⟨fun y hy => hh y (Or.inl hy), hh z (Or.inr rfl)⟩
  · rintro ⟨h1, h2⟩ y (hy | rfl)
    · exact h1 y hy
    · exact h2
theorem good_is {ds : List D} {met : List Nat} {i : Nat} {d : D} (h : ds[i]? = some d) : good ds met i = (decide (d.ru = 3) && decide (i ∉ met) && decide (∀ y ∈ under ds i, y ∈ met)) := by
  unfold good isC
  rw [h]
  rw [Bool.eq_iff_iff]
  simp
theorem dec_cong {a b : Prop} [Decidable a] [Decidable b] (h : a ↔ b) : decide a = decide b := by
  by_cases hb : b
  · rw [decide_eq_true hb, decide_eq_true (h.2 hb)]
  · rw [decide_eq_false hb, decide_eq_false (fun ha => hb (h.1 ha))]
set_option maxRecDepth 10000 in
set_option maxHeartbeats 8000000 in
theorem TOrder_at (cs : List C) (ok : Nat → Prop) (p : Option Addr) (n c : Nat) (w : World) (hin : ir.Lie w ok p n c cs) (hn : n ≤ 1000) (hO : Okr cs) :
    Calls Try.prog 12 #[.slice p n c] w fun e w' => ∃ v, e = .returned v ∧ Bl w w' ∧ ri.Own w' w.heap.size v (ints (ordr (cs.map C.d))) := by
  have hmm : ∀ w, (Instr.makeMap 63 none).run Try.prog w = .ok (.map (some w.heap.size)) (w.alloc (.map #[] 0)) := fun w => by kernel_rfl
  have H0 : Hid (ir.Lie w ok p n c cs ∧ n = cs.length ∧ n = (cs.map C.d).length ∧ Okr cs) := ⟨hin, hin.1, by rw [List.length_map]; exact hin.1, hO⟩
  obtain ⟨w1, hw1⟩ : ∃ w1, w1 = w.alloc (.map #[] 0) := ⟨_, rfl⟩
  obtain ⟨M, hM⟩ : ∃ M, M = w.heap.size := ⟨_, rfl⟩
  have hb1 : Bl w w1 := by rw [hw1]; exact (Bl.refl _).alloc _
  have hm1 : Mq w1 M n [] := by rw [hw1, hM]; exact Mq.made w n (by omega)
  have HM : Hid (w.heap.size ≤ M) := by show w.heap.size ≤ M; rw [hM]; exact Nat.le_refl _
  have H1 : Hid (Bl w w1 ∧ Mq w1 M n [] ∧ ri.Own w1 w.heap.size (.slice none 0 0) (ints (idxs (fun d => d.ru == 1 || d.ru == 2) 0 ((cs.map C.d).take 0)))) := ⟨hb1, hm1, ri.Own.nil _ _⟩
  clear hin hO hb1 hm1
  go_enter Try.func12, Try.ntmps12
  go_upto_region 4 with fail
  rw [← hw1, ← hM]
  clear hw1 hM
  go_loopw [3, 16] (fun vo i wr => ∃ (j : Nat) (v0 : Value), j ≤ n ∧ i = .int .i64 (j : Int) ∧ v0 = vo ∧ Hid (Bl w wr ∧ Mq wr M n [] ∧ ri.Own wr w.heap.size v0 (ints (idxs (fun d => d.ru == 1 || d.ru == 2) 0 ((cs.map C.d).take j))))) (fun _ i _ => n - (intOf i).toNat)
  case atStart => exact ⟨0, _, by omega, rfl, rfl, H1.out⟩
  case round =>
    clear H1
    obtain ⟨j, vo, hj, rfl, rfl, HB⟩ := hrel
    by_cases hjn : j < n
    · obtain ⟨x, e1⟩ : ∃ x, cs[j]? = some x := ⟨_, List.getElem?_eq_getElem (by have := H0.out.2.1; omega)⟩
      obtain ⟨X, hX, _, g0', g⟩ := lie_at (lie_bl H0.out.1 HB.out.1) j x e1
      subst hX
      have g0 : wr.cell? (X.add (j * 13)) = some (.int .i64 (x.d.kd : Int)) := g0'
      clear g0'
      have g1 := g 1 _ rfl
      have g2 := g 2 _ rfl
      have g3 := g 3 _ rfl
      have g4 := g 4 _ rfl
      have g5 := g 5 _ rfl
      have g6 := g 6 _ rfl
      have g7 := g 7 _ rfl
      have g8 := g 8 _ rfl
      have g9 := g 9 _ rfl
      have g10 := g 10 _ rfl
      have g11 := g 11 _ rfl
      have g12 := g 12 _ rfl
      have d1 : decide ((j : Int) < (n : Int)) = true := decide_eq_true (by omega)
      have i0 : (0 : Int) ≤ (j : Int) := by omega
      have i1 : (j : Int) < (n : Int) := by omega
      obtain ⟨w3, hw3⟩ : ∃ w3, w3 = wr.alloc (.cells (cl x).toArray 42) := ⟨_, rfl⟩
      obtain ⟨N, hM⟩ : ∃ N, N = wr.heap.size := ⟨_, rfl⟩
      have hv3 : Iv w3 N x := ⟨by rw [hw3, hM]; exact new_at _ _⟩
      have hbl3 : Bl wr w3 := by rw [hw3]; exact (Bl.refl _).alloc _
      have hd : (cs.map C.d)[j]? = some x.d := by rw [List.getElem?_map, e1]; rfl
      obtain ⟨a0, a1, a2, a3, a4, a5, a6, a7, a8, a9, a10, a11, a12⟩ := hv3.facts
      have hMs := hv3.lt
      have s1 := idxs_step (fun d : D => d.ru == 1 || d.ru == 2) _ j x.d hd
      have hl1 : (idxs (fun d => d.ru == 1 || d.ru == 2) 0 ((cs.map C.d).take j)).length ≤ 5000 := by
        have := idxs_len (fun d => d.ru == 1 || d.ru == 2) ((cs.map C.d).take j)
        rw [List.length_take, ← H0.out.2.2.1] at this
        omega
      obtain ⟨w4, hw4⟩ : ∃ w4, w4 = w3.alloc (.cells #[.int .i64 (j : Int)] 3) := ⟨_, rfl⟩
      have hb4 : Bl w3 w4 := by rw [hw4]; exact (Bl.refl _).alloc _
      have hX4 : w4.cell? ⟨w3.heap.size, 0, none⟩ = some (.int .i64 (j : Int)) := by rw [hw4]; exact (cell_of (new_at w3 (.cells #[.int .i64 (j : Int)] 3)) 0).trans rfl
      obtain ⟨v', w5, hr5, ho5, hg5, hv5⟩ := ri.app_one w4 w.heap.size vo _ (j : Int) w3.heap.size (HB.out.2.2.step (hbl3.trans hb4)) hX4 (by rw [ints_len]; exact hl1) ((HB.out.1.trans (hbl3.trans hb4)).size)
      rw [← ints_app] at ho5
      rw [hw4] at hr5
      have HR : Hid _ := hr5
      have H5 : Hid (Bl w w5 ∧ Mq w5 M n [] ∧ ri.Own w5 w.heap.size v' (ints (idxs (fun d => d.ru == 1 || d.ru == 2) 0 ((cs.map C.d).take j) ++ [j]))) := ⟨bl_grown (HB.out.1.trans (hbl3.trans hb4)) hg5 (fun k hk => ((HB.out.2.2.step (hbl3.trans hb4)).block k hk).1), (HB.out.2.1.bl (hbl3.trans hb4)).grown hg5 (own_mq (HB.out.2.2.step (hbl3.trans hb4)) (HB.out.2.1.bl (hbl3.trans hb4))), ho5⟩
      have H3 : Hid (Bl w w3 ∧ Mq w3 M n [] ∧ ri.Own w3 w.heap.size vo (ints (idxs (fun d => d.ru == 1 || d.ru == 2) 0 ((cs.map C.d).take j)))) := ⟨HB.out.1.trans hbl3, HB.out.2.1.bl hbl3, HB.out.2.2.step hbl3⟩
      clear e1 hd hbl3 hv3 hw4 hb4 hX4 hr5 ho5 hg5 hv5
      go_upto_region 6 with fail
      change Code.wp _ _ _ _ (wr.alloc (.cells (cl x).toArray 42))
      rw [← hw3, ← hM]
      clear hw3 hM g0 g1 g2 g3 g4 g5 g6 g7 g8 g9 g10 g11 g12 g
      by_cases r1 : x.d.ru = 1
      · rw [r1] at a9
        have HS : Hid (idxs (fun d => d.ru == 1 || d.ru == 2) 0 ((cs.map C.d).take (j + 1)) = idxs (fun d => d.ru == 1 || d.ru == 2) 0 ((cs.map C.d).take j) ++ [j]) := by show _ = _; rw [s1, if_pos (by rw [r1]; rfl)]
        clear s1 r1
        go_wp2_with (at_builtin; refine Lib.wpList_append_run _ rfl (.tmp 29) (.tmp 31) _ _ rfl _ _ rfl rfl _ _ HR.out ?_)
        go_roundw
        case rel => exact ⟨j + 1, _, by omega, by go_num, rfl, by rw [HS.out]; exact H5.out⟩
        case measure => simp [intOf]; omega
      · have r1' : ¬ ((x.d.ru : Int) = 1) := by omega
        by_cases r2 : x.d.ru = 2
        · rw [r2] at a9
          have HS : Hid (idxs (fun d => d.ru == 1 || d.ru == 2) 0 ((cs.map C.d).take (j + 1)) = idxs (fun d => d.ru == 1 || d.ru == 2) 0 ((cs.map C.d).take j) ++ [j]) := by show _ = _; rw [s1, if_pos (by rw [r2]; rfl)]
          clear s1 r1 r1' r2
          go_wp2_with (at_builtin; refine Lib.wpList_append_run _ rfl (.tmp 29) (.tmp 31) _ _ rfl _ _ rfl rfl _ _ HR.out ?_)
          go_roundw
          case rel => exact ⟨j + 1, _, by omega, by go_num, rfl, by rw [HS.out]; exact H5.out⟩
          case measure => simp [intOf]; omega
        · have r2' : ¬ ((x.d.ru : Int) = 2) := by omega
          have HS : Hid (idxs (fun d => d.ru == 1 || d.ru == 2) 0 ((cs.map C.d).take (j + 1)) = idxs (fun d => d.ru == 1 || d.ru == 2) 0 ((cs.map C.d).take j)) := by show _ = _; rw [s1, if_neg (by simp [r1, r2]), List.append_nil]
          have b1 : ((x.d.ru : Int) == 1) = false := by rw [beq_eq_false_iff_ne]; exact r1'
          have b2 : ((x.d.ru : Int) == 2) = false := by rw [beq_eq_false_iff_ne]; exact r2'
          clear s1 r1 r2
          go_wp2
          go_roundw
          case rel => exact ⟨j + 1, _, by omega, by go_num, rfl, by rw [HS.out]; exact H3.out⟩
          case measure => simp [intOf]; omega
    · obtain rfl : n = j := by omega
      have H5 : Hid (Oq w wr M n cs vo (idxs (fun d => d.ru == 1 || d.ru == 2) 0 (cs.map C.d)) [] (cs.map C.d).length) := by
        have h := HB.out.2.2
        rw [H0.out.2.2.1, idxs_all] at h
        refine ⟨HB.out.1, h, HB.out.2.1, ordr_is _, lft_len _ _, ?_, ?_⟩
        · have h1 := idxs_len (fun d => d.ru == 1 || d.ru == 2) (cs.map C.d)
          have h2 := lft_len (cs.map C.d) []
          have := H0.out.2.2.1
          omega
        · have h2 := lft_len (cs.map C.d) []
          have := H0.out.2.2.1
          simp only [List.length_nil]
          omega
      clear HB hj hjn
      go_upto_region 10 with fail
      go_loopw [3, 7] (fun vo ag wr => ∃ (v0 : Value) (b : Bool) (lo met : List Nat) (f : Nat), v0 = vo ∧ ag = .bool b ∧ Hid (Oq w wr M n cs v0 lo met f ∧ (b = false → ∀ k, k < n → good (cs.map C.d) met k = false))) (fun _ ag wr => 2 * cntQ wr M n + bN ag)
      case atStart => exact ⟨_, true, _, [], _, rfl, rfl, H5.out, fun h => by cases h⟩
      case round =>
        clear H5
        obtain ⟨vo, b, lo, met, f, rfl, rfl, HG⟩ := hrel
        cases b with
        | false =>
          have hO := ordC_no (f := f) (find_no (ds := cs.map C.d) (met := met) (fun k hk => HG.out.2 rfl k (by rw [H0.out.2.2.1]; exact hk)))
          have HE : Hid (ordr (cs.map C.d) = lo) := by show _ = _; rw [HG.out.1.eq, hO, List.append_nil]
          clear hO
          go_wp2
          go_ret
          exact ⟨vo, rfl, HG.out.1.bl, by rw [HE.out]; exact HG.out.1.own⟩
        | true =>
          rename World => wg
          have HG2 : Hid (Oq w wg M n cs vo lo met f) := HG.out.1
          clear HG
          go_upto_region 13 with fail
          go_loopw [3, 7, 37] (fun vv ag i wr => ∃ (j : Nat) (v0 : Value), j ≤ n ∧ i = .int .i64 (j : Int) ∧ v0 = vv ∧ ag = .bool false ∧ Hid (Oq w wr M n cs v0 lo met f ∧ ∀ k, k < j → good (cs.map C.d) met k = false)) (fun _ _ i _ => n - (intOf i).toNat)
          case atStart => exact ⟨0, vo, by omega, rfl, rfl, rfl, HG2.out, fun k hk => absurd hk (Nat.not_lt_zero _)⟩
          case round =>
            obtain ⟨j, vo, hj, rfl, rfl, rfl, HB⟩ := hrel
            by_cases hjn : j < n
            · obtain ⟨x, e1⟩ : ∃ x, cs[j]? = some x := ⟨_, List.getElem?_eq_getElem (by have := H0.out.2.1; omega)⟩
              obtain ⟨X, hX, _, g0', g⟩ := lie_at (lie_bl H0.out.1 HB.out.1.bl) j x e1
              subst hX
              have g0 : wr.cell? (X.add (j * 13)) = some (.int .i64 (x.d.kd : Int)) := g0'
              clear g0'
              have g1 := g 1 _ rfl
              have g2 := g 2 _ rfl
              have g3 := g 3 _ rfl
              have g4 := g 4 _ rfl
              have g5 := g 5 _ rfl
              have g6 := g 6 _ rfl
              have g7 := g 7 _ rfl
              have g8 := g 8 _ rfl
              have g9 := g 9 _ rfl
              have g10 := g 10 _ rfl
              have g11 := g 11 _ rfl
              have g12 := g 12 _ rfl
              have d1 : decide ((j : Int) < (n : Int)) = true := decide_eq_true (by omega)
              have i0 : (0 : Int) ≤ (j : Int) := by omega
              have i1 : (j : Int) < (n : Int) := by omega
              obtain ⟨w3, hw3⟩ : ∃ w3, w3 = wr.alloc (.cells (cl x).toArray 42) := ⟨_, rfl⟩
              obtain ⟨N, hM⟩ : ∃ N, N = wr.heap.size := ⟨_, rfl⟩
              have hv3 : Iv w3 N x := ⟨by rw [hw3, hM]; exact new_at _ _⟩
              have hbl3 : Bl wr w3 := by rw [hw3]; exact (Bl.refl _).alloc _
              have hd : (cs.map C.d)[j]? = some x.d := by rw [List.getElem?_map, e1]; rfl
              obtain ⟨a0, a1, a2, a3, a4, a5, a6, a7, a8, a9, a10, a11, a12⟩ := hv3.facts
              have hMs := hv3.lt
              have hgd := good_is (met := met) hd
              have hlk := (HB.out.1.mt.bl hbl3).look j hjn
              have H3 : Hid (Oq w w3 M n cs vo lo met f ∧ Iv w3 N x ∧ (cs.map C.d)[j]? = some x.d ∧ cs[j]? = some x) := ⟨HB.out.1.bl' hbl3, hv3, hd, e1⟩
              clear e1 hd hbl3 hv3
              go_upto_region 15 with fail
              change Code.wp _ _ _ _ (wr.alloc (.cells (cl x).toArray 42))
              rw [← hw3, ← hM]
              clear hw3 hM g0 g1 g2 g3 g4 g5 g6 g7 g8 g9 g10 g11 g12 g
              by_cases r3 : x.d.ru = 3
              · rw [r3] at a9
                by_cases hm : j ∈ met
                · rw [decide_eq_true hm] at hlk
                  have HN : Hid (good (cs.map C.d) met j = false) := by show _ = _; rw [hgd]; simp [hm]
                  clear hgd hm r3
                  go_wp2
                  go_roundw
                  case rel => exact ⟨j + 1, _, by omega, by go_num, rfl, rfl, H3.out.1, fun k hk => if h : k < j then HB.out.2 k h else (by have e : k = j := (by omega); rw [e]; exact HN.out)⟩
                  case measure => simp [intOf]; omega
                · rw [decide_eq_false hm] at hlk
                  have cC := covers_at x j cs ok _ n c w3 (lie_bl H0.out.1 H3.out.1.bl) (by omega) H3.out.2.2.2 H0.out.2.2.2 r3
                  obtain ⟨U, hU⟩ : ∃ U, U = under (cs.map C.d) j := ⟨_, rfl⟩
                  rw [← hU] at cC hgd
                  have HD : Hid (good (cs.map C.d) met j = (decide (x.d.ru = 3) && decide (j ∉ met) && decide (∀ y ∈ U, y ∈ met)) ∧ x.d.ru = 3 ∧ j ∉ met ∧ (∀ y ∈ U, y < n)) := ⟨hgd, r3, hm, fun y hy => by
                    have := isC_lt (under_isC' (by rw [← hU]; exact hy))
                    rw [H0.out.2.2.1]; exact this⟩
                  have hUl : U.length ≤ 5000 := by
                    rw [hU]
                    have h1 := under_len (cs.map C.d) j
                    rw [← H0.out.2.2.1] at h1
                    omega
                  clear hgd hm hU r3
                  go_wp2_with fail
                  refine cC.mono ?_
                  rintro e w5 ⟨u, rfl, hb5, ho5⟩
                  clear cC hlk a0 a1 a2 a3 a4 a5 a6 a7 a8 a9 a10 a11 a12
                  obtain ⟨pu, cu, rfl, hcu, hru⟩ := rw_own ho5
                  obtain ⟨m, hm⟩ : ∃ m, m = U.length := ⟨_, rfl⟩
                  have H5 : Hid (Oq w w5 M n cs vo lo met f ∧ Rw w5 pu U ∧ m = U.length) := ⟨H3.out.1.bl' hb5, hru, hm⟩
                  rw [← hm] at hUl hcu ⊢
                  clear hb5 ho5 hru hm
                  go_wp2_with fail
                  go_loopw [10, 56] (fun b i wr => ∃ k : Nat, k ≤ m ∧ i = .int .i64 (k : Int) ∧ b = .bool (decide (∀ y ∈ U.take k, y ∈ met)) ∧ Hid (Bl w5 wr)) (fun _ i _ => m - (intOf i).toNat)
                  case atStart => exact ⟨0, Nat.zero_le _, rfl, by simp, Bl.refl _⟩
                  case round =>
                    obtain ⟨k, hk, rfl, rfl, HC⟩ := hrel
                    by_cases hkm : k < m
                    · have d2 : decide ((k : Int) < (m : Int)) = true := decide_eq_true (by omega)
                      have k0 : (0 : Int) ≤ (k : Int) := by omega
                      have k1 : (k : Int) < (m : Int) := by omega
                      obtain ⟨z, hz⟩ : ∃ z, U[k]? = some z := ⟨_, List.getElem?_eq_getElem (by have := H5.out.2.2; omega)⟩
                      have hzn := HD.out.2.2.2 z (List.mem_of_getElem? hz)
                      have hlz := (H5.out.1.mt.bl HC.out).look z hzn
                      obtain ⟨g, rfl, hgs, hcz⟩ := (H5.out.2.1.bl HC.out) k z hz
                      have HT : Hid ((∀ y ∈ U.take (k + 1), y ∈ met) ↔ ((∀ y ∈ U.take k, y ∈ met) ∧ z ∈ met)) := all_take hz
                      clear hz hzn
                      by_cases ha : ∀ y ∈ U.take k, y ∈ met
                      · rw [decide_eq_true ha]
                        by_cases hzm : z ∈ met
                        · rw [decide_eq_true hzm] at hlz
                          have HN : Hid (∀ y ∈ U.take (k + 1), y ∈ met) := HT.out.2 ⟨ha, hzm⟩
                          clear ha hzm
                          go_wp2
                          go_roundw
                          case rel => exact ⟨k + 1, by omega, by go_num, by rw [decide_eq_true HN.out], HC.out⟩
                          case measure => simp [intOf]; omega
                        · rw [decide_eq_false hzm] at hlz
                          have HN : Hid (¬ ∀ y ∈ U.take (k + 1), y ∈ met) := fun hc => hzm (HT.out.1 hc).2
                          clear ha hzm
                          go_wp2
                          go_roundw
                          case rel => exact ⟨k + 1, by omega, by go_num, by rw [decide_eq_false HN.out], HC.out⟩
                          case measure => simp [intOf]; omega
                      · rw [decide_eq_false ha]
                        have HN : Hid (¬ ∀ y ∈ U.take (k + 1), y ∈ met) := fun hc => ha (HT.out.1 hc).1
                        clear ha hlz
                        go_wp2
                        go_roundw
                        case rel => exact ⟨k + 1, by omega, by go_num, by rw [decide_eq_false HN.out], HC.out⟩
                        case measure => simp [intOf]; omega
                    · obtain rfl : m = k := by omega
                      have hUm : U.take m = U := by rw [H5.out.2.2, List.take_length]
                      rw [hUm]
                      have d2 : decide ((m : Int) < (m : Int)) = false := decide_eq_false (by omega)
                      rename World => wz
                      by_cases ha : ∀ y ∈ U, y ∈ met
                      · rw [decide_eq_true ha]
                        have HN : Hid (good (cs.map C.d) met j = true) := by show _ = _; rw [HD.out.1, decide_eq_true ha, decide_eq_true HD.out.2.1, decide_eq_true HD.out.2.2.1]; rfl
                        obtain ⟨f', hf, hC, hlen, hzm⟩ := ordC_yes (find_yes HN.out (by rw [← H0.out.2.2.1]; exact hjn) HB.out.2) HB.out.1.f
                        have H6 : Hid (Oq w wz M n cs vo lo met f) := H5.out.1.bl' HC.out
                        obtain ⟨w7, hw7⟩ : ∃ w7, w7 = wz.alloc (.cells #[.int .i64 (j : Int)] 3) := ⟨_, rfl⟩
                        have hb7 : Bl wz w7 := by rw [hw7]; exact (Bl.refl _).alloc _
                        have hX7 : w7.cell? ⟨wz.heap.size, 0, none⟩ = some (.int .i64 (j : Int)) := by rw [hw7]; exact (cell_of (new_at wz (.cells #[.int .i64 (j : Int)] 3)) 0).trans rfl
                        have h7 := H6.out.bl' hb7
                        obtain ⟨v', w8, hr8, ho8, hg8, hv8⟩ := ri.app_one w7 w.heap.size vo _ (j : Int) wz.heap.size h7.own hX7 (by rw [ints_len]; have := HB.out.1.len; omega) h7.bl.size
                        rw [← ints_app] at ho8
                        have h8 := bl_grown h7.bl hg8 (fun x hx => (h7.own.block x hx).1)
                        have hm8 := h7.mt.grown hg8 (own_mq h7.own h7.mt)
                        obtain ⟨w9, hw9, hm9, hg9⟩ := hm8.put j (by have := HB.out.1.ml; omega) (by omega)
                        have ho9 : ri.Own w9 w.heap.size v' (ints (lo ++ [j])) := ho8.kept hg9 (fun x hx e => own_mq ho8 hm8 (by rw [hx, e]))
                        have H9 : Hid (Oq w w9 M n cs v' (lo ++ [j]) (j :: met) f') := ⟨bl_grown h8 hg9 (fun k hk => by injection hk with hk; have := HM.out; omega), ho9, hm9, by rw [HB.out.1.eq, hC]; simp, by have := HB.out.1.f; omega, by have := HB.out.1.len; rw [List.length_append]; simp; omega, by have := HB.out.1.ml; simp; omega⟩
                        have HQ : Hid (cntQ w9 M n < cntQ wg M n) := by
                          show cntQ w9 M n < cntQ wg M n
                          rw [cntQ_is H9.out.mt, cntQ_is HG2.out.mt]
                          exact unm_lt n met j hjn HD.out.2.2.1
                        rw [hw7] at hr8
                        have HR : Hid _ := hr8
                        clear ha hUm hf hC hlen hzm hw7 hb7 hX7 h7 hr8 ho8 hg8 hv8 h8 hm8 hm9 hg9 ho9
                        go_wp2_with (at_builtin; refine Lib.wpList_append_run _ rfl (.tmp 70) (.tmp 72) _ _ rfl _ _ rfl rfl _ _ HR.out ?_)
                        go_roundw
                        case rel => exact ⟨_, true, _, _, _, rfl, rfl, H9.out, fun h => by cases h⟩
                        case measure => have := HQ.out; simp [bN]; omega
                      · rw [decide_eq_false ha]
                        have HN : Hid (good (cs.map C.d) met j = false) := by show _ = _; rw [HD.out.1, decide_eq_false ha, Bool.and_false]
                        have H6 : Hid (Oq w wz M n cs vo lo met f) := H5.out.1.bl' HC.out
                        clear ha hUm
                        go_wp2
                        go_roundw
                        case rel => exact ⟨j + 1, _, by omega, by go_num, rfl, rfl, H6.out, fun k hk => if h : k < j then HB.out.2 k h else (by have e : k = j := (by omega); rw [e]; exact HN.out)⟩
                        case measure => simp [intOf]; omega
              · have r3' : ¬ ((x.d.ru : Int) = 3) := by omega
                have HN : Hid (good (cs.map C.d) met j = false) := by show _ = _; rw [hgd]; simp [r3]
                clear hgd r3 hlk
                go_wp2
                go_roundw
                case rel => exact ⟨j + 1, _, by omega, by go_num, rfl, rfl, H3.out.1, fun k hk => if h : k < j then HB.out.2 k h else (by have e : k = j := (by omega); rw [e]; exact HN.out)⟩
                case measure => simp [intOf]; omega
            · obtain rfl : n = j := by omega
              have HQ : Hid (cntQ wr M n = cntQ wg M n) := by show _ = _; rw [cntQ_is HB.out.1.mt, cntQ_is HG2.out.mt]
              go_wp2
              go_roundw
              case rel => exact ⟨_, false, _, _, _, rfl, rfl, HB.out.1, fun _ => HB.out.2⟩
              case measure => rw [HQ.out]; simp [bN]
end Go.Proofs.Ytpanodaecjlgaaa.oq
/- What sameInts of the laws answers of two rows that are alike. -/
namespace Go.Proofs.Ytpanodaecjlgaaa.ri
set_option linter.unusedVariables false
open Go.ChangeShapes Go.WideShapes Go.ChangeAt Go.RowKit
open mem

theorem same_at (a b : Value) (l : List Int) (w : World) (base base' : Nat) (ha : Own w base a l) (hb : Own w base' b l) (hl : l.length ≤ 5000) :
    Calls Try.prog 10 #[a, b] w fun e w' => e = .returned (.bool true) ∧ Bl w w' := by
  rcases Nat.eq_zero_or_pos l.length with h0 | h0
  · have hz : ∃ p c p' c', a = .slice p 0 c ∧ b = .slice p' 0 c' := by
      rcases ha.shape with ⟨e, _⟩ | ⟨g, cap, e, _⟩ <;> rcases hb.shape with ⟨e', _⟩ | ⟨g', cap', e', _⟩
      all_goals (rw [e, e']; (try rw [h0]); exact ⟨_, _, _, _, rfl, rfl⟩)
    obtain ⟨p, c, p', c', rfl, rfl⟩ := hz
    go_enter Try.func10, Try.ntmps10
    go_wp2
    go_loopw [5] (fun i wr => i = .int .i64 0 ∧ wr = w) (fun _ _ => 0)
    case atStart => exact ⟨rfl, rfl⟩
    case round =>
      obtain ⟨rfl, rfl⟩ := hrel
      go_wp2
      go_ret
      exact ⟨rfl, Bl.refl _⟩
  · have hn : l ≠ [] := by intro e; rw [e] at h0; exact absurd h0 (by decide)
    rcases ha.shape with ⟨_, e⟩ | ⟨g, cap, rfl, _, _, _, _, hca⟩
    · exact absurd e hn
    rcases hb.shape with ⟨_, e⟩ | ⟨g', cap', rfl, _, _, _, _, hcb⟩
    · exact absurd e hn
    obtain ⟨m, hm⟩ : ∃ m, m = l.length := ⟨_, rfl⟩
    rw [← hm] at hca hcb hl h0 ⊢
    clear hm ha hb hn
    have HA : Hid _ := hca
    have HB : Hid _ := hcb
    clear hca hcb
    go_enter Try.func10, Try.ntmps10
    go_wp2
    go_loopw [5] (fun i wr => ∃ k : Nat, k ≤ m ∧ i = .int .i64 (k : Int) ∧ Dr w wr) (fun i _ => m - (intOf i).toNat)
    case atStart => exact ⟨0, Nat.zero_le _, rfl, Dr.refl _⟩
    case round =>
      obtain ⟨k, hk, rfl, hd⟩ := hrel
      by_cases hlt : k < m
      · obtain ⟨q, rfl⟩ := hd
        have hc1 : (w.drewN q).cell? ⟨g, k, none⟩ = some (.int .i64 (l.getD k 0)) := HA.out k hlt
        have hc2 : (w.drewN q).cell? ⟨g', k, none⟩ = some (.int .i64 (l.getD k 0)) := HB.out k hlt
        generalize l.getD k 0 = z at hc1 hc2
        generalize hwq : w.drewN q = wq at hc1 hc2 ⊢
        have hlz : (k : Int) < (m : Int) := by omega
        have HW : Hid (w.drewN q = wq) := hwq
        clear hwq
        go_wp2
        go_quiet (fail)
        go_wp2
        go_roundw
        case rel => exact ⟨k + 1, by omega, by go_num, by rw [← HW.out]; exact Dr.drewN _ ⟨q, rfl⟩⟩
        case measure => simp [intOf]; omega
      · obtain rfl : k = m := by omega
        go_wp2
        go_ret
        exact ⟨rfl, hd.bl⟩
end Go.Proofs.Ytpanodaecjlgaaa.ri
/- The document's checker of templates: names as a set, and as a row. -/
namespace Go.Proofs.Ytpanodaecjlgaaa.tc
set_option linter.unusedVariables false
open Go.ChangeShapes Go.WideShapes Go.ChangeAt Go.RowKit Go.Shelf Go.Maps
open mem lx ex tm

/-- A map[string]bool that holds just these names. -/
def SetB (w : World) (b : Nat) (S : List (List UInt8)) (k : Nat) : Prop :=
  ∃ (D : DataW Unit) (c : Nat), c ≤ k ∧ w.ownsMap Try.prog 9 (plainElem Try.prog 4) b c D ∧ ∀ y : List UInt8, y.length ≤ 5000 → D.atKey (skey y) (.lit (.bool false)) = .lit (.bool (decide (y ∈ S)))
theorem SetB.made (w : World) : SetB (w.alloc (.map #[] 0)) w.heap.size [] 0 :=
  ⟨_, 0, Nat.le_refl _, World.ownsMap_made w Try.prog 9 _, fun c _ => by simp; rfl⟩
theorem SetB.step {w w' : World} {b k : Nat} {S : List (List UInt8)} {row : Option Nat} (h : SetB w b S k) (hg : w.grownBy w' row) (hne : row ≠ some b) : SetB w' b S k := by
  obtain ⟨D, c, hc, h1, h2⟩ := h
  exact ⟨D, c, hc, h1.kept hg (fun e => hne e.symm), h2⟩
theorem SetB.bl {w w' : World} {b k : Nat} {S : List (List UInt8)} (h : SetB w b S k) (hb : Bl w w') : SetB w' b S k :=
  h.step (row := none) ⟨hb.os, hb.tape, hb.output, hb.size, fun k hk _ => Below.block hb k hk⟩ (by simp)
theorem gp_grown {P : Nat} {w w' : World} (h : Gp P w w') : w.grownBy w' (some P) := ⟨h.os, h.tape, h.output, h.size, fun k hk hne => h.block k hk (fun e => hne (by rw [e]))⟩
theorem grown_gp {P : Nat} {w w' : World} (h : w.grownBy w' (some P)) : Gp P w w' := ⟨h.os, h.tape, h.output, h.size, fun k hk hne => h.block k hk (fun e => hne (by injection e))⟩
theorem SetB.gp {w w' : World} {b k P : Nat} {S : List (List UInt8)} (h : SetB w b S k) (hg : Gp P w w') (hne : b ≠ P) : SetB w' b S k := h.step (gp_grown hg) (fun e => hne (by injection e with e; exact e.symm))
theorem SetB.mono {w : World} {b k k' : Nat} {S : List (List UInt8)} (h : SetB w b S k) (hk : k ≤ k') : SetB w b S k' := by
  obtain ⟨D, c, hc, h1, h2⟩ := h
  exact ⟨D, c, by omega, h1, h2⟩
theorem SetB.block {w : World} {b k : Nat} {S : List (List UInt8)} (h : SetB w b S k) : ∃ es clock, w.heap[b]? = some (.map es clock) := by
  obtain ⟨D, c, hc, h1, h2⟩ := h
  obtain ⟨es, clock, hb, _⟩ := h1
  exact ⟨es, clock, hb⟩
theorem SetB.lt {w : World} {b k : Nat} {S : List (List UInt8)} (h : SetB w b S k) : b < w.heap.size := by
  obtain ⟨es, clock, hb⟩ := h.block
  exact lt_of_heap hb
theorem SetB.look {w : World} {b k : Nat} {S : List (List UInt8)} (h : SetB w b S k) (t : List UInt8) (ht : t.length ≤ 5000) : (Instr.lookup 55 (.map (some b)) (.string (tx t)) false).run Try.prog w = .ok (.bool (decide (t ∈ S))) w := by
  obtain ⟨D, c, hc, h1, h2⟩ := h
  obtain ⟨v, ps, hrun, hv⟩ := h1.lookup lawS Try.underlying55 (zero_bool w) (plainElem_bool Try.underlying4 false) (WideMaps.keyOf_string_mk Try.underlying9 (s := tx t) (by rw [tx_size]; unfold maxLen; omega))
  have e0 : (tx t).data.toList = t := L_tx _
  rw [e0] at hv
  have h2' : D.atKey (.string t) (.lit (.bool false)) = .lit (.bool (decide (t ∈ S))) := h2 t ht
  rw [h2'] at hv
  have e : v = .bool (decide (t ∈ S)) := by
    obtain ⟨x, e1, e2⟩ := plainElem_bool_inv hbool hv
    have e3 := congrArg Prod.fst e2
    have e4 : (DataW.lit (Lit.bool (decide (t ∈ S))) : DataW Unit) = .lit (.bool x) := e3
    rw [e1]
    exact congrArg Value.bool (lit_bool e4).symm
  rw [hrun, e]
theorem SetB.put {w : World} {b k : Nat} {S : List (List UInt8)} (h : SetB w b S k) (t : List UInt8) (ht : t.length ≤ 5000) (hk : k ≤ 5000) : ∃ w', (Instr.mapUpdate 55 (.map (some b)) (.string (tx t)) (.bool true)).run Try.prog w = .ok () w' ∧ SetB w' b (t :: S) (k + 1) ∧ w.grownBy w' (some b) := by
  obtain ⟨D, c, hc, h1, h2⟩ := h
  obtain ⟨w', hr, ho, hg⟩ := h1.update lawS Try.underlying55 (by unfold maxLen; omega) (WideMaps.keyOf_string_mk Try.underlying9 (s := tx t) (by rw [tx_size]; unfold maxLen; omega)) (plainElem_bool Try.underlying4 true)
  have e0 : (tx t).data.toList = t := L_tx _
  rw [e0] at ho
  refine ⟨w', hr, ⟨_, c + 1, by omega, ho, fun y hy => ?_⟩, hg⟩
  show (D.put (skey t) _).atKey (skey y) _ = _
  by_cases e : y = t
  · subst e
    rw [atKey_put_same h1.isMap (skey_is y)]
    simp
  · rw [atKey_put_other (skey_inj e), h2 y hy]
    simp [e]
/- A row of names. -/
def rowS (l : List (List UInt8)) : List Value := l.map (fun t => .string (tx t))
theorem rowS_len (l : List (List UInt8)) : (rowS l).length = l.length := by simp [rowS]
theorem rowS_app (a b : List (List UInt8)) : rowS (a ++ b) = rowS a ++ rowS b := by simp [rowS]
theorem rowS_get {l : List (List UInt8)} {k : Nat} {t : List UInt8} (h : l[k]? = some t) : (rowS l)[k]? = some (.string (tx t)) := by simp [rowS, h]
theorem infoS : (Try.prog.info? 9).map (fun i => (i.zero, i.size, i.bytes)) = some (some (.string ⟨#[]⟩), 1, 16) := by kernel_rfl
theorem infoS' : ∃ i, Try.prog.info? 9 = some i ∧ i.zero = some (.string ⟨#[]⟩) ∧ i.size = 1 ∧ i.bytes = 16 := by
  obtain ⟨i, h1, h2⟩ := Option.map_eq_some_iff.1 infoS
  simp only [Prod.mk.injEq] at h2
  exact ⟨i, h1, h2.1, h2.2.1, h2.2.2⟩
def Sn (w : World) (p : Option Addr) (l : List (List UInt8)) : Prop := (p = none ∧ l = []) ∨ ∃ (g : Nat) (cs : Array Value), p = some ⟨g, 0, none⟩ ∧ w.heap[g]? = some (.cells cs 9 (0, 0)) ∧ ∀ (k : Nat) (u : Value), (rowS l)[k]? = some u → cs[k]? = some u
theorem Sn.keep {w w' : World} {p : Option Addr} {l : List (List UInt8)} (h : Sn w p l) (hk : ∀ (g : Nat) (cs : Array Value), w.heap[g]? = some (.cells cs 9 (0, 0)) → w'.heap[g]? = some (.cells cs 9 (0, 0))) : Sn w' p l := by
  rcases h with h | ⟨g, cs, h1, h2, h3⟩
  · exact Or.inl h
  · exact Or.inr ⟨g, cs, h1, hk _ _ h2, h3⟩
theorem Sn.bl {w w' : World} {p : Option Addr} {l : List (List UInt8)} (h : Sn w p l) (hb : Bl w w') : Sn w' p l := h.keep (fun g cs hg => (Below.block hb g (lt_of_heap hg)).trans hg)
theorem Sn.gp {w w' : World} {p : Option Addr} {l : List (List UInt8)} {P k : Nat} {S : List (List UInt8)} (h : Sn w p l) (hg : Gp P w w') (hs : SetB w P S k) : Sn w' p l :=
  h.keep (fun g cs hc => (hg.block g (lt_of_heap hc) (fun e => by obtain ⟨es, clock, hb⟩ := hs.block; rw [← e, hc] at hb; cases hb)).trans hc)
theorem Kx.gpB {P k : Nat} {w w' : World} {S : List (List UInt8)} (h : Gp P w w') (hs : SetB w P S k) : Kx w w' := fun b cs hc =>
  (h.block b (lt_of_heap hc) (fun e => by obtain ⟨es, clock, hb⟩ := hs.block; rw [← e, hc] at hb; cases hb)).trans hc
/-- A name of the row. -/
theorem Sn.at {w : World} {p : Option Addr} {l : List (List UInt8)} (h : Sn w p l) {k : Nat} {t : List UInt8} (hk : l[k]? = some t) : ∃ g, p = some ⟨g, 0, none⟩ ∧ g < w.heap.size ∧ w.cell? ⟨g, k, none⟩ = some (.string (tx t)) := by
  rcases h with ⟨_, rfl⟩ | ⟨g, cs, h1, h2, h3⟩
  · cases hk
  · refine ⟨g, h1, lt_of_heap h2, ?_⟩
    rw [cell_of h2]
    exact h3 k _ (rowS_get hk)
/-- A name more: the row lies anew. -/
theorem Sn.app {w : World} {p : Option Addr} {l : List (List UInt8)} (h : Sn w p l) (X : Nat) (z : List UInt8) (hX : w.cell? ⟨X, 0, none⟩ = some (.string (tx z))) (hn : l.length ≤ 5000) :
    ∃ g c w', (Builtin.append_ #[70, 70] 70 #[.slice p l.length l.length, .slice (some ⟨X, 0, none⟩) 1 1]).run Try.prog w = .ok (.slice (some ⟨g, 0, none⟩) (l.length + 1) c) w' ∧ l.length + 1 ≤ c ∧ Sn w' (some ⟨g, 0, none⟩) (l ++ [z]) ∧ Bl w w' := by
  obtain ⟨i, hi, hz, h1, h2⟩ := infoS'
  have hs : Src Try.prog i.size 70 (.slice (some ⟨X, 0, none⟩) 1 1) 1 [Value.string (tx z)] w := by
    rw [h1]
    refine Src.ofSlice w Try.underlying70 _ _ _ _ rfl (fun j x hx => ?_) (fun x hx => ?_)
    · cases j with
      | zero => simp at hx; subst hx; simpa [Addr.add] using hX
      | succ j => simp at hx
    · simp at hx; subst hx; rfl
  have hold : (Builtin.firstCells i.size l.length (.slice p l.length l.length)).run Try.prog w.drew = .ok (rowS l).toArray w.drew := by
    rw [h1]
    rcases h with ⟨rfl, rfl⟩ | ⟨g, cs, rfl, g2, g3⟩
    · exact run_firstCells_none w.drew 1 0 0 0
    · exact run_firstCells_some w.drew 1 l.length ⟨g, 0, none⟩ l.length l.length (rowS l) (by rw [rowS_len, Nat.mul_one]) (fun j x hx => by
        have := cell_of g2 (j := j)
        rw [Addr.add_lit, Nat.zero_add, World.cell?_drew, this]
        exact g3 j x hx)
  have hrun := run_append_grow_src (P := Try.prog) w 70 70 70 9 i (.string ⟨#[]⟩) Try.underlying70 hi hz p l.length l.length (rowS l) hold _ 1 _ hs (by omega) (by omega) (growslice_fits (by omega) (by rw [h2]; omega))
  have hge := grownCap_ge w (l.length + 1) l.length 9
  obtain ⟨A, hA⟩ : ∃ A, A = (rowS l ++ [Value.string (tx z)]).toArray ++ Builtin.zeroCells (Value.string ⟨#[]⟩).cells (grownCap w (l.length + 1) l.length 9 - (l.length + 1)) := ⟨_, rfl⟩
  rw [← hA] at hrun
  have hnew : (w.drew.alloc (.cells A 9)).heap[w.heap.size]? = some (.cells A 9 (0, 0)) := new_at w.drew (.cells A 9)
  refine ⟨_, _, _, hrun, hge, Or.inr ⟨w.heap.size, A, rfl, hnew, fun k u hu => ?_⟩, ((Bl.refl w).drew).trans ((Bl.refl _).alloc _)⟩
  rw [rowS_app] at hu
  have hk := (List.getElem?_eq_some_iff.1 hu).1
  rw [hA, Array.getElem?_append_left (by rw [List.size_toArray]; exact hk), List.getElem?_toArray]
  exact hu
end Go.Proofs.Ytpanodaecjlgaaa.tc
/- A row of pointers to which one adds at the right. -/
namespace Go.Proofs.Ytpanodaecjlgaaa.qp
set_option linter.unusedVariables false
open Go.ChangeShapes Go.WideShapes Go.ChangeAt Go.RowKit Go.Shelf
open mem lx ex
open qi (tape_setCells grown_cells)

def rowP (l : List Nat) : List Value := l.map (fun b => .pointer (some ⟨b, 0, none⟩))
theorem rowP_len (l : List Nat) : (rowP l).length = l.length := by simp [rowP]
theorem rowP_app (a b : List Nat) : rowP (a ++ b) = rowP a ++ rowP b := by simp [rowP]
theorem rowP_get {l : List Nat} {k b : Nat} (h : l[k]? = some b) : (rowP l)[k]? = some (.pointer (some ⟨b, 0, none⟩)) := by simp [rowP, h]
theorem infoP : (Try.prog.info? 40).map (fun i => (i.zero, i.size, i.bytes)) = some (some (.pointer none), 1, 8) := by kernel_rfl
theorem infoP' : ∃ i, Try.prog.info? 40 = some i ∧ i.zero = some (.pointer none) ∧ i.size = 1 ∧ i.bytes = 8 := by
  obtain ⟨i, h1, h2⟩ := Option.map_eq_some_iff.1 infoP
  simp only [Prod.mk.injEq] at h2
  exact ⟨i, h1, h2.1, h2.2.1, h2.2.2⟩
def Q (w : World) (base : Nat) (v : Value) (l : List Nat) : Prop := (v = .slice none 0 0 ∧ l = []) ∨ ∃ (g off cap : Nat), v = .slice (some ⟨g, off, none⟩) l.length cap ∧ base ≤ g ∧ g < w.heap.size ∧ l.length ≤ cap ∧ cap ≤ maxLen ∧ (∀ k u, (rowP l)[k]? = some u → w.cell? ⟨g, off + k, none⟩ = some u) ∧ (∀ k, k < cap → (w.cell? ⟨g, off + k, none⟩).isSome = true ∧ w.frozen? ⟨g, off + k, none⟩ = false)
theorem Q.shape {w : World} {base : Nat} {v : Value} {l : List Nat} (h : Q w base v l) : ∃ p c, v = .slice p l.length c ∧ l.length ≤ c ∧ c ≤ maxLen := by
  rcases h with ⟨rfl, rfl⟩ | ⟨g, off, cap, rfl, _, _, h1, h2, _⟩
  · exact ⟨none, 0, rfl, Nat.le_refl _, Nat.zero_le _⟩
  · exact ⟨_, cap, rfl, h1, h2⟩
theorem Q.block {w : World} {base : Nat} {v : Value} {l : List Nat} (h : Q w base v l) : ∀ k, v.ownBlock = some k → base ≤ k ∧ k < w.heap.size := by
  intro k hk
  rcases h with ⟨rfl, _⟩ | ⟨g, off, cap, rfl, h1, h2, _⟩
  · cases hk
  · injection hk with hk
    subst hk
    exact ⟨h1, h2⟩
theorem Q.kept {w w' : World} {base : Nat} {v : Value} {l : List Nat} {row : Option Nat} (h : Q w base v l) (hg : w.grownBy w' row) (hne : ∀ k, v.ownBlock = some k → row ≠ some k) : Q w' base v l := by
  rcases h with h | ⟨g, off, cap, rfl, h1, h2, h3, h4, h5, h6⟩
  · exact Or.inl h
  · have hb : w'.heap[g]? = w.heap[g]? := hg.block g h2 (fun e => hne g rfl e.symm)
    refine Or.inr ⟨g, off, cap, rfl, h1, Nat.lt_of_lt_of_le h2 hg.size, h3, h4, fun k u hu => ?_, fun k hk => ?_⟩
    · rw [World.cell?_of_block (a := ⟨g, off + k, none⟩) hb]; exact h5 k u hu
    · rw [World.cell?_of_block (a := ⟨g, off + k, none⟩) hb, World.frozen?_of_block (a := ⟨g, off + k, none⟩) hb]; exact h6 k hk
theorem Q.bl {w w' : World} {base : Nat} {v : Value} {l : List Nat} (h : Q w base v l) (hb : Bl w w') : Q w' base v l := h.kept (row := none) ⟨hb.os, hb.tape, hb.output, hb.size, fun k hk _ => Below.block hb k hk⟩ (fun _ _ => by simp)
theorem Q.nil (w : World) (base : Nat) : Q w base (.slice none 0 0) [] := Or.inl ⟨rfl, rfl⟩
theorem Q.mono {w : World} {base base' : Nat} {v : Value} {l : List Nat} (h : Q w base v l) (hb : base' ≤ base) : Q w base' v l := by
  rcases h with h | ⟨g, off, cap, h1, h2, h3⟩
  · exact Or.inl h
  · exact Or.inr ⟨g, off, cap, h1, by omega, h3⟩
theorem Q.at {w : World} {base : Nat} {p : Option Addr} {n c : Nat} {l : List Nat} (h : Q w base (.slice p n c) l) {k b : Nat} (hk : l[k]? = some b) : ∃ x, p = some x ∧ x.block < w.heap.size ∧ w.cell? (x.add k) = some (.pointer (some ⟨b, 0, none⟩)) := by
  rcases h with ⟨_, h⟩ | ⟨g, off, cap, hv, h1, h2, h3, h4, h5, h6⟩
  · rw [h] at hk; cases hk
  · injection hv with e1 e2 e3
    exact ⟨_, e1, h2, by rw [Addr.add_lit]; exact h5 k _ (rowP_get hk)⟩
theorem Q.one {w : World} {base N b : Nat} (hN : w.heap[N]? = some (.cells #[.pointer (some ⟨b, 0, none⟩)] 40 (0, 0))) (hb : base ≤ N) : Q w base (.slice (some ⟨N, 0, none⟩) 1 1) [b] := by
  refine Or.inr ⟨N, 0, 1, rfl, hb, lt_of_heap hN, Nat.le_refl _, by unfold maxLen; omega, fun k u hu => ?_, fun k hk => ?_⟩
  · rw [Nat.zero_add, cell_of hN]
    cases k with
    | zero => exact hu
    | succ k => simp [rowP] at hu
  · obtain rfl : k = 0 := by omega
    exact ⟨by rw [Nat.zero_add, cell_of hN]; rfl, by simp [World.frozen?, hN]⟩
set_option maxRecDepth 10000 in
/-- More, at the right. -/
theorem Q.app {w : World} {base base2 : Nat} {v u : Value} {l m : List Nat} (h : Q w base v l) (hu : Q w base2 u m) (hn : l.length + m.length ≤ 100000) (hb : base ≤ w.heap.size) :
    ∃ v' w', (Builtin.append_ #[71, 71] 71 #[v, u]).run Try.prog w = .ok v' w' ∧ Q w' base v' (l ++ m) ∧ w.grownBy w' v.ownBlock ∧ (v'.ownBlock = v.ownBlock ∨ v'.ownBlock = some w.heap.size) := by
  obtain ⟨i, hi, hz, h1, h2⟩ := infoP'
  have hs : Src Try.prog i.size 71 u m.length (rowP m) w := by
    rw [h1]
    rcases hu with ⟨rfl, rfl⟩ | ⟨g, off, cap, rfl, _, _, _, _, hc, _⟩
    · exact Src.ofNil w Try.underlying71 0
    · refine Src.ofSlice w Try.underlying71 _ _ _ _ (by rw [rowP_len, Nat.mul_one]) (fun j x hx => ?_) (fun x hx => ?_)
      · rw [Addr.add_lit]
        exact hc j x hx
      · simp only [rowP, List.mem_map] at hx
        obtain ⟨z, _, rfl⟩ := hx
        rfl
  -- a new row
  have grow : ∀ (p : Option Addr) (sc : Nat), v = .slice p l.length sc → sc < l.length + m.length → (Builtin.firstCells i.size l.length (.slice p l.length sc)).run Try.prog w.drew = .ok (rowP l).toArray w.drew →
      ∃ v' w', (Builtin.append_ #[71, 71] 71 #[v, u]).run Try.prog w = .ok v' w' ∧ Q w' base v' (l ++ m) ∧ w.grownBy w' v.ownBlock ∧ (v'.ownBlock = v.ownBlock ∨ v'.ownBlock = some w.heap.size) := by
    rintro p sc rfl hg hold
    have hrun := run_append_grow_src (P := Try.prog) w 71 71 71 40 i (.pointer none) Try.underlying71 hi hz p l.length sc (rowP l) hold u m.length (rowP m) hs hg (by omega) (growslice_fits hg (by rw [h2]; omega))
    have hge := grownCap_ge w (l.length + m.length) sc 40
    have hcm := grownCap_le_maxLen w (l.length + m.length) sc 40 (by unfold maxLen; omega)
    obtain ⟨A, hA⟩ : ∃ A, A = (rowP l ++ rowP m).toArray ++ Builtin.zeroCells (Value.pointer none).cells (grownCap w (l.length + m.length) sc 40 - (l.length + m.length)) := ⟨_, rfl⟩
    rw [← hA] at hrun
    have hAs : A.size = grownCap w (l.length + m.length) sc 40 := by
      rw [hA, Array.size_append, size_zeroCells, List.size_toArray, List.length_append, rowP_len, rowP_len, show (Value.pointer none).cells.size = 1 from rfl]
      omega
    have hcell : ∀ j, (w.drew.alloc (.cells A 40)).cell? ⟨w.heap.size, j, none⟩ = A[j]? := fun j => World.cell?_alloc_new w.drew A 40 j
    have hnew : (w.drew.alloc (.cells A 40)).heap[w.heap.size]? = some (.cells A 40 (0, 0)) := new_at w.drew (.cells A 40)
    refine ⟨_, _, hrun, Or.inr ⟨w.heap.size, 0, _, by rw [List.length_append], hb, lt_of_heap hnew, by rw [List.length_append]; exact hge, hcm, fun k x hx => ?_, fun k hk => ?_⟩, ⟨rfl, rfl, rfl, by simp, fun k hk _ => Below.heap_alloc w.drew _ k hk⟩, Or.inr rfl⟩
    · rw [Nat.zero_add, hcell, hA]
      have hk := (List.getElem?_eq_some_iff.1 hx).1
      rw [rowP_app] at hx hk
      rw [Array.getElem?_append_left (by rw [List.size_toArray]; exact hk), List.getElem?_toArray]
      exact hx
    · rw [Nat.zero_add, hcell]
      refine ⟨by rw [Array.getElem?_eq_getElem (by rw [hAs]; exact hk)]; rfl, ?_⟩
      unfold World.frozen?
      dsimp only
      rw [hnew]
      simp
  rcases h with ⟨rfl, rfl⟩ | ⟨g, off, cap, rfl, k1, k2, k3, k4, k5, k6⟩
  · by_cases hm : m = []
    · subst hm
      refine ⟨.slice none 0 0, w, ?_, Or.inl ⟨rfl, rfl⟩, ⟨rfl, rfl, rfl, Nat.le_refl _, fun _ _ _ => rfl⟩, Or.inl rfl⟩
      exact run_append_nothing (P := Try.prog) w 71 71 71 40 i Try.underlying71 hi none 0 0 (Nat.le_refl _) u hs
    · have hmp : 0 < m.length := List.length_pos_iff.2 hm
      exact grow none 0 rfl (by simpa using hmp) (run_firstCells_none w.drew i.size 0 0 0)
  · by_cases hroom : l.length + m.length ≤ cap
    · have hrun := run_append_room_src (P := Try.prog) w 71 71 71 40 i Try.underlying71 hi g off l.length cap u m.length (rowP m) hs hroom
        (fun j hj => by rw [rowP_len] at hj; rw [h1, Nat.mul_one, Nat.add_assoc]; exact (k6 _ (by omega)).1) (fun j hj => by rw [rowP_len] at hj; rw [h1, Nat.mul_one, Nat.add_assoc]; exact (k6 _ (by omega)).2)
      rw [h1, Nat.mul_one] at hrun
      refine ⟨_, _, hrun, Or.inr ⟨g, off, cap, by rw [List.length_append], k1, by rw [(tape_setCells g _ _ w).2]; exact k2, by rw [List.length_append]; exact hroom, k4, fun k x hx => ?_, fun k hk => ?_⟩, grown_cells _ _ _ _, Or.inl rfl⟩
      · rw [rowP_app] at hx
        by_cases hkl : k < l.length
        · rw [List.getElem?_append_left (by rw [rowP_len]; exact hkl)] at hx
          rw [World.cell?_setCells_out g _ _ w _ (fun _ _ => Or.inl (by show off + k < off + l.length; omega))]
          exact k5 k x hx
        · rw [List.getElem?_append_right (by rw [rowP_len]; omega), rowP_len] at hx
          have hj := (List.getElem?_eq_some_iff.1 hx).1
          have := World.cell?_setCells_in g (rowP m) (off + l.length) w (fun j hj => by rw [rowP_len] at hj; rw [Nat.add_assoc]; exact (k6 _ (by omega)).1) (k - l.length) hj
          rw [show off + l.length + (k - l.length) = off + k by omega] at this
          rw [this, ← hx]
          first | rfl | exact (List.getElem?_eq_getElem hj).symm
      · exact ⟨World.isSome_setCells g _ _ w _ (k6 k hk).1, by rw [World.frozen?_setCells]; exact (k6 k hk).2⟩
    · refine grow _ cap rfl (by omega) ?_
      rw [h1]
      exact run_firstCells_some w.drew 1 l.length ⟨g, off, none⟩ l.length cap (rowP l) (by rw [rowP_len, Nat.mul_one]) (fun j x hx => by rw [Addr.add_lit]; simpa using k5 j x hx)
end Go.Proofs.Ytpanodaecjlgaaa.qp
