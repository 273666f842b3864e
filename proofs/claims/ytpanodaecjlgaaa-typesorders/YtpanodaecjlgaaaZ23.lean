/- Texts laid together: TyS, Tc1, Tc2, Tc3. -/
import Derived.Test.YtpanodaecjlgaaaZ22
import Derived.Test.YtpanodaecjlgaaaZ18
import Derived.Test.YtpanodaecjlgaaaZ21
import Derived.Maps.OwnSet
/- Check of package types. -/
namespace Go.Proofs.Ytpanodaecjlgaaa.tm
set_option linter.unusedVariables false
open Go.ChangeShapes Go.WideShapes Go.ChangeAt Go.RowKit Go.Shelf
open mem lx ex

theorem chkT_step (earl : List (List UInt8)) (l : List Ty) (j : Nat) (t : Ty) (h : l[j]? = some t) : (t.nm ∈ earl → chkT earl (l.drop j) = some (9, t.at_)) ∧ (t.nm ∉ earl → (∀ e, chkB earl t.l [] [] = .error e → chkT earl (l.drop j) = some e) ∧ ∀ n, chkB earl t.l [] [] = .ok n → chkT earl (l.drop j) = chkT (t.nm :: earl) (l.drop (j + 1))) := by
  obtain ⟨hl, he⟩ := List.getElem?_eq_some_iff.1 h
  rw [List.drop_eq_getElem_cons hl, he, chkT]
  refine ⟨fun hm => by rw [if_pos hm], fun hm => ?_⟩
  rw [if_neg hm]
  exact ⟨fun e hc => by rw [hc], fun n hc => by rw [hc]⟩
/-- What Check asks. -/
structure CI (l : List Ty) : Prop where
  wt : WT l
  at_ : ∀ t ∈ l, t.at_ ≤ 100000 ∧ AtB t.l ∧ tot t.l ≤ 4000
end Go.Proofs.Ytpanodaecjlgaaa.tm
/- The document's checker of templates: which. -/
namespace Go.Proofs.Ytpanodaecjlgaaa.tc
set_option linter.unusedVariables false
open Go.ChangeShapes Go.WideShapes Go.ChangeAt Go.RowKit Go.Shelf
open mem lx ex tm

/-- None of the first ones is called so. -/
theorem nmd_no {ds : List D} {t : List UInt8} (h : ∀ d ∈ ds, d.nm ≠ t) : nmd ds t = none := by
  unfold nmd
  rw [List.findIdx?_eq_none_iff]
  intro d hd
  rw [beq_eq_false_iff_ne]
  exact h d hd
theorem nmd_yes {ds : List D} {t : List UInt8} {j : Nat} {d : D} (h : ds[j]? = some d) (hd : d.nm = t) (hn : ∀ k e, k < j → ds[k]? = some e → e.nm ≠ t) : nmd ds t = some j := by
  unfold nmd
  obtain ⟨hj, he⟩ := List.getElem?_eq_some_iff.1 h
  rw [List.findIdx?_eq_some_iff_getElem]
  refine ⟨hj, by rw [he, beq_iff_eq]; exact hd, fun k hk => ?_⟩
  have := hn k (ds[k]'(by omega)) hk (List.getElem?_eq_getElem _)
  simpa using this
set_option maxRecDepth 10000 in
set_option maxHeartbeats 2000000 in
theorem which_at (t : List UInt8) (cs : List C) (ok : Nat → Prop) (p : Option Addr) (n c : Nat) (w : World) (hin : ir.Lie w ok p n c cs) (hn : n ≤ 3000) (ht : t ≠ []) (hw : ∀ x ∈ cs, x.d.kd = 4 → x.d.nm = []) :
    Calls Try.prog 40 #[.slice p n c, .string (tx t)] w fun e w' => e = .returned (.int .i64 (idx (nmd (cs.map C.d) t))) ∧ Bl w w' := by
  have hnl : n = cs.length := hin.1
  have H0 : Hid (ir.Lie w ok p n c cs ∧ n = cs.length ∧ ∀ x ∈ cs, x.d.kd = 4 → x.d.nm = []) := ⟨hin, hnl, hw⟩
  have htl := tl_tx t
  obtain ⟨S, hS⟩ : ∃ S, S = tx t := ⟨_, rfl⟩
  rw [← hS] at htl ⊢
  clear hin hnl hw hS
  go_enter Try.func40, Try.ntmps40
  go_wp2
  go_loopw [9] (fun i wr => ∃ j : Nat, j ≤ n ∧ i = .int .i64 (j : Int) ∧ Hid (Bl w wr ∧ ∀ k e, k < j → (cs.map C.d)[k]? = some e → e.nm ≠ t)) (fun i _ => n - (intOf i).toNat)
  case atStart => exact ⟨0, by omega, rfl, Bl.refl _, fun k e hk => by omega⟩
  case round =>
    obtain ⟨j, hj, rfl, HB⟩ := hrel
    by_cases hjn : j < n
    · have d1 : decide ((j : Int) < (n : Int)) = true := decide_eq_true (by omega)
      have i0 : (0 : Int) ≤ (j : Int) := by omega
      have i1 : (j : Int) < (n : Int) := by omega
      obtain ⟨x, e1⟩ : ∃ x, cs[j]? = some x := ⟨_, List.getElem?_eq_getElem (by have := H0.out.2.1; omega)⟩
      obtain ⟨X, rfl, _, g0', g⟩ := lie_at (lie_bl H0.out.1 HB.out.1) j x e1
      have g0 : wr.cell? (X.add (j * 13)) = some (.int .i64 (x.d.kd : Int)) := g0'
      clear g0'
      have g1 := g 1 _ rfl
      have g2 := g 2 _ rfl
      have g3 := g 3 _ rfl
      have g4 := g 4 _ rfl
      have g5 := g 5 _ rfl
      have g6 := g 6 _ rfl
      have g7 := g 7 _ rfl
      have g8 := g 8 _ rfl
      have g9 := g 9 _ rfl
      have g10 := g 10 _ rfl
      have g11 := g 11 _ rfl
      have g12 := g 12 _ rfl
      have HX : Hid ((cs.map C.d)[j]? = some x.d ∧ (x.d.kd = 4 → x.d.nm = [])) := ⟨by rw [List.getElem?_map, e1]; rfl, H0.out.2.2 x (List.mem_of_getElem? e1)⟩
      obtain ⟨w3, hw3⟩ : ∃ w3, w3 = wr.alloc (.cells (cl x).toArray 42) := ⟨_, rfl⟩
      obtain ⟨M, hM⟩ : ∃ M, M = wr.heap.size := ⟨_, rfl⟩
      have hv3 : Iv w3 M x := ⟨by rw [hw3, hM]; exact new_at _ _⟩
      have HB3 : Hid (Bl w w3) := HB.out.1.trans (by rw [hw3]; exact (Bl.refl _).alloc _)
      clear g e1
      go_upto_region 4 with fail
      change Code.wp _ _ _ _ (wr.alloc (.cells (cl x).toArray 42))
      rw [← hw3, ← hM]
      clear hw3 hM g0 g1 g2 g3 g4 g5 g6 g7 g8 g9 g10 g11 g12
      have x0 : w3.cell? ⟨M, 0, none⟩ = some (.int .i64 (x.d.kd : Int)) := hv3.cell 0
      have x2 : w3.cell? ⟨M, 2, none⟩ = some (.string (tx x.d.nm)) := hv3.cell 2
      have htl2 := tl_tx x.d.nm
      obtain ⟨S2, hS2⟩ : ∃ S2, S2 = tx x.d.nm := ⟨_, rfl⟩
      rw [← hS2] at x2 htl2
      clear hv3 hS2
      by_cases h4 : x.d.kd = 4
      · have k4 : ((x.d.kd : Int) != 4) = false := by rw [bne_eq_false_iff_eq]; omega
        have HN : Hid (x.d.nm ≠ t) := by show x.d.nm ≠ t; rw [HX.out.2 h4]; exact fun e => ht e.symm
        clear htl htl2 h4
        go_wp2
        go_roundw
        case rel =>
          refine ⟨j + 1, by omega, by go_num, HB3.out, fun k e hk he => ?_⟩
          rcases Nat.lt_or_ge k j with h | h
          · exact HB.out.2 k e h he
          · obtain rfl : k = j := by omega
            rw [HX.out.1] at he
            injection he with he
            rw [← he]; exact HN.out
        case measure => simp [intOf]; omega
      · have k4 : ((x.d.kd : Int) != 4) = true := by rw [bne_iff_ne]; omega
        by_cases hnm : x.d.nm = t
        · have hq : (S2.toList == S.toList) = true := by rw [htl2, htl, hnm, beq_self_eq_true]
          have HN : Hid (nmd (cs.map C.d) t = some j) := nmd_yes HX.out.1 hnm HB.out.2
          clear htl htl2 h4 hnm
          go_wp2
          go_ret
          rw [HN.out]
          exact ⟨rfl, HB3.out⟩
        · have hq : (S2.toList == S.toList) = false := by rw [htl2, htl, beq_eq_false_iff_ne]; exact hnm
          have HN : Hid (x.d.nm ≠ t) := hnm
          clear htl htl2 h4 hnm
          go_wp2
          go_roundw
          case rel =>
            refine ⟨j + 1, by omega, by go_num, HB3.out, fun k e hk he => ?_⟩
            rcases Nat.lt_or_ge k j with h | h
            · exact HB.out.2 k e h he
            · obtain rfl : k = j := by omega
              rw [HX.out.1] at he
              injection he with he
              rw [← he]; exact HN.out
          case measure => simp [intOf]; omega
    · have d1 : decide ((j : Int) < (n : Int)) = false := decide_eq_false (by omega)
      have HN : Hid (nmd (cs.map C.d) t = none) := by
        refine nmd_no (fun d hd => ?_)
        obtain ⟨k, hk⟩ := List.mem_iff_getElem?.1 hd
        have h1 := (List.getElem?_eq_some_iff.1 hk).1
        rw [List.length_map] at h1
        exact HB.out.2 k d (by have := H0.out.2.1; omega) hk
      go_wp2
      go_ret
      rw [HN.out]
      exact ⟨rfl, HB.out.1⟩
end Go.Proofs.Ytpanodaecjlgaaa.tc
/- The document's checker of templates: covers. -/
namespace Go.Proofs.Ytpanodaecjlgaaa.tc
set_option linter.unusedVariables false
open Go.ChangeShapes Go.WideShapes Go.ChangeAt Go.RowKit Go.Shelf
open mem lx ex tm

/-- A row on which the document's checker may look: names of rules are names; what has others has no name. -/
structure Okr (cs : List C) : Prop where
  nm : ∀ x ∈ cs, x.d.kd = 4 → x.d.nm = []
  ru : ∀ x ∈ cs, x.d.ru = 3 → x.d.f1 ≠ [] ∧ x.d.l1 ≠ []
set_option maxRecDepth 10000 in
set_option maxHeartbeats 4000000 in
theorem covers_at (x : C) (i : Nat) (cs : List C) (ok : Nat → Prop) (p : Option Addr) (n c : Nat) (w : World) (hin : ir.Lie w ok p n c cs) (hn : n ≤ 3000) (hx : cs[i]? = some x) (hO : Okr cs) (hr3 : x.d.ru = 3) :
    Calls Try.prog 30 #[.slice p n c, .int .i64 (i : Int)] w fun e w' => ∃ v, e = .returned v ∧ Bl w w' ∧ ri.Own w' w.heap.size v (ints (under (cs.map C.d) i)) := by
  have hil := (List.getElem?_eq_some_iff.1 hx).1
  have hnc := hin.1
  have hncap := hin.2.1
  obtain ⟨X, rfl, _, g0', g⟩ := lie_at hin i x hx
  have g10 := g 10 _ rfl
  have g11' : ∀ wx, Bl w wx → wx.cell? ⟨(X.add (i * 13)).block, (X.add (i * 13)).off + 11, none⟩ = some (.string (tx x.d.l1)) := fun wx hb => at_bl hb (g 11 _ rfl)
  clear g g0'
  have i0 : (0 : Int) ≤ (i : Int) := by omega
  have i1 : (i : Int) < (n : Int) := by omega
  obtain ⟨f1n, l1n⟩ := hO.ru x (List.mem_of_getElem? hx) hr3
  have cE := fun wx (hb : Bl w wx) => which_at x.d.f1 cs ok (some X) n c wx (lie_bl hin hb) hn f1n hO.nm
  have cL := fun wx (hb : Bl w wx) => which_at x.d.l1 cs ok (some X) n c wx (lie_bl hin hb) hn l1n hO.nm
  obtain ⟨o1, o2, o3⟩ := under_is (cs.map C.d) i x.d (by rw [List.getElem?_map, hx]; rfl)
  have hends : ends (cs.map C.d) x.d = (nmd (cs.map C.d) x.d.f1, nmd (cs.map C.d) x.d.l1) := by unfold ends; rw [if_pos hr3]
  rw [hends] at o1 o2 o3
  obtain ⟨U, hU⟩ : ∃ U, U = under (cs.map C.d) i := ⟨_, rfl⟩
  rw [← hU] at o1 o2 o3 ⊢
  obtain ⟨ea, hea⟩ : ∃ ea, ea = nmd (cs.map C.d) x.d.f1 := ⟨_, rfl⟩
  obtain ⟨eb, heb⟩ : ∃ eb, eb = nmd (cs.map C.d) x.d.l1 := ⟨_, rfl⟩
  rw [← hea] at cE o1 o2 o3
  rw [← heb] at cL o1 o2 o3
  have HI : Hid (ir.Lie w ok (some X) n c cs ∧ n = cs.length ∧ (ea, eb) = ends (cs.map C.d) x.d) := ⟨hin, hnc, by rw [hends, hea, heb]⟩
  obtain ⟨F1, hF1⟩ : ∃ F1, F1 = tx x.d.f1 := ⟨_, rfl⟩
  obtain ⟨L1, hL1⟩ : ∃ L1, L1 = tx x.d.l1 := ⟨_, rfl⟩
  rw [← hF1] at g10 cE
  rw [← hL1] at g11' cL
  have HG : Hid (∀ wx, Bl w wx → wx.cell? ⟨(X.add (i * 13)).block, (X.add (i * 13)).off + 11, none⟩ = some (.string L1)) := g11'
  clear hin hnc hx hea heb hU hends hO hr3 f1n l1n hF1 hL1 g11'
  go_enter Try.func30, Try.ntmps30
  go_wp2_with fail
  refine (cE _ (Bl.refl _)).mono ?_
  rintro e w2 ⟨rfl, hb2⟩
  have H2 : Hid (Bl w w2) := hb2
  clear cE hb2 g10
  cases ea with
  | none =>
    have hi : idx (none : Option Nat) = -1 := rfl
    have HU : Hid (U = []) := o2 _ rfl
    rw [hi]
    clear o1 o2 o3 hi cL
    go_wp2
    go_loopw [5, 6] (fun v kv wr => v = .slice none 0 0 ∧ kv = .int .i64 (-1) ∧ Hid (Bl w wr)) (fun _ _ _ => 0)
    case atStart => exact ⟨rfl, rfl, H2.out⟩
    case round =>
      obtain ⟨rfl, rfl, HB⟩ := hrel
      go_wp2
      go_ret
      exact ⟨.slice none 0 0, rfl, HB.out, by rw [HU.out]; exact ri.Own.nil _ _⟩
  | some a =>
    have hi2 : idx (some a) = (a : Int) := rfl
    rw [hi2]
    obtain ⟨b1, hb1, hUb, hbn⟩ : ∃ b1 : Nat, idx eb = (b1 : Int) - 1 ∧ U = pf (cs.map C.d) a b1 ∧ b1 ≤ n := by
      cases eb with
      | none => exact ⟨0, rfl, by rw [o3 _ rfl, pf_start _ _ _ (Nat.zero_le _)], Nat.zero_le _⟩
      | some b =>
        refine ⟨b + 1, ?_, o1 a b rfl, ?_⟩
        · show ((b : Nat) : Int) = _
          omega
        · have := (ends_lt HI.out.2.2.symm).2
          rw [List.length_map, ← HI.out.2.1] at this
          omega
    have HU : Hid (U = pf (cs.map C.d) a b1) := hUb
    rw [hb1] at cL
    clear o1 o2 o3 hUb hi2 hb1
    go_wp2
    go_loopw [5, 6] (fun v s8 wr => ∃ j : Nat, a ≤ j ∧ (j ≤ b1 ∨ j = a) ∧ s8 = .int .i64 (j : Int) ∧ Hid (Bl w wr ∧ ri.Own wr w.heap.size v (ints (pf (cs.map C.d) a j)))) (fun _ s8 _ => b1 - (intOf s8).toNat)
    case atStart => exact ⟨a, Nat.le_refl _, Or.inr rfl, rfl, H2.out, by rw [pf_start _ _ _ (Nat.le_refl _)]; exact ri.Own.nil _ _⟩
    case round =>
      obtain ⟨j, hj1, hj2, rfl, HB⟩ := hrel
      have hb64 : (b1 : Int) - 1 < 9223372036854775808 := by omega
      have j0 : (0 : Int) ≤ (j : Int) := by omega
      have x11 := HG.out wr HB.out.1
      go_wp2_with fail
      refine (cL _ HB.out.1).mono ?_
      rintro e w4 ⟨rfl, hb4⟩
      have H4 : Hid (Bl w w4 ∧ ri.Own w4 w.heap.size u5 (ints (pf (cs.map C.d) a j))) := ⟨HB.out.1.trans hb4, HB.out.2.step hb4⟩
      clear hb4 x11
      by_cases hjb : j < b1
      · have d1 : decide ((j : Int) ≤ (b1 : Int) - 1) = true := decide_eq_true (by omega)
        have d1' : (j : Int) ≤ (b1 : Int) - 1 := by omega
        have j1 : (j : Int) < (n : Int) := by omega
        obtain ⟨y, hy⟩ : ∃ y, cs[j]? = some y := ⟨_, List.getElem?_eq_getElem (by have := HI.out.2.1; omega)⟩
        obtain ⟨Y, hY, _, _, gy⟩ := lie_at (lie_bl HI.out.1 H4.out.1) j y hy
        injection hY with hY
        subst hY
        have y9 := gy 9 _ rfl
        have hisC : isC (cs.map C.d) j = (y.d.ru == 3) := by
          unfold isC
          rw [List.getElem?_map, hy]
          rfl
        clear gy
        by_cases r3 : y.d.ru = 3
        · rw [r3] at y9
          obtain ⟨M, hM⟩ : ∃ M, M = w4.heap.size := ⟨_, rfl⟩
          obtain ⟨w7, hw7⟩ : ∃ w7, w7 = w4.alloc (.cells #[.int .i64 (j : Int)] 3) := ⟨_, rfl⟩
          have hb7 : Bl w4 w7 := by rw [hw7]; exact (Bl.refl _).alloc _
          have c7 : w7.cell? ⟨M, 0, none⟩ = some (.int .i64 (j : Int)) := by rw [hw7, hM, cell_of (new_at _ _)]; rfl
          obtain ⟨v', w8, hr8, ho8, hg8, _⟩ := ri.app_one w7 w.heap.size u5 _ (j : Int) M (H4.out.2.step hb7) c7 (by rw [ints_len]; have := pf_len (cs.map C.d) a j; omega) (Nat.le_trans H4.out.1.size hb7.size)
          have hb8 : Bl w w8 := bl_grown (H4.out.1.trans hb7) hg8 (fun k hk => (H4.out.2.block k hk).1)
          have HR : Hid _ := hr8
          have H8 : Hid (Bl w w8 ∧ ri.Own w8 w.heap.size v' (ints (pf (cs.map C.d) a (j + 1)))) := by
            refine ⟨hb8, ?_⟩
            rw [pf_step _ _ _ hj1, hisC, r3]
            rw [show (if ((3 : Nat) == 3) = true then [j] else []) = [j] from rfl, ints_app]
            exact ho8
          clear c7 hr8 ho8 hg8 hb8 hb7 hy hisC
          go_upto_region 6 with fail
          go_wp2_with (at_builtin; rw [← hw7, ← hM]; refine Lib.wpList_append_run _ rfl (.tmp 35) (.tmp 37) _ _ rfl _ _ rfl rfl _ _ HR.out ?_)
          go_roundw
          case rel => exact ⟨j + 1, by omega, Or.inl (by omega), by go_num, H8.out⟩
          case measure => simp [intOf]; omega
        · have r3' : ¬ ((y.d.ru : Int) = 3) := by omega
          have H8 : Hid (Bl w w4 ∧ ri.Own w4 w.heap.size u5 (ints (pf (cs.map C.d) a (j + 1)))) := by
            refine ⟨H4.out.1, ?_⟩
            rw [pf_step _ _ _ hj1, hisC]
            rw [show (y.d.ru == 3) = false by simpa using r3]
            rw [show (if false = true then [j] else []) = ([] : List Nat) from rfl, List.append_nil]
            exact H4.out.2
          clear hy hisC
          go_wp2
          go_roundw
          case rel => exact ⟨j + 1, by omega, Or.inl (by omega), by go_num, H8.out⟩
          case measure => simp [intOf]; omega
      · have d1 : decide ((j : Int) ≤ (b1 : Int) - 1) = false := decide_eq_false (by omega)
        have d1' : ¬ ((j : Int) ≤ (b1 : Int) - 1) := by omega
        have H9 : Hid (Bl w w4 ∧ ri.Own w4 w.heap.size u5 (ints U)) := by
          refine ⟨H4.out.1, ?_⟩
          have h := H4.out.2
          rw [HU.out]
          rcases hj2 with h2 | h2
          · obtain rfl : j = b1 := by omega
            exact h
          · subst h2
            rw [pf_start _ _ _ (Nat.le_refl _)] at h
            rw [pf_start _ _ _ (by omega)]
            exact h
        go_wp2
        go_ret
        exact ⟨_, rfl, H9.out⟩
end Go.Proofs.Ytpanodaecjlgaaa.tc
/- The document's checker of templates: comes. -/
namespace Go.Proofs.Ytpanodaecjlgaaa.tc
set_option linter.unusedVariables false
open Go.ChangeShapes Go.WideShapes Go.ChangeAt Go.RowKit Go.Shelf Go.Maps
open mem lx ex tm

theorem under_isC {ds : List D} {j k : Nat} (h : k ∈ under ds j) : isC ds k = true := by
  unfold under at h
  split at h
  · cases h
  · split at h
    · exact (List.mem_filter.1 h).2
    · cases h
theorem lawI : Keyed Try.prog 3 := int_keyed Try.underlying3
def keyI (n : Nat) : Lit := .int .i64 (n : Int)
theorem keyI_of {n : Nat} (h : n ≤ 9000) : keyOf Try.prog 3 (.int .i64 (n : Int)) = some (keyI n) := keyOf_int_mk Try.underlying3 (WalkArith.wf_i64 (by omega))
theorem isKeyI (z : Nat) : WideAt.IsKeyLit (keyI z) := trivial
theorem keyI_inj {a b : Nat} (h : a ≠ b) : keyI a ≠ keyI b := fun e => h (by unfold keyI at e; injection e with _ e; omega)
theorem zero_bool (w : World) : (zeroValue 4).run Try.prog w = .ok (.bool false) w := by kernel_rfl
theorem plainElem_bool_inv {P : Program} {e : TypeId} (he : P.underlying e = some .bool) {v : Value} {z : DataW Unit × List MemPlace} (h : plainElem P e v = some z) : ∃ x, v = .bool x ∧ z = (.lit (.bool x), []) := by
  unfold plainElem at h
  rw [he] at h
  cases v <;> simp at h
  exact ⟨_, rfl, h.symm⟩
theorem lit_bool {a b : Bool} (h : (DataW.lit (Lit.bool a) : DataW Unit) = .lit (.bool b)) : a = b := by
  injection h with h
  injection h
theorem hbool : Try.prog.underlying 4 = some .bool := Try.underlying4
/-- Which ones were met. -/
def Mq (w : World) (M n : Nat) (met : List Nat) : Prop :=
  n ≤ 9000 ∧ ∃ (D : DataW Unit) (c : Nat), c ≤ met.length ∧ w.ownsMap Try.prog 3 (plainElem Try.prog 4) M c D ∧ ∀ k : Nat, D.atKey (keyI k) (.lit (.bool false)) = .lit (.bool (decide (k ∈ met)))
theorem Mq.made (w : World) (n : Nat) (hn : n ≤ 9000) : Mq (w.alloc (.map #[] 0)) w.heap.size n [] :=
  ⟨hn, _, 0, Nat.le_refl _, World.ownsMap_made w Try.prog 3 _, fun c => by simp; rfl⟩
theorem Mq.grown {w w' : World} {M n : Nat} {met : List Nat} {row : Option Nat} (h : Mq w M n met) (hg : w.grownBy w' row) (hne : row ≠ some M) : Mq w' M n met := by
  obtain ⟨hn, D, c, hc, h1, h2⟩ := h
  exact ⟨hn, D, c, hc, h1.kept hg (fun e => hne e.symm), h2⟩
theorem Mq.bl {w w' : World} {M n : Nat} {met : List Nat} (h : Mq w M n met) (hb : Bl w w') : Mq w' M n met :=
  h.grown (row := none) ⟨hb.os, hb.tape, hb.output, hb.size, fun k hk _ => Below.block hb k hk⟩ (by simp)
theorem Mq.lt {w : World} {M n : Nat} {met : List Nat} (h : Mq w M n met) : M < w.heap.size := by
  obtain ⟨hn, D, c, hc, h1, h2⟩ := h
  obtain ⟨es, clock, hb, _⟩ := h1
  exact lt_of_heap hb
theorem Mq.look {w : World} {M n : Nat} {met : List Nat} (h : Mq w M n met) (k : Nat) (hk : k < n) : (Instr.lookup 63 (.map (some M)) (.int .i64 (k : Int)) false).run Try.prog w = .ok (.bool (decide (k ∈ met))) w := by
  obtain ⟨hn, D, c, hc, h1, h2⟩ := h
  obtain ⟨v, ps, hrun, hv⟩ := h1.lookup lawI Try.underlying63 (zero_bool w) (plainElem_bool Try.underlying4 false) (keyI_of (n := k) (by omega))
  rw [h2 k] at hv
  have e : v = .bool (decide (k ∈ met)) := by
    obtain ⟨x, e1, e2⟩ := plainElem_bool_inv hbool hv
    have e3 := congrArg Prod.fst e2
    have e4 : (DataW.lit (Lit.bool (decide (k ∈ met))) : DataW Unit) = .lit (.bool x) := e3
    rw [e1]
    exact congrArg Value.bool (lit_bool e4).symm
  rw [hrun, e]
theorem Mq.put {w : World} {M n : Nat} {met : List Nat} (h : Mq w M n met) (j : Nat) (hm : met.length ≤ 20000) (hj : j ≤ 9000) : ∃ w', (Instr.mapUpdate 63 (.map (some M)) (.int .i64 (j : Int)) (.bool true)).run Try.prog w = .ok () w' ∧ Mq w' M n (j :: met) ∧ w.grownBy w' (some M) := by
  obtain ⟨hn, D, c, hc, h1, h2⟩ := h
  obtain ⟨w', hr, ho, hg⟩ := h1.update lawI Try.underlying63 (by unfold maxLen; omega) (keyI_of hj) (plainElem_bool Try.underlying4 true)
  refine ⟨w', hr, ⟨hn, _, c + 1, by simp; omega, ho, fun d => ?_⟩, hg⟩
  by_cases e : d = j
  · subst e
    rw [atKey_put_same h1.isMap (isKeyI d)]
    simp
  · rw [atKey_put_other (keyI_inj e), h2 d]
    simp [e]
open Classical in
/-- How many were not met, as the world tells. -/
noncomputable def cntQ (w : World) (M n : Nat) : Nat := ((List.range n).filter (fun k : Nat => decide ((Instr.lookup 63 (.map (some M)) (.int .i64 (k : Int)) false).run Try.prog w = .ok (.bool false) w))).length
theorem cntQ_is {w : World} {M n : Nat} {met : List Nat} (h : Mq w M n met) : cntQ w M n = unm n met := by
  unfold cntQ unm
  congr 1
  apply List.filter_congr
  intro k hk
  rw [h.look k (List.mem_range.1 hk)]
  by_cases hm : k ∈ met
  · simp [hm]
  · simp [hm]
/-- How far going round has come. -/
structure Rq (w wr : World) (ds : List D) (i M n : Nat) (p : Option Addr) (c : Nat) (met todo : List Nat) : Prop where
  bl : Bl w wr
  q : qi.Q wr w.heap.size (.slice p todo.length c) (ints todo)
  mt : Mq wr M n met
  ne : ∀ k, (Value.slice p todo.length c).ownBlock = some k → k ≠ M
  isc : ∀ j ∈ todo, isC ds j = true
  is : rnd ds i = bR ds i met todo
  len : mu ds met todo + met.length ≤ 20000
theorem Rq.lt {w wr : World} {ds : List D} {i M n : Nat} {p : Option Addr} {c : Nat} {met todo : List Nat} (h : Rq w wr ds i M n p c met todo) : ∀ j ∈ todo, j < ds.length := fun j hj => isC_lt (h.isc j hj)
set_option maxRecDepth 10000 in
set_option maxHeartbeats 4000000 in
theorem comes_at (x : C) (i : Nat) (cs : List C) (ok : Nat → Prop) (p : Option Addr) (n c : Nat) (w : World) (hin : ir.Lie w ok p n c cs) (hn : n ≤ 100) (hx : cs[i]? = some x) (hO : Okr cs) (hr3 : x.d.ru = 3) :
    Calls Try.prog 42 #[.slice p n c, .int .i64 (i : Int), .int .i64 (i : Int)] w fun e w' => e = .returned (.bool (rnd (cs.map C.d) i)) ∧ Bl w w' := by
  have hmm : ∀ w, (Instr.makeMap 63 none).run Try.prog w = .ok (.map (some w.heap.size)) (w.alloc (.map #[] 0)) := fun w => by kernel_rfl
  obtain ⟨w1, hw1⟩ : ∃ w1, w1 = w.alloc (.map #[] 0) := ⟨_, rfl⟩
  obtain ⟨M, hM⟩ : ∃ M, M = w.heap.size := ⟨_, rfl⟩
  have hb1 : Bl w w1 := by rw [hw1]; exact (Bl.refl _).alloc _
  have hm1 : Mq w1 M n [] := by rw [hw1, hM]; exact Mq.made w n (by omega)
  have cU := covers_at x i cs ok p n c w1 (lie_bl hin hb1) (by omega) hx hO hr3
  have hnc := hin.1
  have HO : Hid (Okr cs) := hO
  have H1 : Hid (Bl w w1 ∧ Mq w1 M n [] ∧ M = w.heap.size ∧ ir.Lie w ok p n c cs ∧ n = (cs.map C.d).length ∧ i < n) := ⟨hb1, hm1, hM, hin, by rw [List.length_map]; exact hnc, by rw [hnc]; exact (List.getElem?_eq_some_iff.1 hx).1⟩
  clear hb1 hm1 hin hnc hx hO hr3
  go_enter Try.func42, Try.ntmps42
  go_wp2_with fail
  rw [← hw1]
  refine cU.mono ?_
  rintro e w2 ⟨v, rfl, hb2, ho2⟩
  rw [← hM]
  obtain ⟨p0, c0, rfl, hc0, _⟩ := (qi.Q.of ho2).shape
  rw [ints_len] at hc0
  have H2 : Hid (Rq w w2 (cs.map C.d) i M n p0 c0 [] (under (cs.map C.d) i)) := by
    have hq : qi.Q w2 w1.heap.size (.slice p0 (under (cs.map C.d) i).length c0) (ints (under (cs.map C.d) i)) := by
      have := qi.Q.of ho2
      rw [ints_len] at this
      exact this
    have hw1s : w.heap.size < w1.heap.size := by have := H1.out.2.1.lt; have := H1.out.2.2.1; omega
    refine ⟨H1.out.1.trans hb2, ?_, H1.out.2.1.bl hb2, fun k hk => ?_, fun j hj => under_isC hj, rnd_is _ _, ?_⟩
    · rcases hq with h | ⟨g, off, cap, h0, h1, h2⟩
      · exact Or.inl h
      · exact Or.inr ⟨g, off, cap, h0, by omega, h2⟩
    · have h1 := (hq.block k hk).1
      have h2 := H1.out.2.2.1
      omega
    · have h1 := under_len (cs.map C.d) i
      have h2 := unm_le (cs.map C.d).length []
      have h3 := H1.out.2.2.2.2.1
      have h4 : unm (cs.map C.d).length [] * ((cs.map C.d).length + 1) ≤ 100 * 101 := Nat.mul_le_mul (by omega) (by omega)
      unfold mu
      simp only [List.length_nil]
      omega
  rw [ints_len]
  clear cU hw1 hM ho2 hb2
  go_wp2
  go_loopw [8] (fun v wr => ∃ (met todo : List Nat) (p1 : Option Addr) (c1 : Nat), v = .slice p1 todo.length c1 ∧ todo.length ≤ c1 ∧ Hid (Rq w wr (cs.map C.d) i M n p1 c1 met todo)) (fun v wr => lnV v + cntQ wr M n * (n + 1))
  case atStart => exact ⟨[], _, p0, c0, rfl, hc0, H2.out⟩
  case round =>
    clear H2
    obtain ⟨met, todo, p1, c1, rfl, hc1, HR⟩ := hrel
    cases todo with
    | nil =>
      have HX : Hid (rnd (cs.map C.d) i = false ∧ Bl w wr) := ⟨by rw [HR.out.is]; exact bR_nil _ _ _, HR.out.bl⟩
      rw [show ([] : List Nat).length = 0 from rfl]
      go_wp2
      rw [HX.out.1]
      go_ret
      exact ⟨rfl, HX.out.2⟩
    | cons j r =>
      have hq0 : qi.Q wr w.heap.size (.slice p1 (j :: r).length c1) ((j : Int) :: ints r) := HR.out.q
      obtain ⟨X, rfl, _, hc2, q0, hq'⟩ := hq0.head
      rw [ints_len] at hq'
      have hjn : j < n := by have := HR.out.lt j (by simp); have := H1.out.2.2.2.2.1; omega
      have hds := H1.out.2.2.2.2.1
      obtain ⟨m, hm⟩ : ∃ m, m = r.length := ⟨_, rfl⟩
      have hlr : (j :: r).length = m + 1 := by rw [hm]; simp
      rw [hlr] at hc1 ⊢
      have j0 : (0 : Int) ≤ (j : Int) := by omega
      have j1 : (j : Int) < (n : Int) := by omega
      have hcm := (hq0.shape)
      have m1 : (1 : Int) ≤ ((m + 1 : Nat) : Int) := by omega
      have hgt : (0 : Int) < ((m + 1 : Nat) : Int) := by omega
      rw [← hm] at hq'
      obtain ⟨p2, hp2⟩ : ∃ p2, p2 = (if c1 = 1 then some X else some (⟨X.block, X.off + 1, none⟩ : Addr)) := ⟨_, rfl⟩
      rw [← hp2] at hq'
      have hne2 : ∀ k, (Value.slice p2 m (c1 - 1)).ownBlock = some k → k ≠ M := by
        intro k hk
        refine HR.out.ne k ?_
        rw [hp2] at hk
        split at hk
        · exact hk
        · exact hk
      rcases Nat.decEq c1 1 with hcc | hcc
      · obtain rfl : p2 = some (⟨X.block, X.off + 1, none⟩ : Addr) := by rw [hp2, if_neg hcc]
        clear hp2
        have hX0 : X.add 0 = X := Addr.add_zero' X
        have g1 := HR.out.mt.look j hjn
        have HQ : Hid (qi.Q wr w.heap.size (.slice (some (⟨X.block, X.off + 1, none⟩ : Addr)) m (c1 - 1)) (ints r) ∧ (∀ k, (Value.slice (some (⟨X.block, X.off + 1, none⟩ : Addr)) m (c1 - 1)).ownBlock = some k → k ≠ M) ∧ m = r.length ∧ n = (cs.map C.d).length) := ⟨hq', hne2, hm, hds⟩
        have hMs := HR.out.mt.lt
        clear hq' hne2 hq0 hcm hlr hm hds
        by_cases hji : j = i
        · have HX : Hid (rnd (cs.map C.d) i = true ∧ Bl w wr) := ⟨by rw [HR.out.is, hji]; exact bR_hit _ _ _ _, HR.out.bl⟩
          subst hji
          clear HQ HR g1
          go_wp2
          rw [HX.out.1]
          go_ret
          exact ⟨rfl, HX.out.2⟩
        · have hji' : ¬ ((j : Int) = (i : Int)) := by omega
          by_cases hmt : j ∈ met
          · rw [decide_eq_true hmt] at g1
            have H9 : Hid (Rq w wr (cs.map C.d) i M n (some (⟨X.block, X.off + 1, none⟩ : Addr)) ((c1 - 1)) met r ∧ m = r.length) := by
              refine ⟨⟨HR.out.bl, by rw [← HQ.out.2.2.1]; exact HQ.out.1, HR.out.mt, by rw [← HQ.out.2.2.1]; exact HQ.out.2.1, fun k hk => HR.out.isc k (by simp [hk]), ?_, ?_⟩, HQ.out.2.2.1⟩
              · rw [HR.out.is]; exact bR_met _ _ _ _ _ hji hmt HR.out.lt
              · have := HR.out.len
                unfold mu at this ⊢
                rw [List.length_cons] at this
                omega
            clear hmt HQ HR
            go_wp2
            go_roundw
            case rel => exact ⟨met, r, _, _, by rw [← H9.out.2], by rw [← H9.out.2]; omega, H9.out.1⟩
            case measure => simp [lnV]
          · rw [decide_eq_false hmt] at g1
            have hmu := mu_step (cs.map C.d) met r j (by rw [← HQ.out.2.2.2]; exact hjn) hmt
            have hcu := cntQ_is HR.out.mt
            obtain ⟨y, hy⟩ : ∃ y, cs[j]? = some y := ⟨_, List.getElem?_eq_getElem (by have := HQ.out.2.2.2; rw [List.length_map] at this; omega)⟩
            obtain ⟨w5, hw5, hm5, hg5⟩ := HR.out.mt.put j (by have := HR.out.len; omega) (by omega)
            have hyC : y.d.ru = 3 := by
              have h := HR.out.isc j (by simp)
              unfold isC at h
              rw [List.getElem?_map, hy] at h
              simpa using h
            have hb5 : Bl w w5 := bl_grown HR.out.bl hg5 (fun k hk => by injection hk with hk; have := H1.out.2.2.1; omega)
            have hq5 : qi.Q w5 w.heap.size (.slice (some (⟨X.block, X.off + 1, none⟩ : Addr)) m (c1 - 1)) (ints r) := by
              exact HQ.out.1.kept hg5 (fun k hk e => HQ.out.2.1 k hk (by injection e with e; exact e.symm))
            have cU := covers_at y j cs ok p n c w5 (lie_bl H1.out.2.2.2.1 hb5) (by omega) hy HO.out hyC
            have H5 : Hid (Bl w w5 ∧ Mq w5 M n (j :: met) ∧ qi.Q w5 w.heap.size (.slice (some (⟨X.block, X.off + 1, none⟩ : Addr)) m (c1 - 1)) (ints r) ∧ mu (cs.map C.d) (j :: met) (r ++ under (cs.map C.d) j) < mu (cs.map C.d) met (j :: r) ∧ j ∉ met ∧ cntQ wr M n = unm n met) := ⟨hb5, hm5, hq5, hmu, hmt, hcu⟩
            clear hb5 hm5 hq5 hmu hmt hy hcu hg5 hyC
            go_wp2_with fail
            refine cU.mono ?_
            rintro e w6 ⟨u, rfl, hb6, ho6⟩
            have hq6 := H5.out.2.2.1.bl hb6
            have hM5 := H5.out.2.1.lt
            obtain ⟨v7, w7, hr7, hq7, hg7, hv7⟩ := qi.Q.app hq6 ho6 (by rw [ints_len, ints_len]; have h1 := HR.out.len; have h2 := H5.out.2.2.2.1; unfold mu at h1 h2; rw [List.length_append] at h2; omega) (Nat.le_trans H5.out.1.size hb6.size)
            obtain ⟨p7, c7, rfl, hc7, _⟩ := hq7.shape
            have H7 : Hid (Rq w w7 (cs.map C.d) i M n p7 c7 (j :: met) (r ++ under (cs.map C.d) j) ∧ (ints r ++ ints (under (cs.map C.d) j)).length = (r ++ under (cs.map C.d) j).length) := by
              have el : (ints r ++ ints (under (cs.map C.d) j)).length = (r ++ under (cs.map C.d) j).length := by simp [ints]
              refine ⟨⟨bl_grown (H5.out.1.trans hb6) hg7 (fun k hk => (H5.out.2.2.1.block k hk).1), ?_, ?_, ?_, ?_, ?_, ?_⟩, el⟩
              · rw [← el]
                have := hq7
                rw [show ints r ++ ints (under (cs.map C.d) j) = ints (r ++ under (cs.map C.d) j) by simp [ints]] at this ⊢
                exact this
              · refine (H5.out.2.1.bl hb6).grown hg7 (fun e => ?_)
                exact HQ.out.2.1 M (by rw [← e]) rfl
              · intro k hk e
                rw [← el] at hk
                rcases hv7 with h | h
                · rw [h] at hk
                  exact HQ.out.2.1 k hk e
                · rw [h] at hk
                  injection hk with hk
                  have := hb6.size
                  omega
              · intro k hk
                rw [List.mem_append] at hk
                rcases hk with hk | hk
                · exact HR.out.isc k (by simp [hk])
                · exact under_isC hk
              · rw [HR.out.is]; exact bR_new _ _ _ _ _ hji H5.out.2.2.2.2.1 HR.out.lt
              · have h1 := HR.out.len
                have h2 := H5.out.2.2.2.1
                have h3 : (j :: met).length = met.length + 1 := rfl
                omega
            have HR7 : Hid _ := hr7
            have HC : Hid ((ints r ++ ints (under (cs.map C.d) j)).length ≤ c7) := hc7
            clear hr7 hq7 hg7 hv7 hq6 hb6 ho6 hc7 cU
            go_wp2_with (at_builtin; refine Lib.wpList_append_run _ rfl (.tmp 31) (.tmp 34) _ _ rfl _ _ rfl rfl _ _ HR7.out ?_)
            go_roundw
            case rel => exact ⟨j :: met, r ++ under (cs.map C.d) j, p7, c7, by rw [← H7.out.2, List.length_append], by rw [← H7.out.2]; exact HC.out, H7.out.1⟩
            case measure =>
              have h1 := H5.out.2.2.2.1
              have h2 := cntQ_is H7.out.1.mt
              have h3 := H5.out.2.2.2.2.2
              have h4 := HQ.out.2.2.1
              have h5 := HQ.out.2.2.2
              unfold mu at h1
              rw [← h5, ← h2, ← h3, List.length_cons, ← H7.out.2] at h1
              simp [lnV] at h1 ⊢
              omega
      · obtain rfl : p2 = some X := by rw [hp2, if_pos hcc]
        subst hcc
        obtain rfl : m = 0 := by omega
        clear hp2
        have hX0 : X.add 0 = X := Addr.add_zero' X
        have g1 := HR.out.mt.look j hjn
        have HQ : Hid (qi.Q wr w.heap.size (.slice (some X) 0 0) (ints r) ∧ (∀ k, (Value.slice (some X) 0 0).ownBlock = some k → k ≠ M) ∧ 0 = r.length ∧ n = (cs.map C.d).length) := ⟨hq', hne2, hm, hds⟩
        have hMs := HR.out.mt.lt
        clear hq' hne2 hq0 hcm hlr hm hds
        by_cases hji : j = i
        · have HX : Hid (rnd (cs.map C.d) i = true ∧ Bl w wr) := ⟨by rw [HR.out.is, hji]; exact bR_hit _ _ _ _, HR.out.bl⟩
          subst hji
          clear HQ HR g1
          go_wp2
          rw [HX.out.1]
          go_ret
          exact ⟨rfl, HX.out.2⟩
        · have hji' : ¬ ((j : Int) = (i : Int)) := by omega
          by_cases hmt : j ∈ met
          · rw [decide_eq_true hmt] at g1
            have H9 : Hid (Rq w wr (cs.map C.d) i M n (some X) (0) met r ∧ 0 = r.length) := by
              refine ⟨⟨HR.out.bl, by rw [← HQ.out.2.2.1]; exact HQ.out.1, HR.out.mt, by rw [← HQ.out.2.2.1]; exact HQ.out.2.1, fun k hk => HR.out.isc k (by simp [hk]), ?_, ?_⟩, HQ.out.2.2.1⟩
              · rw [HR.out.is]; exact bR_met _ _ _ _ _ hji hmt HR.out.lt
              · have := HR.out.len
                unfold mu at this ⊢
                rw [List.length_cons] at this
                omega
            clear hmt HQ HR
            go_wp2
            go_roundw
            case rel => exact ⟨met, r, _, _, by rw [← H9.out.2], by rw [← H9.out.2]; omega, H9.out.1⟩
            case measure => simp [lnV]
          · rw [decide_eq_false hmt] at g1
            have hmu := mu_step (cs.map C.d) met r j (by rw [← HQ.out.2.2.2]; exact hjn) hmt
            have hcu := cntQ_is HR.out.mt
            obtain ⟨y, hy⟩ : ∃ y, cs[j]? = some y := ⟨_, List.getElem?_eq_getElem (by have := HQ.out.2.2.2; rw [List.length_map] at this; omega)⟩
            obtain ⟨w5, hw5, hm5, hg5⟩ := HR.out.mt.put j (by have := HR.out.len; omega) (by omega)
            have hyC : y.d.ru = 3 := by
              have h := HR.out.isc j (by simp)
              unfold isC at h
              rw [List.getElem?_map, hy] at h
              simpa using h
            have hb5 : Bl w w5 := bl_grown HR.out.bl hg5 (fun k hk => by injection hk with hk; have := H1.out.2.2.1; omega)
            have hq5 : qi.Q w5 w.heap.size (.slice (some X) 0 0) (ints r) := by
              exact HQ.out.1.kept hg5 (fun k hk e => HQ.out.2.1 k hk (by injection e with e; exact e.symm))
            have cU := covers_at y j cs ok p n c w5 (lie_bl H1.out.2.2.2.1 hb5) (by omega) hy HO.out hyC
            have H5 : Hid (Bl w w5 ∧ Mq w5 M n (j :: met) ∧ qi.Q w5 w.heap.size (.slice (some X) 0 0) (ints r) ∧ mu (cs.map C.d) (j :: met) (r ++ under (cs.map C.d) j) < mu (cs.map C.d) met (j :: r) ∧ j ∉ met ∧ cntQ wr M n = unm n met) := ⟨hb5, hm5, hq5, hmu, hmt, hcu⟩
            clear hb5 hm5 hq5 hmu hmt hy hcu hg5 hyC
            go_wp2_with fail
            refine cU.mono ?_
            rintro e w6 ⟨u, rfl, hb6, ho6⟩
            have hq6 := H5.out.2.2.1.bl hb6
            have hM5 := H5.out.2.1.lt
            obtain ⟨v7, w7, hr7, hq7, hg7, hv7⟩ := qi.Q.app hq6 ho6 (by rw [ints_len, ints_len]; have h1 := HR.out.len; have h2 := H5.out.2.2.2.1; unfold mu at h1 h2; rw [List.length_append] at h2; omega) (Nat.le_trans H5.out.1.size hb6.size)
            obtain ⟨p7, c7, rfl, hc7, _⟩ := hq7.shape
            have H7 : Hid (Rq w w7 (cs.map C.d) i M n p7 c7 (j :: met) (r ++ under (cs.map C.d) j) ∧ (ints r ++ ints (under (cs.map C.d) j)).length = (r ++ under (cs.map C.d) j).length) := by
              have el : (ints r ++ ints (under (cs.map C.d) j)).length = (r ++ under (cs.map C.d) j).length := by simp [ints]
              refine ⟨⟨bl_grown (H5.out.1.trans hb6) hg7 (fun k hk => (H5.out.2.2.1.block k hk).1), ?_, ?_, ?_, ?_, ?_, ?_⟩, el⟩
              · rw [← el]
                have := hq7
                rw [show ints r ++ ints (under (cs.map C.d) j) = ints (r ++ under (cs.map C.d) j) by simp [ints]] at this ⊢
                exact this
              · refine (H5.out.2.1.bl hb6).grown hg7 (fun e => ?_)
                exact HQ.out.2.1 M (by rw [← e]) rfl
              · intro k hk e
                rw [← el] at hk
                rcases hv7 with h | h
                · rw [h] at hk
                  exact HQ.out.2.1 k hk e
                · rw [h] at hk
                  injection hk with hk
                  have := hb6.size
                  omega
              · intro k hk
                rw [List.mem_append] at hk
                rcases hk with hk | hk
                · exact HR.out.isc k (by simp [hk])
                · exact under_isC hk
              · rw [HR.out.is]; exact bR_new _ _ _ _ _ hji H5.out.2.2.2.2.1 HR.out.lt
              · have h1 := HR.out.len
                have h2 := H5.out.2.2.2.1
                have h3 : (j :: met).length = met.length + 1 := rfl
                omega
            have HR7 : Hid _ := hr7
            have HC : Hid ((ints r ++ ints (under (cs.map C.d) j)).length ≤ c7) := hc7
            clear hr7 hq7 hg7 hv7 hq6 hb6 ho6 hc7 cU
            go_wp2_with (at_builtin; refine Lib.wpList_append_run _ rfl (.tmp 31) (.tmp 34) _ _ rfl _ _ rfl rfl _ _ HR7.out ?_)
            go_roundw
            case rel => exact ⟨j :: met, r ++ under (cs.map C.d) j, p7, c7, by rw [← H7.out.2, List.length_append], by rw [← H7.out.2]; exact HC.out, H7.out.1⟩
            case measure =>
              have h1 := H5.out.2.2.2.1
              have h2 := cntQ_is H7.out.1.mt
              have h3 := H5.out.2.2.2.2.2
              have h4 := HQ.out.2.2.1
              have h5 := HQ.out.2.2.2
              unfold mu at h1
              rw [← h5, ← h2, ← h3, List.length_cons, ← H7.out.2] at h1
              simp [lnV] at h1 ⊢
              omega
end Go.Proofs.Ytpanodaecjlgaaa.tc
