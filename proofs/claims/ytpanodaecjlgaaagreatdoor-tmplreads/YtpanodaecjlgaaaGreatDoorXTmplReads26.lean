/- Texts laid together: TrX. -/
import Derived.Test.YtpanodaecjlgaaaGreatDoorXTmplReads22
import Derived.Test.YtpanodaecjlgaaaGreatDoorXTmplReads25
import Derived.Test.YtpanodaecjlgaaaGreatDoorXTmplReads18
import Derived.Test.YtpanodaecjlgaaaGreatDoorXTmplReads6
import Derived.Test.YtpanodaecjlgaaaGreatDoorXTmplReads1
/- The law that holds templates, read and written, against the document's: the walk. -/
namespace Go.Proofs.YtpanodaecjlgaaaGreatDoor.tr
set_option linter.unusedVariables false
open Go.ChangeShapes Go.WideShapes Go.ChangeAt Go.RowKit Go.Shelf
open mem lx ex tm

theorem far_t (s : ByteArray) (w : World) : Calls Tryz.prog 8 #[.string s] w fun e w' => e = .returned (.bool (decide ((900 < s.size ∧ s.size ≤ 3000) ∨ 3009 < s.size))) ∧ w' = w := by
  go_enter Tryz.func8, Tryz.ntmps8
  go_wp2
  all_goals
    go_ret
    refine ⟨ret_bool ?_, rfl⟩
    rw [Bool.eq_iff_iff]
    simp
    try omega
theorem fault_cl {w w' : World} {c p : Int} (hb : Bl (w.alloc (.cells #[.int .i64 c, .int .i64 p] 26)) w') : w'.cell? ⟨w.heap.size, 0, none⟩ = some (.int .i64 c) ∧ w'.cell? ⟨w.heap.size, 1, none⟩ = some (.int .i64 p) :=
  ⟨at_bl hb (by rw [cell_of (new_at w _)]; rfl), at_bl hb (by rw [cell_of (new_at w _)]; rfl)⟩
theorem fault_b {w w' : World} {c p : Int} (hb : Bl (w.alloc (.cells #[.int .i64 c, .int .i64 p] 26)) w') : Bl w w' := ((Bl.refl w).alloc _).trans hb
theorem lieT_bl {w w' : World} {ok : Nat → Prop} {p : Option Addr} {n c : Nat} {cs : List CT} (h : sr.Lie w ok p n c cs) (hb : Bl w w') : sr.Lie w' ok p n c cs := h.keep (fun g _ hg => Below.block hb g hg) hb.size
theorem ists_nil (w : World) (ok : Nat → Prop) : IsTs w ok (.slice none 0 0) [] := by
  refine ⟨none, 0, [], rfl, ?_, rfl⟩
  exact ⟨rfl, Nat.le_refl _, Or.inl rfl⟩
theorem wt_nil : WT [] := ⟨by decide, by simp⟩
set_option maxRecDepth 10000 in
set_option maxHeartbeats 4000000 in
theorem reads_tr (a0 : ByteArray) (w : World) (hg : Gt w) (hM : Ml w) (hMw : 4 < w.heap.size) :
    Calls Tryz.prog 3 #[.string a0] w fun e w' => e = .returned (.bool true) ∧ Below w.heap.size w w' := by
  have cF := far_t a0
  have HG : Hid (Gt w ∧ Ml w ∧ 4 < w.heap.size) := ⟨hg, hM, hMw⟩
  clear hg hM hMw
  go_enter Tryz.func3, Tryz.ntmps3
  by_cases hf : (900 < a0.size ∧ a0.size ≤ 3000) ∨ 3009 < a0.size
  · rw [decide_eq_true hf] at cF
    go_wp2_with fail
    refine (cF _).mono ?_
    rintro e w2 ⟨rfl, hw⟩
    obtain rfl := hw.symm
    go_wp2
    go_ret
    exact ⟨rfl, Below.refl _ _⟩
  · rw [decide_eq_false hf] at cF
    go_wp2_with fail
    refine (cF _).mono ?_
    rintro e w2 ⟨rfl, hw⟩
    obtain rfl := hw.symm
    clear cF
    by_cases hl : 3000 < a0.size
    · clear hf
      go_wp2_with fail
      refine (TParse_long a0 _ hl).mono ?_
      rintro e w3 ⟨rfl, hb3⟩
      unfold flt
      go_wp2_with fail
      refine (tm.Parse_long a0 _ hl).mono ?_
      rintro e w4 ⟨rfl, hb4⟩
      obtain ⟨c0, c1⟩ := fault_cl hb4
      have HB4 : Hid (Bl w w4) := hb3.trans (fault_b hb4)
      have cP := errs.placed_errno 4 w4 (HG.out.1.bl HB4.out).gd.er
      clear hb3 hb4
      go_wp2_with fail
      refine cP.mono ?_
      rintro e w5 ⟨rfl, hg5⟩
      have HB5 : Hid (Bl w w5) := HB4.out.trans hg5.bl
      clear hg5 cP c0 c1
      go_wp2_with fail
      go_loopw [7] (fun i wr => ∃ j : Nat, j ≤ 0 ∧ i = .int .i64 (j : Int) ∧ Hid (Bl w wr)) (fun i _ => 0 - (intOf i).toNat)
      case atStart => exact ⟨0, Nat.zero_le _, rfl, HB5⟩
      case round =>
        obtain ⟨j, hj, rfl, HB⟩ := hrel
        obtain rfl : 0 = j := by omega
        have cA := fun wx (hb : Bl w wx) => Print_at [] (.slice none 0 0) wx (fun g => 0 ≤ g) (ists_nil wx _) wt_nil (HG.out.1.bl hb) (by decide)
        have cB := fun wx => TPrint_at [] (.slice none 0 0) wx (fun g => 0 ≤ g) (ists_nil wx _) wt_nil (by decide)
        go_wp2_with fail
        refine (cA _ HB.out).mono ?_
        rintro e w6 ⟨rfl, hb6⟩
        have HB6 : Hid (Bl w w6) := HB.out.trans hb6
        clear hb6 cA
        go_wp2_with fail
        refine (cB _).mono ?_
        rintro e w7 ⟨rfl, hb7⟩
        have HB7 : Hid (Bl w w7) := HB6.out.trans hb7
        clear hb7 cB
        go_wp2
        go_ret
        exact ⟨rfl, HB7.out⟩
    · have hl' : a0.size ≤ 900 := by omega
      clear hf hl
      have cR := TParse_at a0 w (by omega) HG.out.2.1 HG.out.2.2
      go_wp2_with fail
      refine cR.mono ?_
      rintro e w3 ⟨hb3, hans⟩
      have cX := fun wx (hb : Bl w wx) => tm.Parse_at a0 wx (by omega) (HG.out.1.bl hb)
      cases hp : prT (L a0) with
      | error cp =>
        obtain ⟨c, p⟩ := cp
        rw [hp] at hans
        obtain ⟨rfl, hc⟩ := hans
        unfold flt
        go_wp2_with fail
        refine (cX _ (hb3.trans ((Bl.refl _).alloc _))).mono ?_
        rintro e w4 ⟨hb4, hans4⟩
        rw [hp] at hans4
        obtain ⟨B, rfl, hB1, hB2⟩ := hans4
        obtain ⟨c0, c1⟩ := fault_cl hb4
        have HB4 : Hid (Bl w w4) := hb3.trans (fault_b hb4)
        have cP := errs.placed_at c (p : Int) B w4 (HG.out.1.bl HB4.out).gd.er (by rw [cell_of hB2]; rfl) (by rw [cell_of hB2]; rfl)
        clear hb3 hb4 hB1 hB2 hp hc cR cX
        unfold atV
        go_wp2_with fail
        refine cP.mono ?_
        rintro e w5 ⟨rfl, hg5⟩
        have HB5 : Hid (Bl w w5) := HB4.out.trans hg5.bl
        clear hg5 cP c0 c1
        go_wp2_with fail
        go_loopw [7] (fun i wr => ∃ j : Nat, j ≤ 0 ∧ i = .int .i64 (j : Int) ∧ Hid (Bl w wr)) (fun i _ => 0 - (intOf i).toNat)
        case atStart => exact ⟨0, Nat.zero_le _, rfl, HB5⟩
        case round =>
          obtain ⟨j, hj, rfl, HB⟩ := hrel
          obtain rfl : 0 = j := by omega
          have cA := fun wx (hb : Bl w wx) => Print_at [] (.slice none 0 0) wx (fun g => 0 ≤ g) (ists_nil wx _) wt_nil (HG.out.1.bl hb) (by decide)
          have cB := fun wx => TPrint_at [] (.slice none 0 0) wx (fun g => 0 ≤ g) (ists_nil wx _) wt_nil (by decide)
          go_wp2_with fail
          refine (cA _ HB.out).mono ?_
          rintro e w6 ⟨rfl, hb6⟩
          have HB6 : Hid (Bl w w6) := HB.out.trans hb6
          clear hb6 cA
          go_wp2_with fail
          refine (cB _).mono ?_
          rintro e w7 ⟨rfl, hb7⟩
          have HB7 : Hid (Bl w w7) := HB6.out.trans hb7
          clear hb7 cB
          go_wp2
          go_ret
          exact ⟨rfl, HB7.out⟩
      | ok l =>
        rw [hp] at hans
        obtain ⟨v, rfl, hv⟩ := hans
        obtain ⟨hci, hwt, hpl, hl8⟩ := prT_told hp (by rw [L_len]; omega)
        obtain ⟨p, c, cs, rfl, hv2, hv3⟩ := hv
        unfold flt
        go_wp2_with fail
        refine (cX _ (hb3.trans ((Bl.refl _).alloc _))).mono ?_
        rintro e w4 ⟨hb4, hans4⟩
        rw [hp] at hans4
        obtain ⟨u, rfl, hu⟩ := hans4
        obtain ⟨p', c', cs', rfl, hu2, hu3⟩ := hu
        obtain ⟨c0, c1⟩ := fault_cl hb4
        have HB4 : Hid (Bl w w4) := hb3.trans (fault_b hb4)
        have hb34 : Bl w3 w4 := fault_b hb4
        obtain ⟨n, hn⟩ : ∃ n, n = l.length := ⟨_, rfl⟩
        have HX : Hid (sr.Lie w4 (fun g => w.heap.size ≤ g) p l.length c cs ∧ RepT w4 (fun g => w.heap.size ≤ g) l cs ∧ WT l ∧ (ptxt l).length ≤ 300000 ∧ n = l.length) := ⟨hv2.keep (fun g _ hg => Below.block hb34 g hg) hb34.size, hv3.keep (fun g _ hg => Below.block hb34 g hg) hb34.size (Kx.bl hb34), hwt, hpl, hn⟩
        obtain ⟨ok', HY⟩ : ∃ ok' : Nat → Prop, Hid (sr.Lie w4 ok' p' l.length c' cs' ∧ RepT w4 ok' l cs') := ⟨_, hu2, hu3⟩
        have hn8 : n ≤ 8 := by omega
        have cP := errs.placed_nil w4
        rw [← hn]
        clear hb3 hb4 hb34 hv2 hv3 hu2 hu3 hp cR cX hci hwt hpl hl8 hn
        go_wp2_with fail
        refine cP.mono ?_
        rintro e w5 ⟨rfl, hg5⟩
        have HB5 : Hid (Bl w4 w5) := hg5.bl
        clear hg5 cP c0 c1
        go_wp2_with fail
        go_loopw [7] (fun i wr => ∃ j : Nat, j ≤ n ∧ i = .int .i64 (j : Int) ∧ Hid (Bl w4 wr)) (fun i _ => n - (intOf i).toNat)
        case atStart => exact ⟨0, Nat.zero_le _, rfl, HB5⟩
        case round =>
          obtain ⟨j, hj, rfl, HB⟩ := hrel
          by_cases hjn : j < n
          · have d1 : decide ((j : Int) < (n : Int)) = true := decide_eq_true (by omega)
            have i0 : (0 : Int) ≤ (j : Int) := by omega
            have i1 : (j : Int) < (n : Int) := by omega
            obtain ⟨x, t, e1, e2, e3, e4, cs2, e5, e6⟩ := HX.out.2.1.at j (by have := HX.out.2.2.2.2; omega)
            obtain ⟨y, t', f1, f2, f3, f4, cs3, f5, f6⟩ := HY.out.2.at j (by have := HX.out.2.2.2.2; omega)
            rw [e2] at f2
            obtain rfl := Option.some.inj f2
            obtain ⟨t1, t2, t3⟩ := HX.out.2.2.1.2 t (List.mem_of_getElem? e2)
            obtain ⟨X, rfl, _, g0', g⟩ := lieT_at (lieT_bl HX.out.1 HB.out) j x e1
            obtain ⟨Y, rfl, _, k0', k⟩ := lieT_at (lieT_bl HY.out.1 HB.out) j y f1
            have g0 : wr.cell? (X.add (j * 3)) = some (.string (tx x.nm)) := g0'
            have k0 : wr.cell? (Y.add (j * 3)) = some (.string (tx y.nm)) := k0'
            have g1 : wr.cell? ⟨(X.add (j * 3)).block, (X.add (j * 3)).off + 1, none⟩ = some (.int .i64 (x.a : Int)) := g 1 _ rfl
            have k1 : wr.cell? ⟨(Y.add (j * 3)).block, (Y.add (j * 3)).off + 1, none⟩ = some (.int .i64 (y.a : Int)) := k 1 _ rfl
            have g2 := g 2 _ rfl
            have k2 := k 2 _ rfl
            rw [e3] at g0
            rw [e4] at g1
            rw [f3] at k0
            rw [f4] at k1
            have hxn : x.n = t.l.len := by rw [e5.1]; exact e6.len.1
            have hyn : y.n = t.l.len := by rw [f5.1]; exact f6.len.1
            have cS : Hid (∀ wx, Bl w4 wx → Calls Tryz.prog 12 #[.slice x.p x.n x.c, .slice y.p y.n y.c] wx fun e w' => e = .returned (.bool true) ∧ Bl wx w') := by
              intro wx hb
              rw [hxn] at e5 ⊢
              rw [hyn] at f5 ⊢
              exact same_items 7 t.l _ _ x.p y.p t.l.len x.c y.c cs2 cs3 wx t3 t2 rfl (lie_bl e5 hb) (lie_bl f5 hb) (rep_bl e6 hb) (rep_bl f6 hb)
            clear g0' k0' g k e1 e2 e3 e4 e5 e6 f1 f3 f4 f5 f6 t1 t2 t3 hxn hyn
            obtain ⟨NM, hNM⟩ : ∃ NM, NM = tx t.nm := ⟨_, rfl⟩
            rw [← hNM] at g0 k0
            have hbd : Bl wr wr.drew := (Bl.refl _).drew
            have q0 := at_bl hbd g0
            have q1 := at_bl hbd k0
            have q2 := at_bl hbd g1
            have q3 := at_bl hbd k1
            have q4 : wr.drew.cell? ⟨(X.add (j * 3)).block, (X.add (j * 3)).off + 2, none⟩ = some (.slice x.p x.n x.c) := at_bl hbd g2
            have q5 : wr.drew.cell? ⟨(Y.add (j * 3)).block, (Y.add (j * 3)).off + 2, none⟩ = some (.slice y.p y.n y.c) := at_bl hbd k2
            have HBd : Hid (Bl w4 wr.drew ∧ Bl wr wr.drew) := ⟨HB.out.trans hbd, hbd⟩
            clear hNM g0 k0 g1 k1 g2 k2 hbd
            go_upto_region 10 with fail
            go_region_held3 (fun wS => wS.cell? (X.add (j * 3)) = some (.string NM) ∧ wS.cell? (Y.add (j * 3)) = some (.string NM) ∧ wS.cell? ⟨(X.add (j * 3)).block, (X.add (j * 3)).off + 1, none⟩ = some (.int .i64 (t.at_ : Int)) ∧ wS.cell? ⟨(Y.add (j * 3)).block, (Y.add (j * 3)).off + 1, none⟩ = some (.int .i64 (t.at_ : Int)) ∧ wS.cell? ⟨(X.add (j * 3)).block, (X.add (j * 3)).off + 2, none⟩ = some (.slice x.p x.n x.c) ∧ wS.cell? ⟨(Y.add (j * 3)).block, (Y.add (j * 3)).off + 2, none⟩ = some (.slice y.p y.n y.c)) (refine ⟨?_, ?_, ?_, ?_, ?_, ?_⟩ <;> first | assumption | exact at_bl ((Bl.refl _).drew) (by assumption))
              (first
                | (go_at_call 12; (with_reducible refine (cS.out _ HBd.out.1).mono ?_); rintro e w6 ⟨rfl, hb6⟩
                   have HB6 : Hid (Bl w4 w6) := HBd.out.1.trans hb6
                   have s0 := at_bl hb6 q0
                   have s1 := at_bl hb6 q1
                   have s2 := at_bl hb6 q2
                   have s3 := at_bl hb6 q3
                   have s4 := at_bl hb6 q4
                   have s5 := at_bl hb6 q5
                   clear hb6))
            clear q0 q1 q2 q3 q4 q5 s0 s1 s2 s3 s4 s5 cS
            go_wp2
            go_roundw
            case rel => exact ⟨j + 1, by omega, by go_num, HB6⟩
            case measure => simp [intOf]; omega
          · have d1 : decide ((j : Int) < (n : Int)) = false := decide_eq_false (by omega)
            have hts : Hid (∀ wx, Bl w4 wx → IsTs wx (fun g => w.heap.size ≤ g) (.slice p n c) l) := fun wx hb => (show IsTs w4 _ _ l from ⟨p, c, cs, by rw [HX.out.2.2.2.2], HX.out.1, HX.out.2.1⟩).bl hb
            have cA := fun wx (hb : Bl w4 wx) => Print_at l (.slice p n c) wx _ (hts.out wx hb) HX.out.2.2.1 (HG.out.1.bl (HB4.out.trans hb)) (by have := HX.out.2.2.2.1; omega)
            have cB := fun wx (hb : Bl w4 wx) => TPrint_at l (.slice p n c) wx _ (hts.out wx hb) HX.out.2.2.1 (by have := HX.out.2.2.2.1; omega)
            obtain ⟨S, hS⟩ : ∃ S, S = tx (ptxt l) := ⟨_, rfl⟩
            rw [← hS] at cA cB
            clear hS
            go_wp2_with fail
            refine (cA _ HB.out).mono ?_
            rintro e w6 ⟨rfl, hb6⟩
            have HB6 : Hid (Bl w4 w6) := HB.out.trans hb6
            clear hb6 cA
            go_wp2_with fail
            refine (cB _ HB6.out).mono ?_
            rintro e w7 ⟨rfl, hb7⟩
            have HB7 : Hid (Bl w w7) := HB4.out.trans (HB6.out.trans hb7)
            clear hb7 cB
            go_wp2
            go_ret
            exact ⟨rfl, HB7.out⟩
end Go.Proofs.YtpanodaecjlgaaaGreatDoor.tr
