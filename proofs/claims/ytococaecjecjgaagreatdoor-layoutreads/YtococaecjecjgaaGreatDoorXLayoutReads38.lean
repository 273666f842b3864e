/- Texts laid together: ErL, Tr8, LrN, LrO. -/
import Derived.Test.YtococaecjecjgaaGreatDoorXLayoutReads30
import Derived.Test.YtococaecjecjgaaGreatDoorXLayoutReads37
import Derived.Test.YtococaecjecjgaaGreatDoorXLayoutReads35
import Derived.Test.YtococaecjecjgaaGreatDoorXLayoutReads26
import Derived.Test.YtococaecjecjgaaGreatDoorXLayoutReads33
import Derived.Test.YtococaecjecjgaaGreatDoorXLayoutReads22
import Derived.Test.YtococaecjecjgaaGreatDoorXLayoutReads5
import Derived.Test.YtococaecjecjgaaGreatDoorXLayoutReads1
namespace Go.Proofs.YtococaecjecjgaaGreatDoor.ex
set_option linter.unusedVariables false
open Go.ChangeShapes Go.WideShapes Go.ChangeAt Go.RowKit
open mem lx

theorem eyes_far {w W w6 : World} {M N : Nat} {c p : Int} {o : Obj} (hF : Fl w W M N c p) (h6 : Bl W w6) (hM : M = w.heap.size) :
    Bl w (((w6.setCell ⟨M, 0, none⟩ (.int .i64 c)).setCell ⟨M, 1, none⟩ (.int .i64 p)).alloc o) ∧
    (((w6.setCell ⟨M, 0, none⟩ (.int .i64 c)).setCell ⟨M, 1, none⟩ (.int .i64 p)).alloc o).heap[M]? = some (.cells #[.int .i64 c, .int .i64 p] 30 (0, 0)) ∧
    w.heap.size ≤ w6.heap.size := by
  have hF6 := hF.step h6
  have hset := upd2 w6 M _ _ (.int .i64 c) (.int .i64 p) _ hF6.m
  have hgp : Gp M w6 ((w6.setCell ⟨M, 0, none⟩ (.int .i64 c)).setCell ⟨M, 1, none⟩ (.int .i64 p)) := (Gp.set _).trans (Gp.set _)
  have hbs : Bl w ((w6.setCell ⟨M, 0, none⟩ (.int .i64 c)).setCell ⟨M, 1, none⟩ (.int .i64 p)) := Gp.below hF6.bl hgp (by omega)
  generalize ((w6.setCell ⟨M, 0, none⟩ (.int .i64 c)).setCell ⟨M, 1, none⟩ (.int .i64 p)) = X at *
  have hX : Bl X (X.alloc o) := (Bl.refl _).alloc _
  exact ⟨hbs.trans hX, by rw [Below.block hX M (lt_of_heap hset)]; exact hset, hF6.bl.size⟩
set_option maxRecDepth 10000 in
set_option maxHeartbeats 2000000 in
theorem newEyes_long (s : ByteArray) (w : World) (hs : 3000 < s.size) :
    Calls Tryz.prog 36 #[.string s] w fun e w' => Bl w w' ∧ ∃ P, w.heap.size ≤ P ∧ e = .returned (.tuple #[.pointer (some ⟨P, 0, none⟩), flt 4 (-1)]) := by
  have cX := fun w => refLex_long s w hs
  go_enter Tryz.func36, Tryz.ntmps36
  go_wp2_with fail
  refine (cX _).mono ?_
  rintro e w2 ⟨rfl, hb2⟩
  unfold flt
  go_upto_region 2 with fail
  have hF := Fl.made (c := 4) (p := -1) hb2
  obtain ⟨W, hW⟩ : ∃ W, W = (w2.alloc (.cells #[.int .i64 4, .int .i64 (-1)] 30)) := ⟨_, rfl⟩
  rw [← hW] at hF ⊢
  obtain ⟨M, hM⟩ : ∃ M, M = w.heap.size := ⟨_, rfl⟩
  obtain ⟨N, hN⟩ : ∃ N, N = w2.heap.size := ⟨_, rfl⟩
  rw [← hM, ← hN] at hF
  rw [← hM, ← hN]
  have HF : Hid (Fl w W M N 4 (-1) ∧ M = w.heap.size) := ⟨hF, hM⟩
  obtain ⟨g0, g1, m0, m1, z0, z1, hMs, hNs⟩ := hF.cells
  have hMN := hF.ge.2.2
  clear hW hM hN hF hb2 cX
  have cG : ∀ w, Calls Tryz.prog 21 #[] w fun e w' => e = .returned (.agg #[.int .i64 0, .int .i64 (-1)]) ∧ Bl w w' := Good_at
  go_region_with (go_at_call 21; refine (cG _).mono ?_; rintro e w6 ⟨rfl, hb6⟩; have HB6 : Hid (Bl W w6) := ((Bl.refl W).drew).trans hb6; obtain ⟨q0, q1, q2, q3, y0, y1, hM6, hN6⟩ := (HF.out.1.step HB6.out).cells; clear hb6)
  all_goals
    have HK : Hid _ := eyes_far (o := .cells #[.slice none 0 0, .int .i64 (s.size : Int), .int .i64 0, .int .i64 (-1)] 91) HF.out.1 HB6.out HF.out.2
    clear q0 q1 q2 q3 y0 y1 g0 g1 m0 m1 z0 z1
    go_wp2
    exact bodyPost_ret (v := .tuple #[.pointer (some ⟨w6.heap.size, 0, none⟩), flt 4 (-1)]) (results_tmp_cell (p := 3) (u := 2) (ty := 30) rfl _ _ _ M (flt 4 (-1)) rfl (ldF _ _ _ _ HK.out.2.1)) rfl ⟨HK.out.1, _, HK.out.2.2, rfl⟩
end Go.Proofs.YtococaecjecjgaaGreatDoor.ex
namespace Go.Proofs.YtococaecjecjgaaGreatDoor.tr
set_option linter.unusedVariables false
open Go.ChangeShapes Go.WideShapes Go.ChangeAt Go.RowKit
open mem lx ex tm

set_option maxRecDepth 10000 in
set_option maxHeartbeats 2000000 in
theorem TParse_long (s : ByteArray) (w : World) (hs : 3000 < s.size) :
    Calls Tryz.prog 17 #[.string s] w fun e w' => e = .returned (.tuple #[(.slice none 0 0), flt 4 (-1)]) ∧ Bl w w' := by
  have cX := fun w => newEyes_long s w hs
  go_enter Tryz.func17, Tryz.ntmps17
  go_wp2_with fail
  refine (cX _).mono ?_
  rintro e w2 ⟨hb2, P, hP, rfl⟩
  have hF := Fl.made (c := 4) (p := -1) hb2
  obtain ⟨W, hW⟩ : ∃ W, W = w2.alloc (.cells #[.int .i64 4, .int .i64 (-1)] 30) := ⟨_, rfl⟩
  obtain ⟨M, hM⟩ : ∃ M, M = w.heap.size := ⟨_, rfl⟩
  obtain ⟨N, hN⟩ : ∃ N, N = w2.heap.size := ⟨_, rfl⟩
  rw [← hW, ← hM, ← hN] at hF
  have HF : Hid (Fl w W M N 4 (-1)) := hF
  unfold flt
  clear hF hP cX hb2
  go_wp2_with fail
  rw [← hW, ← hM, ← hN]
  clear hW hM hN
  refine (Is_at 4 (-1) W).mono ?_
  rintro e w3 ⟨rfl, hb3⟩
  have HF3 : Hid (Fl w w3 M N 4 (-1)) := HF.out.step hb3
  obtain ⟨g0, g1, m0, m1, z0, z1, hMs, hNs⟩ := HF3.out.cells
  clear hb3
  have h00 : ((4 : Int) == 0) = false := rfl
  rw [h00]
  go_upto_region 3 with fail
  go_region
  go_wp2
  obtain ⟨k1, k2⟩ := HF3.out.told 4 (-1)
  exact bodyPost_ret (v := .tuple #[(.slice none 0 0), flt 4 (-1)]) (results_tmp_cell (p := 3) (u := 2) (ty := 30) rfl _ _ _ M (flt 4 (-1)) rfl (ldF _ _ _ _ k2)) rfl ⟨rfl, k1.trans ((Bl.refl _).drew)⟩
end Go.Proofs.YtococaecjecjgaaGreatDoor.tr
namespace Go.Proofs.YtococaecjecjgaaGreatDoor.ly
set_option linter.unusedVariables false
open Go.ChangeShapes Go.WideShapes Go.ChangeAt Go.RowKit Go.Shelf Go.Maps
open mem lx ex tm tr tc

theorem far_l (s : ByteArray) (w : World) : Calls Tryz.prog 16 #[.string s] w fun e w' => e = .returned (.bool (decide ((900 < s.size ∧ s.size ≤ 3000) ∨ 3009 < s.size))) ∧ w' = w := by
  go_enter Tryz.func16, Tryz.ntmps16
  go_wp2
  all_goals
    go_ret
    refine ⟨ret_bool ?_, rfl⟩
    rw [Bool.eq_iff_iff]
    simp
    try omega
def RlA (w : World) (e : Ending) (w' : World) : Prop :=
  Bl w w' ∧ ((∃ p n c l ok, e = .returned (.tuple #[.slice p n c, .bool true]) ∧ IsTs w' ok (.slice p n c) l ∧ WT l ∧ chk l = none) ∨ ∃ p n c, e = .returned (.tuple #[.slice p n c, .bool false]))
set_option maxRecDepth 10000 in
set_option maxHeartbeats 4000000 in
theorem rightL_at (a0 : ByteArray) (w : World) (hM : Ml w) (hMw : 4 < w.heap.size) :
    Calls Tryz.prog 6 #[.string a0] w (RlA w) := by
  have cF := far_l a0
  have HG : Hid (Ml w ∧ 4 < w.heap.size) := ⟨hM, hMw⟩
  clear hM hMw
  go_enter Tryz.func6, Tryz.ntmps6
  by_cases hf : (900 < a0.size ∧ a0.size ≤ 3000) ∨ 3009 < a0.size
  · rw [decide_eq_true hf] at cF
    go_wp2_with fail
    refine (cF _).mono ?_
    rintro e w2 ⟨rfl, hw⟩
    obtain rfl := hw.symm
    go_wp2
    go_ret2
    exact ⟨Below.refl _ _, Or.inr ⟨_, _, _, rfl⟩⟩
  · rw [decide_eq_false hf] at cF
    go_wp2_with fail
    refine (cF _).mono ?_
    rintro e w2 ⟨rfl, hw⟩
    obtain rfl := hw.symm
    clear cF
    by_cases hl : 3000 < a0.size
    · clear hf
      go_wp2_with fail
      refine (TParse_long a0 _ hl).mono ?_
      rintro e w3 ⟨rfl, hb3⟩
      have HB3 : Hid (Bl w w3) := hb3
      clear hb3
      unfold flt
      go_wp2_with fail
      refine (Is_at 4 (-1) _).mono ?_
      rintro e w4 ⟨rfl, hb4⟩
      have HB4 : Hid (Bl w w4) := HB3.out.trans (fl_cl hb4).2.2.1
      clear hb4
      go_wp2
      go_ret2
      exact ⟨HB4.out, Or.inr ⟨_, _, _, rfl⟩⟩
    · have hl' : a0.size ≤ 900 := by omega
      clear hf hl
      have cR := TParse_at a0 w (by omega) HG.out.1 HG.out.2
      go_wp2_with fail
      refine cR.mono ?_
      rintro e w3 ⟨hb3, hans⟩
      clear cR
      have HB3 : Hid (Bl w w3) := hb3
      clear hb3
      cases hp : prT (L a0) with
      | error cp =>
        obtain ⟨c, p⟩ := cp
        rw [hp] at hans
        obtain ⟨rfl, hc⟩ := hans
        have hc0 : (c == 0) = false := by rw [beq_eq_false_iff_ne]; exact hc
        clear hp hc
        unfold flt
        go_wp2_with fail
        refine (Is_at c (p : Int) _).mono ?_
        rintro e w4 ⟨rfl, hb4⟩
        have HB4 : Hid (Bl w w4) := HB3.out.trans (fl_cl hb4).2.2.1
        clear hb4
        go_wp2
        go_ret2
        exact ⟨HB4.out, Or.inr ⟨_, _, _, rfl⟩⟩
      | ok l =>
        rw [hp] at hans
        obtain ⟨v, rfl, hv⟩ := hans
        obtain ⟨hci, hwt, hpl, hl8⟩ := prT_told hp (by rw [L_len]; omega)
        have hzz := prT_z hp (by rw [L_len]; omega)
        have HV : Hid (CI l ∧ WT l ∧ ∀ t ∈ l, zI t.l ≤ 4000) := ⟨hci, hwt, fun t ht => by have := hzz t ht; rw [L_len] at this; omega⟩
        obtain ⟨ok, HK⟩ : ∃ ok : Nat → Prop, Hid (IsTs w3 ok v l) := ⟨_, hv⟩
        obtain ⟨vp, vn, vc, rfl⟩ : ∃ p n c, v = .slice p n c := by obtain ⟨p, c, cs, h1, _⟩ := hv; exact ⟨_, _, _, h1⟩
        clear hv hci hwt hpl hl8 hzz hp
        unfold flt
        go_wp2_with fail
        refine (Is_at 0 (-1) _).mono ?_
        rintro e w4 ⟨rfl, hb4⟩
        have hb34 := (fl_cl hb4).2.2.1
        have HB4 : Hid (Bl w3 w4) := hb34
        have cB := TypesCheck_at l (.slice vp vn vc) w4 ok (HK.out.bl hb34) HV.out.2.1 HV.out.2.2
        clear hb4 hb34
        cases hc : chk l with
        | none =>
          rw [hc] at cB
          have HC : Hid (chk l = none) := hc
          clear hc
          go_wp2_with fail
          refine cB.mono ?_
          rintro e w6 ⟨rfl, hb6⟩
          have HB6 : Hid (Bl w3 w6) := HB4.out.trans hb6
          rw [show chkV none = .agg #[.int .i64 0, .int .i64 (-1)] from rfl]
          clear hb6 cB
          go_wp2_with fail
          refine (Is_at 0 (-1) _).mono ?_
          rintro e w7 ⟨rfl, hb7⟩
          have HB7 : Hid (Bl w3 w7) := HB6.out.trans hb7
          clear hb7
          go_wp2
          go_ret2
          exact ⟨HB3.out.trans HB7.out, Or.inl ⟨vp, vn, vc, l, ok, rfl, HK.out.bl HB7.out, HV.out.2.1, HC.out⟩⟩
        | some cp =>
          obtain ⟨c, p⟩ := cp
          rw [hc] at cB
          have hne : c ≠ 0 := chkT_ne0 l [] (c, p) hc
          have hc0 : (c == 0) = false := by rw [beq_eq_false_iff_ne]; exact hne
          clear hc hne
          go_wp2_with fail
          refine cB.mono ?_
          rintro e w6 ⟨rfl, hb6⟩
          have HB6 : Hid (Bl w3 w6) := HB4.out.trans hb6
          rw [show chkV (some (c, p)) = .agg #[.int .i64 c, .int .i64 (p : Int)] from rfl]
          clear hb6 cB
          go_wp2_with fail
          refine (Is_at c (p : Int) _).mono ?_
          rintro e w7 ⟨rfl, hb7⟩
          have HB7 : Hid (Bl w3 w7) := HB6.out.trans hb7
          clear hb7
          go_wp2
          go_ret2
          exact ⟨HB3.out.trans HB7.out, Or.inr ⟨_, _, _, rfl⟩⟩
end Go.Proofs.YtococaecjecjgaaGreatDoor.ly
namespace Go.Proofs.YtococaecjecjgaaGreatDoor.ly
set_option linter.unusedVariables false
open Go.ChangeShapes Go.WideShapes Go.ChangeAt Go.RowKit Go.Shelf
open mem lx ex tm num

theorem chk_lk {l : List Ty} (h : WT l) (hc : tm.chk l = none) : LK l := ⟨WT.okt h, h.1, hc⟩
theorem uni (q : Except Er (ND × Nds)) (hz : ∀ nd ks, q = .ok (nd, ks) → ks.sz ≤ 400) : ∃ (d : ND) (ks : Nds) (c0 p0 : Int), ks.sz ≤ 400 ∧
    (∀ w e w', LrAns w q e w' → Bl w w' ∧ ∃ p c, e = .returned (.tuple #[ndV d p ks.len c, .agg #[.int .i64 c0, .int .i64 p0]]) ∧ IsNs w' (fun _ => True) p ks.len c ks) ∧
    (∀ w e w', RdA w q e w' → Bl w w' ∧ ∃ p c v, e = .returned (.tuple #[ndV d p ks.len c, v]) ∧ IsNs w' (fun _ => True) p ks.len c ks ∧ ∀ wx, Bl w' wx → errs.Laid wx → Calls Tryz.prog 9 #[v, .agg #[.int .i64 c0, .int .i64 p0]] wx fun e w'' => e = .returned (.bool true) ∧ Bl wx w'') := by
  cases q with
  | error er =>
    obtain ⟨c0, p0⟩ := er
    refine ⟨⟨[], 0, 0, 0, 0, []⟩, .nil, c0, p0, Nat.zero_le _, ?_, ?_⟩
    · rintro w e w' ⟨hb, rfl, hne⟩
      exact ⟨hb, none, 0, rfl, IsNs.none _ _⟩
    · rintro w e w' ⟨hb, v, rfl, hv⟩
      refine ⟨hb, none, 0, v, rfl, IsNs.none _ _, fun wx hb hl => ?_⟩
      rcases hv with ⟨he, rfl⟩ | ⟨B, rfl, h1, h2⟩
      · simp only [Prod.mk.injEq] at he
        obtain ⟨rfl, rfl⟩ := he
        exact (errs.placed_errno 7 wx hl).mono (by rintro e w'' ⟨rfl, hg⟩; exact ⟨rfl, hg.bl⟩)
      · dsimp only at h2
        have h3 := AtX.bl h2 hb
        exact (errs.placed_at c0 p0 B wx hl (by rw [cell_of h3]; rfl) (by rw [cell_of h3]; rfl)).mono (by rintro e w'' ⟨rfl, hg⟩; exact ⟨rfl, hg.bl⟩)
  | ok r =>
    obtain ⟨nd, ks⟩ := r
    refine ⟨nd, ks, 0, -1, hz nd ks rfl, ?_, ?_⟩
    · rintro w e w' ⟨hb, p, c, rfl, hn⟩
      exact ⟨hb, p, c, rfl, hn.mono (fun _ _ _ => trivial)⟩
    · rintro w e w' ⟨hb, p, c, rfl, hn⟩
      exact ⟨hb, p, c, .nilIface, rfl, hn.mono (fun _ _ _ => trivial), fun wx hb hl => (errs.placed_nil wx).mono (by rintro e w'' ⟨rfl, hg⟩; exact ⟨rfl, hg.bl⟩)⟩
theorem box2 (w : World) (d : ND) (p : Option Addr) (n c : Nat) (x y : Int) :
    Nv ((w.alloc (.cells #[.string (tx d.nm), .int .i64 (d.kd : Int), .int .i64 (d.at_ : Int), .int .i64 (d.sz : Int), .int .i64 d.n, .string (tx d.tx), .slice p n c] 27)).alloc (.cells #[.int .i64 x, .int .i64 y] 30)) w.heap.size d p n c ∧ ((w.alloc (.cells #[.string (tx d.nm), .int .i64 (d.kd : Int), .int .i64 (d.at_ : Int), .int .i64 (d.sz : Int), .int .i64 d.n, .string (tx d.tx), .slice p n c] 27)).alloc (.cells #[.int .i64 x, .int .i64 y] 30)).heap[w.heap.size + 1]? = some (.cells #[.int .i64 x, .int .i64 y] 30 (0, 0)) ∧ Bl w ((w.alloc (.cells #[.string (tx d.nm), .int .i64 (d.kd : Int), .int .i64 (d.at_ : Int), .int .i64 (d.sz : Int), .int .i64 d.n, .string (tx d.tx), .slice p n c] 27)).alloc (.cells #[.int .i64 x, .int .i64 y] 30)) := by
  generalize hw1 : w.alloc (.cells #[.string (tx d.nm), .int .i64 (d.kd : Int), .int .i64 (d.at_ : Int), .int .i64 (d.sz : Int), .int .i64 d.n, .string (tx d.tx), .slice p n c] 27) = w1
  have e1 : w1.heap.size = w.heap.size + 1 := by rw [← hw1]; simp
  have n1 : Nv w1 w.heap.size d p n c := by rw [← hw1]; exact new_at _ _
  have b1 : Bl w w1 := by rw [← hw1]; exact (Bl.refl _).alloc _
  refine ⟨n1.bl ((Bl.refl _).alloc _), ?_, b1.trans ((Bl.refl _).alloc _)⟩
  rw [← e1]
  exact new_at _ _
set_option maxRecDepth 10000 in
set_option maxHeartbeats 4000000 in
theorem reads_at (a0 a1 a2 : ByteArray) (w : World) (hg : errs.Laid w) (hM : tr.Ml w) (hMw : 4 < w.heap.size) (hx0 : a1.size ≤ 140737488351232) :
    Calls Tryz.prog 3 #[.string a0, .string a1, .string a2] w fun e w' => e = .returned (.bool true) ∧ Below w.heap.size w w' := by
  have hx : a1.size ≤ maxLen := by unfold maxLen; omega
  have cR := rightL_at a0 w hM hMw
  have HG : Hid (errs.Laid w ∧ a1.size ≤ maxLen) := ⟨hg, hx⟩
  clear hg hM hMw hx hx0
  go_enter Tryz.func3, Tryz.ntmps3
  go_wp2_with fail
  refine cR.mono ?_
  rintro e w1 ⟨hb1, ⟨p, n, c, l, ok, rfl, hK, hW, hC⟩ | ⟨p, n, c, rfl⟩⟩
  · have HB : Hid (Bl w w1) := hb1
    by_cases hs : 600 < a2.size
    · have h6' : (600 : Int) < (a2.size : Int) := by omega
      clear hK hW hC hb1 cR hs
      go_wp2
      go_ret
      exact ⟨rfl, HB.out⟩
    · have h6' : ¬ (600 : Int) < (a2.size : Int) := by omega
      have HK : Hid (IsTs w1 ok (.slice p n c) l ∧ WT l ∧ LK l ∧ a2.size ≤ 600) := ⟨hK, hW, chk_lk hW hC, by omega⟩
      obtain ⟨d, ks, c0, p0, hz, u1, u2⟩ := uni (rd (L a2) l (L a1)) (fun nd ks h => rd_z h)
      have HZ : Hid (ks.sz ≤ 400) := hz
      have cL := (LRead_at w1 ok p n c l (L a1) a2 hK HK.out.2.2.1 (by rw [L_len]; exact HG.out.2) (by omega)).mono (u1 w1)
      have cD := fun w3 (hb : Bl w1 w3) => (Read_at w3 ok (.slice p n c) l (L a1) (L a2) (HK.out.1.bl hb) HK.out.2.1.1 (WT.nms HK.out.2.1) (WT.okt HK.out.2.1) (by rw [L_len]; exact HG.out.2) (by rw [L_len]; have := HK.out.2.2.2; omega)).mono (u2 w3)
      simp only [tx_L] at cL cD
      clear hK hW hC hb1 cR hs u1 u2 hz
      go_wp2_with fail
      refine cL.mono ?_
      rintro e w2 ⟨hb2, p1, c1, rfl, hn1⟩
      have hbx := box2 w2 d p1 ks.len c1 c0 p0
      obtain ⟨w3, hw3⟩ : ∃ w3, w3 = (w2.alloc (.cells #[.string (tx d.nm), .int .i64 (d.kd : Int), .int .i64 (d.at_ : Int), .int .i64 (d.sz : Int), .int .i64 d.n, .string (tx d.tx), .slice p1 ks.len c1] 27)).alloc (.cells #[.int .i64 c0, .int .i64 p0] 30) := ⟨_, rfl⟩
      obtain ⟨X, hX⟩ : ∃ X, X = w2.heap.size := ⟨_, rfl⟩
      rw [← hw3, ← hX] at hbx
      obtain ⟨Z, hZ⟩ : ∃ Z, Z = X + 1 := ⟨_, rfl⟩
      rw [← hZ] at hbx
      have H3 : Hid (Nv w3 X d p1 ks.len c1 ∧ w3.heap[Z]? = some (.cells #[.int .i64 c0, .int .i64 p0] 30 (0, 0)) ∧ Bl w w3 ∧ IsNs w3 (fun _ => True) p1 ks.len c1 ks) := ⟨hbx.1, hbx.2.1, (HB.out.trans hb2).trans hbx.2.2, hn1.bl hbx.2.2⟩
      have cD' := cD w3 (hb2.trans hbx.2.2)
      unfold ndV
      clear hbx hn1 hb2 cL cD
      go_upto_region 5 with fail
      rw [← hw3, ← hX]
      try rw [← hZ]
      clear hw3 hX hZ
      go_wp2_with fail
      refine cD'.mono ?_
      rintro e w4 ⟨hb4, p2, c2, v, rfl, hn2, hP⟩
      obtain ⟨w5, hw5⟩ : ∃ w5, w5 = w4.alloc (.cells #[.string (tx d.nm), .int .i64 (d.kd : Int), .int .i64 (d.at_ : Int), .int .i64 (d.sz : Int), .int .i64 d.n, .string (tx d.tx), .slice p2 ks.len c2] 27) := ⟨_, rfl⟩
      obtain ⟨Y, hY⟩ : ∃ Y, Y = w4.heap.size := ⟨_, rfl⟩
      have hb5 : Bl w4 w5 := by rw [hw5]; exact (Bl.refl _).alloc _
      have hN5 : Nv w5 Y d p2 ks.len c2 := by rw [hw5, hY]; exact new_at _ _
      have h35 := hb4.trans hb5
      have H5 : Hid (Nv w5 X d p1 ks.len c1 ∧ Nv w5 Y d p2 ks.len c2 ∧ Bl w w5 ∧ IsNs w5 (fun _ => True) p1 ks.len c1 ks ∧ IsNs w5 (fun _ => True) p2 ks.len c2 ks) := ⟨H3.out.1.bl h35, hN5, H3.out.2.2.1.trans h35, H3.out.2.2.2.bl h35, hn2.bl hb5⟩
      have f0 : w5.cell? ⟨Z, 0, none⟩ = some (.int .i64 c0) := at_bl h35 (by rw [cell_of H3.out.2.1]; rfl)
      have f1 : w5.cell? ⟨Z, 1, none⟩ = some (.int .i64 p0) := at_bl h35 (by rw [cell_of H3.out.2.1]; rfl)
      have cP := hP w5 hb5 (HG.out.1.bl H5.out.2.2.1)
      unfold ndV
      clear hb4 hb5 hN5 h35 hn2 hP cD'
      go_upto_region 6 with fail
      rw [← hw5, ← hY]
      clear hw5 hY
      go_wp2_with fail
      refine cP.mono ?_
      rintro e w6 ⟨rfl, hb6⟩
      obtain ⟨x0, x1, x2, x3, x4, x5, x6⟩ := (H5.out.1.bl hb6).cells
      obtain ⟨y0, y1, y2, y3, y4, y5, y6⟩ := (H5.out.2.1.bl hb6).cells
      have H6 : Hid (Bl w w6) := H5.out.2.2.1.trans hb6
      have cS := same_node (ks.sz + 1) w6 (fun _ => True) (fun _ => True) d ks p2 ks.len c2 p1 ks.len c1 (Nat.lt_succ_self _) HZ.out (H5.out.2.2.2.2.bl hb6) (H5.out.2.2.2.1.bl hb6)
      unfold ndV at cS
      clear hb6 cP f0 f1
      go_wp2_with fail
      refine cS.mono ?_
      rintro e w7 ⟨rfl, hb7⟩
      have HB7 : Hid (Bl w w7) := H6.out.trans hb7
      clear hb7 cS x0 x1 x2 x3 x4 x5 x6 y0 y1 y2 y3 y4 y5 y6
      go_wp2
      go_ret
      exact ⟨rfl, HB7.out⟩
  · have HB : Hid (Bl w w1) := hb1
    clear cR hb1
    go_wp2
    go_ret
    exact ⟨rfl, HB.out⟩
end Go.Proofs.YtococaecjecjgaaGreatDoor.ly
