/- Texts laid together: TrS, TrU, TrW, Lr2, Lr3. -/
import Derived.Test.YtpanodaecjlgaaaGreatDoorXTmplReads15
import Derived.Test.YtpanodaecjlgaaaGreatDoorXTmplReads21
import Derived.Test.YtpanodaecjlgaaaGreatDoorXTmplReads16
import Derived.Deep.RegionHeld3
import Derived.Test.YtpanodaecjlgaaaGreatDoorXTmplReads19
/- Whether two rows of items are the same. -/
namespace Go.Proofs.YtpanodaecjlgaaaGreatDoor.tr
set_option linter.unusedVariables false
open Go.ChangeShapes Go.WideShapes Go.ChangeAt Go.RowKit Go.Shelf
open mem lx ex tm

attribute [local go_sem] World.cell?_alloc_some
set_option maxRecDepth 10000 in
set_option maxHeartbeats 8000000 in
theorem same_step (cs cs' : List C) (ok ok' : Nat → Prop) (p p' : Option Addr) (n c c' : Nat) (w : World) (hin : ir.Lie w ok p n c cs) (hin' : ir.Lie w ok' p' n c' cs') (hn : n ≤ 16)
    (hd : ∀ (j : Nat) (x y : C), cs[j]? = some x → cs'[j]? = some y → x.d = y.d)
    (cE : ∀ (j : Nat) (x y : C) (wx : World), cs[j]? = some x → cs'[j]? = some y → Bl w wx → Calls Tryz.prog 37 #[.pointer x.pc, .pointer y.pc] wx fun e w' => e = .returned (.bool true) ∧ Bl wx w')
    (cI : ∀ (j : Nat) (x y : C) (wx : World), cs[j]? = some x → cs'[j]? = some y → Bl w wx → Calls Tryz.prog 12 #[.slice x.p x.n x.c, .slice y.p y.n y.c] wx fun e w' => e = .returned (.bool true) ∧ Bl wx w') :
    Calls Tryz.prog 12 #[.slice p n c, .slice p' n c'] w fun e w' => e = .returned (.bool true) ∧ Bl w w' := by
  have H0 : Hid (ir.Lie w ok p n c cs ∧ ir.Lie w ok' p' n c' cs' ∧ n = cs.length ∧ n = cs'.length) := ⟨hin, hin', hin.1, hin'.1⟩
  have HD : Hid (∀ (j : Nat) (x y : C), cs[j]? = some x → cs'[j]? = some y → x.d = y.d) := hd
  clear hin hin' hd
  go_enter Tryz.func12, Tryz.ntmps12
  go_wp2
  go_loopw [5] (fun i wr => ∃ j : Nat, j ≤ n ∧ i = .int .i64 (j : Int) ∧ Hid (Bl w wr)) (fun i _ => n - (intOf i).toNat)
  case atStart => exact ⟨0, Nat.zero_le _, rfl, Bl.refl _⟩
  case round =>
    obtain ⟨j, hj, rfl, HB⟩ := hrel
    by_cases hjn : j < n
    · have d1 : decide ((j : Int) < (n : Int)) = true := decide_eq_true (by omega)
      have i0 : (0 : Int) ≤ (j : Int) := by omega
      have i1 : (j : Int) < (n : Int) := by omega
      obtain ⟨x, e1⟩ : ∃ x, cs[j]? = some x := ⟨_, List.getElem?_eq_getElem (by have := H0.out.2.2.1; omega)⟩
      obtain ⟨y, e2⟩ : ∃ y, cs'[j]? = some y := ⟨_, List.getElem?_eq_getElem (by have := H0.out.2.2.2; omega)⟩
      have hxy := HD.out j x y e1 e2
      have cE' := fun wx (hb : Bl wr wx) => cE j x y wx e1 e2 (HB.out.trans hb)
      have cI' := fun wx (hb : Bl wr wx) => cI j x y wx e1 e2 (HB.out.trans hb)
      obtain ⟨X, rfl, _, g0', g⟩ := lie_at (lie_bl H0.out.1 HB.out) j x e1
      obtain ⟨Y, rfl, _, k0', k⟩ := lie_at (lie_bl H0.out.2.1 HB.out) j y e2
      have g0 : wr.cell? (X.add (j * 13)) = some (.int .i64 (x.d.kd : Int)) := g0'
      have k0 : wr.cell? (Y.add (j * 13)) = some (.int .i64 (y.d.kd : Int)) := k0'
      have g1 := g 1 _ rfl
      have k1 := k 1 _ rfl
      have g2 := g 2 _ rfl
      have k2 := k 2 _ rfl
      have g3 := g 3 _ rfl
      have k3 := k 3 _ rfl
      have g4 := g 4 _ rfl
      have k4 := k 4 _ rfl
      have g5 := g 5 _ rfl
      have k5 := k 5 _ rfl
      have g6 := g 6 _ rfl
      have k6 := k 6 _ rfl
      have g7 := g 7 _ rfl
      have k7 := k 7 _ rfl
      have g8 := g 8 _ rfl
      have k8 := k 8 _ rfl
      have g9 := g 9 _ rfl
      have k9 := k 9 _ rfl
      have g10 := g 10 _ rfl
      have k10 := k 10 _ rfl
      have g11 := g 11 _ rfl
      have k11 := k 11 _ rfl
      have g12 := g 12 _ rfl
      have k12 := k 12 _ rfl
      clear g k g0' k0' e1 e2
      obtain ⟨xd, xpc, xp, xn, xc⟩ := x
      obtain ⟨yd, ypc, yp, yn, yc⟩ := y
      obtain rfl : xd = yd := hxy
      simp only [] at g0 g1 g2 g3 g4 g5 g6 g7 g8 g9 g10 g11 g12 k0 k1 k2 k3 k4 k5 k6 k7 k8 k9 k10 k11 k12 cE' cI'
      have HC : Hid (∀ wx, Bl wr wx → Calls Tryz.prog 37 #[.pointer xpc, .pointer ypc] wx fun e w' => e = .returned (.bool true) ∧ Bl wx w') := cE'
      have HI : Hid (∀ wx, Bl wr wx → Calls Tryz.prog 12 #[.slice xp xn xc, .slice yp yn yc] wx fun e w' => e = .returned (.bool true) ∧ Bl wx w') := cI'
      clear cE' cI' cE cI HD H0
      go_upto_region 6 with fail
      go_region
      · change Exit.then _ _ _ _ (((wr.alloc (.cells (cl ⟨xd, xpc, xp, xn, xc⟩).toArray 75)).alloc (.cells (cl ⟨xd, ypc, yp, yn, yc⟩).toArray 75)).drew)
        obtain ⟨N, hN⟩ : ∃ N, N = wr.heap.size := ⟨_, rfl⟩
        obtain ⟨w2, hw2⟩ : ∃ w2, w2 = ((wr.alloc (.cells (cl ⟨xd, xpc, xp, xn, xc⟩).toArray 75)).alloc (.cells (cl ⟨xd, ypc, yp, yn, yc⟩).toArray 75)).drew := ⟨_, rfl⟩
        rw [← hw2, ← hN]
        have hb2 : Bl wr w2 := by rw [hw2]; exact (((Bl.refl _).alloc _).alloc _).drewN 1
        have v1 : Iv w2 N ⟨xd, xpc, xp, xn, xc⟩ := by
          have h : Iv (wr.alloc (.cells (cl ⟨xd, xpc, xp, xn, xc⟩).toArray 75)) N ⟨xd, xpc, xp, xn, xc⟩ := ⟨by rw [hN]; exact new_at _ _⟩
          rw [hw2]; exact h.bl (((Bl.refl _).alloc _).drewN 1)
        have v2 : Iv w2 (N + 1) ⟨xd, ypc, yp, yn, yc⟩ := by
          have h : Iv ((wr.alloc (.cells (cl ⟨xd, xpc, xp, xn, xc⟩).toArray 75)).alloc (.cells (cl ⟨xd, ypc, yp, yn, yc⟩).toArray 75)) (N + 1) ⟨xd, ypc, yp, yn, yc⟩ := ⟨by
            have hs : N + 1 = (wr.alloc (.cells (cl ⟨xd, xpc, xp, xn, xc⟩).toArray 75)).heap.size := by rw [hN]; exact (Array.size_push _).symm
            rw [hs]; exact new_at _ _⟩
          rw [hw2]; exact h.bl ((Bl.refl _).drewN 1)
        have H2 : Hid (Bl wr w2 ∧ Iv w2 N ⟨xd, xpc, xp, xn, xc⟩ ∧ Iv w2 (N + 1) ⟨xd, ypc, yp, yn, yc⟩) := ⟨hb2, v1, v2⟩
        obtain ⟨g0, g1, g2, g3, g4, g5, g6, g7, g8, g9, g10, g11, g12⟩ := v1.facts
        obtain ⟨k0, k1, k2, k3, k4, k5, k6, k7, k8, k9, k10, k11, k12⟩ := v2.facts
        clear hw2 hN hb2 v1 v2
        simp only [] at g0 g1 g2 g3 g4 g5 g6 g7 g8 g9 g10 g11 g12 k0 k1 k2 k3 k4 k5 k6 k7 k8 k9 k10 k11 k12
        go_wp2_with fail
        refine (HC.out w2 H2.out.1).mono ?_
        rintro e w3 ⟨rfl, hb3⟩
        have HB3 : Hid (Bl wr w3) := H2.out.1.trans hb3
        have s1 := (H2.out.2.1.bl hb3).facts.2.2.2.2.2.2.2.2.2.2.2.2
        have s2 := (H2.out.2.2.bl hb3).facts.2.2.2.2.2.2.2.2.2.2.2.2
        simp only [] at s1 s2
        clear hb3
        go_wp2_with fail
        refine (HI.out w3 HB3.out).mono ?_
        rintro e w4 ⟨rfl, hb4⟩
        have HB4 : Hid (Bl w w4) := HB.out.trans (HB3.out.trans hb4)
        clear hb4
        go_wp2
        go_roundw
        case rel => exact ⟨j + 1, by omega, by go_num, HB4⟩
        case measure => simp [intOf]; omega
      · change Exit.then _ _ _ _ (((wr.alloc (.cells (cl ⟨xd, ypc, yp, yn, yc⟩).toArray 75)).alloc (.cells (cl ⟨xd, xpc, xp, xn, xc⟩).toArray 75)).drew)
        obtain ⟨N, hN⟩ : ∃ N, N = wr.heap.size := ⟨_, rfl⟩
        obtain ⟨w2, hw2⟩ : ∃ w2, w2 = ((wr.alloc (.cells (cl ⟨xd, ypc, yp, yn, yc⟩).toArray 75)).alloc (.cells (cl ⟨xd, xpc, xp, xn, xc⟩).toArray 75)).drew := ⟨_, rfl⟩
        rw [← hw2, ← hN]
        have hb2 : Bl wr w2 := by rw [hw2]; exact (((Bl.refl _).alloc _).alloc _).drewN 1
        have v2 : Iv w2 N ⟨xd, ypc, yp, yn, yc⟩ := by
          have h : Iv (wr.alloc (.cells (cl ⟨xd, ypc, yp, yn, yc⟩).toArray 75)) N ⟨xd, ypc, yp, yn, yc⟩ := ⟨by rw [hN]; exact new_at _ _⟩
          rw [hw2]; exact h.bl (((Bl.refl _).alloc _).drewN 1)
        have v1 : Iv w2 (N + 1) ⟨xd, xpc, xp, xn, xc⟩ := by
          have h : Iv ((wr.alloc (.cells (cl ⟨xd, ypc, yp, yn, yc⟩).toArray 75)).alloc (.cells (cl ⟨xd, xpc, xp, xn, xc⟩).toArray 75)) (N + 1) ⟨xd, xpc, xp, xn, xc⟩ := ⟨by
            have hs : N + 1 = (wr.alloc (.cells (cl ⟨xd, ypc, yp, yn, yc⟩).toArray 75)).heap.size := by rw [hN]; exact (Array.size_push _).symm
            rw [hs]; exact new_at _ _⟩
          rw [hw2]; exact h.bl ((Bl.refl _).drewN 1)
        have H2 : Hid (Bl wr w2 ∧ Iv w2 (N + 1) ⟨xd, xpc, xp, xn, xc⟩ ∧ Iv w2 N ⟨xd, ypc, yp, yn, yc⟩) := ⟨hb2, v1, v2⟩
        obtain ⟨g0, g1, g2, g3, g4, g5, g6, g7, g8, g9, g10, g11, g12⟩ := v1.facts
        obtain ⟨k0, k1, k2, k3, k4, k5, k6, k7, k8, k9, k10, k11, k12⟩ := v2.facts
        clear hw2 hN hb2 v1 v2
        simp only [] at g0 g1 g2 g3 g4 g5 g6 g7 g8 g9 g10 g11 g12 k0 k1 k2 k3 k4 k5 k6 k7 k8 k9 k10 k11 k12
        go_wp2_with fail
        refine (HC.out w2 H2.out.1).mono ?_
        rintro e w3 ⟨rfl, hb3⟩
        have HB3 : Hid (Bl wr w3) := H2.out.1.trans hb3
        have s1 := (H2.out.2.1.bl hb3).facts.2.2.2.2.2.2.2.2.2.2.2.2
        have s2 := (H2.out.2.2.bl hb3).facts.2.2.2.2.2.2.2.2.2.2.2.2
        simp only [] at s1 s2
        clear hb3
        go_wp2_with fail
        refine (HI.out w3 HB3.out).mono ?_
        rintro e w4 ⟨rfl, hb4⟩
        have HB4 : Hid (Bl w w4) := HB.out.trans (HB3.out.trans hb4)
        clear hb4
        go_wp2
        go_roundw
        case rel => exact ⟨j + 1, by omega, by go_num, HB4⟩
        case measure => simp [intOf]; omega
    · have d1 : decide ((j : Int) < (n : Int)) = false := decide_eq_false (by omega)
      go_wp2
      go_ret
      exact ⟨rfl, HB.out⟩
theorem rep_bl {w w' : World} {ok : Nat → Prop} {l : Its} {cs : List C} (h : Rep w ok l cs) (hb : Bl w w') : Rep w' ok l cs := h.keep (fun g _ hg => Below.block hb g hg) hb.size (Kx.bl hb)
theorem same_o (o : Option Ex) (p q : Option Addr) (w : World) (hx : IsO w p o) (hy : IsO w q o) : Calls Tryz.prog 37 #[.pointer p, .pointer q] w fun e w' => e = .returned (.bool true) ∧ Bl w w' := by
  cases o with
  | none =>
    obtain rfl : p = none := hx
    obtain rfl : q = none := hy
    exact (same_nil w).mono (by rintro e w' ⟨rfl, rfl⟩; exact ⟨rfl, Bl.refl _⟩)
  | some x =>
    exact (same_at x _ _ w hx hy).mono (by rintro e w' ⟨rfl, n, rfl⟩; exact ⟨rfl, (Bl.refl _).drewN n⟩)
theorem same_none {ok ok' : Nat → Prop} {p p' : Option Addr} {c c' : Nat} {w : World} (h : ir.Lie w ok p 0 c []) (h' : ir.Lie w ok' p' 0 c' []) : Calls Tryz.prog 12 #[.slice p 0 c, .slice p' 0 c'] w fun e w' => e = .returned (.bool true) ∧ Bl w w' :=
  same_step [] [] ok ok' p p' 0 c c' w h h' (by omega) (by intro j x y h; simp at h) (by intro j x y wx h; simp at h) (by intro j x y wx h; simp at h)
/-- Two rows of the same items are the same. -/
theorem same_items (k : Nat) : ∀ (l : Its) (ok ok' : Nat → Prop) (p p' : Option Addr) (n c c' : Nat) (cs cs' : List C) (w : World), WI k l → l.len ≤ 16 → n = l.len → ir.Lie w ok p n c cs → ir.Lie w ok' p' n c' cs' → Rep w ok l cs → Rep w ok' l cs' → Calls Tryz.prog 12 #[.slice p n c, .slice p' n c'] w fun e w' => e = .returned (.bool true) ∧ Bl w w' := by
  induction k with
  | zero =>
    intro l ok ok' p p' n c c' cs cs' w hW hl hn h1 h2 r1 r2
    have both : ∀ (j : Nat) (x y : C), cs[j]? = some x → cs'[j]? = some y → ∃ d s, l.ps[j]? = some (d, s) ∧ x.d = d ∧ y.d = d ∧ IsO w x.pc d.ct ∧ IsO w y.pc d.ct ∧ (∃ cs2, ir.Lie w ok x.p x.n x.c cs2 ∧ Rep w ok s cs2) ∧ (∃ cs2, ir.Lie w ok' y.p y.n y.c cs2 ∧ Rep w ok' s cs2) := by
      intro j x y hx hy
      have hj : j < l.len := by rw [← r1.len.1]; exact (List.getElem?_eq_some_iff.1 hx).1
      obtain ⟨x', d, s, a1, a2, a3, a4, a5⟩ := r1.at j hj
      obtain ⟨y', d', s', b1, b2, b3, b4, b5⟩ := r2.at j hj
      rw [hx] at a1; rw [hy] at b1
      obtain rfl := Option.some.inj a1
      obtain rfl := Option.some.inj b1
      rw [a2] at b2
      obtain ⟨rfl, rfl⟩ := Prod.mk.inj (Option.some.inj b2)
      exact ⟨d, s, a2, a3, b3, a4, b4, a5, b5⟩
    refine same_step cs cs' ok ok' p p' n c c' w h1 h2 (by omega) ?_ ?_ ?_
    · intro j x y hx hy
      obtain ⟨d, s, _, e1, e2, _⟩ := both j x y hx hy
      rw [e1, e2]
    · intro j x y wx hx hy hb
      obtain ⟨d, s, _, e1, e2, o1, o2, _⟩ := both j x y hx hy
      exact same_o d.ct x.pc y.pc wx (o1.keep (Kx.bl hb)) (o2.keep (Kx.bl hb))
    · intro j x y wx hx hy hb
      obtain ⟨d, s, hj, e1, e2, o1, o2, ⟨cs2, a1, a2⟩, ⟨cs3, b1, b2⟩⟩ := both j x y hx hy
      obtain ⟨_, w2, w3⟩ := hW.at j d s hj
      have hd4 : d.kd ≠ 4 := fun h => absurd (w3 h).1 (by omega)
      have hs := w2 hd4
      cases s with
      | cons _ _ _ => exact absurd hs (by simp [noSub])
      | nil =>
        obtain rfl : cs2 = [] := a2
        obtain rfl : cs3 = [] := b2
        have n1 : x.n = 0 := a1.1
        have n2 : y.n = 0 := b1.1
        rw [n1] at a1 ⊢
        rw [n2] at b1 ⊢
        exact same_none (lie_bl a1 hb) (lie_bl b1 hb)
  | succ k ih =>
    intro l ok ok' p p' n c c' cs cs' w hW hl hn h1 h2 r1 r2
    have both : ∀ (j : Nat) (x y : C), cs[j]? = some x → cs'[j]? = some y → ∃ d s, l.ps[j]? = some (d, s) ∧ x.d = d ∧ y.d = d ∧ IsO w x.pc d.ct ∧ IsO w y.pc d.ct ∧ (∃ cs2, ir.Lie w ok x.p x.n x.c cs2 ∧ Rep w ok s cs2) ∧ (∃ cs2, ir.Lie w ok' y.p y.n y.c cs2 ∧ Rep w ok' s cs2) := by
      intro j x y hx hy
      have hj : j < l.len := by rw [← r1.len.1]; exact (List.getElem?_eq_some_iff.1 hx).1
      obtain ⟨x', d, s, a1, a2, a3, a4, a5⟩ := r1.at j hj
      obtain ⟨y', d', s', b1, b2, b3, b4, b5⟩ := r2.at j hj
      rw [hx] at a1; rw [hy] at b1
      obtain rfl := Option.some.inj a1
      obtain rfl := Option.some.inj b1
      rw [a2] at b2
      obtain ⟨rfl, rfl⟩ := Prod.mk.inj (Option.some.inj b2)
      exact ⟨d, s, a2, a3, b3, a4, b4, a5, b5⟩
    refine same_step cs cs' ok ok' p p' n c c' w h1 h2 (by omega) ?_ ?_ ?_
    · intro j x y hx hy
      obtain ⟨d, s, _, e1, e2, _⟩ := both j x y hx hy
      rw [e1, e2]
    · intro j x y wx hx hy hb
      obtain ⟨d, s, _, e1, e2, o1, o2, _⟩ := both j x y hx hy
      exact same_o d.ct x.pc y.pc wx (o1.keep (Kx.bl hb)) (o2.keep (Kx.bl hb))
    · intro j x y wx hx hy hb
      obtain ⟨d, s, hj, e1, e2, o1, o2, ⟨cs2, a1, a2⟩, ⟨cs3, b1, b2⟩⟩ := both j x y hx hy
      obtain ⟨_, w2, w3⟩ := hW.at j d s hj
      have n1 : x.n = s.len := by rw [a1.1, a2.len.1]
      have n2 : y.n = s.len := by rw [b1.1, b2.len.1]
      rw [n1] at a1 ⊢
      rw [n2] at b1 ⊢
      by_cases hd4 : d.kd = 4
      · obtain ⟨_, hs16, hw⟩ := w3 hd4
        exact ih s ok ok' x.p y.p s.len x.c y.c cs2 cs3 wx hw hs16 rfl (lie_bl a1 hb) (lie_bl b1 hb) (rep_bl a2 hb) (rep_bl b2 hb)
      · have hs := w2 hd4
        cases s with
        | cons _ _ _ => exact absurd hs (by simp [noSub])
        | nil =>
          obtain rfl : cs2 = [] := a2
          obtain rfl : cs3 = [] := b2
          exact same_none (lie_bl a1 hb) (lie_bl b1 hb)
end Go.Proofs.YtpanodaecjlgaaaGreatDoor.tr
/- The document's text of items. -/
namespace Go.Proofs.YtpanodaecjlgaaaGreatDoor.tr
set_option linter.unusedVariables false
open Go.ChangeShapes Go.WideShapes Go.ChangeAt Go.RowKit Go.Shelf
open mem lx ex tm

theorem itx1_it (pad : List UInt8) (e : D × Its) : itx1 pad e = pad ++ [32, 32] ++ itT e.1 ++ [10] ++ (if e.1.kd = 4 then itx (pad ++ [32, 32]) e.2 ++ (pad ++ [32, 32]) ++ [125, 10] else []) := by
  unfold itx1 itT
  split <;> simp
theorem txO_le (pad : List UInt8) (e : D × Its) (hd : WD e.1) : (txO e.1.ct).length ≤ (itx1 pad e).length := by
  have key : (txO e.1.ct).length ≤ (itT e.1).length := by
    unfold itT
    rcases hd with h | h | h | h
    · rw [if_pos h.1]; simp; omega
    · rw [if_neg (by rw [h.1]; decide), paT, mnT, if_pos (Or.inr h.1)]; simp; omega
    · rw [if_neg (by rw [h.1]; decide)]
      rcases h.2.2.2.2.2.2.2.2.2 with ⟨m, _⟩ | ⟨_, m⟩
      · rw [paT, mnT, if_pos (Or.inl m)]; simp; omega
      · rw [m]; exact Nat.zero_le _
    · rw [if_neg (by rw [h.1]; decide)]
      rcases h.2.2.2.2 with ⟨m, _⟩ | ⟨_, m, _⟩
      · rw [paT, mnT, if_pos (Or.inl m)]; simp; omega
      · rw [m]; exact Nat.zero_le _
  rw [itx1_it]
  simp only [List.length_append]
  omega
theorem itT_le (pad : List UInt8) (e : D × Its) : (itT e.1).length ≤ (itx1 pad e).length := by
  rw [itx1_it]
  simp only [List.length_append]
  omega
set_option maxRecDepth 10000 in
set_option maxHeartbeats 4000000 in
theorem itx_step (k : Nat) (l : Its) (ok : Nat → Prop) (p : Option Addr) (n c : Nat) (cs : List C) (pad : List UInt8) (w : World) (hw : WI k l) (hlen : l.len ≤ 16) (hn : n = l.len) (hlie : ir.Lie w ok p n c cs) (hrep : Rep w ok l cs) (hp : pad.length ≤ 1000) (hl : (itx pad l).length ≤ 1000000)
    (cI : ∀ (j : Nat) (x : C) (s : Its) (wx : World), cs[j]? = some x → l.ps[j]? = some (x.d, s) → x.d.kd = 4 → Bl w wx → Calls Tryz.prog 41 #[.slice x.p x.n x.c, .string (tx (pad ++ [32, 32] ++ [32, 32]))] wx fun e w' => e = .returned (.string (tx (itx (pad ++ [32, 32]) s))) ∧ Bl wx w') :
    Calls Tryz.prog 41 #[.slice p n c, .string (tx (pad ++ [32, 32]))] w fun e w' => e = .returned (.string (tx (itx pad l))) ∧ Bl w w' := by
  obtain ⟨PS, hPS⟩ : ∃ PS, PS = tx (pad ++ [32, 32]) := ⟨_, rfl⟩
  have hPSs : PS.size ≤ 1002 := by rw [hPS, tx_size]; simp; omega
  have H0 : Hid (WI k l ∧ ir.Lie w ok p n c cs ∧ Rep w ok l cs ∧ (itx pad l).length ≤ 1000000 ∧ PS = tx (pad ++ [32, 32]) ∧ n = l.len) := ⟨hw, hlie, hrep, hl, hPS, hn⟩
  have hn16 : n ≤ 16 := by omega
  have HI : Hid (∀ (j : Nat) (x : C) (s : Its) (wx : World), cs[j]? = some x → l.ps[j]? = some (x.d, s) → x.d.kd = 4 → Bl w wx → Calls Tryz.prog 41 #[.slice x.p x.n x.c, .string (tx (pad ++ [32, 32] ++ [32, 32]))] wx fun e w' => e = .returned (.string (tx (itx (pad ++ [32, 32]) s))) ∧ Bl wx w') := cI
  rw [← hPS]
  clear hw hlie hrep hl hPS hn hlen cI
  go_enter Tryz.func41, Tryz.ntmps41
  go_wp2
  go_loopw [5, 10] (fun v i wr => ∃ j : Nat, j ≤ n ∧ i = .int .i64 (j : Int) ∧ v = .string (tx (pre1 pad l j)) ∧ Hid (Bl w wr)) (fun _ i _ => n - (intOf i).toNat)
  case atStart => exact ⟨0, Nat.zero_le _, rfl, rfl, Bl.refl _⟩
  case round =>
    obtain ⟨j, hj, rfl, rfl, HB⟩ := hrel
    by_cases hjn : j < n
    · have d1 : decide ((j : Int) < (n : Int)) = true := decide_eq_true (by omega)
      have i0 : (0 : Int) ≤ (j : Int) := by omega
      have i1 : (j : Int) < (n : Int) := by omega
      obtain ⟨x, d, s, e1, e2, e3, e4, cs2, e5, e6⟩ := H0.out.2.2.1.at j (by have := H0.out.2.2.2.2.2; omega)
      subst e3
      have hWD := (H0.out.1.at j x.d s e2).1
      have hst := pre1_step pad l j (x.d, s) e2
      have hle : (pre1 pad l j).length + (itx1 pad (x.d, s)).length ≤ 1000000 := by
        have h1 := pre1_len pad l (j + 1)
        rw [hst, List.length_append] at h1
        have := H0.out.2.2.2.1
        omega
      have hq1 : (itT x.d).length ≤ (itx1 pad (x.d, s)).length := itT_le pad (x.d, s)
      have hq2 : (txO x.d.ct).length ≤ (itx1 pad (x.d, s)).length := txO_le pad (x.d, s) hWD
      obtain ⟨X, rfl, _, g0', g⟩ := lie_at (lie_bl H0.out.2.1 HB.out) j x e1
      have g0 : wr.cell? (X.add (j * 13)) = some (.int .i64 (x.d.kd : Int)) := g0'
      clear g0'
      have g1 := g 1 _ rfl
      have g2 := g 2 _ rfl
      have g3 := g 3 _ rfl
      have g4 := g 4 _ rfl
      have g5 := g 5 _ rfl
      have g6 := g 6 _ rfl
      have g7 := g 7 _ rfl
      have g8 := g 8 _ rfl
      have g9 := g 9 _ rfl
      have g10 := g 10 _ rfl
      have g11 := g 11 _ rfl
      have g12 := g 12 _ rfl
      clear g
      obtain ⟨w3, hw3⟩ : ∃ w3, w3 = wr.alloc (.cells (cl x).toArray 75) := ⟨_, rfl⟩
      obtain ⟨M, hM⟩ : ∃ M, M = wr.heap.size := ⟨_, rfl⟩
      have hv3 : Iv w3 M x := ⟨by rw [hw3, hM]; exact new_at _ _⟩
      have hb3 : Bl wr w3 := by rw [hw3]; exact (Bl.refl _).alloc _
      have cT := itemText_at w3 x hWD (e4.keep (Kx.bl (HB.out.trans hb3))) (by omega)
      have H3 : Hid (Bl w w3 ∧ Iv w3 M x) := ⟨HB.out.trans hb3, hv3⟩
      obtain ⟨S, hS⟩ : ∃ S, S = tx (pre1 pad l j) := ⟨_, rfl⟩
      obtain ⟨T, hT⟩ : ∃ T, T = tx (itT x.d) := ⟨_, rfl⟩
      have hSs : S.size ≤ 1000000 := by rw [hS, tx_size]; omega
      have hTs : T.size ≤ 1000000 := by rw [hT, tx_size]; omega
      have HX : Hid (cs[j]? = some x ∧ l.ps[j]? = some (x.d, s)) := ⟨e1, e2⟩
      have HS : Hid (S = tx (pre1 pad l j) ∧ T = tx (itT x.d) ∧ pre1 pad l (j + 1) = pre1 pad l j ++ itx1 pad (x.d, s) ∧ (pre1 pad l j).length + (itx1 pad (x.d, s)).length ≤ 1000000) := ⟨hS, hT, hst, hle⟩
      rw [← hT] at cT
      rw [← hS]
      clear hS hT hst hle hq1 hq2 e1 e2 e4 e5 e6 hWD hv3 hb3
      go_upto_region 5 with fail
      change Code.wp _ _ _ _ (wr.alloc (.cells (cl x).toArray 75))
      rw [← hw3, ← hM]
      clear hw3 hM g0 g1 g2 g3 g4 g5 g6 g7 g8 g9 g10 g11 g12
      obtain ⟨g0, g1, g2, g3, g4, g5, g6, g7, g8, g9, g10, g11, g12⟩ := H3.out.2.facts
      unfold itV tm.cl at cT
      go_wp2_with fail
      refine cT.mono ?_
      rintro e w4 ⟨rfl, hb4⟩
      have H4 : Hid (Bl w w4 ∧ Iv w4 M x) := ⟨H3.out.1.trans hb4, H3.out.2.bl hb4⟩
      clear g0 g1 g2 g3 g4 g5 g6 g7 g8 g9 g10 g11 g12 hb4 cT
      obtain ⟨g0, _, _, _, _, _, _, _, _, _, _, _, g12⟩ := H4.out.2.facts
      by_cases h4 : x.d.kd = 4
      · rw [h4] at g0
        have cR := HI.out j x s w4 HX.out.1 HX.out.2 h4 H4.out.1
        have hPP : tx (pad ++ [32, 32] ++ [32, 32]) = PS ++ tx [32, 32] := by rw [H0.out.2.2.2.2.1, tx_cat]
        obtain ⟨R, hR⟩ : ∃ R, R = tx (itx (pad ++ [32, 32]) s) := ⟨_, rfl⟩
        have hRs : R.size ≤ 1000000 := by
          have := HS.out.2.2.2
          rw [itx1_it, if_pos h4] at this
          simp only [List.length_append] at this
          rw [hR, tx_size]; omega
        rw [hPP, ← hR] at cR
        have HE : Hid (S ++ (PS ++ T ++ tx [10]) ++ (R ++ PS ++ tx [125, 10]) = tx (pre1 pad l (j + 1))) := by
          show _ = _
          rw [HS.out.2.2.1, itx1_it, if_pos h4, HS.out.1, HS.out.2.1, hR, H0.out.2.2.2.2.1, tx_cat, tx_cat, tx_cat, tx_cat, tx_cat, tx_cat]
          simp
        clear hPP hR h4
        go_wp2_with fail
        refine Calls.mono cR ?_
        rintro e w5 ⟨rfl, hb5⟩
        have HB5 : Hid (Bl w w5) := H4.out.1.trans hb5
        clear hb5 g0 g12 cR
        go_wp2
        go_roundw
        case rel => exact ⟨j + 1, by omega, by go_num, by rw [← HE.out]; rfl, HB5⟩
        case measure => simp [intOf]; omega
      · have HE : Hid (S ++ (PS ++ T ++ tx [10]) = tx (pre1 pad l (j + 1))) := by
          show _ = _
          rw [HS.out.2.2.1, itx1_it, if_neg h4, HS.out.1, HS.out.2.1, H0.out.2.2.2.2.1, tx_cat, tx_cat, tx_cat]
          simp
        have q4 : decide ((x.d.kd : Int) = 4) = false := decide_eq_false (by omega)
        have HB4 : Hid (Bl w w4) := H4.out.1
        clear g12
        go_wp2
        go_roundw
        case rel => exact ⟨j + 1, by omega, by go_num, by rw [← HE.out]; rfl, HB4⟩
        case measure => simp [intOf]; omega
    · have d1 : decide ((j : Int) < (n : Int)) = false := decide_eq_false (by omega)
      have hE : Hid (tx (pre1 pad l j) = tx (itx pad l)) := by
        show _ = _
        rw [show j = l.len by have := H0.out.2.2.2.2.2; omega, pre1_all]
      go_wp2
      go_ret
      exact ⟨ret_tx hE.out, HB.out⟩
/-- The document's text of items. -/
theorem itemsText_at (k : Nat) : ∀ (l : Its) (ok : Nat → Prop) (p : Option Addr) (n c : Nat) (cs : List C) (pad : List UInt8) (w : World), WI k l → l.len ≤ 16 → n = l.len → ir.Lie w ok p n c cs → Rep w ok l cs → pad.length + 2 * k ≤ 1000 → (itx pad l).length ≤ 1000000 →
    Calls Tryz.prog 41 #[.slice p n c, .string (tx (pad ++ [32, 32]))] w fun e w' => e = .returned (.string (tx (itx pad l))) ∧ Bl w w' := by
  have low : ∀ (l : Its) (pad : List UInt8) (j : Nat) (d : D) (s : Its), l.ps[j]? = some (d, s) → d.kd = 4 → (itx (pad ++ [32, 32]) s).length ≤ (itx pad l).length := by
    intro l pad j d s hj h4
    have h1 := pre1_len pad l (j + 1)
    rw [pre1_step pad l j (d, s) hj, List.length_append, itx1_it, if_pos (show (d, s).1.kd = 4 from h4)] at h1
    simp only [List.length_append] at h1
    omega
  induction k with
  | zero =>
    intro l ok p n c cs pad w hW hl hn hlie hrep hp hz
    refine itx_step 0 l ok p n c cs pad w hW hl hn hlie hrep (by omega) hz ?_
    intro j x s wx hx hj h4 hb
    exact absurd ((hW.at j x.d s hj).2.2 h4).1 (by omega)
  | succ k ih =>
    intro l ok p n c cs pad w hW hl hn hlie hrep hp hz
    refine itx_step (k + 1) l ok p n c cs pad w hW hl hn hlie hrep (by omega) hz ?_
    intro j x s wx hx hj h4 hb
    obtain ⟨_, hs16, hw⟩ := (hW.at j x.d s hj).2.2 h4
    have hjl : j < l.len := by rw [← hrep.len.1]; exact (List.getElem?_eq_some_iff.1 hx).1
    obtain ⟨x', d', s', a1, a2, a3, a4, cs2, a5, a6⟩ := hrep.at j hjl
    rw [hx] at a1
    obtain rfl := Option.some.inj a1
    rw [hj] at a2
    obtain ⟨_, rfl⟩ := Prod.mk.inj (Option.some.inj a2)
    exact ih s ok x.p x.n x.c cs2 (pad ++ [32, 32]) wx hw hs16 (by rw [a5.1, a6.len.1]) (lie_bl a5 hb) (rep_bl a6 hb) (by simp; omega) (Nat.le_trans (low l pad j x.d s hj h4) hz)
end Go.Proofs.YtpanodaecjlgaaaGreatDoor.tr
/- The document's text of templates. -/
namespace Go.Proofs.YtpanodaecjlgaaaGreatDoor.tr
set_option linter.unusedVariables false
open Go.ChangeShapes Go.WideShapes Go.ChangeAt Go.RowKit Go.Shelf
open mem lx ex tm

set_option maxRecDepth 10000 in
set_option maxHeartbeats 4000000 in
theorem TPrint_at (l : List Ty) (v : Value) (w : World) (ok : Nat → Prop) (h : IsTs w ok v l) (hw : WT l) (hl : (ptxt l).length + 20 ≤ 1000000) :
    Calls Tryz.prog 14 #[v] w fun e w' => e = .returned (.string (tx (ptxt l))) ∧ Bl w w' := by
  obtain ⟨p, c, cs, rfl, h1, h2⟩ := h
  have h1 := h1.mono (ok' := fun g => g < w.heap.size) (fun g _ hg => hg)
  have h2 := h2.mono (ok' := fun g => g < w.heap.size) (fun g _ hg => hg)
  obtain ⟨n, hn⟩ : ∃ n, n = l.length := ⟨_, rfl⟩
  have hn8 : n ≤ 8 := by rw [hn]; exact hw.1
  have H1 : Hid (sr.Lie w (fun g => g < w.heap.size) p l.length c cs ∧ RepT w (fun g => g < w.heap.size) l cs ∧ WT l ∧ (ptxt l).length + 20 ≤ 1000000 ∧ n = l.length) := ⟨h1, h2, hw, hl, hn⟩
  rw [← hn]
  clear h1 h2 hn hw hl
  go_enter Tryz.func14, Tryz.ntmps14
  go_wp2
  go_loopw [3, 8] (fun v i wr => ∃ j : Nat, j ≤ n ∧ i = .int .i64 (j : Int) ∧ v = .string (tx (pre2 l j)) ∧ Hid (Bl w wr)) (fun _ i _ => n - (intOf i).toNat)
  case atStart => exact ⟨0, Nat.zero_le _, rfl, rfl, Bl.refl _⟩
  case round =>
    obtain ⟨j, hj, rfl, rfl, HB⟩ := hrel
    obtain ⟨Hlie, Hrep, HWT, Hl, Hn⟩ := H1.out
    by_cases hjn : j < n
    · have d1 : decide ((j : Int) < (n : Int)) = true := decide_eq_true (by omega)
      have i0 : (0 : Int) ≤ (j : Int) := by omega
      have i1 : (j : Int) < (n : Int) := by omega
      obtain ⟨x, t, e1, e2, e3, e4, cs2, e5, e6⟩ := Hrep.at j (by rw [← Hn]; exact hjn)
      obtain ⟨X, rfl, _, g0', g⟩ := lieT_at (lieT_low Hlie HB.out) j x e1
      have g0 : wr.cell? (X.add (j * 3)) = some (.string (tx x.nm)) := g0'
      clear g0'
      have g1 := g 1 _ rfl
      have g2 := g 2 _ rfl
      clear g e1
      obtain ⟨w3, hw3⟩ : ∃ w3, w3 = wr.alloc (.cells (clT x).toArray 36) := ⟨_, rfl⟩
      obtain ⟨M, hM⟩ : ∃ M, M = wr.heap.size := ⟨_, rfl⟩
      have hv3 : w3.heap[M]? = some (.cells (clT x).toArray 36 (0, 0)) := by rw [hw3, hM]; exact new_at _ _
      have hbl3 : Bl wr w3 := by rw [hw3]; exact (Bl.refl _).alloc _
      have hpl := pre2_len l (j + 1)
      have hst := pre2_step l j _ e2
      rw [hst, List.length_append] at hpl
      have hit : (tyx t).length = 7 + t.nm.length + 3 + (itx [] t.l).length + 2 := by
        unfold tyx
        simp only [List.length_append, List.length_cons, List.length_nil]
        rw [show wStruct.length = 6 from rfl]
      obtain ⟨t1, t2, t3⟩ := HWT.2 t (List.mem_of_getElem? e2)
      obtain ⟨NMs, hNM⟩ : ∃ NMs, NMs = tx x.nm := ⟨_, rfl⟩
      have hNMs : NMs.size ≤ 12 := by rw [hNM, tx_size, e3]; exact t1.2.2.1
      have hen : x.n = t.l.len := by rw [e5.1]; exact e6.len.1
      have e5' : ir.Lie w (fun g => g < w.heap.size) x.p t.l.len x.c cs2 := by rw [← hen]; exact e5
      obtain ⟨S, hS⟩ : ∃ S, S = tx (pre2 l j) := ⟨_, rfl⟩
      obtain ⟨R, hR⟩ : ∃ R, R = tx (itx [] t.l) := ⟨_, rfl⟩
      have hSs : S.size ≤ 1000000 := by rw [hS, tx_size]; omega
      have hRs : R.size ≤ 1000000 := by rw [hR, tx_size]; omega
      have cR : Hid (∀ wx, Bl w3 wx → Calls Tryz.prog 41 #[.slice x.p x.n x.c, .string ⟨#[32, 32]⟩] wx fun e w' => e = .returned (.string R) ∧ Bl wx w') := by
        intro wx hb
        have hb' := (HB.out.trans hbl3).trans hb
        rw [hen, hR]
        exact itemsText_at 7 t.l (fun g => g < w.heap.size) x.p t.l.len x.c cs2 [] wx t3 t2 rfl (lie_low e5' hb') (e6.low hb' (Kx.bl hb')) (by simp) (by omega)
      have HE : Hid (S ++ (tx (wStruct ++ [32]) ++ NMs ++ tx [32, 123, 10] ++ R ++ tx [125, 10]) = tx (pre2 l (j + 1))) := by
        show _ = _
        rw [hst, hS, hR, hNM, e3, tx_cat, tx_cat, tx_cat, tx_cat, tx_cat]
        unfold tyx
        simp
      have H3 : Hid (Bl w w3 ∧ w3.heap[M]? = some (.cells (clT x).toArray 36 (0, 0)) ∧ NMs = tx x.nm) := ⟨HB.out.trans hbl3, hv3, hNM⟩
      have hMs : M < w3.heap.size := lt_of_heap hv3
      have q0 : w3.drew.cell? ⟨M, 0, none⟩ = some (.string NMs) := by rw [cell_of (w := w3.drew) hv3, hNM]; rfl
      have q2 : w3.drew.cell? ⟨M, 2, none⟩ = some (.slice x.p x.n x.c) := by rw [cell_of (w := w3.drew) hv3]; rfl
      have HB3 : Hid (Bl w3 w3.drew) := (Bl.refl w3).drew
      have z1 : ¬ 9223372036854775807 < 7 + NMs.size := by omega
      have z2 : ¬ 9223372036854775807 < 7 + NMs.size + 3 := by omega
      have z3 : ¬ 9223372036854775807 < 7 + NMs.size + 3 + R.size := by omega
      have z4 : ¬ 9223372036854775807 < 7 + NMs.size + 3 + R.size + 2 := by omega
      have z5 : ¬ 9223372036854775807 < S.size + (7 + NMs.size + 3 + R.size + 2) := by omega
      rw [← hS]
      clear hpl hit hv3 hbl3 t1 t2 t3 e2 e3 e4 e5 e5' e6 Hlie Hrep HWT Hl hen Hn hNM hst hS hR
      go_upto_region 5 with fail
      change Code.wp _ _ _ _ (wr.alloc (.cells (clT x).toArray 36))
      rw [← hw3, ← hM]
      clear hw3 hM g0 g1 g2
      go_region_held3 (fun w' => w'.cell? ⟨M, 0, none⟩ = some (.string NMs) ∧ w'.cell? ⟨M, 2, none⟩ = some (.slice x.p x.n x.c)) (refine ⟨?_, ?_⟩ <;> first | assumption | exact at_bl ((Bl.refl _).drew) (by assumption))
        (first
          | (go_at_call 41; (with_reducible refine (cR.out _ HB3.out).mono ?_); rintro e w6 ⟨rfl, hb6⟩
             have HB6 : Hid (Bl w3 w6) := HB3.out.trans hb6
             have s0 : w6.cell? ⟨M, 0, none⟩ = some (.string NMs) := at_bl hb6 q0
             have s2 : w6.cell? ⟨M, 2, none⟩ = some (.slice x.p x.n x.c) := at_bl hb6 q2
             clear hb6))
      clear q0 q2 cR
      have HB9 : Hid (Bl w w6) := H3.out.1.trans HB6.out
      clear s0 s2
      go_wp2
      go_roundw
      case rel => exact ⟨j + 1, by omega, by go_num, by rw [← HE.out]; rfl, HB9⟩
      case measure => simp [intOf]; omega
    · obtain rfl : j = n := by omega
      have hE : Hid (tx (pre2 l j) = tx (ptxt l)) := by
        show _ = _
        rw [show j = l.length from Hn, pre2_all]
      clear H1 Hlie Hrep HWT Hl
      go_wp2
      go_ret
      exact ⟨ret_tx hE.out, HB.out⟩
end Go.Proofs.YtpanodaecjlgaaaGreatDoor.tr
/- The document's Lex. -/
namespace Go.Proofs.YtpanodaecjlgaaaGreatDoor.lx
set_option linter.unusedVariables false
open Go.ChangeShapes Go.WideShapes Go.ChangeAt Go.RowKit
open mem

theorem results_tmp_cell {fn : Func} {p u : Tmp} {ty : TypeId} (h : fn.results = #[.tmp u, .cell p ty]) (tmps : Array Value) (P : Program) (w : World) (B : Nat) (v : Value) (hp : tmps.getD p undef = .pointer (some ⟨B, 0, none⟩)) (hl : (loadVar ty ⟨B, 0, none⟩).run P w = .ok v w) :
    (results fn tmps).run P w = .ok (.tuple #[tmps.getD u undef, v]) w := by
  have hp' : tmps[p]?.getD undef = .pointer (some ⟨B, 0, none⟩) := by simpa using hp
  simp only [results, h]
  simp [Result.andThen, hp', asAddr, hl]
/-- The document's tokens, under way. -/
structure Rx (w wr : World) (N : Nat) (v : Value) (l : List Tk) : Prop where
  own : tr.Own wr (N + 1) v l
  bl : Bl w wr
  fv : wr.heap[N]? = some (.cells #[.int .i64 0, .int .i64 0] 26 (0, 0))
  n : N = w.heap.size
theorem Rx.step {w wr w' : World} {N : Nat} {v : Value} {l : List Tk} (h : Rx w wr N v l) (hb : Bl wr w') : Rx w w' N v l :=
  ⟨h.own.step hb, h.bl.trans hb, by rw [Below.block hb N (lt_of_heap h.fv)]; exact h.fv, h.n⟩
theorem Rx.app {w wr : World} {N : Nat} {v : Value} {l : List Tk} (h : Rx w wr N v l) (t : List UInt8) (a : Nat) (Z : ByteArray) (hZ : Z = tx t) (hl : l.length ≤ 3000) :
    ∃ v' w7, (Builtin.append_ #[45, 45] 45 #[v, .slice (some ⟨wr.heap.size, 0, none⟩) 1 1]).run Tryz.prog (wr.alloc (.cells #[.string Z, .int .i64 (a : Int)] 49)) = .ok v' w7 ∧ Rx w w7 N v' (l ++ [⟨t, a⟩]) := by
  have hb6 : Bl wr (wr.alloc (.cells #[.string Z, .int .i64 (a : Int)] 49)) := (Bl.refl _).alloc _
  have h6 := h.step hb6
  have hx6 := new_at wr (.cells #[.string Z, .int .i64 (a : Int)] 49)
  have hN := h.n
  obtain ⟨v', w7, hr, ho, hg⟩ := tr.app_one _ (N + 1) v l ⟨t, a⟩ wr.heap.size h6.own (by rw [cell_of hx6, hZ]; rfl) (by rw [cell_of hx6]; rfl) (by omega) (by have := lt_of_heap h6.fv; omega)
  have hne : ∀ x, v.ownBlock = some x → N + 1 ≤ x := fun x hx => (h6.own.block x hx).1
  refine ⟨v', w7, hr, ho, bl_grown h6.bl hg (fun x hx => by have := hne x hx; omega), ?_, hN⟩
  rw [hg.block N (lt_of_heap h6.fv) (fun e => by have := hne N e.symm; omega)]
  exact h6.fv
/-- Where it is: within a word, a remark, or between. -/
def Pz (s : List UInt8) (l : List Tk) (i : Nat) (wd : Int) (rm : Bool) : Prop :=
  ∃ R : List Tk × Option Nat, lx s 0 = (l ++ R.1, R.2) ∧ ((rm = true ∧ wd = -1 ∧ R = Rm s i) ∨ (rm = false ∧ wd = -1 ∧ R = lx (s.drop i) i) ∨
    (rm = false ∧ ∃ p : Nat, wd = (p : Int) ∧ p < i ∧ (∀ j, p ≤ j → (h : j < i) → ∃ c, s[j]? = some c ∧ isW c = true) ∧ R = lx (s.drop p) p))
theorem Pz.len {s : List UInt8} {l : List Tk} {i : Nat} {wd : Int} {rm : Bool} (h : Pz s l i wd rm) (hs : s.length ≤ 3000) : l.length ≤ 3000 := by
  obtain ⟨R, h1, _⟩ := h
  have h2 := lx_len s _ 0 (Nat.le_refl _)
  rw [h1] at h2
  simp only [List.length_append] at h2
  omega
theorem Pz.word {s : List UInt8} {l : List Tk} {i : Nat} {wd : Int} {c : UInt8} (h : Pz s l i wd false) (hc : s[i]? = some c) (hw : isW c = true) : Pz s l (i + 1) (if wd < 0 then (i : Int) else wd) false := by
  obtain ⟨R, h1, ⟨h2, _⟩ | ⟨_, rfl, rfl⟩ | ⟨_, p, rfl, hp, hall, rfl⟩⟩ := h
  · cases h2
  · refine ⟨_, h1, Or.inr (Or.inr ⟨rfl, i, by rw [if_pos (by decide)], by omega, fun j h3 h4 => ?_, rfl⟩)⟩
    obtain rfl : j = i := by omega
    exact ⟨c, hc, hw⟩
  · refine ⟨_, h1, Or.inr (Or.inr ⟨rfl, p, by rw [if_neg (by omega)], by omega, fun j h3 h4 => ?_, rfl⟩)⟩
    rcases Nat.lt_or_ge j i with h5 | h5
    · exact hall j h3 h5
    · obtain rfl : j = i := by omega
      exact ⟨c, hc, hw⟩
/-- A word's end. -/
theorem Pz.out {s : List UInt8} {l : List Tk} {i p : Nat} {rm : Bool} (h : Pz s l i (p : Int) rm) (hi : i ≤ s.length) (he : ∀ c, s[i]? = some c → isW c = false) : p < i ∧ Pz s (l ++ [⟨(s.take i).drop p, p⟩]) i (-1) false ∧ rm = false := by
  obtain ⟨R, h1, ⟨_, h2, _⟩ | ⟨_, h2, _⟩ | ⟨hrm, q, h2, hp, hall, rfl⟩⟩ := h
  · omega
  · omega
  · obtain rfl : p = q := by omega
    refine ⟨hp, ⟨lx (s.drop i) i, ?_, Or.inr (Or.inl ⟨rfl, rfl, rfl⟩)⟩, hrm⟩
    have := word_end s p i hp hi (fun j h3 h4 => by
      obtain ⟨c, h5, h6⟩ := hall j h3 h4
      obtain ⟨h7, h8⟩ := List.getElem?_eq_some_iff.1 h5
      rw [h8]; exact h6) he
    rw [h1, this]
    simp
theorem Pz.rm_out {s : List UInt8} {l : List Tk} {i : Nat} {wd : Int} (h : Pz s l i wd true) : wd = -1 := by
  obtain ⟨R, h1, ⟨_, h2, _⟩ | ⟨h2, _⟩ | ⟨h2, _⟩⟩ := h
  · exact h2
  · cases h2
  · cases h2
theorem Pz.rm_next {s : List UInt8} {l : List Tk} {i : Nat} {wd : Int} {c : UInt8} (h : Pz s l i wd true) (hc : s[i]? = some c) : Pz s l (i + 1) (-1) (!(c == 10)) := by
  obtain ⟨R, h1, ⟨_, h2, rfl⟩ | ⟨h2, _⟩ | ⟨h2, _⟩⟩ := h
  · by_cases h10 : c = 10
    · subst h10
      exact ⟨_, h1, Or.inr (Or.inl ⟨rfl, rfl, lx.rm_out s i hc⟩)⟩
    · refine ⟨_, h1, Or.inl ⟨by simpa using h10, rfl, rm_on s i c hc h10⟩⟩
  · cases h2
  · cases h2
theorem Pz.go {s : List UInt8} {l : List Tk} {i j : Nat} {rm : Bool} (h : Pz s l i (-1) false) (hj : lx (s.drop i) i = lx (s.drop j) j) : Pz s l j (-1) false := by
  obtain ⟨R, h1, ⟨h2, _⟩ | ⟨_, _, rfl⟩ | ⟨_, p, h2, _⟩⟩ := h
  · cases h2
  · exact ⟨_, h1, Or.inr (Or.inl ⟨rfl, rfl, hj⟩)⟩
  · omega
theorem Pz.rem {s : List UInt8} {l : List Tk} {i : Nat} (h : Pz s l i (-1) false) (hc : s[i]? = some 35) : Pz s l (i + 1) (-1) true := by
  obtain ⟨R, h1, ⟨h2, _⟩ | ⟨_, _, rfl⟩ | ⟨_, p, h2, _⟩⟩ := h
  · cases h2
  · exact ⟨_, h1, Or.inl ⟨rfl, rfl, by rw [rm_in s i hc, rm_on s i 35 hc (by decide)]⟩⟩
  · omega
theorem Pz.mark {s : List UInt8} {l : List Tk} {i n : Nat} (h : Pz s l i (-1) false) (hi : i < s.length) (hg : gap (s.drop i) = 0) (hn : tl (s.drop i) = n) (h0 : 0 < n) : i + n ≤ s.length ∧ Pz s (l ++ [⟨(s.take (i + n)).drop i, i⟩]) (i + n) (-1) false := by
  obtain ⟨R, h1, ⟨h2, _⟩ | ⟨_, _, rfl⟩ | ⟨_, p, h2, _⟩⟩ := h
  · cases h2
  · obtain ⟨g1, g2⟩ := lx_mark s i n hi hg hn h0
    refine ⟨g1, _, ?_, Or.inr (Or.inl ⟨rfl, rfl, rfl⟩)⟩
    rw [h1, g2]
    simp
  · omega
theorem Pz.bad {s : List UInt8} {l : List Tk} {i : Nat} (h : Pz s l i (-1) false) (hi : i < s.length) (hg : gap (s.drop i) = 0) (hn : tl (s.drop i) = 0) : (lx s 0).2 = some i := by
  obtain ⟨R, h1, ⟨h2, _⟩ | ⟨_, _, rfl⟩ | ⟨_, p, h2, _⟩⟩ := h
  · cases h2
  · rw [h1, lx_bad _ _ (fun e => by have := congrArg List.length e; rw [List.length_drop] at this; simp at this; omega) hg hn]
  · omega
theorem Pz.end_ {s : List UInt8} {l : List Tk} {i : Nat} {rm : Bool} (h : Pz s l i (-1) rm) (hi : s.length ≤ i) : lx s 0 = (l, none) := by
  obtain ⟨R, h1, ⟨_, _, rfl⟩ | ⟨_, _, rfl⟩ | ⟨_, p, h2, _⟩⟩ := h
  · rw [h1, rm_end s i hi]; simp
  · rw [h1, lx_end s i hi]; simp
  · omega
theorem Pz.kind {s : List UInt8} {l : List Tk} {i : Nat} {wd : Int} {rm : Bool} (h : Pz s l i wd rm) : wd = -1 ∨ ∃ p : Nat, wd = (p : Int) ∧ p < i := by
  obtain ⟨R, h1, ⟨_, h2, _⟩ | ⟨_, h2, _⟩ | ⟨_, p, h2, h3, _⟩⟩ := h
  · exact Or.inl h2
  · exact Or.inl h2
  · exact Or.inr ⟨p, h2, h3⟩
/-- What the document's Lex answers. -/
def RxAns (s : ByteArray) (w : World) (e : Ending) (w' : World) : Prop :=
  Bl w w' ∧ (((lx (L s) 0).2 = none ∧ ∃ v, e = .returned (.tuple #[v, flt 0 (-1)]) ∧ tr.Own w' w.heap.size v (lx (L s) 0).1) ∨
    ∃ p : Nat, (lx (L s) 0).2 = some p ∧ e = .returned (.tuple #[.slice none 0 0, flt 3 (p : Int)]))
end Go.Proofs.YtpanodaecjlgaaaGreatDoor.lx
/- The document's Lex: the walk. -/
namespace Go.Proofs.YtpanodaecjlgaaaGreatDoor.lx
set_option linter.unusedVariables false
open Go.ChangeShapes Go.WideShapes Go.ChangeAt Go.RowKit
open mem

/-- The fault's variable, set. -/
theorem Rx.told {w w3 : World} {N : Nat} {v : Value} {l : List Tk} (h : Rx w w3 N v l) (c p : Int) : ((w3.setCell ⟨N, 0, none⟩ (.int .i64 c)).setCell ⟨N, 1, none⟩ (.int .i64 p)).heap[N]? = some (.cells #[.int .i64 c, .int .i64 p] 26 (0, 0)) ∧ Bl w ((w3.setCell ⟨N, 0, none⟩ (.int .i64 c)).setCell ⟨N, 1, none⟩ (.int .i64 p)) ∧ tr.Own ((w3.setCell ⟨N, 0, none⟩ (.int .i64 c)).setCell ⟨N, 1, none⟩ (.int .i64 p)) w.heap.size v l := by
  have hn := h.n
  refine ⟨?_, (h.bl.setCell (by show w.heap.size ≤ N; omega) _).setCell (by show w.heap.size ≤ N; omega) _, ?_⟩
  · simp [World.setCell, Array.getElem?_modify, h.fv]
  · have hne : ∀ x, v.ownBlock = some x → N + 1 ≤ x := fun x hx => (h.own.block x hx).1
    refine tr.Own.low (base := N + 1) ?_ (by omega)
    refine (h.own.kept (grown_set _ _ _ _) ?_).kept (grown_set _ _ _ _) ?_
    · intro x hx e; injection e with e; have := hne x hx; omega
    · intro x hx e; injection e with e; have := hne x hx; omega
theorem or_yes (a b : Bool) (h : true = (a || b)) : a = true ∨ a = false ∧ b = true := by cases a <;> cases b <;> simp at h ⊢
theorem or_no (a b : Bool) (h : false = (a || b)) : a = false ∧ b = false := by cases a <;> cases b <;> simp at h ⊢
/-- Two bytes. -/
theorem two_at (s : List UInt8) (i : Nat) (c a b : UInt8) (h : s[i]? = some c) : [a, b].isPrefixOf (s.drop i) = (a == c && (s[i + 1]? == some b)) := by
  rw [drop_cons s i c h]
  cases h2 : s[i + 1]? with
  | none =>
    have : s.drop (i + 1) = [] := List.drop_of_length_le (by rw [List.getElem?_eq_none_iff] at h2; exact h2)
    rw [this]
    cases hac : (a == c) <;> simp [List.isPrefixOf, hac]
  | some d =>
    rw [drop_cons s (i + 1) d h2]
    have e : ((some d : Option UInt8) == some b) = (b == d) := by
      rw [Bool.eq_iff_iff, beq_iff_eq, beq_iff_eq, Option.some.injEq]
      exact eq_comm
    rw [e]
    show (a == c && (b == d && List.isPrefixOf [] (s.drop (i + 1 + 1)))) = _
    cases s.drop (i + 1 + 1) <;> simp [List.isPrefixOf]
theorem tl_two (s : List UInt8) (i : Nat) (c : UInt8) (h : s[i]? = some c) (h1 : isB c = false) (h2 : (c == 35) = false) (h3 : isW c = false) :
    gap (s.drop i) = 0 ∧ tl (s.drop i) = (if [61, 61].isPrefixOf (s.drop i) || [33, 61].isPrefixOf (s.drop i) then 2 else if isM c then 1 else 0) := by
  obtain ⟨g1, g2⟩ := mark_at s i c h h1 h2 h3
  refine ⟨g1, ?_⟩
  rw [g2, two_at s i c 61 61 h, two_at s i c 33 61 h, ← Bool.and_or_distrib_right]
  have e : (c == 61 || c == 33) = ((61 : UInt8) == c || (33 : UInt8) == c) := by
    rw [Bool.beq_comm (a := c) (b := 61), Bool.beq_comm (a := c) (b := 33)]
  rw [e]
theorem refLex_long (s : ByteArray) (w : World) (hs : 3000 < s.size) :
    Calls Tryz.prog 50 #[.string s] w fun e w' => e = .returned (.tuple #[.slice none 0 0, flt 4 (-1)]) ∧ Bl w w' := by
  have hn : 3000 < (s.size : Int) := by omega
  go_enter Tryz.func50, Tryz.ntmps50
  go_wp2
  exact bodyPost_ret (v := .tuple #[.slice none 0 0, flt 4 (-1)]) (results_tmp_cell (p := 3) (u := 2) (ty := 26) rfl _ _ _ w.heap.size (flt 4 (-1)) rfl (ldF _ _ _ _ (new_at w _))) rfl ⟨rfl, (Bl.refl _).alloc _⟩
set_option maxHeartbeats 4000000 in
set_option maxRecDepth 10000 in
theorem refLex_at (s : ByteArray) (w : World) (hs : s.size ≤ 3000) :
    Calls Tryz.prog 50 #[.string s] w fun e w' => RxAns s w e w' := by
  have hn : ¬ 3000 < (s.size : Int) := by omega
  have hL : (L s).length = s.size := L_len s
  have HL : Hid ((L s).length = s.size) := hL
  clear hL
  obtain ⟨w2, hw2⟩ : ∃ w2, w2 = w.alloc (.cells #[.int .i64 0, .int .i64 0] 26) := ⟨_, rfl⟩
  obtain ⟨N, hN⟩ : ∃ N, N = w.heap.size := ⟨_, rfl⟩
  have HC0 : Hid (Rx w w2 N (.slice none 0 0) []) := by
    refine ⟨tr.Own.nil _ _, by rw [hw2]; exact (Bl.refl _).alloc _, ?_, hN⟩
    rw [hw2, hN]; exact new_at w _
  have HP0 : Hid (Pz (L s) [] 0 (-1) false) := ⟨lx (L s) 0, by simp, Or.inr (Or.inl ⟨rfl, rfl, rfl⟩)⟩
  go_enter Tryz.func50, Tryz.ntmps50
  go_wp2_with fail
  rw [← hw2, ← hN]
  clear hw2 hN hn
  go_wp2
  go_loopw [4, 5, 6, 7] (fun v5 wv rv iv wr => ∃ (i : Nat) (wd : Int) (rm : Bool) (v : Value) (l : List Tk), v5 = v ∧ i ≤ s.size ∧ iv = .int .i64 (i : Int) ∧ wv = .int .i64 wd ∧ rv = .bool rm ∧ Hid (Rx w wr N v l ∧ Pz (L s) l i wd rm)) (fun _ _ _ iv _ => s.size + 1 - (intOf iv).toNat)
  case atStart => exact ⟨0, -1, false, _, _, rfl, Nat.zero_le _, rfl, rfl, rfl, HC0.out, HP0.out⟩
  case round =>
    clear HC0 HP0
    obtain ⟨i, wd, rm, v, l, rfl, hi, rfl, rfl, rfl, H⟩ := hrel
    have hll : l.length ≤ 3000 := H.out.2.len (by rw [HL.out]; exact hs)
    have d0 : decide ((i : Int) ≤ (s.size : Int)) = true := decide_eq_true (by omega)
    by_cases hin : i = s.size
    · subst hin
      have d1 : decide ((s.size : Int) < (s.size : Int)) = false := decide_eq_false (by omega)
      rcases H.out.2.kind with rfl | ⟨p, rfl, hp⟩
      · have HE : Hid (lx (L s) 0 = (l, none)) := H.out.2.end_ (by rw [HL.out]; omega)
        go_wp2_with fail
        refine (Good_at _).mono ?_
        rintro e w3 ⟨rfl, hb3⟩
        have HR : Hid (Rx w w3 N u4 l) := H.out.1.step hb3
        have c0 : w3.cell? ⟨N, 0, none⟩ = some (.int .i64 0) := by rw [cell_of HR.out.fv]; rfl
        have c1 : w3.cell? ⟨N, 1, none⟩ = some (.int .i64 0) := by rw [cell_of HR.out.fv]; rfl
        have z0 : w3.frozen? ⟨N, 0, none⟩ = false := by simp [World.frozen?, HR.out.fv]
        have z1 : w3.frozen? ⟨N, 1, none⟩ = false := by simp [World.frozen?, HR.out.fv]
        unfold flt
        go_wp2
        obtain ⟨q1, q2, q3⟩ := HR.out.told 0 (-1)
        exact bodyPost_ret (v := .tuple #[u4, flt 0 (-1)]) (results_tmp_cell (p := 3) (u := 2) (ty := 26) rfl _ _ _ N (flt 0 (-1)) rfl (ldF _ _ _ _ q1)) rfl ⟨q2, Or.inl ⟨by rw [HE.out], _, rfl, by rw [HE.out]; exact q3⟩⟩
      · have hpo := H.out.2.out (by rw [HL.out]; omega) (fun c hc => by rw [List.getElem?_eq_none (by rw [HL.out]; omega)] at hc; cases hc)
        obtain ⟨Z, hZ⟩ : ∃ Z, Z = s.extract p s.size := ⟨_, rfl⟩
        have hZ' : s.extract p s.size = Z := hZ.symm
        obtain ⟨v', w7, hr, hx⟩ := H.out.1.app (((L s).take s.size).drop p) p Z (by rw [hZ, ← L_ext, tx_L]) hll
        have HE : Hid (lx (L s) 0 = (l ++ [⟨((L s).take s.size).drop p, p⟩], none)) := hpo.2.1.end_ (by rw [HL.out]; omega)
        have HR : Hid _ := hr
        have HX : Hid _ := hx
        have hpi : p ≤ s.size := by omega
        clear hr hx hpo hZ
        go_wp2_with (at_builtin; refine Lib.wpList_append_run _ rfl (.tmp 46) (.tmp 53) _ _ rfl _ _ rfl rfl _ _ HR.out ?_)
        refine (Good_at _).mono ?_
        rintro e w3 ⟨rfl, hb3⟩
        have HR3 : Hid _ := HX.out.step hb3
        have c0 : w3.cell? ⟨N, 0, none⟩ = some (.int .i64 0) := by rw [cell_of HR3.out.fv]; rfl
        have c1 : w3.cell? ⟨N, 1, none⟩ = some (.int .i64 0) := by rw [cell_of HR3.out.fv]; rfl
        have z0 : w3.frozen? ⟨N, 0, none⟩ = false := by simp [World.frozen?, HR3.out.fv]
        have z1 : w3.frozen? ⟨N, 1, none⟩ = false := by simp [World.frozen?, HR3.out.fv]
        unfold flt
        go_wp2
        obtain ⟨q1, q2, q3⟩ := HR3.out.told 0 (-1)
        exact bodyPost_ret (v := .tuple #[v', flt 0 (-1)]) (results_tmp_cell (p := 3) (u := 2) (ty := 26) rfl _ _ _ N (flt 0 (-1)) rfl (ldF _ _ _ _ q1)) rfl ⟨q2, Or.inl ⟨by rw [HE.out], _, rfl, by rw [HE.out]; exact q3⟩⟩
    · have hlt : i < s.size := by omega
      have d1 : decide ((i : Int) < (s.size : Int)) = true := decide_eq_true (by omega)
      have d2 : ((i : Int) == (s.size : Int)) = false := by rw [beq_eq_false_iff_ne]; omega
      have e1 : (((s[i]'hlt).toNat : Nat) : Int) = sb s i := (sb_get s i hlt).symm
      have hc : (L s)[i]? = some (s[i]'hlt) := L_get s i hlt
      have hW : isW (s[i]'hlt) = (lt (sb s i) || dg (sb s i)) := by rw [sb_get s i hlt]; rfl
      obtain ⟨c, hcc⟩ : ∃ c, c = s[i]'hlt := ⟨_, rfl⟩
      have hx : sb s i = (c.toNat : Int) := by rw [hcc, sb_get s i hlt]
      rw [← hcc] at hc hW
      have HC : Hid ((L s)[i]? = some c ∧ sb s i = (c.toNat : Int)) := ⟨hc, hx⟩
      clear hc hx hcc hin
      cases rm with
      | true =>
        obtain rfl := H.out.2.rm_out
        have HN : Hid (Pz (L s) l (i + 1) (-1) (!(c == 10))) := H.out.2.rm_next HC.out.1
        have HX := HC.out.2
        generalize sb s i = x at *
        by_cases h10 : x = 10
        · have hc10 : c = 10 := UInt8.toNat_inj.1 (by have : (10 : UInt8).toNat = 10 := rfl; omega)
          subst h10 hc10
          clear hW HX
          go_wp2
          go_roundw
          case rel => exact ⟨i + 1, -1, false, _, l, rfl, by omega, by go_num, rfl, rfl, H.out.1, HN.out⟩
          case measure => simp [intOf]; omega
        · have n10 : (x == 10) = false := by rw [beq_eq_false_iff_ne]; exact h10
          have hc10 : (!(c == 10)) = true := by
            have : c ≠ 10 := by rintro rfl; exact h10 HX
            simpa using this
          rw [hc10] at HN
          clear h10 hW HX
          by_cases h35 : x = 35
          · subst h35
            go_wp2
            go_roundw
            case rel => exact ⟨i + 1, -1, true, _, l, rfl, by omega, by go_num, rfl, rfl, H.out.1, HN.out⟩
            case measure => simp [intOf]; omega
          · have n35 : (x == 35) = false := by rw [beq_eq_false_iff_ne]; exact h35
            clear h35
            go_wp2
            go_roundw
            case rel => exact ⟨i + 1, -1, true, _, l, rfl, by omega, by go_num, rfl, rfl, H.out.1, HN.out⟩
            case measure => simp [intOf]; omega
      | false =>
        have cL := refLetter_at (sb s i)
        have cD := refDigit_at (sb s i)
        by_cases hw : isW c = true
        · have HN : Hid (Pz (L s) l (i + 1) (if wd < 0 then (i : Int) else wd) false) := H.out.2.word HC.out.1 hw
          rw [hw] at hW
          have hor := or_yes _ _ hW
          clear hW hw
          rcases H.out.2.kind with rfl | ⟨p, rfl, hp⟩
          · rw [if_pos (by decide)] at HN
            rcases hor with h1 | ⟨h1, h2⟩
            · rw [h1] at cL
              clear h1
              go_wp2_with fail
              refine (cL _).mono ?_
              rintro e w3 ⟨rfl, rfl⟩
              go_wp2
              go_roundw
              case rel => exact ⟨i + 1, i, false, _, l, rfl, by omega, by go_num, rfl, rfl, H.out.1, HN.out⟩
              case measure => simp [intOf]; omega
            · rw [h1] at cL
              rw [h2] at cD
              clear h1 h2
              go_wp2_with fail
              refine (cL _).mono ?_
              rintro e w3 ⟨rfl, rfl⟩
              go_wp2_with fail
              refine (cD _).mono ?_
              rintro e w3 ⟨rfl, rfl⟩
              go_wp2
              go_roundw
              case rel => exact ⟨i + 1, i, false, _, l, rfl, by omega, by go_num, rfl, rfl, H.out.1, HN.out⟩
              case measure => simp [intOf]; omega
          · rw [if_neg (by omega)] at HN
            rcases hor with h1 | ⟨h1, h2⟩
            · rw [h1] at cL
              clear h1
              go_wp2_with fail
              refine (cL _).mono ?_
              rintro e w3 ⟨rfl, rfl⟩
              go_wp2
              go_roundw
              case rel => exact ⟨i + 1, p, false, _, l, rfl, by omega, by go_num, rfl, rfl, H.out.1, HN.out⟩
              case measure => simp [intOf]; omega
            · rw [h1] at cL
              rw [h2] at cD
              clear h1 h2
              go_wp2_with fail
              refine (cL _).mono ?_
              rintro e w3 ⟨rfl, rfl⟩
              go_wp2_with fail
              refine (cD _).mono ?_
              rintro e w3 ⟨rfl, rfl⟩
              go_wp2
              go_roundw
              case rel => exact ⟨i + 1, p, false, _, l, rfl, by omega, by go_num, rfl, rfl, H.out.1, HN.out⟩
              case measure => simp [intOf]; omega
        · rw [Bool.not_eq_true] at hw
          rw [hw] at hW
          obtain ⟨h1, h2⟩ := or_no _ _ hW
          rw [h1] at cL
          rw [h2] at cD
          clear hW h1 h2
          go_wp2_with fail
          refine (cL _).mono ?_
          rintro e w3 ⟨rfl, rfl⟩
          go_wp2_with fail
          refine (cD _).mono ?_
          rintro e w3 ⟨rfl, rfl⟩
          go_upto_if 45 with fail
          go_cut [4, 5] from 14 to 120 (fun v5 wv wc => ∃ (v : Value) (l : List Tk), v5 = v ∧ wv = .int .i64 (-1) ∧ l.length ≤ 3000 ∧ Hid (Rx w wc N v l ∧ Pz (L s) l i (-1) false))
          case first =>
            rcases H.out.2.kind with rfl | ⟨p, rfl, hp⟩
            · go_wp2_with fail
              go_meet
              case rel => exact ⟨_, l, rfl, rfl, hll, H.out⟩
            · have hpo := H.out.2.out (by rw [HL.out]; omega) (fun d hd => by rw [HC.out.1] at hd; injection hd with hd; rw [← hd]; exact hw)
              obtain ⟨Z, hZ⟩ : ∃ Z, Z = s.extract p i := ⟨_, rfl⟩
              have hZ' : s.extract p i = Z := hZ.symm
              obtain ⟨v', w7, hr, hx⟩ := H.out.1.app (((L s).take i).drop p) p Z (by rw [hZ, ← L_ext, tx_L]) hll
              have HP : Hid (Pz (L s) (l ++ [⟨((L s).take i).drop p, p⟩]) i (-1) false) := hpo.2.1
              have hlen := hpo.2.1.len (by rw [HL.out]; exact hs)
              have HR : Hid _ := hr
              have HX : Hid (Rx w w7 N v' (l ++ [⟨((L s).take i).drop p, p⟩])) := hx
              have hpi : p ≤ i := by omega
              clear hr hx hpo hZ
              go_wp2_with (at_builtin; refine Lib.wpList_append_run _ rfl (.tmp 46) (.tmp 53) _ _ rfl _ _ rfl rfl _ _ HR.out ?_)
              go_meet
              case rel => exact ⟨_, _, rfl, rfl, hlen, HX.out, HP.out⟩
          case rest =>
            clear cL cD H hll
            obtain ⟨v, l, rfl, rfl, hll, H⟩ := hcut
            have hx := HC.out.2
            have key : ∀ k : UInt8, sb s i = (k.toNat : Int) → c = k := fun k hk => UInt8.toNat_inj.1 (by omega)
            have HK : Hid (∀ k : UInt8, sb s i = (k.toNat : Int) → c = k) := key
            have HX : Hid (sb s i = (c.toNat : Int)) := hx
            clear key hx
            generalize sb s i = x at *
            by_cases hB : x = 10 ∨ x = 32 ∨ x = 9
            · have HN : Hid (Pz (L s) l (i + 1) (-1) false) := by
                refine H.out.2.go (rm := false) ?_
                rcases hB with h | h | h
                · exact lx_over _ i 10 (by rw [HC.out.1, HK.out 10 h]) rfl
                · exact lx_over _ i 32 (by rw [HC.out.1, HK.out 32 h]) rfl
                · exact lx_over _ i 9 (by rw [HC.out.1, HK.out 9 h]) rfl
              rcases hB with rfl | rfl | rfl
              all_goals
                go_wp2
                go_roundw
                case rel => exact ⟨i + 1, -1, false, _, l, rfl, by omega, by go_num, rfl, rfl, H.out.1, HN.out⟩
                case measure => simp [intOf]; omega
            · have n10 : (x == 10) = false := by rw [beq_eq_false_iff_ne]; omega
              have n32 : (x == 32) = false := by rw [beq_eq_false_iff_ne]; omega
              have n9 : (x == 9) = false := by rw [beq_eq_false_iff_ne]; omega
              by_cases h35 : x = 35
              · have HN : Hid (Pz (L s) l (i + 1) (-1) true) := H.out.2.rem (by rw [HC.out.1, HK.out 35 h35])
                subst h35
                clear hB
                go_wp2
                go_roundw
                case rel => exact ⟨i + 1, -1, true, _, l, rfl, by omega, by go_num, rfl, rfl, H.out.1, HN.out⟩
                case measure => simp [intOf]; omega
              · have n35 : (x == 35) = false := by rw [beq_eq_false_iff_ne]; exact h35
                have hB' : isB c = false := by
                  unfold isB
                  simp only [Bool.or_eq_false_iff, beq_eq_false_iff_ne]
                  refine ⟨⟨?_, ?_⟩, ?_⟩
                  · rintro rfl; exact hB (Or.inr (Or.inl HX.out))
                  · rintro rfl; exact hB (Or.inl HX.out)
                  · rintro rfl; exact hB (Or.inr (Or.inr HX.out))
                have h35' : (c == 35) = false := by
                  rw [beq_eq_false_iff_ne]; rintro rfl; exact h35 HX.out
                obtain ⟨hg, htl⟩ := tl_two (L s) i c HC.out.1 hB' h35' hw
                have HG : Hid (gap ((L s).drop i) = 0) := hg
                have cC := one_byte c
                have cE : ∀ w : World, Calls Tryz.prog 83 #[.string (s.extract i s.size), .string ⟨#[61, 61]⟩] w fun e w' => e = .returned (.bool ([61, 61].isPrefixOf ((L s).drop i))) ∧ w' = w := has_at s i [61, 61]
                have cN : ∀ w : World, Calls Tryz.prog 83 #[.string (s.extract i s.size), .string ⟨#[33, 61]⟩] w fun e w' => e = .returned (.bool ([33, 61].isPrefixOf ((L s).drop i))) ∧ w' = w := has_at s i [33, 61]
                have hex : s.extract i (i + 1) = ⟨#[c]⟩ := by
                  apply L_inj
                  rw [L_ext, List.take_add_one, HC.out.1, List.drop_append_of_le_length (by rw [List.length_take, HL.out]; omega), List.drop_of_length_le (by rw [List.length_take, HL.out]; omega)]
                  rfl
                have hB1 : [61, 61].isPrefixOf ((L s).drop i) = true → isM c = true := by
                  rw [two_at _ _ _ _ _ HC.out.1]
                  intro h
                  simp at h
                  rw [← h.1]; rfl
                clear hB h35 hB' h35' hw hg
                generalize [61, 61].isPrefixOf ((L s).drop i) = b1 at *
                generalize [33, 61].isPrefixOf ((L s).drop i) = b2 at *
                generalize isM c = b0 at *
                obtain ⟨T, hT⟩ : ∃ T, T = tl ((L s).drop i) := ⟨_, rfl⟩
                rw [← hT] at htl
                have hc := HC.out.1
                have hxs : i + 1 ≤ s.size := by omega
                cases b1 with
                | true =>
                  obtain rfl := hB1 rfl
                  simp only [Bool.true_or, if_true] at htl
                  have hm := H.out.2.mark (by rw [HL.out]; exact hlt) HG.out (hT.symm.trans htl) (by decide)
                  rw [HL.out] at hm
                  obtain ⟨Z, hZ⟩ : ∃ Z, Z = s.extract i (i + 2) := ⟨_, rfl⟩
                  have hZ' : s.extract i (i + 2) = Z := hZ.symm
                  obtain ⟨v', w7, hr, hx⟩ := H.out.1.app (((L s).take (i + 2)).drop i) i Z (by rw [hZ, ← L_ext, tx_L]) hll
                  have HN : Hid (Pz (L s) (l ++ [⟨((L s).take (i + 2)).drop i, i⟩]) (i + 2) (-1) false) := hm.2
                  have HX7 : Hid (Rx w w7 N v' (l ++ [⟨((L s).take (i + 2)).drop i, i⟩])) := hx
                  have HR : Hid _ := hr
                  have hin : i + 2 ≤ s.size := hm.1
                  clear hr hx hm hT htl hZ hc
                  go_wp2_with fail
                  refine (cC _).mono ?_
                  rintro e w4 ⟨rfl, rfl⟩
                  go_wp2_with fail
                  refine (cE _).mono ?_
                  rintro e w4 ⟨rfl, rfl⟩
                  go_wp2_with (at_builtin; refine Lib.wpList_append_run _ rfl (.tmp 106) (.tmp 115) _ _ rfl _ _ rfl rfl _ _ HR.out ?_)
                  go_roundw
                  case rel => exact ⟨i + 2, -1, false, _, _, rfl, hin, by go_num, rfl, rfl, HX7.out, HN.out⟩
                  case measure => simp [intOf]; omega
                | false =>
                  clear hB1
                  cases b2 with
                  | true =>
                    simp only [Bool.false_or, if_true] at htl
                    cases b0 with
                    | true =>
                      have hm := H.out.2.mark (by rw [HL.out]; exact hlt) HG.out (hT.symm.trans htl) (by decide)
                      rw [HL.out] at hm
                      obtain ⟨Z, hZ⟩ : ∃ Z, Z = s.extract i (i + 2) := ⟨_, rfl⟩
                      have hZ' : s.extract i (i + 2) = Z := hZ.symm
                      obtain ⟨v', w7, hr, hx⟩ := H.out.1.app (((L s).take (i + 2)).drop i) i Z (by rw [hZ, ← L_ext, tx_L]) hll
                      have HN : Hid (Pz (L s) (l ++ [⟨((L s).take (i + 2)).drop i, i⟩]) (i + 2) (-1) false) := hm.2
                      have HX7 : Hid (Rx w w7 N v' (l ++ [⟨((L s).take (i + 2)).drop i, i⟩])) := hx
                      have HR : Hid _ := hr
                      have hin : i + 2 ≤ s.size := hm.1
                      clear hr hx hm hT htl hZ hc
                      go_wp2_with fail
                      refine (cC _).mono ?_
                      rintro e w4 ⟨rfl, rfl⟩
                      go_wp2_with fail
                      refine (cE _).mono ?_
                      rintro e w4 ⟨rfl, rfl⟩
                      go_wp2_with fail
                      refine (cN _).mono ?_
                      rintro e w4 ⟨rfl, rfl⟩
                      go_wp2_with (at_builtin; refine Lib.wpList_append_run _ rfl (.tmp 106) (.tmp 115) _ _ rfl _ _ rfl rfl _ _ HR.out ?_)
                      go_roundw
                      case rel => exact ⟨i + 2, -1, false, _, _, rfl, hin, by go_num, rfl, rfl, HX7.out, HN.out⟩
                      case measure => simp [intOf]; omega

                    | false =>
                      have hm := H.out.2.mark (by rw [HL.out]; exact hlt) HG.out (hT.symm.trans htl) (by decide)
                      rw [HL.out] at hm
                      obtain ⟨Z, hZ⟩ : ∃ Z, Z = s.extract i (i + 2) := ⟨_, rfl⟩
                      have hZ' : s.extract i (i + 2) = Z := hZ.symm
                      obtain ⟨v', w7, hr, hx⟩ := H.out.1.app (((L s).take (i + 2)).drop i) i Z (by rw [hZ, ← L_ext, tx_L]) hll
                      have HN : Hid (Pz (L s) (l ++ [⟨((L s).take (i + 2)).drop i, i⟩]) (i + 2) (-1) false) := hm.2
                      have HX7 : Hid (Rx w w7 N v' (l ++ [⟨((L s).take (i + 2)).drop i, i⟩])) := hx
                      have HR : Hid _ := hr
                      have hin : i + 2 ≤ s.size := hm.1
                      clear hr hx hm hT htl hZ hc
                      go_wp2_with fail
                      refine (cC _).mono ?_
                      rintro e w4 ⟨rfl, rfl⟩
                      go_wp2_with fail
                      refine (cE _).mono ?_
                      rintro e w4 ⟨rfl, rfl⟩
                      go_wp2_with fail
                      refine (cN _).mono ?_
                      rintro e w4 ⟨rfl, rfl⟩
                      go_wp2_with (at_builtin; refine Lib.wpList_append_run _ rfl (.tmp 106) (.tmp 115) _ _ rfl _ _ rfl rfl _ _ HR.out ?_)
                      go_roundw
                      case rel => exact ⟨i + 2, -1, false, _, _, rfl, hin, by go_num, rfl, rfl, HX7.out, HN.out⟩
                      case measure => simp [intOf]; omega

                  | false =>
                    simp only [Bool.false_or, Bool.false_eq_true, if_false] at htl
                    cases b0 with
                    | true =>
                      simp only [if_true] at htl
                      have hm := H.out.2.mark (by rw [HL.out]; exact hlt) HG.out (hT.symm.trans htl) (by decide)
                      rw [HL.out] at hm
                      obtain ⟨v', w7, hr, hx⟩ := H.out.1.app (((L s).take (i + 1)).drop i) i ⟨#[c]⟩ (by rw [← hex, ← L_ext, tx_L]) hll
                      have HN : Hid (Pz (L s) (l ++ [⟨((L s).take (i + 1)).drop i, i⟩]) (i + 1) (-1) false) := hm.2
                      have HX7 : Hid (Rx w w7 N v' (l ++ [⟨((L s).take (i + 1)).drop i, i⟩])) := hx
                      have HR : Hid _ := hr
                      have hin : i + 1 ≤ s.size := hm.1
                      clear hr hx hm hT htl hc
                      go_wp2_with fail
                      refine (cC _).mono ?_
                      rintro e w4 ⟨rfl, rfl⟩
                      go_wp2_with fail
                      refine (cE _).mono ?_
                      rintro e w4 ⟨rfl, rfl⟩
                      go_wp2_with fail
                      refine (cN _).mono ?_
                      rintro e w4 ⟨rfl, rfl⟩
                      go_wp2_with (at_builtin; refine Lib.wpList_append_run _ rfl (.tmp 106) (.tmp 115) _ _ rfl _ _ rfl rfl _ _ HR.out ?_)
                      go_roundw
                      case rel => exact ⟨i + 1, -1, false, _, _, rfl, hin, by go_num, rfl, rfl, HX7.out, HN.out⟩
                      case measure => simp [intOf]; omega

                    | false =>
                      simp only [Bool.false_eq_true, if_false] at htl
                      have HBD : Hid ((lx (L s) 0).2 = some i) := H.out.2.bad (by rw [HL.out]; exact hlt) HG.out (hT.symm.trans htl)
                      have c0 : wc.cell? ⟨N, 0, none⟩ = some (.int .i64 0) := by rw [cell_of H.out.1.fv]; rfl
                      have c1 : wc.cell? ⟨N, 1, none⟩ = some (.int .i64 0) := by rw [cell_of H.out.1.fv]; rfl
                      have z0 : wc.frozen? ⟨N, 0, none⟩ = false := by simp [World.frozen?, H.out.1.fv]
                      have z1 : wc.frozen? ⟨N, 1, none⟩ = false := by simp [World.frozen?, H.out.1.fv]
                      clear hT htl hc
                      go_wp2_with fail
                      refine (cC _).mono ?_
                      rintro e w4 ⟨rfl, rfl⟩
                      go_wp2_with fail
                      refine (cE _).mono ?_
                      rintro e w4 ⟨rfl, rfl⟩
                      go_wp2_with fail
                      refine (cN _).mono ?_
                      rintro e w4 ⟨rfl, rfl⟩
                      go_wp2
                      obtain ⟨q1, q2, q3⟩ := H.out.1.told 3 (i : Int)
                      exact bodyPost_ret (v := .tuple #[.slice none 0 0, flt 3 (i : Int)]) (results_tmp_cell (p := 3) (u := 2) (ty := 26) rfl _ _ _ N (flt 3 (i : Int)) rfl (ldF _ _ _ _ q1)) rfl ⟨q2, Or.inr ⟨i, HBD.out, rfl⟩⟩
end Go.Proofs.YtpanodaecjlgaaaGreatDoor.lx
