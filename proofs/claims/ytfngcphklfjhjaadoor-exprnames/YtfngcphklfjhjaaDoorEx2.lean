/- What stands in brackets: inner of package expr. -/
import Derived.Test.YtfngcphklfjhjaaDoorEx1
import Derived.Test.YtfngcphklfjhjaaDoorDigs3
import Derived.Test.YtfngcphklfjhjaaDoorTellAt
namespace Go.Proofs.YtfngcphklfjhjaaDoor.ex
set_option linter.unusedVariables false
open Go.ChangeShapes Go.WideShapes Go.ChangeAt Go.RowKit
open mem lx

/-- The number that a token is. -/
noncomputable def nb (t : List UInt8) : Int × Int := (Classical.choose (digs.numbered_some (tx t)), Classical.choose (Classical.choose_spec (digs.numbered_some (tx t))))
theorem nb_is (t : List UInt8) : digs.Numbered (tx t) (nb t).1 (nb t).2 := Classical.choose_spec (Classical.choose_spec (digs.numbered_some (tx t)))
/-- An error that lies there. -/
def AtX (w : World) (B : Nat) (c p : Int) : Prop := w.heap[B]? = some (.cells #[.int .i64 c, .int .i64 p] 82 (0, 0))
/-- What reading answers. -/
def Rans (P en d : Nat) (w : World) (q : Res) (e : Ending) (w' : World) : Prop :=
  Gp P w w' ∧ match q with
  | .ok (x, r) => ∃ v, e = .returned v ∧ IsX w' v x ∧ Rd w' P r d en
  | .error (c, p) => ∃ B : Nat, e = thrown B ∧ w.heap.size ≤ B ∧ AtX w' B c (p : Int)
theorem Rd.deep {w : World} {P : Nat} {ts : List Tk} {d en : Nat} (h : Rd w P ts d en) (d' : Nat) : Rd (w.setCell ⟨P, 2, none⟩ (.int .i64 (d' : Int))) P ts d' en := by
  obtain ⟨p, c, h1, h2, h3, h4⟩ := h.ex
  have hs : (w.setCell ⟨P, 2, none⟩ (.int .i64 (d' : Int))).heap.size = w.heap.size := by simp [World.setCell]
  refine ⟨p, c, ?_, h2, In.gp h3 (Gp.set _) h4, fun x hx => by rw [hs]; exact h4 x hx⟩
  simp [World.setCell, Array.getElem?_modify, h1]
theorem Laid.gp {P : Nat} {w w' : World} (h : errs.Laid w) (hg : Gp P w w') (hP : 0 < P) : errs.Laid w' := by
  have hp := h.pos
  unfold errs.Laid World.cell? at h ⊢
  rw [hg.block _ hp (by show 0 ≠ P; omega)]
  exact h
theorem Rd.cells {w : World} {P : Nat} {ts : List Tk} {d en : Nat} (h : Rd w P ts d en) : w.cell? ⟨P, 2, none⟩ = some (.int .i64 (d : Int)) ∧ w.frozen? ⟨P, 2, none⟩ = false := by
  obtain ⟨p, c, h1, _⟩ := h.ex
  exact ⟨by rw [cell_of h1]; rfl, by simp [World.frozen?, h1]⟩
/-- What brackets come to. -/
def brk (en : Nat) (a : Nat) (d : Nat) (q1 : Res) : Res :=
  if d = 8 then .error (4, a) else match q1 with
  | .error e => .error e
  | .ok (x, r') => if (hd en r').t = [41] then .ok (x, r'.tail) else .error (3, (hd en r').a)
theorem brk_err {en a d : Nat} {e : Int × Nat} (h : ¬ d = 8) : brk en a d (.error e) = .error e := by unfold brk; rw [if_neg h]
theorem brk_yes {en a d : Nat} {x : Ex} {r : List Tk} (h : ¬ d = 8) (h2 : (hd en r).t = [41]) : brk en a d (.ok (x, r)) = .ok (x, r.tail) := by
  unfold brk; rw [if_neg h]; dsimp only; rw [if_pos h2]
theorem brk_no {en a d : Nat} {x : Ex} {r : List Tk} (h : ¬ d = 8) (h2 : ¬ (hd en r).t = [41]) : brk en a d (.ok (x, r)) = .error (3, (hd en r).a) := by
  unfold brk; rw [if_neg h]; dsimp only; rw [if_neg h2]
theorem AtX.of {w w' : World} {B : Nat} {c p : Int} (h : Thr w w' B c p) : w.heap.size ≤ B ∧ AtX w' B c p ∧ Bl w w' := h
set_option maxRecDepth 10000 in
theorem inner_at (P en : Nat) (t : Tk) (d : Nat) (ts : List Tk) (q1 : Res) (w : World) (hR : Rd w P ts d en) (hL : errs.Laid w) (hGP : 0 < P) (h8 : d ≤ 8) (hl : ts.length ≤ 3000)
    (hlen : d ≠ 8 → ∀ x r, q1 = .ok (x, r) → r.length ≤ 3000)
    (cR : d ≠ 8 → ∀ wx, Rd wx P ts (d + 1) en → errs.Laid wx → Calls Tryd.prog 35 #[.pointer (some ⟨P, 0, none⟩), .int .i64 1] wx fun e w' => Rans P en (d + 1) wx q1 e w') :
    Calls Tryd.prog 65 #[.pointer (some ⟨P, 0, none⟩), tkV t] w fun e w' => Rans P en d w (brk en t.a d q1) e w' := by
  have HR : Hid (Rd w P ts d en ∧ errs.Laid w) := ⟨hR, hL⟩
  have hP := hR.lt
  obtain ⟨c2, z2⟩ := hR.cells
  clear hR hL
  have hb1 : Bl w (w.alloc (.cells #[.string (tx t.t), .int .i64 (t.a : Int)] 35)) := (Bl.refl _).alloc _
  by_cases hd8 : d = 8
  · subst hd8
    have cA := at_at t 4
    unfold tkV at cA ⊢
    go_enter Tryd.func65, Tryd.ntmps65
    go_wp2_with fail
    refine (cA _).mono ?_
    rintro e w2 ⟨B, rfl, hthr⟩
    obtain ⟨k1, k2, k3⟩ := AtX.of hthr
    go_wp2
    refine ⟨rfl, (Gp.bl (hb1.trans k3)), ?_⟩
    show ∃ B, _
    exact ⟨B, rfl, Nat.le_trans hb1.size k1, k2⟩
  · have hne : ((d : Int) == 8) = false := by rw [beq_eq_false_iff_ne]; omega
    replace hlen := hlen hd8
    replace cR := cR hd8
    unfold tkV
    go_enter Tryd.func65, Tryd.ntmps65
    go_wp2_with fail
    obtain ⟨w1, hw1⟩ : ∃ w1, w1 = (w.setCell ⟨P, 2, none⟩ (.int .i64 ((d : Int) + 1))).alloc (.cells #[.string (tx t.t), .int .i64 (t.a : Int)] 35) := ⟨_, rfl⟩
    have hR1 : Rd w1 P ts (d + 1) en := by
      rw [hw1]
      have := HR.out.1.deep (d + 1)
      rw [show (((d + 1 : Nat) : Nat) : Int) = (d : Int) + 1 by omega] at this
      exact this.step ((Bl.refl _).alloc _)
    have hg1 : Gp P w w1 := by rw [hw1]; exact (Gp.set _).alloc _
    have hb1 : w.heap.size ≤ w1.heap.size := hg1.size
    rw [← hw1]
    clear hw1
    refine (cR w1 hR1 (Laid.gp HR.out.2 hg1 hGP)).mono ?_
    rintro e w2 ⟨hg2, hq⟩
    have hg02 := hg1.trans hg2
    cases q1 with
    | error cp =>
      obtain ⟨c, p⟩ := cp
      obtain ⟨B, rfl, h1, h2⟩ := hq
      unfold thrown
      go_wp2
      refine ⟨rfl, ?_⟩
      rw [brk_err hd8]
      exact ⟨hg02, B, rfl, Nat.le_trans hb1 h1, h2⟩
    | ok xr =>
      obtain ⟨x, r⟩ := xr
      obtain ⟨v, rfl, hx, hR2⟩ := hq
      have hrl := hlen x r rfl
      have cT := take_at w2 P r (d + 1) en hR2 (by omega)
      obtain ⟨T, hT⟩ : ∃ T, T = hd en r := ⟨_, rfl⟩
      rw [← hT] at cT
      have HT : Hid (T = hd en r) := hT
      have HX : Hid (IsX w2 v x ∧ Rd w2 P r (d + 1) en ∧ Gp P w w2) := ⟨hx, hR2, hg02⟩
      obtain ⟨vb, rfl, _⟩ := hx.ptr
      have cA := at_at T 3
      unfold tkV at cT cA
      clear hx hR2 hg02 hg1 hg2 hR1 cR HR c2 z2 hlen hT
      go_wp2_with fail
      refine cT.mono ?_
      rintro e w3 ⟨rfl, hR3, hg3⟩
      have hP3 := hR3.lt
      have HX3 : Hid (IsX w3 (.pointer (some ⟨vb, 0, none⟩)) x ∧ Gp P w w3) := by
        obtain ⟨cs, hcs⟩ := HX.out.2.1.is
        exact ⟨HX.out.1.keep (hg3.kx hcs), HX.out.2.2.trans hg3⟩
      obtain ⟨c2, z2⟩ := hR3.cells
      rw [show (((d + 1 : Nat) : Nat) : Int) = (d : Int) + 1 by omega] at c2
      have HR3 : Hid (Rd w3 P r.tail (d + 1) en) := hR3
      clear hR3 hg3 cT HX
      have htl := tl_tx T.t
      by_cases h41 : T.t = [41]
      · have HB : Hid (brk en t.a d (.ok (x, r)) = .ok (x, r.tail)) := brk_yes hd8 (by rw [← HT.out]; exact h41)
        have hb : (T.t == [41]) = true := by rw [beq_iff_eq]; exact h41
        have h41' : T.t = [41] := h41
        generalize tx T.t = S at *
        rw [h41] at htl
        clear h41 h41' hb cA
        go_wp2
        go_ret
        rw [HB.out]
        have hg9 : Gp P w3 ((w3.setCell ⟨P, 2, none⟩ (.int .i64 (d : Int))).alloc (.cells #[.string S, .int .i64 (T.a : Int)] 35)) := (Gp.set _).alloc _
        obtain ⟨cs, hcs⟩ := HR3.out.is
        exact ⟨HX3.out.2.trans hg9, _, rfl, HX3.out.1.keep (hg9.kx hcs), (HR3.out.deep d).step ((Bl.refl _).alloc _)⟩
      · have HB : Hid (brk en t.a d (.ok (x, r)) = .error (3, T.a)) := by rw [HT.out]; exact brk_no hd8 (by rw [← HT.out]; exact h41)
        have hb : (T.t == [41]) = false := by rw [beq_eq_false_iff_ne]; exact h41
        clear h41
        go_wp2_with fail
        refine (cA _).mono ?_
        rintro e w4 ⟨B, rfl, hthr⟩
        obtain ⟨k1, k2, k3⟩ := AtX.of hthr
        have hb4 : Bl w3 w4 := ((Bl.refl _).alloc _).trans k3
        have hs4 : w3.heap.size ≤ B := Nat.le_trans (((Bl.refl w3).alloc (.cells #[.string (tx T.t), .int .i64 (T.a : Int)] 35)).size) k1
        go_wp2
        refine ⟨rfl, ?_⟩
        rw [HB.out]
        exact ⟨HX3.out.2.trans (Gp.bl hb4), B, rfl, Nat.le_trans HX3.out.2.size hs4, k2⟩
end Go.Proofs.YtfngcphklfjhjaaDoor.ex
