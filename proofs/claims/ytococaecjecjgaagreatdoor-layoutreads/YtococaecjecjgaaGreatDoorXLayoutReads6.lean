/- Texts laid together: Ex2, Ex3, Ex4, Ex5, Ex7. -/
import Derived.Test.YtococaecjecjgaaGreatDoorXLayoutReads4
import Derived.Test.YtococaecjecjgaaGreatDoorXLayoutReads5
import Derived.Deep.Cut
import Derived.RegionCalls
import Derived.Deep.RegionHeld3
import Derived.Test.YtococaecjecjgaaGreatDoorXLayoutReads2
/- What stands in brackets: inner of package expr. -/
namespace Go.Proofs.YtococaecjecjgaaGreatDoor.ex
set_option linter.unusedVariables false
open Go.ChangeShapes Go.WideShapes Go.ChangeAt Go.RowKit
open mem lx

/-- The number that a token is. -/
noncomputable def nb (t : List UInt8) : Int × Int := (Classical.choose (digs.numbered_some (tx t)), Classical.choose (Classical.choose_spec (digs.numbered_some (tx t))))
theorem nb_is (t : List UInt8) : digs.Numbered (tx t) (nb t).1 (nb t).2 := Classical.choose_spec (Classical.choose_spec (digs.numbered_some (tx t)))
/-- An error that lies there. -/
def AtX (w : World) (B : Nat) (c p : Int) : Prop := w.heap[B]? = some (.cells #[.int .i64 c, .int .i64 p] 116 (0, 0))
/-- What reading answers. -/
def Rans (P en d : Nat) (w : World) (q : Res) (e : Ending) (w' : World) : Prop :=
  Gp P w w' ∧ match q with
  | .ok (x, r) => ∃ v, e = .returned v ∧ IsX w' v x ∧ Rd w' P r d en
  | .error (c, p) => ∃ B : Nat, e = thrown B ∧ w.heap.size ≤ B ∧ AtX w' B c (p : Int)
theorem Rd.deep {w : World} {P : Nat} {ts : List Tk} {d en : Nat} (h : Rd w P ts d en) (d' : Nat) : Rd (w.setCell ⟨P, 2, none⟩ (.int .i64 (d' : Int))) P ts d' en := by
  obtain ⟨p, c, h1, h2, h3, h4⟩ := h.ex
  have hs : (w.setCell ⟨P, 2, none⟩ (.int .i64 (d' : Int))).heap.size = w.heap.size := by simp [World.setCell]
  refine ⟨p, c, ?_, h2, In.gp h3 (Gp.set _) h4, fun x hx => by rw [hs]; exact h4 x hx⟩
  simp [World.setCell, Array.getElem?_modify, h1]
theorem Laid.gp {P : Nat} {w w' : World} (h : errs.Laid w) (hg : Gp P w w') (hP : 1 < P) : errs.Laid w' := by
  have hp := h.pos
  unfold errs.Laid World.cell? at h ⊢
  rw [hg.block _ hp (by show 1 ≠ P; omega)]
  exact h
theorem Rd.cells {w : World} {P : Nat} {ts : List Tk} {d en : Nat} (h : Rd w P ts d en) : w.cell? ⟨P, 2, none⟩ = some (.int .i64 (d : Int)) ∧ w.frozen? ⟨P, 2, none⟩ = false := by
  obtain ⟨p, c, h1, _⟩ := h.ex
  exact ⟨by rw [cell_of h1]; rfl, by simp [World.frozen?, h1]⟩
/-- What brackets come to. -/
def brk (en : Nat) (a : Nat) (d : Nat) (q1 : Res) : Res :=
  if d = 8 then .error (4, a) else match q1 with
  | .error e => .error e
  | .ok (x, r') => if (hd en r').t = [41] then .ok (x, r'.tail) else .error (3, (hd en r').a)
theorem brk_err {en a d : Nat} {e : Int × Nat} (h : ¬ d = 8) : brk en a d (.error e) = .error e := by unfold brk; rw [if_neg h]
theorem brk_yes {en a d : Nat} {x : Ex} {r : List Tk} (h : ¬ d = 8) (h2 : (hd en r).t = [41]) : brk en a d (.ok (x, r)) = .ok (x, r.tail) := by
  unfold brk; rw [if_neg h]; dsimp only; rw [if_pos h2]
theorem brk_no {en a d : Nat} {x : Ex} {r : List Tk} (h : ¬ d = 8) (h2 : ¬ (hd en r).t = [41]) : brk en a d (.ok (x, r)) = .error (3, (hd en r).a) := by
  unfold brk; rw [if_neg h]; dsimp only; rw [if_neg h2]
theorem AtX.of {w w' : World} {B : Nat} {c p : Int} (h : Thr w w' B c p) : w.heap.size ≤ B ∧ AtX w' B c p ∧ Bl w w' := h
set_option maxRecDepth 10000 in
theorem inner_at (P en : Nat) (t : Tk) (d : Nat) (ts : List Tk) (q1 : Res) (w : World) (hR : Rd w P ts d en) (hL : errs.Laid w) (hGP : 1 < P) (h8 : d ≤ 8) (hl : ts.length ≤ 3000)
    (hlen : d ≠ 8 → ∀ x r, q1 = .ok (x, r) → r.length ≤ 3000)
    (cR : d ≠ 8 → ∀ wx, Rd wx P ts (d + 1) en → errs.Laid wx → Calls Tryz.prog 192 #[.pointer (some ⟨P, 0, none⟩), .int .i64 1] wx fun e w' => Rans P en (d + 1) wx q1 e w') :
    Calls Tryz.prog 214 #[.pointer (some ⟨P, 0, none⟩), tkV t] w fun e w' => Rans P en d w (brk en t.a d q1) e w' := by
  have HR : Hid (Rd w P ts d en ∧ errs.Laid w) := ⟨hR, hL⟩
  have hP := hR.lt
  obtain ⟨c2, z2⟩ := hR.cells
  clear hR hL
  have hb1 : Bl w (w.alloc (.cells #[.string (tx t.t), .int .i64 (t.a : Int)] 145)) := (Bl.refl _).alloc _
  by_cases hd8 : d = 8
  · subst hd8
    have cA := at_at t 4
    unfold tkV at cA ⊢
    go_enter Tryz.func214, Tryz.ntmps214
    go_wp2_with fail
    refine (cA _).mono ?_
    rintro e w2 ⟨B, rfl, hthr⟩
    obtain ⟨k1, k2, k3⟩ := AtX.of hthr
    go_wp2
    refine ⟨rfl, (Gp.bl (hb1.trans k3)), ?_⟩
    show ∃ B, _
    exact ⟨B, rfl, Nat.le_trans hb1.size k1, k2⟩
  · have hne : ((d : Int) == 8) = false := by rw [beq_eq_false_iff_ne]; omega
    replace hlen := hlen hd8
    replace cR := cR hd8
    unfold tkV
    go_enter Tryz.func214, Tryz.ntmps214
    go_wp2_with fail
    obtain ⟨w1, hw1⟩ : ∃ w1, w1 = (w.setCell ⟨P, 2, none⟩ (.int .i64 ((d : Int) + 1))).alloc (.cells #[.string (tx t.t), .int .i64 (t.a : Int)] 145) := ⟨_, rfl⟩
    have hR1 : Rd w1 P ts (d + 1) en := by
      rw [hw1]
      have := HR.out.1.deep (d + 1)
      rw [show (((d + 1 : Nat) : Nat) : Int) = (d : Int) + 1 by omega] at this
      exact this.step ((Bl.refl _).alloc _)
    have hg1 : Gp P w w1 := by rw [hw1]; exact (Gp.set _).alloc _
    have hb1 : w.heap.size ≤ w1.heap.size := hg1.size
    rw [← hw1]
    clear hw1
    refine (cR w1 hR1 (Laid.gp HR.out.2 hg1 hGP)).mono ?_
    rintro e w2 ⟨hg2, hq⟩
    have hg02 := hg1.trans hg2
    cases q1 with
    | error cp =>
      obtain ⟨c, p⟩ := cp
      obtain ⟨B, rfl, h1, h2⟩ := hq
      unfold thrown
      go_wp2
      refine ⟨rfl, ?_⟩
      rw [brk_err hd8]
      exact ⟨hg02, B, rfl, Nat.le_trans hb1 h1, h2⟩
    | ok xr =>
      obtain ⟨x, r⟩ := xr
      obtain ⟨v, rfl, hx, hR2⟩ := hq
      have hrl := hlen x r rfl
      have cT := take_at w2 P r (d + 1) en hR2 (by omega)
      obtain ⟨T, hT⟩ : ∃ T, T = hd en r := ⟨_, rfl⟩
      rw [← hT] at cT
      have HT : Hid (T = hd en r) := hT
      have HX : Hid (IsX w2 v x ∧ Rd w2 P r (d + 1) en ∧ Gp P w w2) := ⟨hx, hR2, hg02⟩
      obtain ⟨vb, rfl, _⟩ := hx.ptr
      have cA := at_at T 3
      unfold tkV at cT cA
      clear hx hR2 hg02 hg1 hg2 hR1 cR HR c2 z2 hlen hT
      go_wp2_with fail
      refine cT.mono ?_
      rintro e w3 ⟨rfl, hR3, hg3⟩
      have hP3 := hR3.lt
      have HX3 : Hid (IsX w3 (.pointer (some ⟨vb, 0, none⟩)) x ∧ Gp P w w3) := by
        obtain ⟨cs, hcs⟩ := HX.out.2.1.is
        exact ⟨HX.out.1.keep (hg3.kx hcs), HX.out.2.2.trans hg3⟩
      obtain ⟨c2, z2⟩ := hR3.cells
      rw [show (((d + 1 : Nat) : Nat) : Int) = (d : Int) + 1 by omega] at c2
      have HR3 : Hid (Rd w3 P r.tail (d + 1) en) := hR3
      clear hR3 hg3 cT HX
      have htl := tl_tx T.t
      by_cases h41 : T.t = [41]
      · have HB : Hid (brk en t.a d (.ok (x, r)) = .ok (x, r.tail)) := brk_yes hd8 (by rw [← HT.out]; exact h41)
        have hb : (T.t == [41]) = true := by rw [beq_iff_eq]; exact h41
        have h41' : T.t = [41] := h41
        generalize tx T.t = S at *
        rw [h41] at htl
        clear h41 h41' hb cA
        go_wp2
        go_ret
        rw [HB.out]
        have hg9 : Gp P w3 ((w3.setCell ⟨P, 2, none⟩ (.int .i64 (d : Int))).alloc (.cells #[.string S, .int .i64 (T.a : Int)] 145)) := (Gp.set _).alloc _
        obtain ⟨cs, hcs⟩ := HR3.out.is
        exact ⟨HX3.out.2.trans hg9, _, rfl, HX3.out.1.keep (hg9.kx hcs), (HR3.out.deep d).step ((Bl.refl _).alloc _)⟩
      · have HB : Hid (brk en t.a d (.ok (x, r)) = .error (3, T.a)) := by rw [HT.out]; exact brk_no hd8 (by rw [← HT.out]; exact h41)
        have hb : (T.t == [41]) = false := by rw [beq_eq_false_iff_ne]; exact h41
        clear h41
        go_wp2_with fail
        refine (cA _).mono ?_
        rintro e w4 ⟨B, rfl, hthr⟩
        obtain ⟨k1, k2, k3⟩ := AtX.of hthr
        have hb4 : Bl w3 w4 := ((Bl.refl _).alloc _).trans k3
        have hs4 : w3.heap.size ≤ B := Nat.le_trans (((Bl.refl w3).alloc (.cells #[.string (tx T.t), .int .i64 (T.a : Int)] 145)).size) k1
        go_wp2
        refine ⟨rfl, ?_⟩
        rw [HB.out]
        exact ⟨HX3.out.2.trans (Gp.bl hb4), B, rfl, Nat.le_trans HX3.out.2.size hs4, k2⟩
end Go.Proofs.YtococaecjecjgaaGreatDoor.ex
/- A number, a name, or what stands in brackets: one of package expr. -/
namespace Go.Proofs.YtococaecjecjgaaGreatDoor.ex
set_option linter.unusedVariables false
open Go.ChangeShapes Go.WideShapes Go.ChangeAt Go.RowKit
open mem lx

theorem isN_nmb (t : List UInt8) : nmb t = isN t := rfl
theorem two_new (w : World) (o o2 : Obj) : ((w.alloc o).alloc o2).heap[w.heap.size + 1]? = some o2 := by
  have h := new_at (w.alloc o) o2
  have hs : (w.alloc o).heap.size = w.heap.size + 1 := by simp
  rw [hs] at h
  exact h
theorem one_is {f d en : Nat} {ts : List Tk} {q : Res} (hq : one nb en (f + 1) d ts = some q) :
    (isN (hd en ts).t = true → q = if 12 < (hd en ts).t.length then .error (4, (hd en ts).a) else .ok (.nam (hd en ts).a (hd en ts).t, ts.tail)) ∧
    (isN (hd en ts).t = false → isU (hd en ts).t = true → q = if (nb (hd en ts).t).2 = 0 then .ok (.num (hd en ts).a (nb (hd en ts).t).1, ts.tail) else .error ((nb (hd en ts).t).2, (hd en ts).a)) ∧
    (isN (hd en ts).t = false → isU (hd en ts).t = false → (hd en ts).t = [40] → ∃ q1, (d = 8 ∨ row nb en f 1 (d + 1) ts.tail = some q1) ∧ q = brk en (hd en ts).a d q1) ∧
    (isN (hd en ts).t = false → isU (hd en ts).t = false → ¬ (hd en ts).t = [40] → q = .error (3, (hd en ts).a)) := by
  cases ts with
  | nil =>
    rw [one] at hq
    injection hq with hq
    refine ⟨fun h => ?_, fun _ h => ?_, fun _ _ h => ?_, fun _ _ _ => hq.symm⟩
    · exact absurd h (by show ¬ isN [] = true; decide)
    · exact absurd h (by show ¬ isU [] = true; decide)
    · exact absurd h (by show ¬ ([] : List UInt8) = [40]; decide)
  | cons t r =>
    rw [show hd en (t :: r) = t from rfl, show (t :: r).tail = r from rfl]
    rw [one] at hq
    refine ⟨fun h1 => ?_, fun h1 h2 => ?_, fun h1 h2 h3 => ?_, fun h1 h2 h3 => ?_⟩
    · rw [if_pos h1] at hq
      split at hq
      · rename_i h; rw [if_pos h]; injection hq with hq; exact hq.symm
      · rename_i h; rw [if_neg h]; injection hq with hq; exact hq.symm
    · rw [if_neg (by rw [h1]; decide), if_pos h2] at hq
      split at hq
      · rename_i h; rw [if_pos h]; injection hq with hq; exact hq.symm
      · rename_i h; rw [if_neg h]; injection hq with hq; exact hq.symm
    · rw [if_neg (by rw [h1]; decide), if_neg (by rw [h2]; decide), if_pos h3] at hq
      split at hq
      · rename_i h8
        injection hq with hq
        exact ⟨.error (0, 0), Or.inl h8, by unfold brk; rw [if_pos h8]; exact hq.symm⟩
      · rename_i h8
        split at hq
        · cases hq
        · rename_i e hr
          injection hq with hq
          exact ⟨_, Or.inr hr, by rw [brk_err h8]; exact hq.symm⟩
        · rename_i x r' hr
          split at hq
          · rename_i h5
            injection hq with hq
            exact ⟨_, Or.inr hr, by rw [brk_yes h8 h5]; exact hq.symm⟩
          · rename_i h5
            injection hq with hq
            exact ⟨_, Or.inr hr, by rw [brk_no h8 h5]; exact hq.symm⟩
    · rw [if_neg (by rw [h1]; decide), if_neg (by rw [h2]; decide), if_neg h3] at hq
      injection hq with hq
      exact hq.symm
set_option maxRecDepth 10000 in
set_option maxHeartbeats 1000000 in
theorem one_at (f P en : Nat) (d : Nat) (ts : List Tk) (q : Res) (w : World) (hR : Rd w P ts d en) (hL : errs.Laid w) (hGP : 1 < P) (h8 : d ≤ 8) (hl : ts.length ≤ 3000) (hz : ∀ t ∈ ts, t.t.length ≤ 3000)
    (hq : one nb en (f + 1) d ts = some q)
    (cR : ∀ (q1 : Res) (d : Nat) (ts : List Tk) wx, Rd wx P ts d en → errs.Laid wx → d ≤ 8 → ts.length ≤ 3000 → (∀ t ∈ ts, t.t.length ≤ 3000) → row nb en f 1 d ts = some q1 → Calls Tryz.prog 192 #[.pointer (some ⟨P, 0, none⟩), .int .i64 1] wx fun e w' => Rans P en d wx q1 e w') :
    Calls Tryz.prog 204 #[.pointer (some ⟨P, 0, none⟩)] w fun e w' => Rans P en d w q e w' := by
  have cT := take_at w P ts d en hR (by omega)
  have HR : Hid (Rd w P ts d en ∧ errs.Laid w) := ⟨hR, hL⟩
  clear hR hL
  obtain ⟨T, hT⟩ : ∃ T, T = hd en ts := ⟨_, rfl⟩
  rw [← hT] at cT
  have hTz : T.t.length ≤ 3000 := by
    rw [hT]
    cases ts with
    | nil => exact Nat.zero_le _
    | cons t r => exact hz t (by simp)
  have cN := Name_at (tx T.t)
  rw [L_tx, isN_nmb] at cN
  have cU := number_yes T.t
  have cA := at_at T
  unfold tkV at cT cA
  have htl := tl_tx T.t
  have hsz : (tx T.t).size = T.t.length := tx_size _
  have hone := one_is hq
  rw [← hT] at hone
  obtain ⟨o1, o2, o3, o4⟩ := hone
  clear hT
  have HNB := nb_is T.t
  obtain ⟨S, hS⟩ : ∃ S, S = tx T.t := ⟨_, rfl⟩
  rw [← hS] at cT cN cU cA htl hsz HNB
  have HS : Hid (S = tx T.t) := hS
  clear hS
  have new : ∀ (w3 : World) (o : Obj), Gp P w w3 → Rd w3 P ts.tail d en → Gp P w (w3.alloc o) ∧ Rd (w3.alloc o) P ts.tail d en := fun w3 o h1 h2 => ⟨h1.alloc o, h2.step ((Bl.refl _).alloc _)⟩
  go_enter Tryz.func204, Tryz.ntmps204
  go_wp2_with fail
  refine cT.mono ?_
  rintro e w2 ⟨rfl, hR2, hg2⟩
  have HR2 : Hid (Rd w2 P ts.tail d en ∧ Gp P w w2) := ⟨hR2, hg2⟩
  clear cT hR2 hg2
  by_cases h1 : isN T.t = true
  · have hq' := o1 h1
    rw [h1] at cN
    clear o1 o2 o3 o4 cR cU hq hz
    by_cases h12 : 12 < T.t.length
    · rw [if_pos h12] at hq'
      subst hq'
      rw [← hsz] at h12
      have h12' : (12 : Int) < ((S).size : Int) := by omega
      go_wp2_with fail
      refine (cN _).mono ?_
      rintro e w3 ⟨rfl, rfl⟩
      go_wp2_with fail
      refine (cA 4 _).mono ?_
      rintro e w4 ⟨B, rfl, hthr⟩
      obtain ⟨k1, k2, k3⟩ := AtX.of hthr
      have hb4 : Bl w2 w4 := ((Bl.refl _).alloc _).trans k3
      have hs4 : w2.heap.size ≤ B := Nat.le_trans (((Bl.refl w2).alloc (.cells #[.string (S), .int .i64 (T.a : Int)] 145)).size) k1
      go_wp2
      exact ⟨rfl, HR2.out.2.trans (Gp.bl hb4), B, rfl, Nat.le_trans HR2.out.2.size hs4, k2⟩
    · rw [if_neg h12] at hq'
      subst hq'
      rw [← hsz] at h12
      have h12' : ¬ (12 : Int) < ((S).size : Int) := by omega
      go_wp2_with fail
      refine (cN _).mono ?_
      rintro e w3 ⟨rfl, rfl⟩
      clear hsz
      go_wp2
      go_ret
      refine ⟨(HR2.out.2.alloc _).alloc _, _, rfl, ⟨_, rfl, ?_⟩, (HR2.out.1.step ((Bl.refl _).alloc _)).step ((Bl.refl _).alloc _)⟩
      rw [HS.out]
      exact two_new w2 _ _
  · rw [Bool.not_eq_true] at h1
    rw [h1] at cN
    by_cases h2 : isU T.t = true
    · have hq' := o2 h1 h2
      rw [h2] at cU
      have cM := fun w => digs.number_at S (nb T.t).1 (nb T.t).2 w (by omega) HNB
      clear o1 o2 o3 o4 cR hq hz hsz HNB
      by_cases h0 : (nb T.t).2 = 0
      · rw [if_pos h0] at hq'
        subst hq'
        have ei : digs.errI (nb T.t).2 = .nilIface := if_pos h0
        rw [ei] at cM
        obtain ⟨k, hk⟩ : ∃ k, k = (nb T.t).1 := ⟨_, rfl⟩
        rw [← hk] at cM
        have HK : Hid (k = (nb T.t).1) := hk
        clear hk ei h0
        go_wp2_with fail
        refine (cN _).mono ?_
        rintro e w3 ⟨rfl, rfl⟩
        go_wp2_with fail
        refine (cU _).mono ?_
        rintro e w3 ⟨rfl, rfl⟩
        go_wp2_with fail
        refine (cM _).mono ?_
        rintro e w3 ⟨rfl, rfl⟩
        go_wp2
        go_ret
        refine ⟨(HR2.out.2.alloc _).alloc _, _, rfl, ⟨_, rfl, ?_⟩, (HR2.out.1.step ((Bl.refl _).alloc _)).step ((Bl.refl _).alloc _)⟩
        rw [← HK.out]
        exact two_new w2 _ _
      · rw [if_neg h0] at hq'
        subst hq'
        have ei : digs.errI (nb T.t).2 = .iface 28 (.int .i64 (nb T.t).2) := if_neg h0
        rw [ei] at cM
        obtain ⟨k, hk⟩ : ∃ k, k = (nb T.t).2 := ⟨_, rfl⟩
        rw [← hk] at cM
        have HK : Hid (k = (nb T.t).2) := hk
        clear hk ei h0
        have cL := fun wx => errs.tell_errno k wx
        go_wp2_with fail
        refine (cN _).mono ?_
        rintro e w3 ⟨rfl, rfl⟩
        go_wp2_with fail
        refine (cU _).mono ?_
        rintro e w3 ⟨rfl, rfl⟩
        go_wp2_with fail
        refine (cM _).mono ?_
        rintro e w3 ⟨rfl, rfl⟩
        go_upto_region 9 with fail
        obtain ⟨W, hW⟩ : ∃ W, W = w2.alloc (.cells #[.string S, .int .i64 (T.a : Int)] 145) := ⟨_, rfl⟩
        have hWb : Bl w2 W := by rw [hW]; exact (Bl.refl _).alloc _
        have hn := new_at w2 (.cells #[.string S, .int .i64 (T.a : Int)] 145)
        rw [← hW] at hn
        have g0 : W.cell? ⟨w2.heap.size, 0, none⟩ = some (.string S) := by rw [cell_of hn]; rfl
        have g1 : W.cell? ⟨w2.heap.size, 1, none⟩ = some (.int .i64 (T.a : Int)) := by rw [cell_of hn]; rfl
        have HWL : Hid (errs.Laid W ∧ Bl w2 W) := ⟨(Laid.gp HR.out.2 HR2.out.2 hGP).bl hWb, hWb⟩
        have cL' : ∀ wx, Bl W wx → Calls Tryz.prog 55 #[.iface 28 (.int .i64 k)] wx fun e w' => e = .returned (.int .i64 k) ∧ Bl wx w' := fun wx hb => (errs.tell_errno k wx (HWL.out.1.bl hb)).mono (fun e w' h => ⟨h.1, h.2.bl⟩)
        obtain ⟨N, hN⟩ : ∃ N, N = w2.heap.size := ⟨_, rfl⟩
        rw [← hN] at g0 g1
        rw [← hW, ← hN]
        have HNW : Hid (N = w2.heap.size) := hN
        clear hW hn hWb hN cL cM cN cU
        refine wp_region_any (by kernel_rfl) ?_
        change wpAny _ _ _ _ _ _ _ (World.drew _)
        refine wpAny_take (i := 1) (v := ?_) rfl (by kernel_rfl) (by kernel_rfl) (by kernel_rfl) (fun _ _ _ h => h) (Or.inl ⟨by rfl, ?_⟩) ?_
        rotate_left
        · intro w
          go_simp
          rfl
        refine wpAny_ready (rs := [0, 2]) (by kernel_rfl) (by simp) ?_
        refine AllReady.cons rfl (fun K hK => ?_) (AllReady.cons rfl (fun K hK => ?_) AllReady.nil)
        · go_simp
          refine hK _ _ ?_
          clear hK K
          refine wpAny_ready (rs := [2]) (by kernel_rfl) (by simp) ?_
          refine AllReady.cons rfl (fun K hK => ?_) AllReady.nil
          go_simp
          refine (cL' _ (by first | exact Bl.refl _ | exact (Bl.refl _).drew)).mono ?_
          rintro e w4 ⟨rfl, hb4⟩
          have q0 := at_bl hb4 g0
          have q1 := at_bl hb4 g1
          have HB4 : Hid (Bl W w4) := ((Bl.refl W).drew).trans hb4
          clear hb4
          refine hK _ _ ?_
          clear hK K
          refine wpAny_ready (rs := [3]) (by kernel_rfl) (by simp) ?_
          refine AllReady.cons rfl (fun K hK => ?_) AllReady.nil
          go_simp
          refine (cA k _).mono ?_
          rintro e w5 ⟨B, rfl, hthr⟩
          obtain ⟨k1, k2, k3⟩ := AtX.of hthr
          refine hK _ _ ?_
          clear hK K
          refine wpAny_ready (rs := [4]) (by kernel_rfl) (by simp) ?_
          refine AllReady.cons rfl (fun K hK => ?_) AllReady.nil
          go_simp
          refine hK _ _ ?_
          clear hK K
          refine wpAny_ready (rs := [5]) (by kernel_rfl) (by simp) ?_
          refine AllReady.cons rfl (fun K hK => ?_) AllReady.nil
          go_simp
          clear hK K
          have hg5 : Gp P w w5 := ((HR2.out.2.trans (Gp.bl HWL.out.2)).trans (Gp.bl HB4.out)).trans (Gp.bl k3)
          have hs5 : w.heap.size ≤ B := Nat.le_trans ((HR2.out.2.trans (Gp.bl HWL.out.2)).trans (Gp.bl HB4.out)).size k1
          go_wp2
          refine ⟨rfl, hg5, B, rfl, hs5, ?_⟩
          rw [← HK.out]
          exact k2
        · go_simp
          refine (cL' _ (by first | exact Bl.refl _ | exact (Bl.refl _).drew)).mono ?_
          rintro e w4 ⟨rfl, hb4⟩
          have q0 := at_bl hb4 g0
          have q1 := at_bl hb4 g1
          have HB4 : Hid (Bl W w4) := ((Bl.refl W).drew).trans hb4
          clear hb4
          refine hK _ _ ?_
          clear hK K
          refine wpAny_ready (rs := [0]) (by kernel_rfl) (by simp) ?_
          refine AllReady.cons rfl (fun K hK => ?_) AllReady.nil
          go_simp
          refine hK _ _ ?_
          clear hK K
          refine wpAny_ready (rs := [3]) (by kernel_rfl) (by simp) ?_
          refine AllReady.cons rfl (fun K hK => ?_) AllReady.nil
          go_simp
          refine (cA k _).mono ?_
          rintro e w5 ⟨B, rfl, hthr⟩
          obtain ⟨k1, k2, k3⟩ := AtX.of hthr
          refine hK _ _ ?_
          clear hK K
          refine wpAny_ready (rs := [4]) (by kernel_rfl) (by simp) ?_
          refine AllReady.cons rfl (fun K hK => ?_) AllReady.nil
          go_simp
          refine hK _ _ ?_
          clear hK K
          refine wpAny_ready (rs := [5]) (by kernel_rfl) (by simp) ?_
          refine AllReady.cons rfl (fun K hK => ?_) AllReady.nil
          go_simp
          clear hK K
          have hg5 : Gp P w w5 := ((HR2.out.2.trans (Gp.bl HWL.out.2)).trans (Gp.bl HB4.out)).trans (Gp.bl k3)
          have hs5 : w.heap.size ≤ B := Nat.le_trans ((HR2.out.2.trans (Gp.bl HWL.out.2)).trans (Gp.bl HB4.out)).size k1
          go_wp2
          refine ⟨rfl, hg5, B, rfl, hs5, ?_⟩
          rw [← HK.out]
          exact k2
    · rw [Bool.not_eq_true] at h2
      rw [h2] at cU
      by_cases h40 : T.t = [40]
      · obtain ⟨q1, hr1, hq'⟩ := o3 h1 h2 h40
        subst hq'
        rw [h40] at htl
        have cI : ∀ wx, Rd wx P ts.tail d en → errs.Laid wx → Calls Tryz.prog 214 #[.pointer (some ⟨P, 0, none⟩), .agg #[.string S, .int .i64 (T.a : Int)]] wx fun e w' => Rans P en d wx (brk en T.a d q1) e w' := by
          intro wx hx hxl
          have := inner_at P en T d ts.tail q1 wx hx hxl hGP h8 (by rw [List.length_tail]; omega) (fun hne x r hxr => by
            rcases hr1 with h | h
            · exact absurd h hne
            · rw [hxr] at h
              have := (len_all f).1 _ _ _ _ _ h
              rw [List.length_tail] at this
              omega) (fun hne wy hy hyl => by
            rcases hr1 with h | h
            · exact absurd h hne
            · exact cR q1 (d + 1) ts.tail wy hy hyl (by omega) (by rw [List.length_tail]; omega) (fun t ht => hz t (List.mem_of_mem_tail ht)) h)
          unfold tkV at this
          rw [← HS.out] at this
          exact this
        clear hr1 cR hq hz
        clear o1 o2 o3 o4 hsz HNB
        go_wp2_with fail
        refine (cN _).mono ?_
        rintro e w3 ⟨rfl, rfl⟩
        go_wp2_with fail
        refine (cU _).mono ?_
        rintro e w3 ⟨rfl, rfl⟩
        go_wp2_with fail
        have hb3 : Bl w2 (w2.alloc (.cells #[.string S, .int .i64 (T.a : Int)] 145)) := (Bl.refl _).alloc _
        refine (cI _ (HR2.out.1.step hb3) ((Laid.gp HR.out.2 HR2.out.2 hGP).bl hb3)).mono ?_
        rintro e w4 ⟨hg4, hans⟩
        have hg04 : Gp P w w4 := (HR2.out.2.trans (Gp.bl hb3)).trans hg4
        cases hB : brk en T.a d q1 with
        | error cp =>
          obtain ⟨c, p⟩ := cp
          rw [hB] at hans
          obtain ⟨B, rfl, k1, k2⟩ := hans
          unfold thrown
          go_wp2
          refine ⟨rfl, ?_⟩
          rw [hB]
          exact ⟨hg04, B, rfl, Nat.le_trans HR2.out.2.size (Nat.le_trans hb3.size k1), k2⟩
        | ok xr =>
          obtain ⟨x, r⟩ := xr
          rw [hB] at hans
          obtain ⟨v, rfl, k1, k2⟩ := hans
          go_wp2
          go_ret
          rw [hB]
          exact ⟨hg04, v, rfl, k1, k2⟩
      · have hq' := o4 h1 h2 h40
        subst hq'
        have hb : (T.t == [40]) = false := by rw [beq_eq_false_iff_ne]; exact h40
        clear o1 o2 o3 o4 hsz HNB h40 cR hq hz
        go_wp2_with fail
        refine (cN _).mono ?_
        rintro e w3 ⟨rfl, rfl⟩
        go_wp2_with fail
        refine (cU _).mono ?_
        rintro e w3 ⟨rfl, rfl⟩
        go_wp2_with fail
        refine (cA 3 _).mono ?_
        rintro e w4 ⟨B, rfl, hthr⟩
        obtain ⟨k1, k2, k3⟩ := AtX.of hthr
        have hb4 : Bl w2 w4 := ((Bl.refl _).alloc _).trans k3
        have hs4 : w2.heap.size ≤ B := Nat.le_trans (((Bl.refl w2).alloc (.cells #[.string S, .int .i64 (T.a : Int)] 145)).size) k1
        go_wp2
        exact ⟨rfl, HR2.out.2.trans (Gp.bl hb4), B, rfl, Nat.le_trans HR2.out.2.size hs4, k2⟩
end Go.Proofs.YtococaecjecjgaaGreatDoor.ex
/- Rows of things that are joined: row of package expr. -/
namespace Go.Proofs.YtococaecjecjgaaGreatDoor.ex
set_option linter.unusedVariables false
open Go.ChangeShapes Go.WideShapes Go.ChangeAt Go.RowKit
open mem lx

/-- How many tokens are left. -/
def lenAt (w : World) (P : Nat) : Nat := match w.cell? ⟨P, 0, none⟩ with | some (.slice _ n _) => n | _ => 0
theorem Rd.lenAt {w : World} {P : Nat} {ts : List Tk} {d en : Nat} (h : Rd w P ts d en) : lenAt w P = ts.length := by
  obtain ⟨p, c, h1, _⟩ := h.ex
  have : w.cell? ⟨P, 0, none⟩ = some (.slice p ts.length c) := by rw [cell_of h1]; rfl
  unfold ex.lenAt
  rw [this]
theorem lp_is {f m d en : Nat} {x : Ex} {ts : List Tk} {q : Res} (hm : 1 ≤ m) (h : lp nb en (f + 1) m d x ts = some q) :
    (¬ bd (hd en ts).t = m → q = .ok (x, ts)) ∧ (bd (hd en ts).t = m → ts = hd en ts :: ts.tail ∧ ∃ q1, row nb en f (m + 1) d ts.tail = some q1 ∧ (∀ e, q1 = .error e → q = .error e) ∧ (∀ y r, q1 = .ok (y, r) → lp nb en f m d (.bin (hd en ts).a (hd en ts).t x y) r = some q)) := by
  cases ts with
  | nil =>
    rw [lp] at h
    injection h with h
    refine ⟨fun _ => h.symm, fun hb => ?_⟩
    have : bd ([] : List UInt8) = m := hb
    have h0 : bd ([] : List UInt8) = 0 := by decide
    omega
  | cons t r =>
    rw [show hd en (t :: r) = t from rfl, show (t :: r).tail = r from rfl]
    rw [lp] at h
    refine ⟨fun hb => ?_, fun hb => ⟨rfl, ?_⟩⟩
    · rw [if_neg hb] at h
      injection h with h
      exact h.symm
    · rw [if_pos hb] at h
      split at h
      · cases h
      · rename_i e hr
        injection h with h
        exact ⟨_, hr, fun e' he => by injection he with he; rw [← he]; exact h.symm, fun y r hy => by cases hy⟩
      · rename_i y r' hr
        refine ⟨_, hr, ?_, ?_⟩
        · intro e he; cases he
        · intro y2 r2 hy
          injection hy with hy
          injection hy with hy1 hy2
          rw [← hy1, ← hy2]; exact h
/-- What is left was there. -/
theorem mem_all {en : Nat} (f : Nat) : (∀ m d ts x r, row nb en f m d ts = some (.ok (x, r)) → ∀ t ∈ r, t ∈ ts) ∧ (∀ m d y ts x r, lp nb en f m d y ts = some (.ok (x, r)) → ∀ t ∈ r, t ∈ ts) ∧ (∀ d ts x r, one nb en f d ts = some (.ok (x, r)) → ∀ t ∈ r, t ∈ ts) := by
  induction f with
  | zero => exact ⟨fun _ _ _ _ _ h => by simp [row] at h, fun _ _ _ _ _ _ h => by simp [lp] at h, fun _ _ _ _ h => by simp [one] at h⟩
  | succ f ih =>
    obtain ⟨i1, i2, i3⟩ := ih
    refine ⟨?_, ?_, ?_⟩
    · intro m d ts x r h
      by_cases hm : 3 < m
      · rw [row_top _ _ _ _ hm] at h
        exact i3 _ _ _ _ h
      · rw [row_low _ _ _ _ hm] at h
        split at h
        · cases h
        · cases h
        · rename_i y r' hr
          exact fun t ht => i1 _ _ _ _ _ hr t (i2 _ _ _ _ _ _ h t ht)
    · intro m d y ts x r h
      cases ts with
      | nil =>
        simp only [lp, Option.some.injEq, Except.ok.injEq, Prod.mk.injEq] at h
        rw [← h.2]
        exact fun t ht => ht
      | cons t ts =>
        rw [lp] at h
        split at h
        · split at h
          · cases h
          · cases h
          · rename_i z r' hr
            exact fun u hu => List.mem_cons_of_mem _ (i1 _ _ _ _ _ hr u (i2 _ _ _ _ _ _ h u hu))
        · simp only [Option.some.injEq, Except.ok.injEq, Prod.mk.injEq] at h
          rw [← h.2]
          exact fun t ht => ht
    · intro d ts x r h
      cases ts with
      | nil => simp [one] at h
      | cons t ts =>
        rw [one] at h
        split at h
        · split at h
          · simp at h
          · simp at h; rw [← h.2]; exact fun u hu => List.mem_cons_of_mem _ hu
        · split at h
          · split at h
            · simp at h; rw [← h.2]; exact fun u hu => List.mem_cons_of_mem _ hu
            · simp at h
          · split at h
            · split at h
              · simp at h
              · split at h
                · cases h
                · cases h
                · rename_i z r' hr
                  split at h
                  · simp at h; rw [← h.2]
                    exact fun u hu => List.mem_cons_of_mem _ (i1 _ _ _ _ _ hr u (List.mem_of_mem_tail hu))
                  · simp at h
            · simp at h
theorem run_text (S : ByteArray) (n : Int) (w : World) : (Instr.field 145 (.agg #[.string S, .int .i64 n]) 0).run Tryz.prog w = .ok (.string S) w := by kernel_rfl
theorem kept_tok {P N : Nat} {W w6 : World} {S : ByteArray} {a : Int} (h : W.heap[N]? = some (.cells #[.string S, .int .i64 a] 145 (0, 0))) (hne : N ≠ P) (hg : Gp P W.drew w6) : w6.cell? ⟨N, 0, none⟩ = some (.string S) ∧ w6.cell? ⟨N, 1, none⟩ = some (.int .i64 a) := by
  have h6 : w6.heap[N]? = some (.cells #[.string S, .int .i64 a] 145 (0, 0)) := (hg.block N (lt_of_heap h) hne).trans h
  exact ⟨by rw [cell_of h6]; rfl, by rw [cell_of h6]; rfl⟩
/-- Reading, at all. -/
def RowC (P en : Nat) (f : Nat) : Prop := ∀ (m d : Nat) (ts : List Tk) (q : Res) (w : World), 1 ≤ m → m ≤ 4 → d ≤ 8 → Rd w P ts d en → errs.Laid w → ts.length ≤ 3000 → (∀ t ∈ ts, t.t.length ≤ 3000) → row nb en f m d ts = some q →
  Calls Tryz.prog 192 #[.pointer (some ⟨P, 0, none⟩), .int .i64 (m : Int)] w fun e w' => Rans P en d w q e w'
theorem row_tops (P en f : Nat) (hGP : 1 < P) (ih : ∀ g, g < f + 1 → RowC P en g) (d : Nat) (ts : List Tk) (q : Res) (w : World) (h8 : d ≤ 8) (hR : Rd w P ts d en) (hL : errs.Laid w) (hl : ts.length ≤ 3000) (hz : ∀ t ∈ ts, t.t.length ≤ 3000) (hq : row nb en (f + 1) 4 d ts = some q) :
    Calls Tryz.prog 192 #[.pointer (some ⟨P, 0, none⟩), .int .i64 ((4 : Nat) : Int)] w fun e w' => Rans P en d w q e w' := by
  rw [row_top _ _ _ _ (by omega)] at hq
  cases f with
  | zero => simp [one] at hq
  | succ g =>
    have c1 := one_at g P en d ts q w hR hL hGP h8 hl hz hq (fun q1 d ts wx h1 h2 h3 h4 h5 h6 => ih g (by omega) 1 d ts q1 wx (by omega) (by omega) h3 h1 h2 h4 h5 h6)
    clear ih hq hz
    show Calls Tryz.prog _ #[.pointer (some ⟨P, 0, none⟩), .int .i64 4] w _
    go_enter Tryz.func192, Tryz.ntmps192
    go_wp2_with fail
    refine c1.mono ?_
    rintro e w4 ⟨hg4, hans⟩
    cases q with
    | error cp =>
      obtain ⟨c, p⟩ := cp
      obtain ⟨B, rfl, k1, k2⟩ := hans
      unfold thrown
      go_wp2
      exact ⟨rfl, hg4, B, rfl, k1, k2⟩
    | ok xr =>
      obtain ⟨x, r⟩ := xr
      obtain ⟨v, rfl, k1, k2⟩ := hans
      go_wp2
      go_ret
      exact ⟨hg4, v, rfl, k1, k2⟩
set_option maxRecDepth 10000 in
set_option maxHeartbeats 1000000 in
theorem row_lows (P en f : Nat) (hGP : 1 < P) (ih : ∀ g, g < f + 1 → RowC P en g) (m d : Nat) (ts : List Tk) (q : Res) (w : World) (h1 : 1 ≤ m) (h3 : m ≤ 3) (h8 : d ≤ 8) (hR : Rd w P ts d en) (hL : errs.Laid w) (hl : ts.length ≤ 3000) (hz : ∀ t ∈ ts, t.t.length ≤ 3000) (hq : row nb en (f + 1) m d ts = some q) :
    Calls Tryz.prog 192 #[.pointer (some ⟨P, 0, none⟩), .int .i64 (m : Int)] w fun e w' => Rans P en d w q e w' := by
  rw [row_low _ _ _ _ (by omega)] at hq
  obtain ⟨q1, hq1⟩ : ∃ q1, row nb en f (m + 1) d ts = some q1 := by
    cases h : row nb en f (m + 1) d ts with
    | none => rw [h] at hq; cases hq
    | some q1 => exact ⟨q1, rfl⟩
  have c1 := ih f (by omega) (m + 1) d ts q1 w (by omega) (by omega) h8 hR hL hl hz hq1
  have hmem1 : ∀ x r, q1 = .ok (x, r) → ∀ t ∈ r, t ∈ ts := fun x r h => by rw [h] at hq1; exact (mem_all f).1 _ _ _ _ _ hq1
  have hlen1 : ∀ x r, q1 = .ok (x, r) → r.length < ts.length := fun x r h => by rw [h] at hq1; exact (len_all f).1 _ _ _ _ _ hq1
  rw [hq1] at hq
  rw [show (((m + 1 : Nat) : Nat) : Int) = (m : Int) + 1 by omega] at c1
  have hm : ¬ (3 : Int) < (m : Int) := by omega
  have HI : Hid (∀ g, g < f + 1 → RowC P en g) := ih
  have HL : Hid (errs.Laid w ∧ Rd w P ts d en) := ⟨hL, hR⟩
  have HZ : Hid (∀ t ∈ ts, t.t.length ≤ 3000) := hz
  clear ih hz hL hR hq1
  go_enter Tryz.func192, Tryz.ntmps192
  go_wp2_with fail
  refine c1.mono ?_
  rintro e w1 ⟨hg1, hans⟩
  cases q1 with
  | error cp =>
    obtain ⟨c, p⟩ := cp
    obtain ⟨B, rfl, k1, k2⟩ := hans
    injection hq with hq
    subst hq
    unfold thrown
    go_wp2
    exact ⟨rfl, hg1, B, rfl, k1, k2⟩
  | ok xr =>
    obtain ⟨x, r⟩ := xr
    obtain ⟨v, rfl, k1, k2⟩ := hans
    have hlr := hlen1 x r rfl
    have hq' : lp nb en f m d x r = some q := hq
    have HS0 : Hid (IsX w1 v x ∧ Rd w1 P r d en ∧ Gp P w w1 ∧ (∀ t ∈ r, t.t.length ≤ 3000) ∧ r.length ≤ 3000 ∧ lp nb en f m d x r = some q) := by
      exact ⟨k1, k2, hg1, fun t ht => HZ.out t (hmem1 x r rfl t ht), by omega, hq'⟩
    clear hq hq' hlen1 hmem1 k1 k2 hg1 c1
    go_wp2
    go_loopw [5, 6] (fun v5 _ wr => ∃ (f' : Nat) (x : Ex) (r : List Tk), f' ≤ f ∧ Hid (IsX wr v5 x ∧ Rd wr P r d en ∧ Gp P w wr ∧ (∀ t ∈ r, t.t.length ≤ 3000) ∧ r.length ≤ 3000 ∧ lp nb en f' m d x r = some q)) (fun _ _ wr => ex.lenAt wr P)
    case atStart => exact ⟨f, x, r, Nat.le_refl _, HS0.out⟩
    case round =>
      clear HS0
      obtain ⟨f', x, r, hf, H⟩ := hrel
      obtain ⟨vb, hvb, _⟩ := H.out.1.ptr
      subst hvb
      cases f' with
      | zero => have := H.out.2.2.2.2.2; simp [lp] at this
      | succ g =>
        obtain ⟨l1, l2⟩ := lp_is h1 H.out.2.2.2.2.2
        have cN := next_at wr P r d en H.out.2.1 (by have := H.out.2.2.2.2.1; omega)
        have cT := fun wx (hb : Bl wr wx) => take_at wx P r d en (H.out.2.1.step hb) (by have := H.out.2.2.2.2.1; omega)
        obtain ⟨T, hT⟩ : ∃ T, T = hd en r := ⟨_, rfl⟩
        rw [← hT] at cN cT l1 l2
        have cB := binds_at T.t
        have hfd := run_text
        unfold tkV at cN cT
        obtain ⟨S, hS⟩ : ∃ S, S = tx T.t := ⟨_, rfl⟩
        rw [← hS] at cN cT cB
        have HS : Hid (S = tx T.t ∧ T = hd en r) := ⟨hS, hT⟩
        clear hS hT
        by_cases hb : bd T.t = m
        · obtain ⟨hr0, q1, hr1, hr2, hr3⟩ := l2 hb
          rw [hb] at cB
          have hbt : (((m : Nat) : Int) == (m : Int)) = true := by simp
          have hwr : IntKind.i64.wrap ((m : Int) + 1) = (m : Int) + 1 := by rw [IntKind.wrap_i64]; omega
          have hlt : r.tail.length < r.length := by rw [hr0]; simp
          have hgf : g + 1 ≤ f := hf
          have cR : ∀ wx, Rd wx P r.tail d en → errs.Laid wx → Calls Tryz.prog 192 #[.pointer (some ⟨P, 0, none⟩), .int .i64 ((m : Int) + 1)] wx fun e w' => Rans P en d wx q1 e w' := by
            intro wx hx hxl
            have := HI.out g (by omega) (m + 1) d r.tail q1 wx (by omega) (by omega) h8 hx hxl (by have := H.out.2.2.2.2.1; omega) (fun t ht => H.out.2.2.2.1 t (List.mem_of_mem_tail ht)) hr1
            rw [show (((m + 1 : Nat) : Nat) : Int) = (m : Int) + 1 by omega] at this
            exact this
          have HR0 : Hid (r = T :: r.tail ∧ row nb en g (m + 1) d r.tail = some q1 ∧ g + 1 ≤ f) := ⟨hr0, hr1, hgf⟩
          clear hr0 hr1 l1 l2 hb hgf
          go_wp2_with fail
          refine cN.mono ?_
          rintro e w3 ⟨rfl, hb3⟩
          go_wp2_with fail
          refine (cB _).mono ?_
          rintro e w4 ⟨rfl, rfl⟩
          go_wp2_with fail
          refine (cT _ hb3).mono ?_
          rintro e w5 ⟨rfl, hR5, hg5⟩
          go_upto_region 6 with fail
          obtain ⟨W, hW⟩ : ∃ W, W = w5.alloc (.cells #[.string S, .int .i64 (T.a : Int)] 145) := ⟨_, rfl⟩
          have hWb : Bl w5 W := by rw [hW]; exact (Bl.refl _).alloc _
          have hn := new_at w5 (.cells #[.string S, .int .i64 (T.a : Int)] 145)
          rw [← hW] at hn
          obtain ⟨N, hN⟩ : ∃ N, N = w5.heap.size := ⟨_, rfl⟩
          rw [← hN] at hn
          have g0 : W.cell? ⟨N, 0, none⟩ = some (.string S) := by rw [cell_of hn]; rfl
          have g1 : W.cell? ⟨N, 1, none⟩ = some (.int .i64 (T.a : Int)) := by rw [cell_of hn]; rfl
          have hgW : Gp P w W := ((H.out.2.2.1.trans (Gp.bl hb3)).trans hg5).trans (Gp.bl hWb)
          have hPN : N ≠ P := by have := hR5.lt; omega
          have hxW : IsX W (.pointer (some ⟨vb, 0, none⟩)) x := by
            obtain ⟨cs, hcs⟩ := (H.out.2.1.step hb3).is
            exact ((H.out.1.keep (Kx.bl hb3)).keep (hg5.kx hcs)).keep (Kx.bl hWb)
          have HW : Hid (Gp P w W ∧ Rd W P r.tail d en ∧ errs.Laid W ∧ IsX W (.pointer (some ⟨vb, 0, none⟩)) x ∧ W.heap[N]? = some (.cells #[.string S, .int .i64 (T.a : Int)] 145 (0, 0)) ∧ N ≠ P) := ⟨hgW, hR5.step hWb, Laid.gp HL.out.1 hgW hGP, hxW, hn, hPN⟩
          rw [← hW, ← hN]
          clear hW hWb hn hN hgW hxW hPN hR5 hg5 hb3 cN cT cB
          cases q1 with
          | error cp =>
            obtain ⟨c, p⟩ := cp
            have hqe := hr2 _ rfl
            subst hqe
            clear hr2 hr3
            refine wp_region_any (by kernel_rfl) ?_
            change wpAny _ _ _ _ _ _ _ (World.drew _)
            refine wpAny_take (i := 0) (v := ?_) rfl (by kernel_rfl) (by kernel_rfl) (by kernel_rfl) (fun _ _ _ h => h) (Or.inl ⟨by rfl, ?_⟩) ?_
            rotate_left
            · intro w
              go_simp
              rfl
            refine wpAny_take (i := 2) (v := ?_) rfl (by kernel_rfl) (by kernel_rfl) (by kernel_rfl) (fun _ _ _ h => h) (Or.inl ⟨by rfl, ?_⟩) ?_
            rotate_left
            · intro w
              go_simp
              rfl
            refine wpAny_take (i := 4) (v := ?_) rfl (by kernel_rfl) (by kernel_rfl) (by kernel_rfl) (fun _ _ _ h => h) (Or.inl ⟨by rfl, ?_⟩) ?_
            rotate_left
            · intro w
              go_simp
              rfl
            refine wpAny_take (i := 5) (v := ?_) rfl (by kernel_rfl) (by kernel_rfl) (by kernel_rfl) (fun _ _ _ h => h) (Or.inl ⟨by rfl, ?_⟩) ?_
            rotate_left
            · intro w
              go_simp
              rfl
            refine wpAny_take (i := 6) (v := ?_) rfl (by kernel_rfl) (by kernel_rfl) (by kernel_rfl) (fun _ _ _ h => h) (Or.inl ⟨by rfl, ?_⟩) ?_
            rotate_left
            · intro w
              go_simp
              rfl
            refine wpAny_take (i := 7) (v := ?_) rfl (by kernel_rfl) (by kernel_rfl) (by kernel_rfl) (fun _ _ _ h => h) (Or.inl ⟨by rfl, ?_⟩) ?_
            rotate_left
            · intro w
              go_simp
              rfl
            refine wpAny_ready (rs := [1, 3, 8]) (by kernel_rfl) (by simp) ?_
            refine AllReady.cons rfl (fun K hK => ?_) (AllReady.cons rfl (fun K hK => ?_) (AllReady.cons rfl (fun K hK => ?_) AllReady.nil))
            · go_simp
              refine hK _ _ ?_
              clear hK K
              refine wpAny_ready (rs := [3, 8]) (by kernel_rfl) (by simp) ?_
              refine AllReady.cons rfl (fun K hK => ?_) (AllReady.cons rfl (fun K hK => ?_) AllReady.nil)
              · go_simp
                refine hK _ _ ?_
                clear hK K
                refine wpAny_ready (rs := [8]) (by kernel_rfl) (by simp) ?_
                refine AllReady.cons rfl (fun K hK => ?_) AllReady.nil
                go_simp
                refine (cR _ (HW.out.2.1.step ((Bl.refl _).drew)) (HW.out.2.2.1.bl ((Bl.refl _).drew))).mono ?_
                rintro e w6 ⟨hg6, B, rfl, hs6, hat6⟩
                clear hK
                unfold thrown
                dsimp only
                clear K
                go_wp2
                exact ⟨rfl, (HW.out.1.trans (Gp.bl ((Bl.refl W).drew))).trans hg6, B, rfl, Nat.le_trans HW.out.1.size hs6, hat6⟩
              · go_simp
                refine (cR _ (HW.out.2.1.step ((Bl.refl _).drew)) (HW.out.2.2.1.bl ((Bl.refl _).drew))).mono ?_
                rintro e w6 ⟨hg6, B, rfl, hs6, hat6⟩
                clear hK
                unfold thrown
                dsimp only
                clear K
                go_wp2
                exact ⟨rfl, (HW.out.1.trans (Gp.bl ((Bl.refl W).drew))).trans hg6, B, rfl, Nat.le_trans HW.out.1.size hs6, hat6⟩
            · go_simp
              refine hK _ _ ?_
              clear hK K
              refine wpAny_ready (rs := [1, 8]) (by kernel_rfl) (by simp) ?_
              refine AllReady.cons rfl (fun K hK => ?_) (AllReady.cons rfl (fun K hK => ?_) AllReady.nil)
              · go_simp
                refine hK _ _ ?_
                clear hK K
                refine wpAny_ready (rs := [8]) (by kernel_rfl) (by simp) ?_
                refine AllReady.cons rfl (fun K hK => ?_) AllReady.nil
                go_simp
                refine (cR _ (HW.out.2.1.step ((Bl.refl _).drew)) (HW.out.2.2.1.bl ((Bl.refl _).drew))).mono ?_
                rintro e w6 ⟨hg6, B, rfl, hs6, hat6⟩
                clear hK
                unfold thrown
                dsimp only
                clear K
                go_wp2
                exact ⟨rfl, (HW.out.1.trans (Gp.bl ((Bl.refl W).drew))).trans hg6, B, rfl, Nat.le_trans HW.out.1.size hs6, hat6⟩
              · go_simp
                refine (cR _ (HW.out.2.1.step ((Bl.refl _).drew)) (HW.out.2.2.1.bl ((Bl.refl _).drew))).mono ?_
                rintro e w6 ⟨hg6, B, rfl, hs6, hat6⟩
                clear hK
                unfold thrown
                dsimp only
                clear K
                go_wp2
                exact ⟨rfl, (HW.out.1.trans (Gp.bl ((Bl.refl W).drew))).trans hg6, B, rfl, Nat.le_trans HW.out.1.size hs6, hat6⟩
            · go_simp
              refine (cR _ (HW.out.2.1.step ((Bl.refl _).drew)) (HW.out.2.2.1.bl ((Bl.refl _).drew))).mono ?_
              rintro e w6 ⟨hg6, B, rfl, hs6, hat6⟩
              clear hK
              unfold thrown
              dsimp only
              clear K
              go_wp2
              exact ⟨rfl, (HW.out.1.trans (Gp.bl ((Bl.refl W).drew))).trans hg6, B, rfl, Nat.le_trans HW.out.1.size hs6, hat6⟩
          | ok yr =>
            obtain ⟨y, r3⟩ := yr
            have hq3 := hr3 y r3 rfl
            clear hr2 hr3
            go_region_held3 (fun w' => w'.cell? ⟨N, 0, none⟩ = some (.string S) ∧ w'.cell? ⟨N, 1, none⟩ = some (.int .i64 (T.a : Int))) (refine ⟨?_, ?_⟩ <;> first | assumption | exact at_bl ((Bl.refl _).alloc _) (by assumption) | exact at_bl ((Bl.refl _).drew) (by assumption))
              (first
                | (go_at_call 192; refine (cR _ (HW.out.2.1.step ((Bl.refl _).drew)) (HW.out.2.2.1.bl ((Bl.refl _).drew))).mono ?_; rintro e w6 ⟨hg6, v6, rfl, hy6, hR6⟩
                   obtain ⟨vb6, hvb6, _⟩ := hy6.ptr; subst hvb6; have HN6 := kept_tok HW.out.2.2.2.2.1 HW.out.2.2.2.2.2 hg6; have q0 := HN6.1; have q1 := HN6.2; have H6 : Hid (Gp P W w6 ∧ IsX w6 (.pointer (some ⟨vb6, 0, none⟩)) y ∧ Rd w6 P r3 d en) := ⟨(Gp.bl ((Bl.refl W).drew)).trans hg6, hy6, hR6⟩; clear hg6 hy6 hR6 HN6))
            obtain ⟨W9, hW9⟩ : ∃ W9, W9 = w6.alloc (.cells #[.int .i64 3, .int .i64 (T.a : Int), .int .i64 0, .string ⟨#[]⟩, .string S, .pointer (some ⟨vb, 0, none⟩), .pointer (some ⟨vb6, 0, none⟩)] 152) := ⟨_, rfl⟩
            have hb9 : Bl w6 W9 := by rw [hW9]; exact (Bl.refl _).alloc _
            have hn9 := new_at w6 (.cells #[.int .i64 3, .int .i64 (T.a : Int), .int .i64 0, .string ⟨#[]⟩, .string S, .pointer (some ⟨vb, 0, none⟩), .pointer (some ⟨vb6, 0, none⟩)] 152)
            rw [← hW9] at hn9
            have H9 : Hid (IsX W9 (.pointer (some ⟨w6.heap.size, 0, none⟩)) (.bin T.a T.t x y) ∧ Rd W9 P r3 d en ∧ Gp P w W9 ∧ (∀ t ∈ r3, t.t.length ≤ 3000) ∧ r3.length ≤ 3000 ∧ lp nb en g m d (.bin T.a T.t x y) r3 = some q) := by
              obtain ⟨cs, hcs⟩ := HW.out.2.1.is
              have hx6 : IsX w6 (.pointer (some ⟨vb, 0, none⟩)) x := HW.out.2.2.2.1.keep (H6.out.1.kx hcs)
              have hl3 := (len_all g).1 _ _ _ _ _ HR0.out.2.1
              refine ⟨⟨_, _, _, rfl, ?_, hx6.keep (Kx.bl hb9), H6.out.2.1.keep (Kx.bl hb9)⟩, H6.out.2.2.step hb9, (HW.out.1.trans H6.out.1).trans (Gp.bl hb9), fun t ht => H.out.2.2.2.1 t (List.mem_of_mem_tail ((mem_all g).1 _ _ _ _ _ HR0.out.2.1 t ht)), by have := H.out.2.2.2.2.1; omega, hq3⟩
              rw [hn9, HS.out.1]
              rfl
            have hm1 : ex.lenAt wr P = r.length := H.out.2.1.lenAt
            have hm2 : ex.lenAt W9 P = r3.length := H9.out.2.1.lenAt
            have hl3 := (len_all g).1 _ _ _ _ _ HR0.out.2.1
            rw [← hW9]
            obtain ⟨Z, hZ⟩ : ∃ Z, Z = w6.heap.size := ⟨_, rfl⟩
            rw [← hZ] at H9 ⊢
            clear hW9 hb9 hn9 hZ q0 q1 g0 g1
            go_wp2
            go_roundw
            case rel => exact ⟨g, _, r3, by have := HR0.out.2.2; omega, H9.out⟩
            case measure => rw [hm1, hm2]; omega
        · have hq' := l1 hb
          subst hq'
          have hbf : (((bd T.t : Nat) : Int) == (m : Int)) = false := by rw [beq_eq_false_iff_ne]; omega
          obtain ⟨k, hk⟩ : ∃ k : Nat, k = bd T.t := ⟨_, rfl⟩
          rw [← hk] at cB hbf
          clear l1 l2 cT hb hk
          go_wp2_with fail
          refine cN.mono ?_
          rintro e w3 ⟨rfl, hb3⟩
          go_wp2_with fail
          refine (cB _).mono ?_
          rintro e w4 ⟨rfl, rfl⟩
          go_wp2
          go_ret
          exact ⟨H.out.2.2.1.trans (Gp.bl hb3), _, rfl, H.out.1.keep (Kx.bl hb3), H.out.2.1.step hb3⟩
theorem row_at (P en : Nat) (hGP : 1 < P) : ∀ f, RowC P en f := by
  intro f
  induction f using Nat.strongRecOn with
  | _ f ih =>
    intro m d ts q w h1 h4 h8 hR hL hl hz hq
    cases f with
    | zero => simp [row] at hq
    | succ f =>
      by_cases hm : m = 4
      · subst hm
        exact row_tops P en f hGP ih d ts q w h8 hR hL hl hz hq
      · exact row_lows P en f hGP ih m d ts q w h1 (by omega) h8 hR hL hl hz hq
end Go.Proofs.YtococaecjecjgaaGreatDoor.ex
/- Parse of package expr. -/
namespace Go.Proofs.YtococaecjecjgaaGreatDoor.ex
set_option linter.unusedVariables false
open Go.ChangeShapes Go.WideShapes Go.ChangeAt Go.RowKit
open mem lx

theorem catch_idle (p q : Addr) (w : World) :
    CallsD Tryz.prog 191 #[.pointer (some p), .pointer (some q)] .returning w fun e u' w' => e = .returned (.tuple #[]) ∧ u' = .returning ∧ w' = w := by
  have hta : ∀ w : World, (Instr.typeAssert Value.nilIface 20 113 true).run Tryz.prog w = .ok (.tuple #[.pointer none, .bool false]) w := fun _ => by kernel_rfl
  refine callsD_of_wpS Tryz.func191 rfl fun c₀ cs hu => ?_
  apply wpS_seq
  apply wpS_region
  simp [wpOpsS, go_sem, recoverD, hu, Tryz.ntmps191, Exit.thenS, hta]
  apply wpS_seq
  apply wpS_region
  simp [wpOpsS, go_sem, Exit.thenS]
  refine wpS_cond (t := false) (by simp [Act.eval, Array.replicate]) ?_
  simp only [Bool.false_eq_true, if_false]
  refine wpS_of_wp (wp_skip ?_)
  cases c₀
  simp_all [bodyPostS, results, Tryz.results191]
theorem catch_thrown (p q : Addr) (B : Nat) (x y : Value) (w : World) (hp : w.cell? p = some x) (hpz : w.frozen? p = false) (hq : w.cell? q = some y) (hqz : w.frozen? q = false) (hne : p ≠ q) :
    CallsD Tryz.prog 191 #[.pointer (some p), .pointer (some q)] (.panicking [{ v := .iface 113 (.pointer (some ⟨B, 0, none⟩)), recovered := false }]) w fun e u' w' =>
      e = .returned (.tuple #[]) ∧ u' = .panicking [{ v := .iface 113 (.pointer (some ⟨B, 0, none⟩)), recovered := true }] ∧ w' = (w.setCell p (.pointer none)).setCell q (.iface 113 (.pointer (some ⟨B, 0, none⟩))) := by
  have hta : ∀ w : World, (Instr.typeAssert (.iface 113 (.pointer (some ⟨B, 0, none⟩))) 20 113 true).run Tryz.prog w = .ok (.tuple #[.pointer (some ⟨B, 0, none⟩), .bool true]) w := fun _ => by kernel_rfl
  refine callsD_of_wpS Tryz.func191 rfl fun c₀ cs hu => ?_
  apply wpS_seq
  apply wpS_region
  simp [wpOpsS, go_sem, recoverD, hu, Tryz.ntmps191, Exit.thenS, hta]
  apply wpS_seq
  apply wpS_region
  simp [wpOpsS, go_sem, Exit.thenS]
  refine wpS_cond (t := true) (by simp [Act.eval, Array.replicate]) ?_
  simp only [if_true]
  apply wpS_region
  have hq2 : (w.setCell p (.pointer none)).cell? q = some y := by rw [World.cell?_setCell_other w p q _ hne]; exact hq
  simp [wpOpsS, go_sem, hp, hpz, hq2, hqz, bodyPostS, results, Tryz.results191, Array.replicate]
/-- A text's expression, or what is told, and where. -/
noncomputable def prs (l : List UInt8) : Except (Int × Nat) Ex :=
  match (lx l 0).2 with
  | some p => .error (3, p)
  | none => match row nb l.length (10 * (lx l 0).1.length + 10) 1 0 (lx l 0).1 with
    | some (.ok (x, [])) => .ok x
    | some (.ok (x, t :: _)) => .error (3, t.a)
    | some (.error e) => .error e
    | none => .error (0, 0)
/-- What reading all comes to. -/
def whole (q : Res) : Except (Int × Nat) Ex :=
  match q with
  | .ok (x, []) => .ok x
  | .ok (x, t :: _) => .error (3, t.a)
  | .error e => .error e
theorem prs_is {l : List UInt8} {ts : List Tk} {q : Res} (h1 : (lx l 0).2 = none) (h2 : ts = (lx l 0).1) (h3 : row nb l.length (10 * ts.length + 10) 1 0 ts = some q) : prs l = whole q := by
  unfold prs
  rw [h1]
  dsimp only
  rw [← h2, h3]
  cases q with
  | error e => rfl
  | ok xr =>
    obtain ⟨x, r⟩ := xr
    cases r <;> rfl
/-- What Parse answers. -/
def PAns (s : ByteArray) (w : World) (e : Ending) (w' : World) : Prop :=
  Bl w w' ∧ match prs (L s) with
  | .ok x => ∃ v, e = .returned (.tuple #[v, .nilIface]) ∧ IsX w' v x
  | .error (c, p) => ∃ B : Nat, e = .returned (.tuple #[.pointer none, .iface 113 (.pointer (some ⟨B, 0, none⟩))]) ∧ w.heap.size ≤ B ∧ AtX w' B c (p : Int)
/-- Parse's variables. -/
structure Pv (w wr : World) (N : Nat) (v e : Value) : Prop where
  v1 : Vr wr N v 58
  v2 : Vr wr (N + 1) e 34
  bl : Bl w wr
  n : N = w.heap.size
theorem Pv.step {w wr w' : World} {N : Nat} {v e : Value} (h : Pv w wr N v e) (hb : Bl wr w') : Pv w w' N v e := ⟨h.v1.step hb, h.v2.step hb, h.bl.trans hb, h.n⟩
theorem Vr.gp {P b : Nat} {w w' : World} {v : Value} {t : TypeId} (h : Vr w b v t) (hg : Gp P w w') (hne : b ≠ P) : Vr w' b v t := by
  have := h.lt
  unfold Vr at h ⊢
  rw [hg.block b this hne]
  exact h
theorem Pv.gp {P : Nat} {w wr w' : World} {N : Nat} {v e : Value} (h : Pv w wr N v e) (hg : Gp P wr w') (hP : N + 1 < P) : Pv w w' N v e :=
  ⟨Vr.gp h.v1 hg (by omega), Vr.gp h.v2 hg (by omega), hg.below h.bl (by have := h.n; omega), h.n⟩
theorem Pv.set1 {w wr : World} {N : Nat} {v e : Value} (h : Pv w wr N v e) (x : Value) : Pv w (wr.setCell ⟨N, 0, none⟩ x) N x e :=
  ⟨h.v1.set _, h.v2.set_other (by omega) _, h.bl.setCell (by show w.heap.size ≤ N; have := h.n; omega) _, h.n⟩
theorem Pv.set2 {w wr : World} {N : Nat} {v e : Value} (h : Pv w wr N v e) (x : Value) : Pv w (wr.setCell ⟨N + 1, 0, none⟩ x) N v x :=
  ⟨h.v1.set_other (by omega) _, h.v2.set _, h.bl.setCell (by show w.heap.size ≤ N + 1; have := h.n; omega) _, h.n⟩
theorem Pv.new (w : World) : Pv w ((w.alloc (.cells #[.pointer none] 58)).alloc (.cells #[.nilIface] 34)) w.heap.size (.pointer none) .nilIface := by
  refine ⟨(Vr.new w _ _).step ((Bl.refl _).alloc _), ?_, ((Bl.refl _).alloc _).alloc _, rfl⟩
  have := Vr.new (w.alloc (.cells #[.pointer none] 58)) .nilIface 34
  simpa using this
/-- Parts of expressions, and errors, stay when a variable is set. -/
theorem Kx.set {w : World} {b : Nat} {v x : Value} {t : TypeId} (h : Vr w b v t) (ht : t ≠ 152) : Kx w (w.setCell ⟨b, 0, none⟩ x) := fun k cs hk => by
  rw [(grown_set w b 0 x).block k (lt_of_heap hk) (fun e => by
    injection e with e
    rw [e] at hk
    unfold Vr at h
    rw [h] at hk
    simp at hk
    exact ht hk.2)]
  exact hk
theorem AtX.set {w : World} {B b : Nat} {c p : Int} {x : Value} (h : AtX w B c p) (hne : B ≠ b) : AtX (w.setCell ⟨b, 0, none⟩ x) B c p := by
  unfold AtX at h ⊢
  rw [(grown_set w b 0 x).block B (lt_of_heap h) (fun e => by injection e with e; exact hne e)]
  exact h
theorem Rd.setv {w : World} {P N : Nat} {t : Tk} {r : List Tk} {d en : Nat} {pv : Option Addr} {ty : TypeId} (h : Rd w P (t :: r) d en) (hv : Vr w N (.pointer pv) ty) (hne : N ≠ P) (x : Value) : Rd (w.setCell ⟨N, 0, none⟩ x) P (t :: r) d en := by
  obtain ⟨p, c, h1, h2, h3, h4⟩ := h.ex
  have hs : (w.setCell ⟨N, 0, none⟩ x).heap.size = w.heap.size := by simp [World.setCell]
  have hN : ∀ y, p = some y → y.block ≠ N := by
    intro y hy e
    obtain ⟨z, hz, q1, _⟩ := h3.at 0 (by simp)
    rw [hy] at hz
    injection hz with hz
    subst hz
    rw [Nat.zero_mul, Addr.add_zero'] at q1
    unfold Vr at hv
    unfold World.cell? at q1
    rw [e, hv] at q1
    revert q1
    rcases y with ⟨yb, yo, yk⟩
    cases yk with
    | none =>
      rcases yo with _ | yo
      · simp
      · simp
    | some k => simp
  refine ⟨p, c, ?_, h2, In.gp h3 (Gp.set _) (fun y hy => ⟨(h4 y hy).1, hN y hy⟩), fun y hy => by rw [hs]; exact h4 y hy⟩
  rw [(grown_set w N 0 x).block P (lt_of_heap h1) (fun e => by injection e with e; exact hne e.symm)]
  exact h1
theorem tok_len {s : List UInt8} {l : List Tk} : ∀ {p : Nat}, Ch s p l → ∀ t ∈ l, t.t.length ≤ s.length := by
  induction l with
  | nil => intro p h t ht; cases ht
  | cons u r ih =>
    intro p h t ht
    obtain ⟨h1, h2, _, _, h5⟩ := (show p ≤ u.a ∧ u.a + u.t.length ≤ s.length ∧ _ ∧ _ ∧ Ch s (u.a + u.t.length) r from h)
    rw [List.mem_cons] at ht
    rcases ht with rfl | ht
    · omega
    · exact ih h5 t ht
set_option maxRecDepth 10000 in
set_option maxHeartbeats 2000000 in
theorem Parse_at (s : ByteArray) (w : World) (hs : s.size ≤ 3000) (hm : Mks w) (hL : errs.Laid w) :
    Calls Tryz.prog 178 #[.string s] w fun e w' => PAns s w e w' := by
  have hmf : ∀ (fn : Fn) (first cap : Array Value) (w : World), (Instr.makeFunc fn first cap).run Tryz.prog w = .ok (.func fn first cap) w := fun _ _ _ _ => rfl
  have cL := fun wx (hb : Bl w wx) => Lex_at s wx hs (hm.step hb)
  have H0 : Hid _ := Pv.new w
  obtain ⟨N, hN⟩ : ∃ N, N = w.heap.size := ⟨_, rfl⟩
  rw [← hN] at H0
  have HL : Hid (errs.Laid w) := hL
  have hcl := H0.out.bl
  go_enter_defers Tryz.func178, Tryz.ntmps178
  go_wp2_with fail
  refine (cL _ hcl).mono ?_
  rintro e w2 ⟨hb2, hans⟩
  rw [← hN]
  have H2 : Hid _ := H0.out.step hb2
  have c1 := H2.out.v1.cell
  have c2 := H2.out.v2.cell
  have f1 := H2.out.v1.frozen
  have f2 := H2.out.v2.frozen
  have hsz : (w.alloc (.cells #[.pointer none] 58)).heap.size ≤ ((w.alloc (.cells #[.pointer none] 58)).alloc (.cells #[.nilIface] 34)).heap.size := ((Bl.refl _).alloc _).size
  rcases hans with ⟨g1, v, rfl, g2⟩ | ⟨p, B, g1, rfl, g2, g3⟩
  · obtain ⟨ts, hts⟩ : ∃ ts, ts = (lx (L s) 0).1 := ⟨_, rfl⟩
    obtain ⟨q, hq⟩ : ∃ q, row nb (L s).length (10 * ts.length + 10) 1 0 ts = some q := by
      cases h : row nb (L s).length (10 * ts.length + 10) 1 0 ts with
      | none => exact absurd h ((some_all _).1 1 0 ts (by omega) (by omega))
      | some q => exact ⟨q, rfl⟩
    have hprs : prs (L s) = whole q := prs_is g1 hts hq
    have hch := lx_ch (L s) _ 0 (Nat.le_refl _) (Nat.zero_le _)
    rw [List.drop_zero, ← hts] at hch
    have htl : ∀ t ∈ ts, t.t.length ≤ 3000 := fun t ht => by have := tok_len hch t ht; rw [L_len] at this; omega
    have hlen : ts.length ≤ 3000 := by
      have := lx_len (L s) _ 0 (Nat.le_refl _)
      rw [← hts, L_len] at this
      omega
    rw [L_len] at hq
    rw [← hts] at g2
    obtain ⟨vp, vc, rfl, hvc, hin⟩ := g2.view
    have HX : Hid (prs (L s) = whole q) := hprs
    have HO : Hid (tr.Own w2 ((w.alloc (.cells #[.pointer none] 58)).alloc (.cells #[.nilIface] 34)).heap.size (.slice vp ts.length vc) ts ∧ N + 2 ≤ ((w.alloc (.cells #[.pointer none] 58)).alloc (.cells #[.nilIface] 34)).heap.size) := ⟨g2, by have := H0.out.v2.lt; omega⟩
    clear g1 g2 hprs hch hts cL hN hcl hsz hin H0
    obtain ⟨P, hP⟩ : ∃ P, P = w2.heap.size := ⟨_, rfl⟩
    obtain ⟨w3, hw3⟩ : ∃ w3, w3 = (w2.setCell ⟨N + 1, 0, none⟩ .nilIface).alloc (.cells #[.slice vp ts.length vc, .int .i64 (s.size : Int), .int .i64 0] 269) := ⟨_, rfl⟩
    have H3 : Pv w w3 N (.pointer none) .nilIface := by rw [hw3]; exact (H2.out.set2 _).step ((Bl.refl _).alloc _)
    have hNP : N + 1 < P := by have := H2.out.v2.lt; omega
    have hR3 : Rd w3 P ts 0 s.size := by
      have ho : tr.Own (w2.setCell ⟨N + 1, 0, none⟩ .nilIface) (N + 2) (.slice vp ts.length vc) ts := by
        refine (HO.out.1.low HO.out.2).kept (grown_set _ _ _ _) ?_
        intro x hx e
        injection e with e
        have := ((HO.out.1.low HO.out.2).block x hx).1
        omega
      have hs3 : (w2.setCell ⟨N + 1, 0, none⟩ .nilIface).heap.size = P := by rw [hP]; simp [World.setCell]
      have hn := new_at (w2.setCell ⟨N + 1, 0, none⟩ .nilIface) (.cells #[.slice vp ts.length vc, .int .i64 (s.size : Int), .int .i64 0] 269)
      rw [← hw3, hs3] at hn
      have ho3 := ho.step (w' := w3) (by rw [hw3]; exact (Bl.refl _).alloc _)
      obtain ⟨vp', vc', hv', hvc', hin'⟩ := ho3.view
      have e1 : vp' = vp := by injection hv' with h1 _ _; exact h1.symm
      have e2 : vc' = vc := by injection hv' with _ _ h3; exact h3.symm
      subst e1 e2
      refine ⟨vp', vc', hn, hvc, hin', fun x hx => ?_⟩
      have hlt3 : P < w3.heap.size := lt_of_heap hn
      rcases ho.shape with ⟨h1, _⟩ | ⟨g, cap, h1, h2, h3, _⟩
      · injection h1 with h1 _ _
        rw [hx] at h1; cases h1
      · injection h1 with h1 _ _
        rw [hx] at h1
        injection h1 with h1
        rw [hs3] at h3
        rw [h1]
        exact ⟨by show g < _; omega, by show g ≠ P; omega⟩
    have hL3 : errs.Laid w3 := HL.out.bl H3.bl
    have hGP : 1 < P := by have := HL.out.pos; have := H2.out.bl.size; omega
    have cR := row_at P s.size hGP _ 1 0 ts q w3 (by omega) (by omega) (by omega) hR3 hL3 hlen htl hq
    have HQ : Hid (∀ x r, q = .ok (x, r) → r.length ≤ 3000) := fun x r h => by
      rw [h] at hq
      have := (len_all _).1 _ _ _ _ _ hq
      omega
    have H3' : Hid (Pv w w3 N (.pointer none) .nilIface ∧ P < w3.heap.size) := ⟨H3, hR3.lt⟩
    go_wp2_with fail
    rw [← hP, ← hw3]
    clear hw3 hP H3 hR3 hL3 hq htl HO H2 c1 c2 f1 f2 hvc hb2
    refine cR.mono ?_
    rintro e w4 ⟨hg4, hans⟩
    have H4 : Hid (Pv w w4 N (.pointer none) .nilIface) := H3'.out.1.gp hg4 hNP
    cases q with
    | error cp =>
      obtain ⟨c, p⟩ := cp
      obtain ⟨B, rfl, hB1, hB2⟩ := hans
      have HXE : Hid (prs (L s) = .error (c, p)) := HX.out
      have HA9 : Hid (AtX w4 B c (p : Int) ∧ N + 1 < B) := ⟨hB2, by have := H3'.out.2; omega⟩
      unfold thrown
      go_wp2
      have H9 : Hid (Pv w w4 N (.pointer none) .nilIface) := H4
      generalize w4 = w9 at *
      have v1c := H9.out.v1.cell
      have v1f := H9.out.v1.frozen
      have v2c := H9.out.v2.cell
      have v2f := H9.out.v2.frozen
      have HZ := (H9.out.set1 (.pointer none)).set2 (.iface 113 (.pointer (some ⟨B, 0, none⟩)))
      have hAZ : AtX ((w9.setCell ⟨N, 0, none⟩ (.pointer none)).setCell ⟨N + 1, 0, none⟩ (.iface 113 (.pointer (some ⟨B, 0, none⟩)))) B c (p : Int) := (HA9.out.1.set (by have := HA9.out.2; omega)).set (by have := HA9.out.2; omega)
      refine leaves_cons (f := 191) (args := #[.pointer (some ⟨N, 0, none⟩), .pointer (some ⟨N + 1, 0, none⟩)]) (by simp) (by simp [go_sem]) ?_
      refine (catch_thrown ⟨N, 0, none⟩ ⟨N + 1, 0, none⟩ B _ _ w9 v1c v1f v2c v2f (by simp)).mono ?_
      rintro e u' w'' ⟨rfl, rfl, rfl⟩
      generalize (w9.setCell ⟨N, 0, none⟩ (.pointer none)).setCell ⟨N + 1, 0, none⟩ (.iface 113 (.pointer (some ⟨B, 0, none⟩))) = wz at HZ hAZ ⊢
      have c1' := HZ.v1.cell
      have c2' := HZ.v2.cell
      simp [Leaves, settle, results, Tryz.results178, go_sem, c1', c2']
      refine ⟨HZ.bl, ?_⟩
      rw [HXE.out]
      exact ⟨B, rfl, by have := HZ.n; have := HA9.out.2; omega, hAZ⟩
    | ok xr =>
      obtain ⟨x, r⟩ := xr
      obtain ⟨v, rfl, hx4, hR4⟩ := hans
      obtain ⟨vb, rfl, hvb⟩ := hx4.ptr
      have hrl := HQ.out x r rfl
      obtain ⟨p', c', k1, k2, k3, k4⟩ := hR4.ex
      have d1 := H4.out.v1.cell
      have d2 := H4.out.v2.cell
      have e1 := H4.out.v1.frozen
      have e2 := H4.out.v2.frozen
      have hP0 : w4.cell? ⟨P, 0, none⟩ = some (.slice p' r.length c') := by rw [cell_of k1]; rfl
      have hNP' : ¬ N = P := by omega
      have H5 : Hid (Pv w (w4.setCell ⟨N, 0, none⟩ (.pointer (some ⟨vb, 0, none⟩))) N (.pointer (some ⟨vb, 0, none⟩)) .nilIface ∧ IsX (w4.setCell ⟨N, 0, none⟩ (.pointer (some ⟨vb, 0, none⟩))) (.pointer (some ⟨vb, 0, none⟩)) x) := ⟨H4.out.set1 _, hx4.keep (Kx.set H4.out.v1 (by decide))⟩
      cases r with
      | nil =>
        have HXO : Hid (prs (L s) = .ok x) := HX.out
        rw [show ([] : List Tk).length = 0 from rfl] at hP0
        clear k1 k2 k3 k4 hR4 hx4 cR
        go_wp2
        have H9 := (H5.out.1.set1 (.pointer (some ⟨vb, 0, none⟩))).set2 .nilIface
        have hx9 : IsX (((w4.setCell ⟨N, 0, none⟩ (.pointer (some ⟨vb, 0, none⟩))).setCell ⟨N, 0, none⟩ (.pointer (some ⟨vb, 0, none⟩))).setCell ⟨N + 1, 0, none⟩ .nilIface) (.pointer (some ⟨vb, 0, none⟩)) x := (H5.out.2.keep (Kx.set H5.out.1.v1 (by decide))).keep (Kx.set (H5.out.1.set1 (.pointer (some ⟨vb, 0, none⟩))).v2 (by decide))
        generalize ((w4.setCell ⟨N, 0, none⟩ (.pointer (some ⟨vb, 0, none⟩))).setCell ⟨N, 0, none⟩ (.pointer (some ⟨vb, 0, none⟩))).setCell ⟨N + 1, 0, none⟩ .nilIface = w9 at H9 hx9 ⊢
        have c1' := H9.v1.cell
        have c2' := H9.v2.cell
        refine leaves_cons (f := 191) (args := #[.pointer (some ⟨N, 0, none⟩), .pointer (some ⟨N + 1, 0, none⟩)]) (by simp) (by simp [go_sem]) ?_
        refine (catch_idle _ _ _).mono ?_
        rintro e u' w'' ⟨rfl, rfl, rfl⟩
        simp [Leaves, settle, results, Tryz.results178, go_sem, c1', c2']
        refine ⟨H9.bl, ?_⟩
        rw [HXO.out]
        exact ⟨_, rfl, hx9⟩
      | cons t r =>
        have HXE : Hid (prs (L s) = .error (3, t.a)) := HX.out
        have hR5 := hR4.setv H4.out.v1 (by omega) (.pointer (some ⟨vb, 0, none⟩))
        have cN := next_at _ P (t :: r) 0 s.size hR5 (by omega)
        have cA := at_at t 3
        rw [show hd s.size (t :: r) = t from rfl] at cN
        obtain ⟨n, hn⟩ : ∃ n, n = r.length := ⟨_, rfl⟩
        rw [show (t :: r).length = n + 1 by simp [hn]] at hP0
        have hpos : (0 : Int) < ((n + 1 : Nat) : Int) := by omega
        unfold tkV at cN cA
        clear k1 k2 k3 k4 hR4 hx4 cR hR5 hn
        go_wp2_with fail
        refine cN.mono ?_
        rintro e w6 ⟨rfl, hb6⟩
        go_wp2_with fail
        refine (cA _).mono ?_
        rintro e w9 ⟨B, rfl, hthr⟩
        obtain ⟨j1, j2, j3⟩ := AtX.of hthr
        have H9 : Hid (Pv w w9 N (.pointer (some ⟨vb, 0, none⟩)) .nilIface) := (H5.out.1.step hb6).step j3
        have HA9 : Hid (AtX w9 B 3 (t.a : Int) ∧ N + 1 < B) := ⟨j2, by have := (H5.out.1.step hb6).v2.lt; omega⟩
        go_wp2
        have v1c := H9.out.v1.cell
        have v1f := H9.out.v1.frozen
        have v2c := H9.out.v2.cell
        have v2f := H9.out.v2.frozen
        have HZ := (H9.out.set1 (.pointer none)).set2 (.iface 113 (.pointer (some ⟨B, 0, none⟩)))
        have hAZ : AtX ((w9.setCell ⟨N, 0, none⟩ (.pointer none)).setCell ⟨N + 1, 0, none⟩ (.iface 113 (.pointer (some ⟨B, 0, none⟩)))) B 3 (t.a : Int) := (HA9.out.1.set (by have := HA9.out.2; omega)).set (by have := HA9.out.2; omega)
        refine leaves_cons (f := 191) (args := #[.pointer (some ⟨N, 0, none⟩), .pointer (some ⟨N + 1, 0, none⟩)]) (by simp) (by simp [go_sem]) ?_
        refine (catch_thrown ⟨N, 0, none⟩ ⟨N + 1, 0, none⟩ B _ _ w9 v1c v1f v2c v2f (by simp)).mono ?_
        rintro e u' w'' ⟨rfl, rfl, rfl⟩
        generalize (w9.setCell ⟨N, 0, none⟩ (.pointer none)).setCell ⟨N + 1, 0, none⟩ (.iface 113 (.pointer (some ⟨B, 0, none⟩))) = wz at HZ hAZ ⊢
        have c1' := HZ.v1.cell
        have c2' := HZ.v2.cell
        simp [Leaves, settle, results, Tryz.results178, go_sem, c1', c2']
        refine ⟨HZ.bl, ?_⟩
        rw [HXE.out]
        exact ⟨B, rfl, by have := HZ.n; have := HA9.out.2; omega, hAZ⟩
  · have HB : Hid (prs (L s) = .error (3, p) ∧ AtX w2 B 3 (p : Int) ∧ N + 1 < B) := by
      refine ⟨by unfold prs; rw [g1], g3, ?_⟩
      have h1 := H0.out.v2.lt
      omega
    clear g1 g2 g3 cL hN H0 hcl hsz hb2
    go_wp2
    have HW : Hid (Pv w (w2.setCell ⟨N + 1, 0, none⟩ (.iface 113 (.pointer (some ⟨B, 0, none⟩)))) N (.pointer none) (.iface 113 (.pointer (some ⟨B, 0, none⟩))) ∧ AtX (w2.setCell ⟨N + 1, 0, none⟩ (.iface 113 (.pointer (some ⟨B, 0, none⟩)))) B 3 (p : Int)) := ⟨H2.out.set2 _, HB.out.2.1.set (by have := HB.out.2.2; omega)⟩
    generalize w2.setCell ⟨N + 1, 0, none⟩ (.iface 113 (.pointer (some ⟨B, 0, none⟩))) = W at HW ⊢
    clear c1 c2 f1 f2
    have c1 := HW.out.1.v1.cell
    have c2 := HW.out.1.v2.cell
    have f1 := HW.out.1.v1.frozen
    have f2 := HW.out.1.v2.frozen
    refine wp_calm ?_
    go_region
    all_goals
      refine Calm.in ?_
      have H9 : Hid (Pv w ((W.setCell ⟨N, 0, none⟩ (.pointer none)).setCell ⟨N + 1, 0, none⟩ (.iface 113 (.pointer (some ⟨B, 0, none⟩)))).drew N (.pointer none) (.iface 113 (.pointer (some ⟨B, 0, none⟩))) ∧ AtX ((W.setCell ⟨N, 0, none⟩ (.pointer none)).setCell ⟨N + 1, 0, none⟩ (.iface 113 (.pointer (some ⟨B, 0, none⟩)))).drew B 3 (p : Int)) := ⟨((HW.out.1.set1 _).set2 _).step (Bl.refl _).drew, (HW.out.2.set (x := .pointer none) (b := N) (by have := HB.out.2.2; omega)).set (b := N + 1) (by have := HB.out.2.2; omega)⟩
      generalize ((W.setCell ⟨N, 0, none⟩ (.pointer none)).setCell ⟨N + 1, 0, none⟩ (.iface 113 (.pointer (some ⟨B, 0, none⟩)))).drew = W9 at H9 ⊢
      clear c1 c2 f1 f2
      have c1 := H9.out.1.v1.cell
      have c2 := H9.out.1.v2.cell
      go_simp
      go_wp2
      simp [bodyPostD, Leaves, results, Tryz.results178, go_sem, c1, c2]
      refine ⟨H9.out.1.bl, ?_⟩
      rw [HB.out.1]
      exact ⟨B, rfl, by have := H2.out.n; have := HB.out.2.2; omega, H9.out.2⟩
end Go.Proofs.YtococaecjecjgaaGreatDoor.ex
/- What expressions come to: joined, value and Eval of package expr. -/
namespace Go.Proofs.YtococaecjecjgaaGreatDoor.ex
set_option linter.unusedVariables false
open Go.ChangeShapes Go.WideShapes Go.ChangeAt Go.RowKit
open mem lx

theorem truth_at (b : Bool) (w : World) : Calls Tryz.prog 202 #[.bool b] w fun e w' => e = .returned (.int .i64 (if b then 1 else 0)) ∧ w' = w := by
  cases b
  · go_enter Tryz.func202, Tryz.ntmps202
    go_wp2
    go_ret
    exact ⟨rfl, rfl⟩
  · go_enter Tryz.func202, Tryz.ntmps202
    go_wp2
    go_ret
    exact ⟨rfl, rfl⟩
/-- What an op makes of two numbers. -/
def jn (o : List UInt8) (a b : Int) : Int :=
  if o = [61, 61] then (if a = b then 1 else 0) else if o = [33, 61] then (if a = b then 0 else 1) else if o = [60] then (if a < b then 1 else 0) else if o = [62] then (if b < a then 1 else 0) else if o = [43] then (wrap64 (a + b)) else if o = [45] then (wrap64 (a - b)) else if o = [124] then (bits .or .i64 a b) else if o = [42] then (wrap64 (a * b)) else if o = [38] then (bits .and .i64 a b) else 0
theorem joined_at (o : List UInt8) (a b : Int) (w : World) (ho : 0 < bd o) : Calls Tryz.prog 188 #[.string (tx o), .int .i64 a, .int .i64 b] w fun e w' => e = .returned (.int .i64 (jn o a b)) ∧ w' = w := by
  by_cases h0 : o = [61, 61]
  · subst h0
    show Calls Tryz.prog _ #[.string ⟨#[61, 61]⟩, .int .i64 a, .int .i64 b] w fun e w' => e = .returned (.int .i64 (if a = b then 1 else 0)) ∧ w' = w
    have cT := truth_at
    go_enter Tryz.func188, Tryz.ntmps188
    go_wp2_with fail
    refine (cT _ _).mono ?_
    rintro e w1 ⟨rfl, rfl⟩
    go_wp2
    all_goals (go_ret; first | exact ⟨rfl, rfl⟩ | (refine ⟨lx.ret_int ?_, rfl⟩; by_cases h : a = b <;> simp [h]))
  by_cases h1 : o = [33, 61]
  · subst h1
    show Calls Tryz.prog _ #[.string ⟨#[33, 61]⟩, .int .i64 a, .int .i64 b] w fun e w' => e = .returned (.int .i64 (if a = b then 0 else 1)) ∧ w' = w
    have cT := truth_at
    go_enter Tryz.func188, Tryz.ntmps188
    go_wp2_with fail
    refine (cT _ _).mono ?_
    rintro e w1 ⟨rfl, rfl⟩
    go_wp2
    all_goals (go_ret; first | exact ⟨rfl, rfl⟩ | (refine ⟨lx.ret_int ?_, rfl⟩; by_cases h : a = b <;> simp [h]))
  by_cases h2 : o = [60]
  · subst h2
    show Calls Tryz.prog _ #[.string ⟨#[60]⟩, .int .i64 a, .int .i64 b] w fun e w' => e = .returned (.int .i64 (if a < b then 1 else 0)) ∧ w' = w
    have cT := truth_at
    go_enter Tryz.func188, Tryz.ntmps188
    go_wp2_with fail
    refine (cT _ _).mono ?_
    rintro e w1 ⟨rfl, rfl⟩
    go_wp2
    all_goals (go_ret; first | exact ⟨rfl, rfl⟩ | (refine ⟨lx.ret_int ?_, rfl⟩; by_cases h : a < b <;> simp [h]))
  by_cases h3 : o = [62]
  · subst h3
    show Calls Tryz.prog _ #[.string ⟨#[62]⟩, .int .i64 a, .int .i64 b] w fun e w' => e = .returned (.int .i64 (if b < a then 1 else 0)) ∧ w' = w
    have cT := truth_at
    go_enter Tryz.func188, Tryz.ntmps188
    go_wp2_with fail
    refine (cT _ _).mono ?_
    rintro e w1 ⟨rfl, rfl⟩
    go_wp2
    all_goals (go_ret; first | exact ⟨rfl, rfl⟩ | (refine ⟨lx.ret_int ?_, rfl⟩; by_cases h : b < a <;> simp [h]))
  by_cases h4 : o = [43]
  · subst h4
    show Calls Tryz.prog _ #[.string ⟨#[43]⟩, .int .i64 a, .int .i64 b] w fun e w' => e = .returned (.int .i64 (wrap64 (a + b))) ∧ w' = w
    go_enter Tryz.func188, Tryz.ntmps188
    go_wp2
    go_ret
    exact ⟨rfl, rfl⟩
  by_cases h5 : o = [45]
  · subst h5
    show Calls Tryz.prog _ #[.string ⟨#[45]⟩, .int .i64 a, .int .i64 b] w fun e w' => e = .returned (.int .i64 (wrap64 (a - b))) ∧ w' = w
    go_enter Tryz.func188, Tryz.ntmps188
    go_wp2
    go_ret
    exact ⟨rfl, rfl⟩
  by_cases h6 : o = [124]
  · subst h6
    show Calls Tryz.prog _ #[.string ⟨#[124]⟩, .int .i64 a, .int .i64 b] w fun e w' => e = .returned (.int .i64 (bits .or .i64 a b)) ∧ w' = w
    go_enter Tryz.func188, Tryz.ntmps188
    go_wp2
    go_ret
    exact ⟨rfl, rfl⟩
  by_cases h7 : o = [42]
  · subst h7
    show Calls Tryz.prog _ #[.string ⟨#[42]⟩, .int .i64 a, .int .i64 b] w fun e w' => e = .returned (.int .i64 (wrap64 (a * b))) ∧ w' = w
    go_enter Tryz.func188, Tryz.ntmps188
    go_wp2
    go_ret
    exact ⟨rfl, rfl⟩
  by_cases h8 : o = [38]
  · subst h8
    show Calls Tryz.prog _ #[.string ⟨#[38]⟩, .int .i64 a, .int .i64 b] w fun e w' => e = .returned (.int .i64 (bits .and .i64 a b)) ∧ w' = w
    go_enter Tryz.func188, Tryz.ntmps188
    go_wp2
    go_ret
    exact ⟨rfl, rfl⟩
  exfalso
  have e0 : bd o = 0 := by unfold bd; rw [if_neg (by simp [h0, h1, h2, h3]), if_neg (by simp [h4, h5, h6]), if_neg (by simp [h7, h8])]
  omega
/-- What an expression comes to, or where a name is missing. -/
def ev (env : List UInt8 → Option Int) : Ex → Except Nat Int
  | .num _ n => .ok n
  | .nam a t => match env t with | some n => .ok n | none => .error a
  | .bin _ o l r => match ev env l with
    | .error p => .error p
    | .ok a => match ev env r with
      | .error p => .error p
      | .ok b => .ok (jn o a b)
/-- Ops that there are. -/
def Okb : Ex → Prop
  | .num _ _ => True
  | .nam _ t => t.length ≤ 3000
  | .bin _ o l r => 0 < bd o ∧ Okb l ∧ Okb r
/-- Names that are numbers. -/
structure IsM (w : World) (v : Value) (env : List UInt8 → Option Int) : Prop where
  lk : ∀ w', Bl w w' → ∀ t : List UInt8, t.length ≤ 3000 → (Instr.lookup 100 v (.string (tx t)) true).run Tryz.prog w' = .ok (match env t with | some n => .tuple #[.int .i64 n, .bool true] | none => .tuple #[.int .i64 0, .bool false]) w'
theorem IsM.step {w w' : World} {v : Value} {env : List UInt8 → Option Int} (h : IsM w v env) (hb : Bl w w') : IsM w' v env := ⟨fun w'' hb'' => h.lk w'' (hb.trans hb'')⟩
def VAns (q : Except Nat Int) (w : World) (e : Ending) (w' : World) : Prop :=
  Bl w w' ∧ match q with
  | .ok n => e = .returned (.int .i64 n)
  | .error p => ∃ B : Nat, e = thrown B ∧ w.heap.size ≤ B ∧ AtX w' B 5 (p : Int)
set_option maxRecDepth 10000 in
set_option maxHeartbeats 1000000 in
theorem value_at (env : List UInt8 → Option Int) (m : Value) (x : Ex) : ∀ (v : Value) (w : World), IsX w v x → Okb x → IsM w m env → Calls Tryz.prog 171 #[v, m] w fun e w' => VAns (ev env x) w e w' := by
  induction x with
  | num a n =>
    intro v w hx ho hm
    obtain ⟨xb, rfl, hc⟩ := hx
    have k0 : w.cell? ⟨xb, 0, none⟩ = some (.int .i64 1) := by rw [cell_of hc]; rfl
    have k2 : w.cell? ⟨xb, 2, none⟩ = some (.int .i64 n) := by rw [cell_of hc]; rfl
    clear hm
    go_enter Tryz.func171, Tryz.ntmps171
    go_wp2
    go_ret
    exact ⟨Bl.refl _, rfl⟩
  | nam a t =>
    intro v w hx ho hm
    obtain ⟨xb, rfl, hc⟩ := hx
    have k0 : w.cell? ⟨xb, 0, none⟩ = some (.int .i64 2) := by rw [cell_of hc]; rfl
    have k1 : w.cell? ⟨xb, 1, none⟩ = some (.int .i64 (a : Int)) := by rw [cell_of hc]; rfl
    have k3 : w.cell? ⟨xb, 3, none⟩ = some (.string (tx t)) := by rw [cell_of hc]; rfl
    have hlk := hm.lk w (Bl.refl _) t ho
    clear hm hc
    cases he : env t with
    | some n =>
      rw [he] at hlk
      dsimp only at hlk
      have HE : Hid (ev env (.nam a t) = .ok n) := by unfold Hid; rw [ev, he]
      go_enter Tryz.func171, Tryz.ntmps171
      go_wp2
      go_ret
      rw [HE.out]
      exact ⟨Bl.refl _, rfl⟩
    | none =>
      rw [he] at hlk
      dsimp only at hlk
      have HE : Hid (ev env (.nam a t) = .error a) := by unfold Hid; rw [ev, he]
      go_enter Tryz.func171, Tryz.ntmps171
      go_wp2
      refine ⟨rfl, ?_⟩
      rw [HE.out]
      exact ⟨(Bl.refl _).alloc _, _, rfl, Nat.le_refl _, new_at w _⟩
  | bin a o l r il ir =>
    intro v w hx ho hm
    obtain ⟨xb, vl, vr, rfl, hc, hxl, hxr⟩ := hx
    have k0 : w.cell? ⟨xb, 0, none⟩ = some (.int .i64 3) := by rw [cell_of hc]; rfl
    have k5 : w.cell? ⟨xb, 5, none⟩ = some vl := by rw [cell_of hc]; rfl
    have cl := il vl w hxl ho.2.1 hm
    have node : ∀ wx, Bl w wx → wx.cell? ⟨xb, 4, none⟩ = some (.string (tx o)) ∧ wx.cell? ⟨xb, 6, none⟩ = some vr := fun wx hb => ⟨at_bl hb (by rw [cell_of hc]; rfl), at_bl hb (by rw [cell_of hc]; rfl)⟩
    obtain ⟨vbl, rfl, _⟩ := hxl.ptr
    obtain ⟨vbr, rfl, _⟩ := hxr.ptr
    have cr := fun wx (hb : Bl w wx) => ir _ wx (hxr.keep (Kx.bl hb)) ho.2.2 (hm.step hb)
    have cj := fun a b w => joined_at o a b w ho.1
    have hev : ev env (.bin a o l r) = match ev env l with
      | .error p => .error p
      | .ok a => match ev env r with
        | .error p => .error p
        | .ok b => .ok (jn o a b) := by rw [ev]
    clear hm hc il ir
    go_enter Tryz.func171, Tryz.ntmps171
    go_wp2_with fail
    refine cl.mono ?_
    rintro e w1 ⟨hb1, h1⟩
    cases hl : ev env l with
    | error p =>
      rw [hl] at h1 hev
      obtain ⟨B, rfl, hB1, hB2⟩ := h1
      have HE : Hid (ev env (.bin a o l r) = .error p) := hev
      clear hev
      unfold thrown
      go_wp2
      refine ⟨rfl, ?_⟩
      rw [HE.out]
      exact ⟨hb1, B, rfl, hB1, hB2⟩
    | ok n1 =>
      rw [hl] at h1 hev
      dsimp only at h1 hev
      subst h1
      obtain ⟨q4, q6⟩ := node w1 hb1
      go_wp2_with fail
      refine (cr w1 hb1).mono ?_
      rintro e w2 ⟨hb2, h2⟩
      cases hr : ev env r with
      | error p =>
        rw [hr] at h2 hev
        obtain ⟨B, rfl, hB1, hB2⟩ := h2
        have HE : Hid (ev env (.bin a o l r) = .error p) := hev
        clear hev
        unfold thrown
        go_wp2
        refine ⟨rfl, ?_⟩
        rw [HE.out]
        exact ⟨hb1.trans hb2, B, rfl, Nat.le_trans hb1.size hB1, hB2⟩
      | ok n2 =>
        rw [hr] at h2 hev
        dsimp only at h2 hev
        subst h2
        have HE : Hid (ev env (.bin a o l r) = .ok (jn o n1 n2)) := hev
        obtain ⟨p4, p6⟩ := node w2 (hb1.trans hb2)
        clear hev
        go_wp2_with fail
        refine (cj _ _ _).mono ?_
        rintro e w3 ⟨rfl, rfl⟩
        go_wp2
        go_ret
        rw [HE.out]
        exact ⟨hb1.trans hb2, rfl⟩
end Go.Proofs.YtococaecjecjgaaGreatDoor.ex
