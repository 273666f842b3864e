/- Texts laid together: Er3, Er4, RefDig2, Er7, TrI. -/
import Derived.Test.YtpanodaecjlgaaaGreatDoorXTmplReads20
import Derived.Test.YtpanodaecjlgaaaGreatDoorXTmplReads8
import Derived.Deep.QuietTactic
import Derived.BigQuiet
import Derived.Test.YtpanodaecjlgaaaGreatDoorXTmplReads15
import Derived.Deep.CutBlock
/- The document's reader: one thing alone. -/
namespace Go.Proofs.YtpanodaecjlgaaaGreatDoor.ex
set_option linter.unusedVariables false
open Go.ChangeShapes Go.WideShapes Go.ChangeAt Go.RowKit
open mem lx

/-- What the document's reader answers. -/
def Xans (P en : Nat) (ts : List Tk) (w : World) (q : Res) (e : Ending) (w' : World) : Prop :=
  Gp P w w' ∧ match q with
  | .ok (x, r) => ∃ v, e = .returned v ∧ IsX w' v x ∧ Ey w' P r en 0 (-1) ∧ r.length < ts.length
  | .error (c, p) => ∃ o ts', e = .returned (.pointer o) ∧ Ey w' P ts' en c (p : Int) ∧ ts'.length ≤ ts.length ∧ c ≠ 0
theorem sg_is {f d en : Nat} {ts : List Tk} {q : Res} (hq : sg nb en (f + 1) d ts = some q) :
    (isN (hd en ts).t = true → q = if 12 < (hd en ts).t.length then .error (4, (hd en ts).a) else .ok (.nam (hd en ts).a (hd en ts).t, ts.tail)) ∧
    (isN (hd en ts).t = false → isU (hd en ts).t = true → q = if (nb (hd en ts).t).2 = 0 then .ok (.num (hd en ts).a (nb (hd en ts).t).1, ts.tail) else .error ((nb (hd en ts).t).2, (hd en ts).a)) ∧
    (isN (hd en ts).t = false → isU (hd en ts).t = false → (hd en ts).t = [40] → ∃ q1, (d = 8 ∨ ce nb en f 1 (d + 1) ts.tail = some q1) ∧ q = brk en (hd en ts).a d q1) ∧
    (isN (hd en ts).t = false → isU (hd en ts).t = false → ¬ (hd en ts).t = [40] → q = .error (3, (hd en ts).a)) := by
  cases ts with
  | nil =>
    rw [sg] at hq
    injection hq with hq
    refine ⟨fun h => ?_, fun _ h => ?_, fun _ _ h => ?_, fun _ _ _ => hq.symm⟩
    · exact absurd h (by show ¬ isN [] = true; decide)
    · exact absurd h (by show ¬ isU [] = true; decide)
    · exact absurd h (by show ¬ ([] : List UInt8) = [40]; decide)
  | cons t r =>
    rw [show hd en (t :: r) = t from rfl, show (t :: r).tail = r from rfl]
    rw [sg] at hq
    refine ⟨fun h1 => ?_, fun h1 h2 => ?_, fun h1 h2 h3 => ?_, fun h1 h2 h3 => ?_⟩
    · rw [if_pos h1] at hq
      split at hq
      · rename_i h; rw [if_pos h]; injection hq with hq; exact hq.symm
      · rename_i h; rw [if_neg h]; injection hq with hq; exact hq.symm
    · rw [if_neg (by rw [h1]; decide), if_pos h2] at hq
      split at hq
      · rename_i h; rw [if_pos h]; injection hq with hq; exact hq.symm
      · rename_i h; rw [if_neg h]; injection hq with hq; exact hq.symm
    · rw [if_neg (by rw [h1]; decide), if_neg (by rw [h2]; decide), if_pos h3] at hq
      split at hq
      · rename_i h8
        injection hq with hq
        exact ⟨.error (0, 0), Or.inl h8, by unfold brk; rw [if_pos h8]; exact hq.symm⟩
      · rename_i h8
        split at hq
        · cases hq
        · rename_i e hr
          injection hq with hq
          exact ⟨_, Or.inr hr, by rw [brk_err h8]; exact hq.symm⟩
        · rename_i x r' hr
          split at hq
          · rename_i h5
            injection hq with hq
            exact ⟨_, Or.inr hr, by rw [brk_yes h8 h5]; exact hq.symm⟩
          · rename_i h5
            injection hq with hq
            exact ⟨_, Or.inr hr, by rw [brk_no h8 h5]; exact hq.symm⟩
    · rw [if_neg (by rw [h1]; decide), if_neg (by rw [h2]; decide), if_neg h3] at hq
      injection hq with hq
      exact hq.symm
theorem hd_cons_of {en : Nat} {ts : List Tk} (h : (hd en ts).t ≠ []) : ∃ r, ts = hd en ts :: r := by
  cases ts with
  | nil => exact absurd rfl h
  | cons t r => exact ⟨r, rfl⟩
/-- What a box of an expression is. -/
theorem box_new (w : World) (a b c : Int) (n o : List UInt8) (S U : ByteArray) (hS : S = tx n) (hU : U = tx o) (l r : Value) : (w.alloc (.cells #[.int .i64 a, .int .i64 b, .int .i64 c, .string S, .string U, l, r] 118)).heap[w.heap.size]? = some (cellsX a b c n o l r) := by
  rw [new_at, hS, hU]
  rfl
set_option maxRecDepth 10000 in
set_option maxHeartbeats 2000000 in
theorem single_at (f P en d : Nat) (ts : List Tk) (q : Res) (w : World) (hE : Ey w P ts en 0 (-1)) (h8 : d ≤ 8) (hq : sg nb en (f + 1) d ts = some q)
    (cE : ∀ (q1 : Res) (d : Nat) (ts : List Tk) wx, Ey wx P ts en 0 (-1) → d ≤ 8 → ce nb en f 1 d ts = some q1 → Calls Tryz.prog 85 #[.pointer (some ⟨P, 0, none⟩), .int .i64 1, .int .i64 (d : Int)] wx fun e w' => Xans P en ts wx q1 e w') :
    Calls Tryz.prog 108 #[.pointer (some ⟨P, 0, none⟩), .int .i64 (d : Int)] w fun e w' => Xans P en ts w q e w' := by
  have cP := place_at w P ts en 0 (-1) hE
  have cT := text_at w P ts en 0 (-1) hE
  have cS := fun wx (hb : Bl w wx) => stop_at wx P ts en 0 (-1) (hE.step hb)
  rw [show see 0 en ts = (hd en ts).t from if_pos rfl] at cT
  rw [show (!((0 : Int) == 0)) = false from rfl] at cS
  have HE : Hid (Ey w P ts en 0 (-1)) := hE
  clear hE
  obtain ⟨T, hT⟩ : ∃ T, T = hd en ts := ⟨_, rfl⟩
  rw [← hT] at cT cP
  have hone := sg_is hq
  rw [← hT] at hone
  obtain ⟨o1, o2, o3, o4⟩ := hone
  have hcons : T.t ≠ [] → ∃ r, ts = T :: r := by rw [hT]; exact hd_cons_of
  have hTz : T.t.length ≤ 3000 := by
    by_cases h : T.t = []
    · rw [h]; simp
    · obtain ⟨r, hr⟩ := hcons h
      exact (HE.out.tok T (by rw [hr]; simp)).2
  have cN := IsName_at (tx T.t)
  rw [L_tx, isN_nmb] at cN
  have htl := tl_tx T.t
  have hsz : (tx T.t).size = T.t.length := tx_size _
  have HT : Hid (T = hd en ts) := hT
  clear hq hT
  have HNB := nb_is T.t
  obtain ⟨S, hS⟩ : ∃ S, S = tx T.t := ⟨_, rfl⟩
  rw [← hS] at cT cN htl hsz HNB
  have HS : Hid (S = tx T.t) := hS
  clear hS
  have cW := fun wx (hb : Bl w wx) a b => wrong_yes wx P ts en (-1) a b (HE.out.step hb)
  go_enter Tryz.func108, Tryz.ntmps108
  go_wp2_with fail
  refine cP.mono ?_
  rintro e w1 ⟨rfl, hw1⟩
  obtain rfl := hw1.symm
  go_wp2_with fail
  refine cT.mono ?_
  rintro e w2 ⟨rfl, hb2⟩
  go_wp2_with fail
  refine (cS _ hb2).mono ?_
  rintro e w3 ⟨rfl, hb3⟩
  have HB : Hid (Bl w w3) := hb2.trans hb3
  clear hb2 hb3 cP cT cS
  by_cases h40 : T.t = [40]
  · have h1 : isN T.t = false := by rw [h40]; decide
    have h2 : isU T.t = false := by rw [h40]; decide
    obtain ⟨q1, hr1, hq'⟩ := o3 h1 h2 h40
    subst hq'
    rw [h40] at htl
    obtain ⟨r, hr⟩ := hcons (by rw [h40]; simp)
    clear o1 o2 o3 o4 hcons hsz HNB cN h1 h2
    by_cases hd8 : d = 8
    · subst hd8
      clear hr1
      have HB8 : Hid (brk en T.a 8 q1 = .error (4, T.a)) := by unfold brk; rw [if_pos rfl]; rfl
      have cX := fun wx c p (h : Ey wx P ts en c p) (hc : c ≠ 0) => take_no wx P ts en c p [40] h (by show (if c = 0 then (hd en ts).t else []) ≠ [40]; rw [if_neg hc]; simp)
      go_wp2_with fail
      refine (cW _ HB.out _ _).mono ?_
      rintro e w4 ⟨rfl, hE4, hg4⟩
      have HE4 : Hid (Ey w4 P ts en 4 (T.a : Int) ∧ Gp P w w4) := ⟨hE4, (Gp.bl HB.out).trans hg4⟩
      clear hE4 hg4
      go_wp2_with fail
      refine (cX _ _ _ HE4.out.1 (by decide)).mono ?_
      rintro e w5 ⟨rfl, hb5⟩
      go_wp2_with fail
      refine (expr_off w5 P ts en 4 (T.a : Int) _ _ (HE4.out.1.step hb5) (by decide)).mono ?_
      rintro e w6 ⟨rfl, hb6⟩
      go_wp2_with fail
      refine (must_off w6 P ts en 4 (T.a : Int) [41] (HE4.out.1.step (hb5.trans hb6)) (by decide) (by simp)).mono ?_
      rintro e w7 ⟨rfl, hb7⟩
      go_wp2
      go_ret
      rw [HB8.out]
      exact ⟨HE4.out.2.trans (Gp.bl ((hb5.trans hb6).trans hb7)), none, ts, rfl, HE4.out.1.step ((hb5.trans hb6).trans hb7), Nat.le_refl _, by decide⟩
    · have hne : ¬ (8 : Int) ≤ (d : Int) := by omega
      have hr1' : ce nb en f 1 (d + 1) ts.tail = some q1 := by
        rcases hr1 with h | h
        · exact absurd h hd8
        · exact h
      have htail : ts.tail = r := by rw [hr]; rfl
      rw [htail] at hr1'
      have cX := fun wx (hb : Bl w wx) => take_yes wx P T r en (-1) (by rw [← hr]; exact HE.out.step hb)
      rw [h40] at cX
      have cR := fun wx (h : Ey wx P r en 0 (-1)) => cE q1 (d + 1) r wx h (by omega) hr1'
      rw [show (((d + 1 : Nat) : Nat) : Int) = (d : Int) + 1 by omega] at cR
      have HR : Hid (ts = T :: r) := hr
      clear hr hr1 hr1' htail cE cW
      go_wp2_with fail
      refine (cX _ HB.out).mono ?_
      rintro e w4 ⟨rfl, hE4, hg4⟩
      have HE4 : Hid (Ey w4 P r en 0 (-1) ∧ Gp P w w4) := ⟨hE4, (Gp.bl HB.out).trans hg4⟩
      clear hE4 hg4 cX
      go_wp2_with fail
      refine (cR _ HE4.out.1).mono ?_
      rintro e w5 ⟨hg5, hans⟩
      cases q1 with
      | error cp =>
        obtain ⟨c, p⟩ := cp
        obtain ⟨o, ts', rfl, hE5, hl5, hc⟩ := hans
        have HB8 : Hid (brk en T.a d (.error (c, p)) = .error (c, p)) := brk_err hd8
        have HE5 : Hid (Ey w5 P ts' en c (p : Int) ∧ Gp P w w5 ∧ ts'.length ≤ r.length) := ⟨hE5, HE4.out.2.trans hg5, hl5⟩
        have cM := must_off w5 P ts' en c (p : Int) [41] hE5 hc (by simp)
        clear hE5 hg5 hl5 cR
        go_wp2_with fail
        refine cM.mono ?_
        rintro e w6 ⟨rfl, hb6⟩
        go_wp2
        go_ret
        rw [HB8.out]
        exact ⟨HE5.out.2.1.trans (Gp.bl hb6), o, ts', rfl, HE5.out.1.step hb6, by rw [HR.out]; have := HE5.out.2.2; simp; omega, hc⟩
      | ok xr =>
        obtain ⟨x, r'⟩ := xr
        obtain ⟨v, rfl, hx5, hE5, hl5⟩ := hans
        obtain ⟨vb, rfl, _⟩ := hx5.ptr
        have HE5 : Hid (Ey w5 P r' en 0 (-1) ∧ Gp P w w5 ∧ r'.length < r.length ∧ IsX w5 (.pointer (some ⟨vb, 0, none⟩)) x) := ⟨hE5, HE4.out.2.trans hg5, hl5, hx5⟩
        by_cases h41 : (hd en r').t = [41]
        · have HB8 : Hid (brk en T.a d (.ok (x, r')) = .ok (x, r'.tail)) := brk_yes hd8 h41
          obtain ⟨r2, hr2⟩ := hd_cons_of (en := en) (ts := r') (by rw [h41]; simp)
          have cM := must_yes w5 P (hd en r') r2 en (-1) (by rw [← hr2]; exact hE5)
          rw [h41] at cM
          have HR2 : Hid (r' = hd en r' :: r2) := hr2
          clear hE5 hg5 hl5 hx5 hr2 cR h41
          go_wp2_with fail
          refine cM.mono ?_
          rintro e w6 ⟨rfl, hE6, hg6⟩
          go_wp2
          go_ret
          rw [HB8.out]
          have ht : r'.tail = r2 := by rw [HR2.out]; rfl
          refine ⟨HE5.out.2.1.trans hg6, _, rfl, HE5.out.2.2.2.keep (hg6.kxE HE5.out.1), by rw [ht]; exact hE6, ?_⟩
          rw [HR.out, List.length_tail]
          have := HE5.out.2.2.1
          simp
          omega
        · have HB8 : Hid (brk en T.a d (.ok (x, r')) = .error (3, (hd en r').a)) := brk_no hd8 h41
          have cM := must_no w5 P r' en (-1) [41] hE5 h41
          clear hE5 hg5 hl5 hx5 cR h41
          go_wp2_with fail
          refine cM.mono ?_
          rintro e w6 ⟨rfl, hE6, hg6⟩
          go_wp2
          go_ret
          rw [HB8.out]
          exact ⟨HE5.out.2.1.trans hg6, _, r', rfl, hE6, by rw [HR.out]; have := HE5.out.2.2.1; simp; omega, by decide⟩
  · have h40' : (T.t == [40]) = false := by rw [beq_eq_false_iff_ne]; exact h40
    clear cE
    cases h1 : isN T.t with
    | true =>
      have hq' := o1 h1
      rw [h1] at cN
      obtain ⟨r, hr⟩ := hcons (fun e => by rw [e] at h1; exact absurd h1 (by decide))
      clear o1 o2 o3 o4 hcons HNB h40
      by_cases h12 : 12 < T.t.length
      · rw [if_pos h12] at hq'
        subst hq'
        rw [← hsz] at h12
        have h12' : (12 : Int) < ((S).size : Int) := by omega
        go_wp2_with fail
        refine (cN _).mono ?_
        rintro e w4 ⟨rfl, rfl⟩
        go_wp2_with fail
        refine (cW _ HB.out _ _).mono ?_
        rintro e w4 ⟨rfl, hE4, hg4⟩
        have HE4 : Hid (Ey w4 P ts en 4 (T.a : Int) ∧ Gp P w w4) := ⟨hE4, (Gp.bl HB.out).trans hg4⟩
        clear hE4 hg4
        go_wp2_with fail
        refine (pass_no w4 P ts en 4 (T.a : Int) HE4.out.1 (by decide)).mono ?_
        rintro e w5 ⟨rfl, hb5⟩
        go_wp2
        go_ret
        exact ⟨(HE4.out.2.trans (Gp.bl hb5)).alloc _, _, ts, rfl, (HE4.out.1.step hb5).step ((Bl.refl _).alloc _), Nat.le_refl _, by decide⟩
      · rw [if_neg h12] at hq'
        subst hq'
        rw [← hsz] at h12
        have h12' : ¬ (12 : Int) < ((S).size : Int) := by omega
        have cX := fun wx (hb : Bl w wx) => pass_yes wx P T r en (-1) (by rw [← hr]; exact HE.out.step hb)
        rw [← HS.out] at cX
        have HR : Hid (ts = T :: r) := hr
        clear hr cW hsz
        go_wp2_with fail
        refine (cN _).mono ?_
        rintro e w4 ⟨rfl, rfl⟩
        go_wp2_with fail
        refine (cX _ HB.out).mono ?_
        rintro e w4 ⟨rfl, hE4, hg4⟩
        go_wp2
        go_ret
        refine ⟨((Gp.bl HB.out).trans hg4).alloc _, _, rfl, ⟨_, rfl, box_new w4 2 _ 0 _ [] _ _ HS.out rfl _ _⟩, ?_, ?_⟩
        · rw [HR.out]; exact hE4.step ((Bl.refl _).alloc _)
        · rw [HR.out]; simp
    | false =>
      rw [h1] at cN
      cases h2 : isU T.t with
      | true =>
        have hq' := o2 h1 h2
        obtain ⟨r, hr⟩ := hcons (fun e => by rw [e] at h2; exact absurd h2 (by decide))
        have cM := fun w => digs.refNumber_at S (nb T.t).1 (nb T.t).2 w (by omega) HNB
        obtain ⟨c, rr, hcr⟩ : ∃ c rr, T.t = c :: rr := by
          cases h : T.t with
          | nil => rw [h] at h2; exact absurd h2 (by decide)
          | cons c rr => exact ⟨c, rr, rfl⟩
        have hs0 : 0 < S.size := by rw [hsz, hcr]; simp
        have e1 : (((S[0]'hs0).toNat : Nat) : Int) = (c.toNat : Int) := by
          have : S = tx (c :: rr) := by rw [HS.out, hcr]
          subst this
          rfl
        have cD := refDigit_at (c.toNat : Int)
        have hdg : dg (c.toNat : Int) = true := by
          have : isU (c :: rr) = dg (c.toNat : Int) := rfl
          rw [← this, ← hcr]
          exact h2
        rw [hdg] at cD
        have hem : S.toList.isEmpty = false := by rw [htl, hcr]; rfl
        have hem' : (S.toList == []) = false := by rw [htl, hcr]; rfl
        have hb0 : (S.toList == [40]) = false := by rw [htl]; exact h40'
        generalize (c.toNat : Int) = cc at *
        clear o1 o2 o3 o4 hcons HNB h40 hcr hdg htl
        by_cases h0 : (nb T.t).2 = 0
        · rw [if_pos h0] at hq'
          subst hq'
          rw [h0] at cM
          obtain ⟨k, hk⟩ : ∃ k, k = (nb T.t).1 := ⟨_, rfl⟩
          rw [← hk] at cM
          have HK : Hid (k = (nb T.t).1) := hk
          have cX := fun wx (hb : Bl w wx) => pass_yes wx P T r en (-1) (by rw [← hr]; exact HE.out.step hb)
          rw [← HS.out] at cX
          have HR : Hid (ts = T :: r) := hr
          clear hk h0 hr cW hsz
          go_wp2_with fail
          refine (cN _).mono ?_
          rintro e w4 ⟨rfl, rfl⟩
          go_wp2_with fail
          refine (cD _).mono ?_
          rintro e w4 ⟨rfl, rfl⟩
          go_wp2_with fail
          refine (cM _).mono ?_
          rintro e w4 ⟨rfl, hb4⟩
          go_wp2_with fail
          refine (cX _ (HB.out.trans hb4.bl)).mono ?_
          rintro e w5 ⟨rfl, hE5, hg5⟩
          go_wp2
          go_ret
          refine ⟨((Gp.bl (HB.out.trans hb4.bl)).trans hg5).alloc _, _, rfl, ⟨_, rfl, ?_⟩, ?_, ?_⟩
          · rw [← HK.out]; exact box_new w5 1 _ k [] [] _ _ rfl rfl _ _
          · rw [HR.out]; exact hE5.step ((Bl.refl _).alloc _)
          · rw [HR.out]; simp
        · rw [if_neg h0] at hq'
          subst hq'
          obtain ⟨k, hk⟩ : ∃ k, k = (nb T.t).2 := ⟨_, rfl⟩
          obtain ⟨k1, hk1⟩ : ∃ k1, k1 = (nb T.t).1 := ⟨_, rfl⟩
          rw [← hk, ← hk1] at cM
          rw [← hk] at h0
          have HK : Hid (k = (nb T.t).2) := hk
          have h0' : (k == 0) = false := by rw [beq_eq_false_iff_ne]; exact h0
          have cW' := fun wx (hb : Bl w wx) => cW wx hb k (T.a : Int)
          clear hk hk1 hr cW hsz
          go_wp2_with fail
          refine (cN _).mono ?_
          rintro e w4 ⟨rfl, rfl⟩
          go_wp2_with fail
          refine (cD _).mono ?_
          rintro e w4 ⟨rfl, rfl⟩
          go_wp2_with fail
          refine (cM _).mono ?_
          rintro e w4 ⟨rfl, hb4⟩
          go_wp2_with fail
          refine (cW' _ (HB.out.trans hb4.bl)).mono ?_
          rintro e w5 ⟨rfl, hE5, hg5⟩
          have HE5 : Hid (Ey w5 P ts en k (T.a : Int) ∧ Gp P w w5) := ⟨hE5, (Gp.bl (HB.out.trans hb4.bl)).trans hg5⟩
          clear hE5 hg5 hb4
          go_wp2_with fail
          refine (pass_no w5 P ts en k (T.a : Int) HE5.out.1 h0).mono ?_
          rintro e w6 ⟨rfl, hb6⟩
          go_wp2
          go_ret
          refine ⟨(HE5.out.2.trans (Gp.bl hb6)).alloc _, ?_⟩
          rw [← HK.out]
          exact ⟨_, ts, rfl, (HE5.out.1.step hb6).step ((Bl.refl _).alloc _), Nat.le_refl _, h0⟩
      | false =>
        have hq' := o4 h1 h2 h40
        subst hq'
        clear o1 o2 o3 o4 HNB h40
        cases hTt : T.t with
        | nil =>
          have hem : S.toList.isEmpty = true := by rw [htl, hTt]; rfl
          have hem' : (S.toList == []) = true := by rw [htl, hTt]; rfl
          have hb0 : (S.toList == [40]) = false := by rw [htl]; exact h40'
          clear hcons htl hsz
          go_wp2_with fail
          refine (cN _).mono ?_
          rintro e w4 ⟨rfl, rfl⟩
          go_wp2_with fail
          refine (cW _ HB.out _ _).mono ?_
          rintro e w4 ⟨rfl, hE4, hg4⟩
          go_wp2
          go_ret
          exact ⟨(Gp.bl HB.out).trans hg4, none, ts, rfl, hE4, Nat.le_refl _, by decide⟩
        | cons c rr =>
          have hs0 : 0 < S.size := by rw [hsz, hTt]; simp
          have e1 : (((S[0]'hs0).toNat : Nat) : Int) = (c.toNat : Int) := by
            have : S = tx (c :: rr) := by rw [HS.out, hTt]
            subst this
            rfl
          have cD := refDigit_at (c.toNat : Int)
          have hdg : dg (c.toNat : Int) = false := by
            have : isU (c :: rr) = dg (c.toNat : Int) := rfl
            rw [← this, ← hTt]
            exact h2
          rw [hdg] at cD
          have hem : S.toList.isEmpty = false := by rw [htl, hTt]; rfl
          have hem' : (S.toList == []) = false := by rw [htl, hTt]; rfl
          have hb0 : (S.toList == [40]) = false := by rw [htl]; exact h40'
          generalize (c.toNat : Int) = cc at *
          clear hcons htl hsz hTt hdg
          go_wp2_with fail
          refine (cN _).mono ?_
          rintro e w4 ⟨rfl, rfl⟩
          go_wp2_with fail
          refine (cD _).mono ?_
          rintro e w4 ⟨rfl, rfl⟩
          go_wp2_with fail
          refine (cW _ HB.out _ _).mono ?_
          rintro e w4 ⟨rfl, hE4, hg4⟩
          go_wp2
          go_ret
          exact ⟨(Gp.bl HB.out).trans hg4, none, ts, rfl, hE4, Nat.le_refl _, by decide⟩
end Go.Proofs.YtpanodaecjlgaaaGreatDoor.ex
/- The document's reader: what ops hold together; the expression of a text. -/
namespace Go.Proofs.YtpanodaecjlgaaaGreatDoor.ex
set_option linter.unusedVariables false
open Go.ChangeShapes Go.WideShapes Go.ChangeAt Go.RowKit
open mem lx

theorem Ey.lenAt {w : World} {P : Nat} {ts : List Tk} {en : Nat} {c p : Int} (h : Ey w P ts en c p) : lenAt w P = ts.length := by
  obtain ⟨q, k, h1, _⟩ := h.ex
  have : w.cell? ⟨P, 0, none⟩ = some (.slice q ts.length k) := by rw [cell_of h1]; rfl
  unfold ex.lenAt
  rw [this]
theorem cl_is {f m d en : Nat} {x : Ex} {ts : List Tk} {q : Res} (hm : 1 ≤ m) (h : cl nb en (f + 1) m d x ts = some q) :
    (¬ m ≤ bd (hd en ts).t → q = .ok (x, ts)) ∧ (m ≤ bd (hd en ts).t → ts = hd en ts :: ts.tail ∧ ∃ q1, ce nb en f (bd (hd en ts).t + 1) d ts.tail = some q1 ∧ (∀ e, q1 = .error e → q = .error e) ∧ (∀ y r, q1 = .ok (y, r) → cl nb en f m d (.bin (hd en ts).a (hd en ts).t x y) r = some q)) := by
  cases ts with
  | nil =>
    rw [cl] at h
    injection h with h
    refine ⟨fun _ => h.symm, fun hb => ?_⟩
    have : m ≤ bd ([] : List UInt8) := hb
    have h0 : bd ([] : List UInt8) = 0 := by decide
    omega
  | cons t r =>
    rw [show hd en (t :: r) = t from rfl, show (t :: r).tail = r from rfl]
    rw [cl] at h
    refine ⟨fun hb => ?_, fun hb => ⟨rfl, ?_⟩⟩
    · rw [if_neg (fun h => hb h.1)] at h
      injection h with h
      exact h.symm
    · rw [if_pos ⟨hb, by omega⟩] at h
      split at h
      · cases h
      · rename_i e hr
        injection h with h
        exact ⟨_, hr, fun e' he => by injection he with he; rw [← he]; exact h.symm, fun y r hy => by cases hy⟩
      · rename_i y r' hr
        refine ⟨_, hr, ?_, ?_⟩
        · intro e he; cases he
        · intro y2 r2 hy
          injection hy with hy
          injection hy with hy1 hy2
          rw [← hy1, ← hy2]; exact h
/-- Reading, at all. -/
def ExC (P en : Nat) (f : Nat) : Prop := ∀ (m d : Nat) (ts : List Tk) (q : Res) (w : World), 1 ≤ m → m ≤ 4 → d ≤ 8 → Ey w P ts en 0 (-1) → ce nb en f m d ts = some q →
  Calls Tryz.prog 85 #[.pointer (some ⟨P, 0, none⟩), .int .i64 (m : Int), .int .i64 (d : Int)] w fun e w' => Xans P en ts w q e w'
/-- On the way. -/
def Wy (P en m d f : Nat) (ts : List Tk) (q : Res) (w wr : World) (v : Value) : Prop :=
  (∃ (f' : Nat) (x : Ex) (r : List Tk), f' ≤ f ∧ IsX wr v x ∧ Ey wr P r en 0 (-1) ∧ Gp P w wr ∧ cl nb en f' m d x r = some q ∧ r.length < ts.length) ∨
  ∃ (o : Option Addr) (c : Int) (p : Nat) (ts' : List Tk), q = .error (c, p) ∧ v = .pointer o ∧ Ey wr P ts' en c (p : Int) ∧ c ≠ 0 ∧ Gp P w wr ∧ ts'.length ≤ ts.length
set_option maxRecDepth 10000 in
set_option maxHeartbeats 2000000 in
theorem expr_step (P en f : Nat) (ih : ∀ g, g < f + 1 → ExC P en g) (m d : Nat) (ts : List Tk) (q : Res) (w : World) (h1 : 1 ≤ m) (h4 : m ≤ 4) (h8 : d ≤ 8) (hE : Ey w P ts en 0 (-1)) (hq : ce nb en (f + 1) m d ts = some q) :
    Calls Tryz.prog 85 #[.pointer (some ⟨P, 0, none⟩), .int .i64 (m : Int), .int .i64 (d : Int)] w fun e w' => Xans P en ts w q e w' := by
  rw [ce] at hq
  obtain ⟨q1, hq1⟩ : ∃ q1, sg nb en f d ts = some q1 := by
    cases h : sg nb en f d ts with
    | none => rw [h] at hq; cases hq
    | some q1 => exact ⟨q1, rfl⟩
  rw [hq1] at hq
  cases f with
  | zero => simp [sg] at hq1
  | succ g =>
    have c1 := single_at g P en d ts q1 w hE h8 hq1 (fun q1 d ts wx k1 k2 k3 => by
      have := ih g (by omega) 1 d ts q1 wx (by omega) (by omega) k2 k1 k3
      exact this)
    have HI : Hid (∀ k, k < g + 1 + 1 → ExC P en k) := ih
    have HE : Hid (Ey w P ts en 0 (-1)) := hE
    clear ih hE hq1
    go_enter Tryz.func85, Tryz.ntmps85
    go_wp2_with fail
    refine c1.mono ?_
    rintro e w1 ⟨hg1, hans⟩
    obtain ⟨v, o, hv, rfl, HW⟩ : ∃ v o, v = .pointer o ∧ e = .returned v ∧ Hid (Wy P en m d (g + 1) ts q w w1 v) := by
      cases q1 with
      | error cp =>
        obtain ⟨c, p⟩ := cp
        obtain ⟨o, ts', k1, k2, k3, k4⟩ := hans
        injection hq with hq
        exact ⟨_, o, rfl, k1, Or.inr ⟨o, c, p, ts', hq.symm, rfl, k2, k4, hg1, k3⟩⟩
      | ok xr =>
        obtain ⟨x, r⟩ := xr
        obtain ⟨v, k1, k2, k3, k4⟩ := hans
        obtain ⟨vb, hvb, _⟩ := k2.ptr
        exact ⟨v, some ⟨vb, 0, none⟩, hvb, k1, Or.inl ⟨g + 1, x, r, Nat.le_refl _, k2, k3, hg1, hq, k4⟩⟩
    subst hv
    clear hans hg1 c1 hq q1
    go_wp2
    go_loopw [7, 8, 9, 10] (fun v7 _ _ _ wr => ∃ o, v7 = .pointer o ∧ Hid (Wy P en m d (g + 1) ts q w wr v7)) (fun _ _ _ _ wr => ex.lenAt wr P)
    case atStart => exact ⟨o, rfl, HW.out⟩
    case round =>
      clear HW
      obtain ⟨o, rfl, HW⟩ := hrel
      rcases HW.out with ⟨f', x, r, hf, hx, hEr, hg, hcl, hlr⟩ | ⟨o', c, p, ts', hqe, ho, hEr, hc, hg, hlr⟩
      · cases f' with
        | zero => simp [cl] at hcl
        | succ k =>
          obtain ⟨l1, l2⟩ := cl_is h1 hcl
          obtain ⟨vb, hvb, _⟩ := hx.ptr
          injection hvb with hvb
          subst hvb
          have HX : Hid (IsX wr (.pointer (some ⟨vb, 0, none⟩)) x ∧ Ey wr P r en 0 (-1) ∧ Gp P w wr ∧ r.length < ts.length ∧ k < g + 1 + 1) := ⟨hx, hEr, hg, hlr, by omega⟩
          have cS := stop_at wr P r en 0 (-1) hEr
          rw [show (!((0 : Int) == 0)) = false from rfl] at cS
          have cT := fun wx (hb : Bl wr wx) => text_at wx P r en 0 (-1) (hEr.step hb)
          rw [show see 0 en r = (hd en r).t from if_pos rfl] at cT
          have cP := fun wx (hb : Bl wr wx) => place_at wx P r en 0 (-1) (hEr.step hb)
          obtain ⟨T, hT⟩ : ∃ T, T = hd en r := ⟨_, rfl⟩
          rw [← hT] at cT cP l1 l2
          have cB := hold_at T.t
          obtain ⟨S, hS⟩ : ∃ S, S = tx T.t := ⟨_, rfl⟩
          rw [← hS] at cT cB
          have HS : Hid (S = tx T.t) := hS
          clear hS hT hx hEr hg hlr hcl hf HW
          obtain ⟨B, hB⟩ : ∃ B, B = bd T.t := ⟨_, rfl⟩
          have hB3 := bd_le T.t
          rw [← hB] at cB l1 l2 hB3
          clear hB
          by_cases hb : m ≤ B
          · obtain ⟨hr0, q2, hr1, hr2, hr3⟩ := l2 hb
            have d1 : (m : Int) ≤ (B : Int) := by omega
            have d2 : (0 : Int) < (B : Int) := by omega
            have cX := fun wx (hb : Bl wr wx) => pass_yes wx P T r.tail en (-1) (by rw [← hr0]; exact HX.out.2.1.step hb)
            rw [← HS.out] at cX
            have cR := fun wx (h : Ey wx P r.tail en 0 (-1)) => HI.out k HX.out.2.2.2.2 (B + 1) d r.tail q2 wx (by omega) (by omega) h8 h hr1
            rw [show (((B + 1 : Nat) : Nat) : Int) = (B : Int) + 1 by omega] at cR
            have hwr : IntKind.i64.wrap ((B : Int) + 1) = (B : Int) + 1 := by rw [IntKind.wrap_i64]; omega
            have HR : Hid (r = T :: r.tail) := hr0
            have HQ : Hid ((∀ e, q2 = .error e → q = .error e) ∧ (∀ y r, q2 = .ok (y, r) → cl nb en k m d (.bin T.a T.t x y) r = some q)) := ⟨hr2, hr3⟩
            clear hr0 hr1 hr2 hr3 l1 l2 hb
            go_wp2_with fail
            refine cS.mono ?_
            rintro e w2 ⟨rfl, hb2⟩
            go_wp2_with fail
            refine (cT _ hb2).mono ?_
            rintro e w3 ⟨rfl, hb3⟩
            go_wp2_with fail
            refine (cB _).mono ?_
            rintro e w4 ⟨rfl, hw4⟩
            obtain rfl := hw4.symm
            go_wp2_with fail
            refine (cT _ (hb2.trans hb3)).mono ?_
            rintro e w4 ⟨rfl, hb4⟩
            go_wp2_with fail
            refine (cB _).mono ?_
            rintro e w5 ⟨rfl, hw5⟩
            obtain rfl := hw5.symm
            have HB4 : Hid (Bl wr w4) := (hb2.trans hb3).trans hb4
            clear hb2 hb3 hb4
            go_wp2_with fail
            refine (cP _ HB4.out).mono ?_
            rintro e w5 ⟨rfl, hw5⟩
            obtain rfl := hw5.symm
            go_wp2_with fail
            refine (cT _ HB4.out).mono ?_
            rintro e w5 ⟨rfl, hb5⟩
            go_wp2_with fail
            refine (cX _ (HB4.out.trans hb5)).mono ?_
            rintro e w6 ⟨rfl, hE6, hg6⟩
            have HX6 : Hid (IsX w6 (.pointer (some ⟨vb, 0, none⟩)) x ∧ Gp P wr w6) := by
              have hg06 : Gp P wr w6 := (Gp.bl (HB4.out.trans hb5)).trans hg6
              exact ⟨HX.out.1.keep (hg06.kxE HX.out.2.1), hg06⟩
            have HE6 : Hid (Ey w6 P r.tail en 0 (-1)) := hE6
            clear hE6 hg6 hb5 cX cS
            go_wp2_with fail
            refine (cB _).mono ?_
            rintro e w7 ⟨rfl, hw7⟩
            obtain rfl := hw7.symm
            go_wp2_with fail
            refine (cR _ HE6.out).mono ?_
            rintro e w7 ⟨hg7, hans⟩
            have HG7 : Hid (Gp P w w7 ∧ IsX w7 (.pointer (some ⟨vb, 0, none⟩)) x) := ⟨(HX.out.2.2.1.trans HX6.out.2).trans hg7, HX6.out.1.keep (hg7.kxE HE6.out)⟩
            have hm1 : ex.lenAt wr P = r.length := HX.out.2.1.lenAt
            have hm3 : r.tail.length < r.length := by rw [HR.out]; simp
            clear hg7 cB cP cT cR
            cases q2 with
            | error cp =>
              obtain ⟨c, p⟩ := cp
              obtain ⟨o2, ts2, rfl, hE7, hl7, hc7⟩ := hans
              have hqe := HQ.out.1 _ rfl
              subst hqe
              go_wp2
              go_roundw
              case rel => exact ⟨_, rfl, Or.inr ⟨_, c, p, ts2, rfl, rfl, hE7.step ((Bl.refl _).alloc _), hc7, HG7.out.1.alloc _, by have := HX.out.2.2.2.1; omega⟩⟩
              case measure => rw [hm1, (hE7.step ((Bl.refl _).alloc _)).lenAt]; omega
            | ok yr =>
              obtain ⟨y, r3⟩ := yr
              obtain ⟨v7, rfl, hy7, hE7, hl7⟩ := hans
              obtain ⟨vb7, rfl, _⟩ := hy7.ptr
              have hq3 := HQ.out.2 y r3 rfl
              go_wp2
              have hb9 : Bl w7 (w7.alloc (.cells #[.int .i64 3, .int .i64 (T.a : Int), .int .i64 0, .string ⟨#[]⟩, .string S, .pointer (some ⟨vb, 0, none⟩), .pointer (some ⟨vb7, 0, none⟩)] 118)) := (Bl.refl _).alloc _
              have hbin : IsX (w7.alloc (.cells #[.int .i64 3, .int .i64 (T.a : Int), .int .i64 0, .string ⟨#[]⟩, .string S, .pointer (some ⟨vb, 0, none⟩), .pointer (some ⟨vb7, 0, none⟩)] 118)) (.pointer (some ⟨w7.heap.size, 0, none⟩)) (.bin T.a T.t x y) := ⟨_, _, _, rfl, box_new w7 3 _ 0 [] _ _ _ rfl HS.out _ _, HG7.out.2.keep (Kx.bl hb9), hy7.keep (Kx.bl hb9)⟩
              go_roundw
              case rel => exact ⟨_, rfl, Or.inl ⟨k, _, r3, by have := HX.out.2.2.2.2; omega, hbin, hE7.step hb9, HG7.out.1.trans (Gp.bl hb9), hq3, by have := HX.out.2.2.2.1; omega⟩⟩
              case measure => rw [hm1, (hE7.step hb9).lenAt]; omega
          · have hq' := l1 hb
            have d1 : ¬ (m : Int) ≤ (B : Int) := by omega
            clear l1 l2 hb cP
            subst hq'
            go_wp2_with fail
            refine cS.mono ?_
            rintro e w2 ⟨rfl, hb2⟩
            go_wp2_with fail
            refine (cT _ hb2).mono ?_
            rintro e w3 ⟨rfl, hb3⟩
            go_wp2_with fail
            refine (cB _).mono ?_
            rintro e w4 ⟨rfl, hw4⟩
            obtain rfl := hw4.symm
            go_wp2
            go_ret
            have hb := hb2.trans hb3
            exact ⟨HX.out.2.2.1.trans (Gp.bl hb), _, rfl, HX.out.1.keep (Kx.bl hb), HX.out.2.1.step hb, HX.out.2.2.2.1⟩
      · have cS := stop_at wr P ts' en c p hEr
        have hc' : (c == 0) = false := by rw [beq_eq_false_iff_ne]; exact hc
        rw [hc', show (!false) = true from rfl] at cS
        have HX : Hid (Ey wr P ts' en c (p : Int) ∧ c ≠ 0 ∧ Gp P w wr ∧ ts'.length ≤ ts.length) := ⟨hEr, hc, hg, hlr⟩
        subst hqe
        clear hEr hc hg hlr hc' HW
        go_wp2_with fail
        refine cS.mono ?_
        rintro e w2 ⟨rfl, hb2⟩
        go_wp2
        go_ret
        exact ⟨HX.out.2.2.1.trans (Gp.bl hb2), o, ts', rfl, HX.out.1.step hb2, HX.out.2.2.2, HX.out.2.1⟩
theorem expr_at (P en : Nat) : ∀ f, ExC P en f := by
  intro f
  induction f using Nat.strongRecOn with
  | _ f ih =>
    intro m d ts q w h1 h4 h8 hE hq
    cases f with
    | zero => simp [ce] at hq
    | succ f => exact expr_step P en f ih m d ts q w h1 h4 h8 hE hq
end Go.Proofs.YtpanodaecjlgaaaGreatDoor.ex
/- What the document's own DigitsPrint answers. -/
namespace Go.Proofs.YtpanodaecjlgaaaGreatDoor.digs
open Go.ChangeShapes Go.WideShapes Go.ChangeAt Go.RowKit
open mem dig

def szOf : Value → Nat
  | .string s => s.size
  | _ => 0
theorem isK_one (b n W K K' : Nat) (hb : 2 ≤ b) (h : isK b n W K) (h' : isK b n W K') : K = K' := by
  have key : ∀ {A B : Nat}, isK b n W A → isK b n W B → ¬ A < B := by
    intro A B hA hB hlt
    obtain ⟨a1, a2, a3, a4⟩ := hA
    have := isK_stop b n W B A hb hB hlt (by omega)
    rw [Nat.div_eq_of_lt a3] at this
    omega
  have := key h h'
  have := key h' h
  omega
theorem pr_empty (b n k : Nat) : (strOfNums (pr b n k)).toList.isEmpty = decide (k = 0) := by
  rw [ByteArray.toList_eq, strOfNums_data]
  cases k <;> simp [pr]
theorem isK_max (b n W D k : Nat) (hb : 2 ≤ b) (hD : isK b n 0 D) (hk : D ≤ k) (hW : W ≤ k) (h : k = D ∨ k ≤ W) : isK b n W k := by
  obtain ⟨h1, h2, h3, h4⟩ := hD
  refine ⟨by omega, hW, Nat.lt_of_lt_of_le h3 (Nat.pow_le_pow_right (by omega) hk), ?_⟩
  rcases h with rfl | h
  · omega
  · omega
set_option maxRecDepth 4000 in
theorem refPrint_at (n B W K : Nat) (w : World) (hb : 2 ≤ B) (hb' : B ≤ 16) (hn : n < 2 ^ 64) (hW : W ≤ 64) (hK : isK B n W K) :
    Calls Tryz.prog 96 #[.int .u64 n, .int .i64 B, .int .i64 W] w fun e w' => e = .returned (.tuple #[.string (strOfNums (pr B n K)), .int .i64 0]) ∧ w' = w := by
  obtain ⟨D, hD⟩ := isK_some B n 0 hb hn
  have hD64 := isK_le B n 0 D hb hn (by omega) hD
  have HD : Hid (isK B n 0 D) := hD
  have HK : Hid (isK B n W K) := hK
  have hn' : n < 18446744073709551616 := hn
  clear hK hn hD
  go_enter Tryz.func96, Tryz.ntmps96
  go_wp2_with (go_at_call 72; refine (within_yes _ _ _ _ (by omega) (by omega)).mono ?_; rintro e w1 ⟨rfl, rfl⟩)
  go_loop [0, 8] (fun m s => ∃ k q : Nat, k ≤ D ∧ m = .int .u64 (q : Int) ∧ s = .string (strOfNums (pr B n k)) ∧ Hid (q = n / B ^ k)) (fun _ s => 65 - szOf s)
  case atStart => exact ⟨0, n, Nat.zero_le _, rfl, rfl, by simp [Hid]⟩
  case round =>
    obtain ⟨k, q, hk, rfl, rfl, HQ⟩ := hrel
    have hz := strOfNums_size (pr B n k)
    rw [pr_len] at hz
    have hE := pr_empty B n k
    by_cases hlt : k < D
    · have hm : 0 ≤ (q : Int) % (B : Int) ∧ (q : Int) % (B : Int) < 16 := ⟨Int.emod_nonneg _ (by omega), by have := Int.emod_lt_of_pos (q : Int) (show (0 : Int) < (B : Int) by omega); omega⟩
      obtain ⟨q', hq'⟩ : ∃ q' : Nat, q' = q / B := ⟨_, rfl⟩
      have hql : q ≤ n := by rw [HQ.out]; exact Nat.div_le_self _ _
      have hdq : IntKind.u64.wrap ((q : Int) / (B : Int)) = (q' : Int) := by
        have e : (q : Int) / (B : Int) = (q' : Int) := by rw [hq']; rfl
        have := Nat.div_le_self q B
        rw [e, IntKind.wrap_u64]; omega
      have HQ' : Hid (q' = n / B ^ (k + 1)) := by rw [hq', HQ.out]; exact div_next B n k
      have HDq : Hid (q' = q / B) := hq'
      have HS : Hid ((lit.extract (q % B) 16).extract 0 1 ++ strOfNums (pr B n k) = strOfNums (pr B n (k + 1))) := by
        show _ = _
        rw [lit_cut _ (by omega), HQ.out]; exact pr_push B n k
      have hcs : ((lit.extract (q % B) 16).extract 0 1).size = 1 := by rw [lit_cut _ (by omega)]; rfl
      have HZ : Hid (((lit.extract (q % B) 16).extract 0 1 ++ strOfNums (pr B n k)).size = k + 1) := by
        show _ = _
        rw [HS.out, strOfNums_size, pr_len]
      clear hq' hql
      unfold lit at HS hcs HZ
      by_cases hk0 : k = 0
      · subst hk0
        have hE' : (strOfNums (pr B n 0)).toList.isEmpty = true := hE
        clear hE
        by_cases hq : q = 0
        · subst hq
          go_wp2
          go_round
          case rel => exact ⟨1, 0, by omega, rfl, by rw [← HS.out, Nat.zero_mod], by rw [← HQ'.out, HDq.out]; simp [Hid]⟩
          case measure => have := HZ.out; rw [Nat.zero_mod] at this; simp only [szOf, this, hz]; omega
        · go_wp2
          go_round
          case rel => exact ⟨1, q', by omega, rfl, by rw [← HS.out], HQ'⟩
          case measure => have := HZ.out; simp only [szOf, this, hz]; omega
      · have hq : 0 < q := by rw [HQ.out]; exact isK_stop B n 0 D k hb HD.out hlt (by omega)
        go_wp2
        go_round
        case rel => exact ⟨k + 1, q', by omega, rfl, by rw [← HS.out], HQ'⟩
        case measure => have := HZ.out; simp only [szOf, this, hz]; omega
    · obtain rfl : k = D := by omega
      have hq0 : q = 0 := by rw [HQ.out]; exact Nat.div_eq_of_lt HD.out.2.2.1
      have hk1 : 1 ≤ k := HD.out.1
      have hE' : (strOfNums (pr B n k)).toList.isEmpty = false := by rw [hE]; simp; omega
      clear hE
      subst hq0
      go_wp2
      go_loop [8] (fun s => ∃ j : Nat, k ≤ j ∧ (j = k ∨ j ≤ W) ∧ s = .string (strOfNums (pr B n j))) (fun s => 64 - szOf s)
      case atStart => exact ⟨k, Nat.le_refl _, Or.inl rfl, rfl⟩
      case round =>
        obtain ⟨j, hj, hjw, rfl⟩ := hrel
        have hzj := strOfNums_size (pr B n j)
        rw [pr_len] at hzj
        by_cases hlw : j < W
        · have HS : Hid (strOfNums [48] ++ strOfNums (pr B n j) = strOfNums (pr B n (j + 1))) := pr_nought B n j (Nat.lt_of_lt_of_le HD.out.2.2.1 (Nat.pow_le_pow_right (by omega) hj))
          have HZ : Hid ((strOfNums [48] ++ strOfNums (pr B n j)).size = j + 1) := by
            show _ = _
            rw [HS.out, strOfNums_size, pr_len]
          go_wp2
          go_round
          case rel => exact ⟨j + 1, by omega, by omega, by rw [← HS.out]; rfl⟩
          case measure => have : (ByteArray.mk #[48] ++ strOfNums (pr B n j)).size = j + 1 := HZ.out; simp only [szOf, this, hzj]; omega
        · have hjK : j = K := isK_one B n W j K hb (isK_max B n W k j hb HD.out hj (by omega) hjw) HK.out
          subst hjK
          go_wp2
          go_ret2
          exact ⟨rfl, rfl⟩
end Go.Proofs.YtpanodaecjlgaaaGreatDoor.digs
/- The document's text of an expression; two expressions held against each other. -/
namespace Go.Proofs.YtpanodaecjlgaaaGreatDoor.ex
set_option linter.unusedVariables false
open Go.ChangeShapes Go.WideShapes Go.ChangeAt Go.RowKit
open mem lx

theorem pr_last (b n k : Nat) : dig.pr b n (k + 1) = dig.pr b (n / b) k ++ [dig.ch (n % b)] := by
  induction k with
  | zero => simp [dig.pr]
  | succ k ih =>
    rw [dig.pr, ih]
    show _ = dig.ch (n / b / b ^ k % b) :: dig.pr b (n / b) k ++ [dig.ch (n % b)]
    rw [Nat.div_div_eq_div_mul, ← Nat.pow_succ']
    rfl
theorem ch_is (d : Nat) (h : d < 10) : UInt8.ofNat (dig.ch d).toNat = UInt8.ofNat (48 + d) := by
  unfold dig.ch
  rw [if_pos h]
  congr 1
theorem dec_pr (K : Nat) : ∀ n, dig.isK 10 n 0 K → (dig.pr 10 n K).map (fun x => UInt8.ofNat x.toNat) = Lib.decDigits n := by
  induction K with
  | zero => intro n h; have := h.1; omega
  | succ k ih =>
    intro n h
    obtain ⟨_, _, h3, h4⟩ := h
    rw [pr_last, List.map_append]
    cases k with
    | zero =>
      have hn : n < 10 := by simpa using h3
      rw [Lib.decDigits, dif_pos hn, Nat.mod_eq_of_lt hn]
      show [UInt8.ofNat (dig.ch n).toNat] = _
      rw [ch_is n hn]
    | succ j =>
      have h5 : 10 ^ (j + 1) ≤ n := by
        rcases h4 with h4 | h4 | h4
        · omega
        · omega
        · exact h4
      have h10 : 10 ≤ n := by
        have : 10 ^ 1 ≤ 10 ^ (j + 1) := Nat.pow_le_pow_right (by omega) (by omega)
        omega
      rw [Lib.decDigits, dif_neg (by omega), ih (n / 10) ⟨by omega, by omega, ?_, ?_⟩]
      · show _ ++ [UInt8.ofNat (dig.ch (n % 10)).toNat] = _
        rw [ch_is _ (by omega)]
      · rw [Nat.div_lt_iff_lt_mul (by omega), ← Nat.pow_succ]; exact h3
      · by_cases hj : j = 0
        · left; omega
        · right; right
          rw [Nat.le_div_iff_mul_le (by omega), ← Nat.pow_succ]
          exact (show 10 ^ (j + 1 - 1 + 1) ≤ n by rw [show j + 1 - 1 + 1 = j + 1 by omega]; exact h5)
theorem print_at (n : Nat) (w : World) (hn : n < 9223372036854775808) : Calls Tryz.prog 96 #[.int .u64 (n : Int), .int .i64 10, .int .i64 0] w fun e w' => e = .returned (.tuple #[.string (tx (Lib.itoa (n : Int))), .int .i64 0]) ∧ w' = w := by
  obtain ⟨K, hK⟩ := dig.isK_some 10 n 0 (by omega) (by omega)
  refine (digs.refPrint_at n 10 0 K w (by omega) (by omega) (by omega) (by omega) hK).mono ?_
  rintro e w' ⟨rfl, rfl⟩
  refine ⟨?_, rfl⟩
  rw [itoa_pos _ (by omega), show ((n : Int)).toNat = n from rfl, ← dec_pr K n hK]
  rfl
theorem tx_cat (a b : List UInt8) : tx a ++ tx b = tx (a ++ b) := by
  unfold tx
  apply ByteArray.ext
  rw [ByteArray.data_append]
  simp
theorem ret_tx {X : ByteArray} {l : List UInt8} (h : X = tx l) : Ending.returned (.string X) = .returned (.string (tx l)) := by rw [h]
/-- What is asked of ExprText. -/
def RTx (x : Ex) : Prop := ∀ (v : Value) (w : World), IsX w v x → Nw x → Okb x → (txt x).length ≤ 1000000 →
  Calls Tryz.prog 95 #[v] w fun e w' => e = .returned (.string (tx (txt x))) ∧ ∃ q, w' = w.drewN q
def RSd (x : Ex) : Prop := ∀ (m : Nat) (v : Value) (w : World), m ≤ 4 → IsX w v x → Nw x → Okb x → (txt x).length ≤ 1000000 →
  Calls Tryz.prog 117 #[v, .int .i64 (m : Int)] w fun e w' => e = .returned (.string (tx (sdt x m))) ∧ ∃ q, w' = w.drewN q
set_option maxRecDepth 10000 in
theorem rside_of (x : Ex) (h : RTx x) : RSd x := by
  intro m v w hm hx hn ho hl
  have c := h v w hx hn ho hl
  have hz : (tx (txt x)).size = (txt x).length := tx_size _
  by_cases ht : top x < m
  · have hs : sdt x m = [40] ++ txt x ++ [41] := by unfold sdt; rw [if_pos ht]
    rw [hs]
    cases x with
    | num a n => exact absurd ht (by show ¬ 4 < m; omega)
    | nam a t => exact absurd ht (by show ¬ 4 < m; omega)
    | bin a o xl xr =>
      obtain ⟨xb, vl, vr, rfl, hc, _, _⟩ := hx
      have k0 : w.cell? ⟨xb, 0, none⟩ = some (.int .i64 3) := by rw [cell_of hc]; rfl
      have k4 : w.cell? ⟨xb, 4, none⟩ = some (.string (tx o)) := by rw [cell_of hc]; rfl
      have ht' : bd o < m := ht
      obtain ⟨k, hk⟩ : ∃ k, k = bd o := ⟨_, rfl⟩
      have hge : decide (k < m) = true := decide_eq_true (by omega)
      have hge' : k < m := by omega
      have cB := hold_at o
      rw [← hk] at cB
      have HT : Hid (txt (.bin a o xl xr) = txt (.bin a o xl xr)) := rfl
      obtain ⟨T, hT⟩ : ∃ T, T = tx (txt (.bin a o xl xr)) := ⟨_, rfl⟩
      rw [← hT] at c hz
      have HH : Hid (T = tx (txt (.bin a o xl xr))) := hT
      clear hT hk ht ht' hc HT hs
      go_enter Tryz.func117, Tryz.ntmps117
      go_wp2_with fail
      refine (cB _).mono ?_
      rintro e w1 ⟨rfl, rfl⟩
      go_wp2_with fail
      refine c.mono ?_
      rintro e w2 ⟨rfl, q, rfl⟩
      go_wp2
      go_ret
      exact ⟨ret_tx (by rw [HH.out, show ({ data := #[40] } : ByteArray) = tx [40] from rfl, show ({ data := #[41] } : ByteArray) = tx [41] from rfl, tx_cat, tx_cat]; rfl), q, rfl⟩
  · have hs : sdt x m = txt x := by unfold sdt; rw [if_neg ht]
    rw [hs]
    cases x with
    | num a n =>
      obtain ⟨xb, rfl, hc⟩ := hx
      have k0 : w.cell? ⟨xb, 0, none⟩ = some (.int .i64 1) := by rw [cell_of hc]; rfl
      go_enter Tryz.func117, Tryz.ntmps117
      go_wp2_with fail
      refine c.mono ?_
      rintro e w2 ⟨rfl, q, rfl⟩
      go_wp2
      go_ret
      exact ⟨rfl, q, rfl⟩
    | nam a t =>
      obtain ⟨xb, rfl, hc⟩ := hx
      have k0 : w.cell? ⟨xb, 0, none⟩ = some (.int .i64 2) := by rw [cell_of hc]; rfl
      go_enter Tryz.func117, Tryz.ntmps117
      go_wp2_with fail
      refine c.mono ?_
      rintro e w2 ⟨rfl, q, rfl⟩
      go_wp2
      go_ret
      exact ⟨rfl, q, rfl⟩
    | bin a o xl xr =>
      obtain ⟨xb, vl, vr, rfl, hc, _, _⟩ := hx
      have k0 : w.cell? ⟨xb, 0, none⟩ = some (.int .i64 3) := by rw [cell_of hc]; rfl
      have k4 : w.cell? ⟨xb, 4, none⟩ = some (.string (tx o)) := by rw [cell_of hc]; rfl
      have ht' : ¬ bd o < m := ht
      obtain ⟨k, hk⟩ : ∃ k, k = bd o := ⟨_, rfl⟩
      have hge : decide (k < m) = false := decide_eq_false (by omega)
      have hge' : ¬ k < m := by omega
      have cB := hold_at o
      rw [← hk] at cB
      clear ht ht' hk hc hs
      go_enter Tryz.func117, Tryz.ntmps117
      go_wp2_with fail
      refine (cB _).mono ?_
      rintro e w1 ⟨rfl, rfl⟩
      go_wp2_with fail
      refine c.mono ?_
      rintro e w2 ⟨rfl, q, rfl⟩
      go_wp2
      go_ret
      exact ⟨rfl, q, rfl⟩
set_option maxRecDepth 10000 in
set_option maxHeartbeats 1000000 in
theorem rtext_of (x : Ex) : RTx x := by
  induction x with
  | num a n =>
    intro v w hx hn ho hl
    obtain ⟨xb, rfl, hc⟩ := hx
    obtain ⟨h0, h1⟩ := (show 0 ≤ n ∧ n < 9223372036854775808 from hn)
    obtain ⟨k, rfl⟩ : ∃ k : Nat, n = (k : Int) := ⟨n.toNat, by omega⟩
    have k0 : w.cell? ⟨xb, 0, none⟩ = some (.int .i64 1) := by rw [cell_of hc]; rfl
    have k2 : w.cell? ⟨xb, 2, none⟩ = some (.int .i64 (k : Int)) := by rw [cell_of hc]; rfl
    have cP := print_at k w (by omega)
    have hcv : IntKind.u64.wrap (k : Int) = (k : Int) := by rw [IntKind.wrap_u64]; omega
    have HT : Hid (txt (.num a (k : Int)) = Lib.itoa (k : Int)) := rfl
    rw [HT.out]
    go_enter Tryz.func95, Tryz.ntmps95
    go_wp2_with fail
    refine cP.mono ?_
    rintro e w2 ⟨rfl, rfl⟩
    go_wp2
    go_ret
    exact ⟨rfl, 0, rfl⟩
  | nam a t =>
    intro v w hx hn ho hl
    obtain ⟨xb, rfl, hc⟩ := hx
    have k0 : w.cell? ⟨xb, 0, none⟩ = some (.int .i64 2) := by rw [cell_of hc]; rfl
    have k3 : w.cell? ⟨xb, 3, none⟩ = some (.string (tx t)) := by rw [cell_of hc]; rfl
    go_enter Tryz.func95, Tryz.ntmps95
    go_wp2
    go_ret
    exact ⟨rfl, 0, rfl⟩
  | bin a o l r il ir =>
    intro v w hx hn ho hl
    obtain ⟨xb, vl, vr, rfl, hc, hxl, hxr⟩ := hx
    have hlen := hl
    rw [txt_bin] at hl
    have hsl : (txt l).length ≤ (sdt l (bd o)).length := by unfold sdt; split <;> simp <;> omega
    have hsr : (txt r).length ≤ (sdt r (bd o + 1)).length := by unfold sdt; split <;> simp <;> omega
    simp only [List.length_append, List.length_cons, List.length_nil] at hl
    have hbo := bd_le o
    have cl := fun wx (hw : Kx w wx) => rside_of l il (bd o) vl wx (by omega) (hxl.keep hw) hn.1 ho.2.1 (by omega)
    have cr := fun wx (hw : Kx w wx) => rside_of r ir (bd o + 1) vr wx (by omega) (hxr.keep hw) hn.2 ho.2.2 (by omega)
    have k0 : w.cell? ⟨xb, 0, none⟩ = some (.int .i64 3) := by rw [cell_of hc]; rfl
    have k4 : w.cell? ⟨xb, 4, none⟩ = some (.string (tx o)) := by rw [cell_of hc]; rfl
    have k5 : w.cell? ⟨xb, 5, none⟩ = some vl := by rw [cell_of hc]; rfl
    have k6 : w.cell? ⟨xb, 6, none⟩ = some vr := by rw [cell_of hc]; rfl
    obtain ⟨vbl, rfl, _⟩ := hxl.ptr
    obtain ⟨vbr, rfl, _⟩ := hxr.ptr
    have cH := hold_at o
    have z1 : (tx (sdt l (bd o))).size ≤ 1000000 := by rw [tx_size]; omega
    have z2 : (tx (sdt r (bd o + 1))).size ≤ 1000000 := by rw [tx_size]; omega
    have z3 : (tx o).size ≤ 1000000 := by rw [tx_size]; omega
    have HT : Hid (tx (sdt l (bd o)) ++ tx [32] ++ tx o ++ tx [32] ++ tx (sdt r (bd o + 1)) = tx (txt (.bin a o l r))) := by
      unfold Hid
      rw [tx_cat, tx_cat, tx_cat, tx_cat, txt_bin]
      simp
    obtain ⟨k, hk⟩ : ∃ k, k = bd o := ⟨_, rfl⟩
    rw [← hk] at cl cr cH z1 z2 hbo HT
    obtain ⟨X, hX⟩ : ∃ X, X = tx (sdt l k) := ⟨_, rfl⟩
    obtain ⟨Y, hY⟩ : ∃ Y, Y = tx (sdt r (k + 1)) := ⟨_, rfl⟩
    obtain ⟨O, hO⟩ : ∃ O, O = tx o := ⟨_, rfl⟩
    rw [← hX] at cl z1 HT
    rw [← hY] at cr z2 HT
    rw [← hO] at cH k4 z3 HT
    clear hX hY hO hk hc hxl hxr il ir hl hsl hsr hlen
    have hk1 : wrap64 ((k : Int) + 1) = ((k + 1 : Nat) : Int) := by unfold wrap64; omega
    have hk2 : IntKind.i64.wrap ((k : Int) + 1) = ((k + 1 : Nat) : Int) := by rw [IntKind.wrap_i64]; omega
    have hdw : ∀ n, Kx w (w.drewN n) := fun n => Kx.bl ((Bl.refl w).drewN n)
    go_enter Tryz.func95, Tryz.ntmps95
    go_wp2_with fail
    go_quiet (first
      | (go_at_call 109; exact Calls.quiet_of_same (cH _))
      | (go_at_call_of 117 (Addr.mk vbl 0 none); exact Calls.quiet_of (cl _ (hdw _)))
      | (go_at_call_of 117 (Addr.mk vbr 0 none); first | exact Calls.quiet_of (cr _ (hdw _)) | (rw [hk2]; exact Calls.quiet_of (cr _ (hdw _))) | (rw [hk1]; exact Calls.quiet_of (cr _ (hdw _)))))
    go_wp2
    go_ret
    exact ⟨ret_tx HT.out, _, rfl⟩
set_option maxRecDepth 10000 in
set_option maxHeartbeats 1000000 in
/-- Two that are the same. -/
theorem same_at (x : Ex) : ∀ (u v : Value) (w : World), IsX w u x → IsX w v x → Calls Tryz.prog 37 #[u, v] w fun e w' => e = .returned (.bool true) ∧ ∃ q, w' = w.drewN q := by
  have c0 : ∀ w, Calls Tryz.prog 37 #[.pointer none, .pointer none] w fun e w' => e = .returned (.bool true) ∧ w' = w := fun w => by
    go_enter Tryz.func37, Tryz.ntmps37
    go_wp2
    go_ret
    exact ⟨rfl, rfl⟩
  induction x with
  | num a n =>
    intro u v w hx hy
    obtain ⟨xb, rfl, hc⟩ := hx
    obtain ⟨yb, rfl, hd⟩ := hy
    have a0 : w.cell? ⟨xb, 0, none⟩ = some (.int .i64 1) := by rw [cell_of hc]; rfl
    have a1 : w.cell? ⟨xb, 1, none⟩ = some (.int .i64 (a : Int)) := by rw [cell_of hc]; rfl
    have a2 : w.cell? ⟨xb, 2, none⟩ = some (.int .i64 n) := by rw [cell_of hc]; rfl
    have a3 : w.cell? ⟨xb, 3, none⟩ = some (.string (tx [])) := by rw [cell_of hc]; rfl
    have a4 : w.cell? ⟨xb, 4, none⟩ = some (.string (tx [])) := by rw [cell_of hc]; rfl
    have a5 : w.cell? ⟨xb, 5, none⟩ = some (.pointer none) := by rw [cell_of hc]; rfl
    have a6 : w.cell? ⟨xb, 6, none⟩ = some (.pointer none) := by rw [cell_of hc]; rfl
    have b0 : w.cell? ⟨yb, 0, none⟩ = some (.int .i64 1) := by rw [cell_of hd]; rfl
    have b1 : w.cell? ⟨yb, 1, none⟩ = some (.int .i64 (a : Int)) := by rw [cell_of hd]; rfl
    have b2 : w.cell? ⟨yb, 2, none⟩ = some (.int .i64 n) := by rw [cell_of hd]; rfl
    have b3 : w.cell? ⟨yb, 3, none⟩ = some (.string (tx [])) := by rw [cell_of hd]; rfl
    have b4 : w.cell? ⟨yb, 4, none⟩ = some (.string (tx [])) := by rw [cell_of hd]; rfl
    have b5 : w.cell? ⟨yb, 5, none⟩ = some (.pointer none) := by rw [cell_of hd]; rfl
    have b6 : w.cell? ⟨yb, 6, none⟩ = some (.pointer none) := by rw [cell_of hd]; rfl
    clear hc hd
    go_enter Tryz.func37, Tryz.ntmps37
    go_wp2_with fail
    simp only [List.append]
    go_quiet (first | (go_at_call 37; exact Calls.quiet_of_same (c0 _)))
    go_wp2
    go_ret
    exact ⟨rfl, _, rfl⟩
  | nam a t =>
    intro u v w hx hy
    obtain ⟨xb, rfl, hc⟩ := hx
    obtain ⟨yb, rfl, hd⟩ := hy
    have a0 : w.cell? ⟨xb, 0, none⟩ = some (.int .i64 2) := by rw [cell_of hc]; rfl
    have a1 : w.cell? ⟨xb, 1, none⟩ = some (.int .i64 (a : Int)) := by rw [cell_of hc]; rfl
    have a2 : w.cell? ⟨xb, 2, none⟩ = some (.int .i64 0) := by rw [cell_of hc]; rfl
    have a3 : w.cell? ⟨xb, 3, none⟩ = some (.string (tx t)) := by rw [cell_of hc]; rfl
    have a4 : w.cell? ⟨xb, 4, none⟩ = some (.string (tx [])) := by rw [cell_of hc]; rfl
    have a5 : w.cell? ⟨xb, 5, none⟩ = some (.pointer none) := by rw [cell_of hc]; rfl
    have a6 : w.cell? ⟨xb, 6, none⟩ = some (.pointer none) := by rw [cell_of hc]; rfl
    have b0 : w.cell? ⟨yb, 0, none⟩ = some (.int .i64 2) := by rw [cell_of hd]; rfl
    have b1 : w.cell? ⟨yb, 1, none⟩ = some (.int .i64 (a : Int)) := by rw [cell_of hd]; rfl
    have b2 : w.cell? ⟨yb, 2, none⟩ = some (.int .i64 0) := by rw [cell_of hd]; rfl
    have b3 : w.cell? ⟨yb, 3, none⟩ = some (.string (tx t)) := by rw [cell_of hd]; rfl
    have b4 : w.cell? ⟨yb, 4, none⟩ = some (.string (tx [])) := by rw [cell_of hd]; rfl
    have b5 : w.cell? ⟨yb, 5, none⟩ = some (.pointer none) := by rw [cell_of hd]; rfl
    have b6 : w.cell? ⟨yb, 6, none⟩ = some (.pointer none) := by rw [cell_of hd]; rfl
    clear hc hd
    go_enter Tryz.func37, Tryz.ntmps37
    go_wp2_with fail
    simp only [List.append]
    go_quiet (first | (go_at_call 37; exact Calls.quiet_of_same (c0 _)))
    go_wp2
    go_ret
    exact ⟨rfl, _, rfl⟩
  | bin a o l r il ir =>
    intro u v w hx hy
    obtain ⟨xb, vl, vr, rfl, hc, hxl, hxr⟩ := hx
    obtain ⟨yb, ul, ur, rfl, hd, hyl, hyr⟩ := hy
    have a0 : w.cell? ⟨xb, 0, none⟩ = some (.int .i64 3) := by rw [cell_of hc]; rfl
    have a1 : w.cell? ⟨xb, 1, none⟩ = some (.int .i64 (a : Int)) := by rw [cell_of hc]; rfl
    have a2 : w.cell? ⟨xb, 2, none⟩ = some (.int .i64 0) := by rw [cell_of hc]; rfl
    have a3 : w.cell? ⟨xb, 3, none⟩ = some (.string (tx [])) := by rw [cell_of hc]; rfl
    have a4 : w.cell? ⟨xb, 4, none⟩ = some (.string (tx o)) := by rw [cell_of hc]; rfl
    have a5 : w.cell? ⟨xb, 5, none⟩ = some vl := by rw [cell_of hc]; rfl
    have a6 : w.cell? ⟨xb, 6, none⟩ = some vr := by rw [cell_of hc]; rfl
    have b0 : w.cell? ⟨yb, 0, none⟩ = some (.int .i64 3) := by rw [cell_of hd]; rfl
    have b1 : w.cell? ⟨yb, 1, none⟩ = some (.int .i64 (a : Int)) := by rw [cell_of hd]; rfl
    have b2 : w.cell? ⟨yb, 2, none⟩ = some (.int .i64 0) := by rw [cell_of hd]; rfl
    have b3 : w.cell? ⟨yb, 3, none⟩ = some (.string (tx [])) := by rw [cell_of hd]; rfl
    have b4 : w.cell? ⟨yb, 4, none⟩ = some (.string (tx o)) := by rw [cell_of hd]; rfl
    have b5 : w.cell? ⟨yb, 5, none⟩ = some ul := by rw [cell_of hd]; rfl
    have b6 : w.cell? ⟨yb, 6, none⟩ = some ur := by rw [cell_of hd]; rfl
    have hdw : ∀ n, Kx w (w.drewN n) := fun n => Kx.bl ((Bl.refl w).drewN n)
    have cl := fun n => il vl ul (w.drewN n) (hxl.keep (hdw n)) (hyl.keep (hdw n))
    have cr := fun n => ir vr ur (w.drewN n) (hxr.keep (hdw n)) (hyr.keep (hdw n))
    obtain ⟨p1, rfl, _⟩ := hxl.ptr
    obtain ⟨p2, rfl, _⟩ := hxr.ptr
    obtain ⟨p3, rfl, _⟩ := hyl.ptr
    obtain ⟨p4, rfl, _⟩ := hyr.ptr
    clear hc hd il ir hxl hxr hyl hyr
    go_enter Tryz.func37, Tryz.ntmps37
    go_wp2_with fail
    simp only [List.append]
    go_quiet (first
      | (go_at_call_of 37 (Addr.mk p1 0 none); exact Calls.quiet_of (cl _))
      | (go_at_call_of 37 (Addr.mk p2 0 none); exact Calls.quiet_of (cr _)))
    go_wp2
    go_ret
    exact ⟨rfl, _, rfl⟩
theorem same_nil (w : World) : Calls Tryz.prog 37 #[.pointer none, .pointer none] w fun e w' => e = .returned (.bool true) ∧ w' = w := by
  go_enter Tryz.func37, Tryz.ntmps37
  go_wp2
  go_ret
  exact ⟨rfl, rfl⟩
end Go.Proofs.YtpanodaecjlgaaaGreatDoor.ex
/- The document's text of an item. -/
namespace Go.Proofs.YtpanodaecjlgaaaGreatDoor.tr
set_option linter.unusedVariables false
open Go.ChangeShapes Go.WideShapes Go.ChangeAt Go.RowKit Go.Shelf
open mem lx ex tm

/-- What the document writes of an item. -/
def itT (d : D) : List UInt8 := if d.kd = 4 then wWhen ++ [32] ++ txO d.ct ++ [32, 123] else paT d ++ [59]
theorem kw_num {d : D} {t : List UInt8} (h1 : d.kd = 1) (h : tm.numOf t = some (d.wd, d.od, d.sg)) :
    (d.wd = 1 ∧ d.od = 0 ∧ kw d = (if d.sg then [105] else [117]) ++ Lib.itoa ((8 * d.wd : Nat) : Int)) ∨ (1 < d.wd ∧ d.wd ≤ 8 ∧ d.od ≤ 1 ∧ kw d = (if d.sg then [105] else [117]) ++ Lib.itoa ((8 * d.wd : Nat) : Int) ++ (if d.od = 0 then [108, 101] else [98, 101])) := by
  have key : ∀ p ∈ numW, (p.2.1 = 1 ∧ p.2.2.1 = 0 ∧ p.1 = (if p.2.2.2 then [105] else [117]) ++ Lib.itoa ((8 * p.2.1 : Nat) : Int)) ∨ (1 < p.2.1 ∧ p.2.1 ≤ 8 ∧ p.2.2.1 ≤ 1 ∧ p.1 = (if p.2.2.2 then [105] else [117]) ++ Lib.itoa ((8 * p.2.1 : Nat) : Int) ++ (if p.2.2.1 = 0 then [108, 101] else [98, 101])) := by
    have i1 : Lib.itoa ((8 * 1 : Nat) : Int) = [56] := by simp [Lib.itoa, Lib.decDigits]
    have i2 : Lib.itoa ((8 * 2 : Nat) : Int) = [49, 54] := by simp [Lib.itoa, Lib.decDigits]
    have i4 : Lib.itoa ((8 * 4 : Nat) : Int) = [51, 50] := by simp [Lib.itoa, Lib.decDigits]
    have i8 : Lib.itoa ((8 * 8 : Nat) : Int) = [54, 52] := by simp [Lib.itoa, Lib.decDigits]
    intro p hp
    simp only [numW, List.mem_cons, List.not_mem_nil, or_false] at hp
    rcases hp with rfl | rfl | rfl | rfl | rfl | rfl | rfl | rfl | rfl | rfl | rfl | rfl <;> simp only [i1, i2, i4, i8] <;> decide
  have same : ∀ p ∈ numW, ∃ q, numW.find? (fun r => r.2.1 == p.2.1 && r.2.2.1 == p.2.2.1 && r.2.2.2 == p.2.2.2) = some q ∧ q = p := by decide
  unfold tm.numOf at h
  rw [Option.map_eq_some_iff] at h
  obtain ⟨p, hp, he⟩ := h
  have hm := List.mem_of_find?_eq_some hp
  obtain ⟨a, b, s⟩ := (⟨congrArg (·.1) he, congrArg (·.2.1) he, congrArg (·.2.2) he⟩ : p.2.1 = d.wd ∧ p.2.2.1 = d.od ∧ p.2.2.2 = d.sg)
  have hk : kw d = p.1 := by
    obtain ⟨q, hq, rfl⟩ := same p hm
    unfold kw
    rw [if_neg (by rw [h1]; decide), if_neg (by rw [h1]; decide), ← a, ← b, ← s, hq]; rfl
  rw [hk, ← a, ← b, ← s]
  exact key p hm
theorem one_i (b : Bool) (w : World) : Calls Tryz.prog 87 #[.bool b] w fun e w' => e = .returned (.int .i64 (if b then 1 else 0)) ∧ w' = w := by
  cases b
  · go_enter Tryz.func87, Tryz.ntmps87
    go_wp2
    go_ret
    exact ⟨rfl, rfl⟩
  · go_enter Tryz.func87, Tryz.ntmps87
    go_wp2
    go_ret
    exact ⟨rfl, rfl⟩
theorem print_i (V : Int) (n : Nat) (w : World) (h : V = (n : Int)) (hn : n < 9223372036854775808) : Calls Tryz.prog 96 #[.int .u64 V, .int .i64 10, .int .i64 0] w fun e w' => e = .returned (.tuple #[.string (tx (Lib.itoa (n : Int))), .int .i64 0]) ∧ w' = w := by
  subst h
  exact print_at n w hn
theorem rtext_b (x : Ex) (pc : Option Addr) (w : World) (hx : IsO w pc (some x)) (hw : WX x) (hl : (txt x).length ≤ 1000000) : Calls Tryz.prog 95 #[.pointer pc] w fun e w' => e = .returned (.string (tx (txt x))) ∧ Bl w w' :=
  (rtext_of x _ w hx hw.2.1 hw.1.okb hl).mono (by rintro e w' ⟨rfl, n, rfl⟩; exact ⟨rfl, (Bl.refl _).drewN n⟩)
attribute [local go_sem] World.cell?_alloc_some
set_option maxRecDepth 10000 in
set_option maxHeartbeats 4000000 in
theorem itemText_at (w : World) (c : C) (hd : WD c.d) (hx : IsO w c.pc c.d.ct) (hl : (txO c.d.ct).length ≤ 1000000) :
    Calls Tryz.prog 64 #[itV c] w fun e w' => e = .returned (.string (tx (itT c.d))) ∧ Bl w w' := by
  have hb1 : Bl w (w.alloc (.cells (cl c).toArray 75)) := (Bl.refl _).alloc _
  obtain ⟨N, hN⟩ : ∃ N, N = w.heap.size := ⟨_, rfl⟩
  obtain ⟨w1, hw1⟩ : ∃ w1, w1 = w.alloc (.cells (cl c).toArray 75) := ⟨_, rfl⟩
  have hv1 : Iv w1 N c := ⟨by rw [hw1, hN]; exact new_at _ _⟩
  rw [← hw1] at hb1
  have H1 : Hid (Bl w w1 ∧ Iv w1 N c ∧ IsO w1 c.pc c.d.ct) := ⟨hb1, hv1, hx.keep (Kx.bl hb1)⟩
  have HD : Hid (WD c.d ∧ (txO c.d.ct).length ≤ 1000000) := ⟨hd, hl⟩
  obtain ⟨q0, q1, q2, q3, q4, q5, q6, q7, q8, q9, q10, q11, q12⟩ := hv1.facts
  clear hb1 hv1 hx hl
  rcases hd with hd | hd | hd | hd
  · obtain ⟨e1, ⟨x, e2, e3⟩, _⟩ := hd
    rw [e1] at q0
    have cX := rtext_b x c.pc w1 (e2 ▸ H1.out.2.2) e3 (by have := HD.out.2; rw [e2] at this; exact this)
    have hz : (tx (txt x)).size ≤ 1000000 := by rw [tx_size]; have := HD.out.2; rw [e2] at this; exact this
    have HT : Hid (tx wWhen ++ tx [32] ++ tx (txt x) ++ tx [32, 123] = tx (itT c.d)) := by
      show _ = _
      rw [itT, if_pos e1, e2, tx_cat, tx_cat, tx_cat]; rfl
    clear q1 q2 q4 q5 q6 q7 q9 q10 q11 q12 e1 e2 e3
    go_enter Tryz.func64, Tryz.ntmps64
    go_upto_region 1 with fail
    change Code.wp _ _ _ _ (w.alloc (.cells (cl c).toArray 75))
    rw [← hw1, ← hN]
    clear hw1 hN
    go_wp2_with fail
    refine cX.mono ?_
    rintro e w2 ⟨rfl, hb2⟩
    have HB2 : Hid (Bl w w2) := H1.out.1.trans hb2
    clear hb2
    go_wp2
    go_ret
    refine ⟨ret_tx ?_, HB2.out⟩
    rw [← HT.out]; rfl
  · obtain ⟨e1, hnm, ⟨x, e2, e3⟩, em, er, _⟩ := hd
    rw [e1] at q0
    have cX := rtext_b x c.pc w1 (e2 ▸ H1.out.2.2) e3 (by have := HD.out.2; rw [e2] at this; exact this)
    obtain ⟨xb, ex, _⟩ := IsX.ptr (v := .pointer c.pc) (x := x) (w := w1) (by have h := H1.out.2.2; rw [e2] at h; exact h)
    obtain ⟨X, hX⟩ : ∃ X, X = tx (txt x) := ⟨_, rfl⟩
    obtain ⟨M, hM⟩ : ∃ M, M = tx c.d.nm := ⟨_, rfl⟩
    have hz : X.size ≤ 1000000 := by rw [hX, tx_size]; have := HD.out.2; rw [e2] at this; exact this
    have hMs : M.size ≤ 12 := by rw [hM, tx_size]; exact hnm.2.2.1
    have HT : Hid (tx wBytes ++ (tx [32] ++ M) ++ (tx [91] ++ X ++ tx [93]) ++ tx [59] = tx (itT c.d)) := by
      show _ = _
      have h4 : ¬ c.d.kd = 4 := by rw [e1]; decide
      rw [hX, hM, itT, if_neg h4, paT, mnT, if_pos (Or.inr e1), ruT, if_pos (Or.inl er), kw, if_pos e1, e2, tx_cat, tx_cat, tx_cat, tx_cat, tx_cat, tx_cat]
      simp [txO]
    rw [← hX] at cX
    rw [← hM] at q2
    have ex' : c.pc = some ⟨xb, 0, none⟩ := by injection ex
    rw [ex'] at q8 cX
    clear q1 q4 q5 q6 q7 q9 q10 q11 q12 hX hM ex ex'
    go_enter Tryz.func64, Tryz.ntmps64
    go_upto_region 1 with fail
    change Code.wp _ _ _ _ (w.alloc (.cells (cl c).toArray 75))
    rw [← hw1, ← hN]
    clear hw1 hN
    go_wp2_with fail
    refine cX.mono ?_
    rintro e w2 ⟨rfl, hb2⟩
    have HB2 : Hid (Bl w w2) := H1.out.1.trans hb2
    obtain ⟨q0, q1, q2, q3, q4, q5, q6, q7, q8, q9, q10, q11, q12⟩ := (H1.out.2.1.bl hb2).facts
    rw [e1] at q0
    rw [er] at q9
    clear hb2 q1 q2 q3 q4 q5 q6 q7 q8 q10 q11 q12
    go_wp2
    go_ret
    refine ⟨ret_tx ?_, HB2.out⟩
    rw [← HT.out]; rfl
  · obtain ⟨e1, hty, hnm, _, _, _, er, _, _, hm⟩ := hd
    rw [e1] at q0
    obtain ⟨M, hM⟩ : ∃ M, M = tx c.d.nm := ⟨_, rfl⟩
    obtain ⟨K, hK⟩ : ∃ K, K = tx c.d.ty := ⟨_, rfl⟩
    have hMs : M.size ≤ 12 := by rw [hM, tx_size]; exact hnm.2.2.1
    have hKs : K.size ≤ 12 := by rw [hK, tx_size]; exact hty.2.2.1
    have h4 : ¬ c.d.kd = 4 := by rw [e1]; decide
    have h2 : ¬ c.d.kd = 2 := by rw [e1]; decide
    rcases hm with ⟨em, x, e2, e3⟩ | ⟨em, e2⟩
    · have cX := rtext_b x c.pc w1 (e2 ▸ H1.out.2.2) e3 (by have := HD.out.2; rw [e2] at this; exact this)
      obtain ⟨xb, ex, _⟩ := IsX.ptr (v := .pointer c.pc) (x := x) (w := w1) (by have h := H1.out.2.2; rw [e2] at h; exact h)
      obtain ⟨X, hX⟩ : ∃ X, X = tx (txt x) := ⟨_, rfl⟩
      have hz : X.size ≤ 1000000 := by rw [hX, tx_size]; have := HD.out.2; rw [e2] at this; exact this
      have HT : Hid (K ++ (tx [32] ++ M) ++ (tx [91] ++ X ++ tx [93]) ++ tx [59] = tx (itT c.d)) := by
        show _ = _
        rw [hX, hM, hK, itT, if_neg h4, paT, mnT, if_pos (Or.inl em), ruT, if_pos (Or.inl er), kw, if_neg h2, if_pos e1, e2, tx_cat, tx_cat, tx_cat, tx_cat, tx_cat, tx_cat]
        simp [txO]
      rw [← hX] at cX
      rw [← hM] at q2
      rw [← hK] at q3
      have ex' : c.pc = some ⟨xb, 0, none⟩ := by injection ex
      rw [ex'] at q8 cX
      clear q1 q4 q5 q6 q7 q9 q10 q11 q12 hX hM hK ex ex' h4 h2
      go_enter Tryz.func64, Tryz.ntmps64
      go_upto_region 1 with fail
      change Code.wp _ _ _ _ (w.alloc (.cells (cl c).toArray 75))
      rw [← hw1, ← hN]
      clear hw1 hN
      go_wp2_with fail
      refine cX.mono ?_
      rintro e w2 ⟨rfl, hb2⟩
      have HB2 : Hid (Bl w w2) := H1.out.1.trans hb2
      obtain ⟨q0, q1, q2, q3, q4, q5, q6, q7, q8, q9, q10, q11, q12⟩ := (H1.out.2.1.bl hb2).facts
      rw [e1] at q0
      rw [er] at q9
      clear hb2 q1 q2 q3 q4 q5 q6 q7 q8 q10 q11 q12
      go_wp2
      go_ret
      refine ⟨ret_tx ?_, HB2.out⟩
      rw [← HT.out]; rfl
    · have hpc : c.pc = none := by have h := H1.out.2.2; rw [e2] at h; exact h
      have HT : Hid (K ++ (tx [32] ++ M) ++ tx [59] = tx (itT c.d)) := by
        show _ = _
        rw [hM, hK, itT, if_neg h4, paT, mnT, if_neg (by rw [em]; simp [h2]), ruT, if_pos (Or.inl er), kw, if_neg h2, if_pos e1, tx_cat, tx_cat, tx_cat]
        simp
      rw [← hM] at q2
      rw [← hK] at q3
      rw [hpc] at q8
      rw [er] at q9
      have HB1 : Hid (Bl w w1) := H1.out.1
      clear q1 q4 q5 q6 q7 q10 q11 q12 hM hK hpc h4 h2
      go_enter Tryz.func64, Tryz.ntmps64
      go_upto_region 1 with fail
      change Code.wp _ _ _ _ (w.alloc (.cells (cl c).toArray 75))
      rw [← hw1, ← hN]
      clear hw1 hN
      go_wp2
      go_ret
      refine ⟨ret_tx ?_, HB1.out⟩
      rw [← HT.out]; rfl
  · obtain ⟨e1, hty, ⟨t, ht⟩, hnm, hm⟩ := hd
    rw [e1] at q0
    obtain ⟨M, hM⟩ : ∃ M, M = tx c.d.nm := ⟨_, rfl⟩
    obtain ⟨K, hK⟩ : ∃ K, K = tx (kw c.d) := ⟨_, rfl⟩
    have h4 : ¬ c.d.kd = 4 := by rw [e1]; decide
    have h2 : ¬ c.d.kd = 2 := by rw [e1]; decide
    have hMs : M.size ≤ 12 := by rw [hM, tx_size]; exact hnm.2.2.1
    have hKs : K.size ≤ 12 := by rw [hK, tx_size]; exact kw_len HD.out.1 h4
    have HK : Hid ((c.d.wd = 1 ∧ c.d.od = 0 ∧ K = tx ((if c.d.sg then [105] else [117]) ++ Lib.itoa ((8 * c.d.wd : Nat) : Int))) ∨ (1 < c.d.wd ∧ c.d.wd ≤ 8 ∧ c.d.od ≤ 1 ∧ K = tx ((if c.d.sg then [105] else [117]) ++ Lib.itoa ((8 * c.d.wd : Nat) : Int) ++ (if c.d.od = 0 then [108, 101] else [98, 101])))) := by
      rcases kw_num e1 ht with ⟨a, b, e⟩ | ⟨a, b, b', e⟩
      · exact Or.inl ⟨a, b, by rw [hK, e]⟩
      · exact Or.inr ⟨a, b, b', by rw [hK, e]⟩
    go_enter Tryz.func64, Tryz.ntmps64
    go_upto_region 1 with fail
    change Code.wp _ _ _ _ (w.alloc (.cells (cl c).toArray 75))
    rw [← hw1, ← hN]
    clear hw1 hN
    go_upto_block 0 with fail
    go_cut [3] from 4 to 46 (fun s3 wx => s3 = .string K ∧ Hid (Bl w1 wx))
    case first =>
      clear hm hM hnm hty ht hMs HD q1 q2 q3 q7 q8 q9 q10 q11 q12
      obtain ⟨D, hD⟩ : ∃ D, D = tx (Lib.itoa ((8 * c.d.wd : Nat) : Int)) := ⟨_, rfl⟩
      have hDs : D.size ≤ 12 := by
        rcases HK.out with ⟨_, _, e⟩ | ⟨_, _, _, e⟩
        · rw [e, tx_size] at hKs; rw [hD, tx_size]; simp only [List.length_append] at hKs; omega
        · rw [e, tx_size] at hKs; rw [hD, tx_size]; simp only [List.length_append] at hKs; omega
      cases hsg : c.d.sg with
      | true =>
        rw [hsg] at q6
        rcases HK.out with ⟨a, b, e⟩ | ⟨a, b, b', e⟩
        · have HE : Hid (tx [105] ++ D = K) := by
            show _ = _
            rw [e, hsg, hD, tx_cat]; rfl
          have cP := fun wx => print_i 8 8 wx rfl (by decide)
          have hD' : D = tx (Lib.itoa ((8 : Nat) : Int)) := by rw [hD, a]
          rw [← hD'] at cP
          rw [a] at q4
          rw [b] at q5
          clear HK hD hD' e a b
          go_wp2_with fail
          refine (cP w1).mono ?_
          rintro e w2 ⟨rfl, rfl⟩
          go_wp2_with fail
          refine Calls.mono (one_i _ _) ?_
          rintro e w3 ⟨rfl, rfl⟩
          go_wp2_with fail
          go_meet
          exact ⟨by rw [← HE.out]; rfl, (Bl.refl _).alloc _⟩
        · obtain ⟨k, hk⟩ : ∃ k, k = c.d.wd := ⟨_, rfl⟩
          rw [← hk] at q4 hD a b
          have cP := fun V wx h => print_i V (8 * k) wx h (by omega)
          rw [← hD] at cP
          have d1 : decide ((1 : Int) < (k : Int)) = true := decide_eq_true (by omega)
          have d2 : decide ((k : Int) > (1 : Int)) = true := decide_eq_true (by omega)
          have hod : c.d.od = 0 ∨ c.d.od = 1 := by omega
          rcases hod with ho | ho
          · have HE : Hid (tx [105] ++ D ++ tx [108, 101] = K) := by
              show _ = _
              rw [e, hsg, hD, ho, hk, tx_cat, tx_cat]; rfl
            rw [ho] at q5
            clear HK hD e ho hk
            go_wp2_with fail
            refine Calls.mono (cP _ w1 ?_) ?_
            · omega
            · rintro e w2 ⟨rfl, rfl⟩
              go_wp2_with fail
              refine Calls.mono (one_i _ _) ?_
              rintro e w3 ⟨rfl, rfl⟩
              go_wp2_with fail
              go_meet
              exact ⟨by rw [← HE.out]; rfl, ((Bl.refl _).alloc _).alloc _⟩
          · have HE : Hid (tx [105] ++ D ++ tx [98, 101] = K) := by
              show _ = _
              rw [e, hsg, hD, ho, hk, tx_cat, tx_cat]; rfl
            rw [ho] at q5
            clear HK hD e ho hk
            go_wp2_with fail
            refine Calls.mono (cP _ w1 ?_) ?_
            · omega
            · rintro e w2 ⟨rfl, rfl⟩
              go_wp2_with fail
              refine Calls.mono (one_i _ _) ?_
              rintro e w3 ⟨rfl, rfl⟩
              go_wp2_with fail
              go_meet
              exact ⟨by rw [← HE.out]; rfl, ((Bl.refl _).alloc _).alloc _⟩
      | false =>
        rw [hsg] at q6
        rcases HK.out with ⟨a, b, e⟩ | ⟨a, b, b', e⟩
        · have HE : Hid (tx [117] ++ D = K) := by
            show _ = _
            rw [e, hsg, hD, tx_cat]; rfl
          have cP := fun wx => print_i 8 8 wx rfl (by decide)
          have hD' : D = tx (Lib.itoa ((8 : Nat) : Int)) := by rw [hD, a]
          rw [← hD'] at cP
          rw [a] at q4
          rw [b] at q5
          clear HK hD hD' e a b
          go_wp2_with fail
          refine (cP w1).mono ?_
          rintro e w2 ⟨rfl, rfl⟩
          go_wp2_with fail
          refine Calls.mono (one_i _ _) ?_
          rintro e w3 ⟨rfl, rfl⟩
          go_wp2_with fail
          go_meet
          exact ⟨by rw [← HE.out]; rfl, (Bl.refl _).alloc _⟩
        · obtain ⟨k, hk⟩ : ∃ k, k = c.d.wd := ⟨_, rfl⟩
          rw [← hk] at q4 hD a b
          have cP := fun V wx h => print_i V (8 * k) wx h (by omega)
          rw [← hD] at cP
          have d1 : decide ((1 : Int) < (k : Int)) = true := decide_eq_true (by omega)
          have d2 : decide ((k : Int) > (1 : Int)) = true := decide_eq_true (by omega)
          have hod : c.d.od = 0 ∨ c.d.od = 1 := by omega
          rcases hod with ho | ho
          · have HE : Hid (tx [117] ++ D ++ tx [108, 101] = K) := by
              show _ = _
              rw [e, hsg, hD, ho, hk, tx_cat, tx_cat]; rfl
            rw [ho] at q5
            clear HK hD e ho hk
            go_wp2_with fail
            refine Calls.mono (cP _ w1 ?_) ?_
            · omega
            · rintro e w2 ⟨rfl, rfl⟩
              go_wp2_with fail
              refine Calls.mono (one_i _ _) ?_
              rintro e w3 ⟨rfl, rfl⟩
              go_wp2_with fail
              go_meet
              exact ⟨by rw [← HE.out]; rfl, ((Bl.refl _).alloc _).alloc _⟩
          · have HE : Hid (tx [117] ++ D ++ tx [98, 101] = K) := by
              show _ = _
              rw [e, hsg, hD, ho, hk, tx_cat, tx_cat]; rfl
            rw [ho] at q5
            clear HK hD e ho hk
            go_wp2_with fail
            refine Calls.mono (cP _ w1 ?_) ?_
            · omega
            · rintro e w2 ⟨rfl, rfl⟩
              go_wp2_with fail
              refine Calls.mono (one_i _ _) ?_
              rintro e w3 ⟨rfl, rfl⟩
              go_wp2_with fail
              go_meet
              exact ⟨by rw [← HE.out]; rfl, ((Bl.refl _).alloc _).alloc _⟩
    case rest =>
      obtain ⟨rfl, HBc⟩ := hcut
      have hvc := H1.out.2.1.bl HBc.out
      have hxc : IsO wc c.pc c.d.ct := H1.out.2.2.keep (Kx.bl HBc.out)
      have HW : Hid (Bl w wc) := H1.out.1.trans HBc.out
      obtain ⟨q0, q1, q2, q3, q4, q5, q6, q7, q8, q9, q10, q11, q12⟩ := hvc.facts
      rcases hm with ⟨em, ⟨x, e2, e3⟩, er, _⟩ | ⟨em, e2, hr⟩
      · have cX := rtext_b x c.pc wc (by rw [e2] at hxc; exact hxc) e3 (by have := HD.out.2; rw [e2] at this; exact this)
        obtain ⟨xb, ex, _⟩ := IsX.ptr (v := .pointer c.pc) (x := x) (w := wc) (by rw [e2] at hxc; exact hxc)
        obtain ⟨X, hX⟩ : ∃ X, X = tx (txt x) := ⟨_, rfl⟩
        have hz : X.size ≤ 1000000 := by rw [hX, tx_size]; have := HD.out.2; rw [e2] at this; exact this
        have HT : Hid (K ++ (tx [32] ++ M) ++ (tx [91] ++ X ++ tx [93]) ++ tx [59] = tx (itT c.d)) := by
          show _ = _
          rw [hX, hM, hK, itT, if_neg h4, paT, mnT, if_pos (Or.inl em), ruT, if_pos (Or.inl er), e2, tx_cat, tx_cat, tx_cat, tx_cat, tx_cat, tx_cat]
          simp [txO]
        rw [← hX] at cX
        rw [← hM] at q2
        have ex' : c.pc = some ⟨xb, 0, none⟩ := by injection ex
        rw [ex'] at q8 cX
        have Hv : Hid (Iv wc N c) := hvc
        clear hK q0 q1 q3 q4 q5 q6 q7 q9 q10 q11 q12 hX hM ex ex' h4 h2 hvc hxc ht
        go_wp2_with fail
        refine cX.mono ?_
        rintro e w2 ⟨rfl, hb2⟩
        have HB2 : Hid (Bl w w2) := HW.out.trans hb2
        obtain ⟨q0, q1, q2, q3, q4, q5, q6, q7, q8, q9, q10, q11, q12⟩ := (Hv.out.bl hb2).facts
        rw [er] at q9
        clear hb2 q0 q1 q2 q3 q4 q5 q6 q7 q8 q10 q11 q12
        go_wp2
        go_ret
        refine ⟨ret_tx ?_, HB2.out⟩
        rw [← HT.out]; rfl
      · have hpc : c.pc = none := by rw [e2] at hxc; exact hxc
        rcases hr with ⟨er, _, _⟩ | hr
        · have HT : Hid (K ++ (tx [32] ++ M) ++ tx [59] = tx (itT c.d)) := by
            show _ = _
            rw [hM, hK, itT, if_neg h4, paT, mnT, if_neg (by rw [em]; simp [h2]), ruT, if_pos (Or.inl er), tx_cat, tx_cat, tx_cat]
            simp
          rw [← hM] at q2
          rw [hpc] at q8
          rw [er] at q9
          clear q0 q1 q3 q4 q5 q6 q7 q10 q11 q12 hM hK hpc h4 h2 hvc hxc ht
          go_wp2
          go_ret
          refine ⟨ret_tx ?_, HW.out⟩
          rw [← HT.out]; rfl
        · have h1 : NM c.d.f1 := by
            rcases hr with ⟨_, h, _⟩ | ⟨_, h, _⟩ <;> exact h
          obtain ⟨F, hF⟩ : ∃ F, F = tx c.d.f1 := ⟨_, rfl⟩
          have hFs : F.size ≤ 12 := by rw [hF, tx_size]; exact h1.2.2.1
          rw [← hM] at q2
          rw [hpc] at q8
          rw [← hF] at q10
          rcases hr with ⟨hr, _, hl⟩ | ⟨hr, _, hl⟩
          · rcases hr with er | er
            · have HT : Hid (K ++ (tx [32] ++ M) ++ (tx [32, 61, 32] ++ tx wSize ++ tx [32] ++ F) ++ tx [59] = tx (itT c.d)) := by
                show _ = _
                rw [hM, hK, hF, itT, if_neg h4, paT, mnT, if_neg (by rw [em]; simp [h2]), ruT, if_neg (by rw [er]; decide), er, if_neg (fun h => absurd h.1 (by decide)), tx_cat, tx_cat, tx_cat, tx_cat, tx_cat, tx_cat, tx_cat]
                simp [rw_]
              rw [er] at q9
              clear q0 q1 q3 q4 q5 q6 q7 q12 hM hK hF hpc h4 h2 hvc hxc ht er hl
              go_wp2_with fail
              go_region
              go_wp2
              go_ret
              refine ⟨ret_tx ?_, (HW.out.alloc _).drewN 1⟩
              rw [← HT.out]; rfl
            · have HT : Hid (K ++ (tx [32] ++ M) ++ (tx [32, 61, 32] ++ tx wCount ++ tx [32] ++ F) ++ tx [59] = tx (itT c.d)) := by
                show _ = _
                rw [hM, hK, hF, itT, if_neg h4, paT, mnT, if_neg (by rw [em]; simp [h2]), ruT, if_neg (by rw [er]; decide), er, if_neg (fun h => absurd h.1 (by decide)), tx_cat, tx_cat, tx_cat, tx_cat, tx_cat, tx_cat, tx_cat]
                simp [rw_]
              rw [er] at q9
              clear q0 q1 q3 q4 q5 q6 q7 q12 hM hK hF hpc h4 h2 hvc hxc ht er hl
              go_wp2_with fail
              go_region
              go_wp2
              go_ret
              refine ⟨ret_tx ?_, (HW.out.alloc _).drewN 1⟩
              rw [← HT.out]; rfl
          · obtain ⟨G, hG⟩ : ∃ G, G = tx c.d.l1 := ⟨_, rfl⟩
            have hGs : G.size ≤ 12 := by rw [hG, tx_size]; exact hl.2.2.1
            rw [← hG] at q11
            by_cases hfl : c.d.l1 = c.d.f1
            · have HT : Hid (K ++ (tx [32] ++ M) ++ (tx [32, 61, 32] ++ tx wCheck ++ tx [32] ++ F) ++ tx [59] = tx (itT c.d)) := by
                show _ = _
                rw [hM, hK, hF, itT, if_neg h4, paT, mnT, if_neg (by rw [em]; simp [h2]), ruT, if_neg (by rw [hr]; decide), hr, if_neg (fun h => h.2 hfl), tx_cat, tx_cat, tx_cat, tx_cat, tx_cat, tx_cat, tx_cat]
                simp [rw_]
              have hGF : G = F := by rw [hG, hF, hfl]
              rw [hGF] at q11
              rw [hr] at q9
              clear q0 q1 q3 q4 q5 q6 q7 q12 hM hK hF hG hpc h4 h2 hvc hxc ht hr hl hfl hGF
              go_wp2_with fail
              go_region
              go_wp2
              go_ret
              refine ⟨ret_tx ?_, (HW.out.alloc _).drewN 1⟩
              rw [← HT.out]; rfl
            · have HT : Hid (K ++ (tx [32] ++ M) ++ (tx [32, 61, 32] ++ tx wCheck ++ tx [32] ++ F) ++ (tx [32] ++ G) ++ tx [59] = tx (itT c.d)) := by
                show _ = _
                rw [hM, hK, hF, hG, itT, if_neg h4, paT, mnT, if_neg (by rw [em]; simp [h2]), ruT, if_neg (by rw [hr]; decide), hr, if_pos ⟨rfl, hfl⟩, tx_cat, tx_cat, tx_cat, tx_cat, tx_cat, tx_cat, tx_cat, tx_cat, tx_cat]
                simp [rw_]
              have g3 : (G.toList == F.toList) = false := by rw [hG, hF, tl_tx, tl_tx]; simp [hfl]
              rw [hr] at q9
              clear q0 q1 q3 q4 q5 q6 q7 q12 hM hK hF hG hpc h4 h2 hvc hxc ht hr hl hfl
              go_wp2_with fail
              go_region
              go_wp2
              go_ret
              refine ⟨ret_tx ?_, (HW.out.alloc _).drewN 1⟩
              rw [← HT.out]; rfl
end Go.Proofs.YtpanodaecjlgaaaGreatDoor.tr
