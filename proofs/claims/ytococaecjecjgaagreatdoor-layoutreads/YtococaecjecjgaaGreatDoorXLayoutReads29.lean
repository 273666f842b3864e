/- Texts laid together: Er3, Er4, Lr2, Lr3, Er5. -/
import Derived.Test.YtococaecjecjgaaGreatDoorXLayoutReads28
import Derived.Test.YtococaecjecjgaaGreatDoorXLayoutReads27
import Derived.Deep.RegionHeld3
namespace Go.Proofs.YtococaecjecjgaaGreatDoor.ex
set_option linter.unusedVariables false
open Go.ChangeShapes Go.WideShapes Go.ChangeAt Go.RowKit
open mem lx

def Xans (P en : Nat) (ts : List Tk) (w : World) (q : Res) (e : Ending) (w' : World) : Prop :=
  Gp P w w' ∧ match q with
  | .ok (x, r) => ∃ v, e = .returned v ∧ IsX w' v x ∧ Ey w' P r en 0 (-1) ∧ r.length < ts.length
  | .error (c, p) => ∃ o ts', e = .returned (.pointer o) ∧ Ey w' P ts' en c (p : Int) ∧ ts'.length ≤ ts.length ∧ c ≠ 0
theorem sg_is {f d en : Nat} {ts : List Tk} {q : Res} (hq : sg nb en (f + 1) d ts = some q) :
    (isN (hd en ts).t = true → q = if 12 < (hd en ts).t.length then .error (4, (hd en ts).a) else .ok (.nam (hd en ts).a (hd en ts).t, ts.tail)) ∧
    (isN (hd en ts).t = false → isU (hd en ts).t = true → q = if (nb (hd en ts).t).2 = 0 then .ok (.num (hd en ts).a (nb (hd en ts).t).1, ts.tail) else .error ((nb (hd en ts).t).2, (hd en ts).a)) ∧
    (isN (hd en ts).t = false → isU (hd en ts).t = false → (hd en ts).t = [40] → ∃ q1, (d = 8 ∨ ce nb en f 1 (d + 1) ts.tail = some q1) ∧ q = brk en (hd en ts).a d q1) ∧
    (isN (hd en ts).t = false → isU (hd en ts).t = false → ¬ (hd en ts).t = [40] → q = .error (3, (hd en ts).a)) := by
  cases ts with
  | nil =>
    rw [sg] at hq
    injection hq with hq
    refine ⟨fun h => ?_, fun _ h => ?_, fun _ _ h => ?_, fun _ _ _ => hq.symm⟩
    · exact absurd h (by show ¬ isN [] = true; decide)
    · exact absurd h (by show ¬ isU [] = true; decide)
    · exact absurd h (by show ¬ ([] : List UInt8) = [40]; decide)
  | cons t r =>
    rw [show hd en (t :: r) = t from rfl, show (t :: r).tail = r from rfl]
    rw [sg] at hq
    refine ⟨fun h1 => ?_, fun h1 h2 => ?_, fun h1 h2 h3 => ?_, fun h1 h2 h3 => ?_⟩
    · rw [if_pos h1] at hq
      split at hq
      · rename_i h; rw [if_pos h]; injection hq with hq; exact hq.symm
      · rename_i h; rw [if_neg h]; injection hq with hq; exact hq.symm
    · rw [if_neg (by rw [h1]; decide), if_pos h2] at hq
      split at hq
      · rename_i h; rw [if_pos h]; injection hq with hq; exact hq.symm
      · rename_i h; rw [if_neg h]; injection hq with hq; exact hq.symm
    · rw [if_neg (by rw [h1]; decide), if_neg (by rw [h2]; decide), if_pos h3] at hq
      split at hq
      · rename_i h8
        injection hq with hq
        exact ⟨.error (0, 0), Or.inl h8, by unfold brk; rw [if_pos h8]; exact hq.symm⟩
      · rename_i h8
        split at hq
        · cases hq
        · rename_i e hr
          injection hq with hq
          exact ⟨_, Or.inr hr, by rw [brk_err h8]; exact hq.symm⟩
        · rename_i x r' hr
          split at hq
          · rename_i h5
            injection hq with hq
            exact ⟨_, Or.inr hr, by rw [brk_yes h8 h5]; exact hq.symm⟩
          · rename_i h5
            injection hq with hq
            exact ⟨_, Or.inr hr, by rw [brk_no h8 h5]; exact hq.symm⟩
    · rw [if_neg (by rw [h1]; decide), if_neg (by rw [h2]; decide), if_neg h3] at hq
      injection hq with hq
      exact hq.symm
theorem hd_cons_of {en : Nat} {ts : List Tk} (h : (hd en ts).t ≠ []) : ∃ r, ts = hd en ts :: r := by
  cases ts with
  | nil => exact absurd rfl h
  | cons t r => exact ⟨r, rfl⟩
theorem box_new (w : World) (a b c : Int) (n o : List UInt8) (S U : ByteArray) (hS : S = tx n) (hU : U = tx o) (l r : Value) : (w.alloc (.cells #[.int .i64 a, .int .i64 b, .int .i64 c, .string S, .string U, l, r] 152)).heap[w.heap.size]? = some (cellsX a b c n o l r) := by
  rw [new_at, hS, hU]
  rfl
set_option maxRecDepth 10000 in
set_option maxHeartbeats 2000000 in
theorem single_at (f P en d : Nat) (ts : List Tk) (q : Res) (w : World) (hE : Ey w P ts en 0 (-1)) (h8 : d ≤ 8) (hq : sg nb en (f + 1) d ts = some q)
    (cE : ∀ (q1 : Res) (d : Nat) (ts : List Tk) wx, Ey wx P ts en 0 (-1) → d ≤ 8 → ce nb en f 1 d ts = some q1 → Calls Tryz.prog 111 #[.pointer (some ⟨P, 0, none⟩), .int .i64 1, .int .i64 (d : Int)] wx fun e w' => Xans P en ts wx q1 e w') :
    Calls Tryz.prog 142 #[.pointer (some ⟨P, 0, none⟩), .int .i64 (d : Int)] w fun e w' => Xans P en ts w q e w' := by
  have cP := place_at w P ts en 0 (-1) hE
  have cT := text_at w P ts en 0 (-1) hE
  have cS := fun wx (hb : Bl w wx) => stop_at wx P ts en 0 (-1) (hE.step hb)
  rw [show see 0 en ts = (hd en ts).t from if_pos rfl] at cT
  rw [show (!((0 : Int) == 0)) = false from rfl] at cS
  have HE : Hid (Ey w P ts en 0 (-1)) := hE
  clear hE
  obtain ⟨T, hT⟩ : ∃ T, T = hd en ts := ⟨_, rfl⟩
  rw [← hT] at cT cP
  have hone := sg_is hq
  rw [← hT] at hone
  obtain ⟨o1, o2, o3, o4⟩ := hone
  have hcons : T.t ≠ [] → ∃ r, ts = T :: r := by rw [hT]; exact hd_cons_of
  have hTz : T.t.length ≤ 3000 := by
    by_cases h : T.t = []
    · rw [h]; simp
    · obtain ⟨r, hr⟩ := hcons h
      exact (HE.out.tok T (by rw [hr]; simp)).2
  have cN := IsName_at (tx T.t)
  rw [L_tx, isN_nmb] at cN
  have htl := tl_tx T.t
  have hsz : (tx T.t).size = T.t.length := tx_size _
  have HT : Hid (T = hd en ts) := hT
  clear hq hT
  have HNB := nb_is T.t
  obtain ⟨S, hS⟩ : ∃ S, S = tx T.t := ⟨_, rfl⟩
  rw [← hS] at cT cN htl hsz HNB
  have HS : Hid (S = tx T.t) := hS
  clear hS
  have cW := fun wx (hb : Bl w wx) a b => wrong_yes wx P ts en (-1) a b (HE.out.step hb)
  go_enter Tryz.func142, Tryz.ntmps142
  go_wp2_with fail
  refine cP.mono ?_
  rintro e w1 ⟨rfl, hw1⟩
  obtain rfl := hw1.symm
  go_wp2_with fail
  refine cT.mono ?_
  rintro e w2 ⟨rfl, hb2⟩
  go_wp2_with fail
  refine (cS _ hb2).mono ?_
  rintro e w3 ⟨rfl, hb3⟩
  have HB : Hid (Bl w w3) := hb2.trans hb3
  clear hb2 hb3 cP cT cS
  by_cases h40 : T.t = [40]
  · have h1 : isN T.t = false := by rw [h40]; decide
    have h2 : isU T.t = false := by rw [h40]; decide
    obtain ⟨q1, hr1, hq'⟩ := o3 h1 h2 h40
    subst hq'
    rw [h40] at htl
    obtain ⟨r, hr⟩ := hcons (by rw [h40]; simp)
    clear o1 o2 o3 o4 hcons hsz HNB cN h1 h2
    by_cases hd8 : d = 8
    · subst hd8
      clear hr1
      have HB8 : Hid (brk en T.a 8 q1 = .error (4, T.a)) := by unfold brk; rw [if_pos rfl]; rfl
      have cX := fun wx c p (h : Ey wx P ts en c p) (hc : c ≠ 0) => take_no wx P ts en c p [40] h (by show (if c = 0 then (hd en ts).t else []) ≠ [40]; rw [if_neg hc]; simp)
      go_wp2_with fail
      refine (cW _ HB.out _ _).mono ?_
      rintro e w4 ⟨rfl, hE4, hg4⟩
      have HE4 : Hid (Ey w4 P ts en 4 (T.a : Int) ∧ Gp P w w4) := ⟨hE4, (Gp.bl HB.out).trans hg4⟩
      clear hE4 hg4
      go_wp2_with fail
      refine (cX _ _ _ HE4.out.1 (by decide)).mono ?_
      rintro e w5 ⟨rfl, hb5⟩
      go_wp2_with fail
      refine (expr_off w5 P ts en 4 (T.a : Int) _ _ (HE4.out.1.step hb5) (by decide)).mono ?_
      rintro e w6 ⟨rfl, hb6⟩
      go_wp2_with fail
      refine (must_off w6 P ts en 4 (T.a : Int) [41] (HE4.out.1.step (hb5.trans hb6)) (by decide) (by simp)).mono ?_
      rintro e w7 ⟨rfl, hb7⟩
      go_wp2
      go_ret
      rw [HB8.out]
      exact ⟨HE4.out.2.trans (Gp.bl ((hb5.trans hb6).trans hb7)), none, ts, rfl, HE4.out.1.step ((hb5.trans hb6).trans hb7), Nat.le_refl _, by decide⟩
    · have hne : ¬ (8 : Int) ≤ (d : Int) := by omega
      have hr1' : ce nb en f 1 (d + 1) ts.tail = some q1 := by
        rcases hr1 with h | h
        · exact absurd h hd8
        · exact h
      have htail : ts.tail = r := by rw [hr]; rfl
      rw [htail] at hr1'
      have cX := fun wx (hb : Bl w wx) => take_yes wx P T r en (-1) (by rw [← hr]; exact HE.out.step hb)
      rw [h40] at cX
      have cR := fun wx (h : Ey wx P r en 0 (-1)) => cE q1 (d + 1) r wx h (by omega) hr1'
      rw [show (((d + 1 : Nat) : Nat) : Int) = (d : Int) + 1 by omega] at cR
      have HR : Hid (ts = T :: r) := hr
      clear hr hr1 hr1' htail cE cW
      go_wp2_with fail
      refine (cX _ HB.out).mono ?_
      rintro e w4 ⟨rfl, hE4, hg4⟩
      have HE4 : Hid (Ey w4 P r en 0 (-1) ∧ Gp P w w4) := ⟨hE4, (Gp.bl HB.out).trans hg4⟩
      clear hE4 hg4 cX
      go_wp2_with fail
      refine (cR _ HE4.out.1).mono ?_
      rintro e w5 ⟨hg5, hans⟩
      cases q1 with
      | error cp =>
        obtain ⟨c, p⟩ := cp
        obtain ⟨o, ts', rfl, hE5, hl5, hc⟩ := hans
        have HB8 : Hid (brk en T.a d (.error (c, p)) = .error (c, p)) := brk_err hd8
        have HE5 : Hid (Ey w5 P ts' en c (p : Int) ∧ Gp P w w5 ∧ ts'.length ≤ r.length) := ⟨hE5, HE4.out.2.trans hg5, hl5⟩
        have cM := must_off w5 P ts' en c (p : Int) [41] hE5 hc (by simp)
        clear hE5 hg5 hl5 cR
        go_wp2_with fail
        refine cM.mono ?_
        rintro e w6 ⟨rfl, hb6⟩
        go_wp2
        go_ret
        rw [HB8.out]
        exact ⟨HE5.out.2.1.trans (Gp.bl hb6), o, ts', rfl, HE5.out.1.step hb6, by rw [HR.out]; have := HE5.out.2.2; simp; omega, hc⟩
      | ok xr =>
        obtain ⟨x, r'⟩ := xr
        obtain ⟨v, rfl, hx5, hE5, hl5⟩ := hans
        obtain ⟨vb, rfl, _⟩ := hx5.ptr
        have HE5 : Hid (Ey w5 P r' en 0 (-1) ∧ Gp P w w5 ∧ r'.length < r.length ∧ IsX w5 (.pointer (some ⟨vb, 0, none⟩)) x) := ⟨hE5, HE4.out.2.trans hg5, hl5, hx5⟩
        by_cases h41 : (hd en r').t = [41]
        · have HB8 : Hid (brk en T.a d (.ok (x, r')) = .ok (x, r'.tail)) := brk_yes hd8 h41
          obtain ⟨r2, hr2⟩ := hd_cons_of (en := en) (ts := r') (by rw [h41]; simp)
          have cM := must_yes w5 P (hd en r') r2 en (-1) (by rw [← hr2]; exact hE5)
          rw [h41] at cM
          have HR2 : Hid (r' = hd en r' :: r2) := hr2
          clear hE5 hg5 hl5 hx5 hr2 cR h41
          go_wp2_with fail
          refine cM.mono ?_
          rintro e w6 ⟨rfl, hE6, hg6⟩
          go_wp2
          go_ret
          rw [HB8.out]
          have ht : r'.tail = r2 := by rw [HR2.out]; rfl
          refine ⟨HE5.out.2.1.trans hg6, _, rfl, HE5.out.2.2.2.keep (hg6.kxE HE5.out.1), by rw [ht]; exact hE6, ?_⟩
          rw [HR.out, List.length_tail]
          have := HE5.out.2.2.1
          simp
          omega
        · have HB8 : Hid (brk en T.a d (.ok (x, r')) = .error (3, (hd en r').a)) := brk_no hd8 h41
          have cM := must_no w5 P r' en (-1) [41] hE5 h41
          clear hE5 hg5 hl5 hx5 cR h41
          go_wp2_with fail
          refine cM.mono ?_
          rintro e w6 ⟨rfl, hE6, hg6⟩
          go_wp2
          go_ret
          rw [HB8.out]
          exact ⟨HE5.out.2.1.trans hg6, _, r', rfl, hE6, by rw [HR.out]; have := HE5.out.2.2.1; simp; omega, by decide⟩
  · have h40' : (T.t == [40]) = false := by rw [beq_eq_false_iff_ne]; exact h40
    clear cE
    cases h1 : isN T.t with
    | true =>
      have hq' := o1 h1
      rw [h1] at cN
      obtain ⟨r, hr⟩ := hcons (fun e => by rw [e] at h1; exact absurd h1 (by decide))
      clear o1 o2 o3 o4 hcons HNB h40
      by_cases h12 : 12 < T.t.length
      · rw [if_pos h12] at hq'
        subst hq'
        rw [← hsz] at h12
        have h12' : (12 : Int) < ((S).size : Int) := by omega
        go_wp2_with fail
        refine (cN _).mono ?_
        rintro e w4 ⟨rfl, rfl⟩
        go_wp2_with fail
        refine (cW _ HB.out _ _).mono ?_
        rintro e w4 ⟨rfl, hE4, hg4⟩
        have HE4 : Hid (Ey w4 P ts en 4 (T.a : Int) ∧ Gp P w w4) := ⟨hE4, (Gp.bl HB.out).trans hg4⟩
        clear hE4 hg4
        go_wp2_with fail
        refine (pass_no w4 P ts en 4 (T.a : Int) HE4.out.1 (by decide)).mono ?_
        rintro e w5 ⟨rfl, hb5⟩
        go_wp2
        go_ret
        exact ⟨(HE4.out.2.trans (Gp.bl hb5)).alloc _, _, ts, rfl, (HE4.out.1.step hb5).step ((Bl.refl _).alloc _), Nat.le_refl _, by decide⟩
      · rw [if_neg h12] at hq'
        subst hq'
        rw [← hsz] at h12
        have h12' : ¬ (12 : Int) < ((S).size : Int) := by omega
        have cX := fun wx (hb : Bl w wx) => pass_yes wx P T r en (-1) (by rw [← hr]; exact HE.out.step hb)
        rw [← HS.out] at cX
        have HR : Hid (ts = T :: r) := hr
        clear hr cW hsz
        go_wp2_with fail
        refine (cN _).mono ?_
        rintro e w4 ⟨rfl, rfl⟩
        go_wp2_with fail
        refine (cX _ HB.out).mono ?_
        rintro e w4 ⟨rfl, hE4, hg4⟩
        go_wp2
        go_ret
        refine ⟨((Gp.bl HB.out).trans hg4).alloc _, _, rfl, ⟨_, rfl, box_new w4 2 _ 0 _ [] _ _ HS.out rfl _ _⟩, ?_, ?_⟩
        · rw [HR.out]; exact hE4.step ((Bl.refl _).alloc _)
        · rw [HR.out]; simp
    | false =>
      rw [h1] at cN
      cases h2 : isU T.t with
      | true =>
        have hq' := o2 h1 h2
        obtain ⟨r, hr⟩ := hcons (fun e => by rw [e] at h2; exact absurd h2 (by decide))
        have cM := fun w => digs.refNumber_at S (nb T.t).1 (nb T.t).2 w (by omega) HNB
        obtain ⟨c, rr, hcr⟩ : ∃ c rr, T.t = c :: rr := by
          cases h : T.t with
          | nil => rw [h] at h2; exact absurd h2 (by decide)
          | cons c rr => exact ⟨c, rr, rfl⟩
        have hs0 : 0 < S.size := by rw [hsz, hcr]; simp
        have e1 : (((S[0]'hs0).toNat : Nat) : Int) = (c.toNat : Int) := by
          have : S = tx (c :: rr) := by rw [HS.out, hcr]
          subst this
          rfl
        have cD := refDigit_at (c.toNat : Int)
        have hdg : dg (c.toNat : Int) = true := by
          have : isU (c :: rr) = dg (c.toNat : Int) := rfl
          rw [← this, ← hcr]
          exact h2
        rw [hdg] at cD
        have hem : S.toList.isEmpty = false := by rw [htl, hcr]; rfl
        have hem' : (S.toList == []) = false := by rw [htl, hcr]; rfl
        have hb0 : (S.toList == [40]) = false := by rw [htl]; exact h40'
        generalize (c.toNat : Int) = cc at *
        clear o1 o2 o3 o4 hcons HNB h40 hcr hdg htl
        by_cases h0 : (nb T.t).2 = 0
        · rw [if_pos h0] at hq'
          subst hq'
          rw [h0] at cM
          obtain ⟨k, hk⟩ : ∃ k, k = (nb T.t).1 := ⟨_, rfl⟩
          rw [← hk] at cM
          have HK : Hid (k = (nb T.t).1) := hk
          have cX := fun wx (hb : Bl w wx) => pass_yes wx P T r en (-1) (by rw [← hr]; exact HE.out.step hb)
          rw [← HS.out] at cX
          have HR : Hid (ts = T :: r) := hr
          clear hk h0 hr cW hsz
          go_wp2_with fail
          refine (cN _).mono ?_
          rintro e w4 ⟨rfl, rfl⟩
          go_wp2_with fail
          refine (cD _).mono ?_
          rintro e w4 ⟨rfl, rfl⟩
          go_wp2_with fail
          refine (cM _).mono ?_
          rintro e w4 ⟨rfl, hb4⟩
          go_wp2_with fail
          refine (cX _ (HB.out.trans hb4.bl)).mono ?_
          rintro e w5 ⟨rfl, hE5, hg5⟩
          go_wp2
          go_ret
          refine ⟨((Gp.bl (HB.out.trans hb4.bl)).trans hg5).alloc _, _, rfl, ⟨_, rfl, ?_⟩, ?_, ?_⟩
          · rw [← HK.out]; exact box_new w5 1 _ k [] [] _ _ rfl rfl _ _
          · rw [HR.out]; exact hE5.step ((Bl.refl _).alloc _)
          · rw [HR.out]; simp
        · rw [if_neg h0] at hq'
          subst hq'
          obtain ⟨k, hk⟩ : ∃ k, k = (nb T.t).2 := ⟨_, rfl⟩
          obtain ⟨k1, hk1⟩ : ∃ k1, k1 = (nb T.t).1 := ⟨_, rfl⟩
          rw [← hk, ← hk1] at cM
          rw [← hk] at h0
          have HK : Hid (k = (nb T.t).2) := hk
          have h0' : (k == 0) = false := by rw [beq_eq_false_iff_ne]; exact h0
          have cW' := fun wx (hb : Bl w wx) => cW wx hb k (T.a : Int)
          clear hk hk1 hr cW hsz
          go_wp2_with fail
          refine (cN _).mono ?_
          rintro e w4 ⟨rfl, rfl⟩
          go_wp2_with fail
          refine (cD _).mono ?_
          rintro e w4 ⟨rfl, rfl⟩
          go_wp2_with fail
          refine (cM _).mono ?_
          rintro e w4 ⟨rfl, hb4⟩
          go_wp2_with fail
          refine (cW' _ (HB.out.trans hb4.bl)).mono ?_
          rintro e w5 ⟨rfl, hE5, hg5⟩
          have HE5 : Hid (Ey w5 P ts en k (T.a : Int) ∧ Gp P w w5) := ⟨hE5, (Gp.bl (HB.out.trans hb4.bl)).trans hg5⟩
          clear hE5 hg5 hb4
          go_wp2_with fail
          refine (pass_no w5 P ts en k (T.a : Int) HE5.out.1 h0).mono ?_
          rintro e w6 ⟨rfl, hb6⟩
          go_wp2
          go_ret
          refine ⟨(HE5.out.2.trans (Gp.bl hb6)).alloc _, ?_⟩
          rw [← HK.out]
          exact ⟨_, ts, rfl, (HE5.out.1.step hb6).step ((Bl.refl _).alloc _), Nat.le_refl _, h0⟩
      | false =>
        have hq' := o4 h1 h2 h40
        subst hq'
        clear o1 o2 o3 o4 HNB h40
        cases hTt : T.t with
        | nil =>
          have hem : S.toList.isEmpty = true := by rw [htl, hTt]; rfl
          have hem' : (S.toList == []) = true := by rw [htl, hTt]; rfl
          have hb0 : (S.toList == [40]) = false := by rw [htl]; exact h40'
          clear hcons htl hsz
          go_wp2_with fail
          refine (cN _).mono ?_
          rintro e w4 ⟨rfl, rfl⟩
          go_wp2_with fail
          refine (cW _ HB.out _ _).mono ?_
          rintro e w4 ⟨rfl, hE4, hg4⟩
          go_wp2
          go_ret
          exact ⟨(Gp.bl HB.out).trans hg4, none, ts, rfl, hE4, Nat.le_refl _, by decide⟩
        | cons c rr =>
          have hs0 : 0 < S.size := by rw [hsz, hTt]; simp
          have e1 : (((S[0]'hs0).toNat : Nat) : Int) = (c.toNat : Int) := by
            have : S = tx (c :: rr) := by rw [HS.out, hTt]
            subst this
            rfl
          have cD := refDigit_at (c.toNat : Int)
          have hdg : dg (c.toNat : Int) = false := by
            have : isU (c :: rr) = dg (c.toNat : Int) := rfl
            rw [← this, ← hTt]
            exact h2
          rw [hdg] at cD
          have hem : S.toList.isEmpty = false := by rw [htl, hTt]; rfl
          have hem' : (S.toList == []) = false := by rw [htl, hTt]; rfl
          have hb0 : (S.toList == [40]) = false := by rw [htl]; exact h40'
          generalize (c.toNat : Int) = cc at *
          clear hcons htl hsz hTt hdg
          go_wp2_with fail
          refine (cN _).mono ?_
          rintro e w4 ⟨rfl, rfl⟩
          go_wp2_with fail
          refine (cD _).mono ?_
          rintro e w4 ⟨rfl, rfl⟩
          go_wp2_with fail
          refine (cW _ HB.out _ _).mono ?_
          rintro e w4 ⟨rfl, hE4, hg4⟩
          go_wp2
          go_ret
          exact ⟨(Gp.bl HB.out).trans hg4, none, ts, rfl, hE4, Nat.le_refl _, by decide⟩
end Go.Proofs.YtococaecjecjgaaGreatDoor.ex
namespace Go.Proofs.YtococaecjecjgaaGreatDoor.ex
set_option linter.unusedVariables false
open Go.ChangeShapes Go.WideShapes Go.ChangeAt Go.RowKit
open mem lx

theorem Ey.lenAt {w : World} {P : Nat} {ts : List Tk} {en : Nat} {c p : Int} (h : Ey w P ts en c p) : lenAt w P = ts.length := by
  obtain ⟨q, k, h1, _⟩ := h.ex
  have : w.cell? ⟨P, 0, none⟩ = some (.slice q ts.length k) := by rw [cell_of h1]; rfl
  unfold ex.lenAt
  rw [this]
theorem cl_is {f m d en : Nat} {x : Ex} {ts : List Tk} {q : Res} (hm : 1 ≤ m) (h : cl nb en (f + 1) m d x ts = some q) :
    (¬ m ≤ bd (hd en ts).t → q = .ok (x, ts)) ∧ (m ≤ bd (hd en ts).t → ts = hd en ts :: ts.tail ∧ ∃ q1, ce nb en f (bd (hd en ts).t + 1) d ts.tail = some q1 ∧ (∀ e, q1 = .error e → q = .error e) ∧ (∀ y r, q1 = .ok (y, r) → cl nb en f m d (.bin (hd en ts).a (hd en ts).t x y) r = some q)) := by
  cases ts with
  | nil =>
    rw [cl] at h
    injection h with h
    refine ⟨fun _ => h.symm, fun hb => ?_⟩
    have : m ≤ bd ([] : List UInt8) := hb
    have h0 : bd ([] : List UInt8) = 0 := by decide
    omega
  | cons t r =>
    rw [show hd en (t :: r) = t from rfl, show (t :: r).tail = r from rfl]
    rw [cl] at h
    refine ⟨fun hb => ?_, fun hb => ⟨rfl, ?_⟩⟩
    · rw [if_neg (fun h => hb h.1)] at h
      injection h with h
      exact h.symm
    · rw [if_pos ⟨hb, by omega⟩] at h
      split at h
      · cases h
      · rename_i e hr
        injection h with h
        exact ⟨_, hr, fun e' he => by injection he with he; rw [← he]; exact h.symm, fun y r hy => by cases hy⟩
      · rename_i y r' hr
        refine ⟨_, hr, ?_, ?_⟩
        · intro e he; cases he
        · intro y2 r2 hy
          injection hy with hy
          injection hy with hy1 hy2
          rw [← hy1, ← hy2]; exact h
def ExC (P en : Nat) (f : Nat) : Prop := ∀ (m d : Nat) (ts : List Tk) (q : Res) (w : World), 1 ≤ m → m ≤ 4 → d ≤ 8 → Ey w P ts en 0 (-1) → ce nb en f m d ts = some q →
  Calls Tryz.prog 111 #[.pointer (some ⟨P, 0, none⟩), .int .i64 (m : Int), .int .i64 (d : Int)] w fun e w' => Xans P en ts w q e w'
def Wy (P en m d f : Nat) (ts : List Tk) (q : Res) (w wr : World) (v : Value) : Prop :=
  (∃ (f' : Nat) (x : Ex) (r : List Tk), f' ≤ f ∧ IsX wr v x ∧ Ey wr P r en 0 (-1) ∧ Gp P w wr ∧ cl nb en f' m d x r = some q ∧ r.length < ts.length) ∨
  ∃ (o : Option Addr) (c : Int) (p : Nat) (ts' : List Tk), q = .error (c, p) ∧ v = .pointer o ∧ Ey wr P ts' en c (p : Int) ∧ c ≠ 0 ∧ Gp P w wr ∧ ts'.length ≤ ts.length
set_option maxRecDepth 10000 in
set_option maxHeartbeats 2000000 in
theorem expr_step (P en f : Nat) (ih : ∀ g, g < f + 1 → ExC P en g) (m d : Nat) (ts : List Tk) (q : Res) (w : World) (h1 : 1 ≤ m) (h4 : m ≤ 4) (h8 : d ≤ 8) (hE : Ey w P ts en 0 (-1)) (hq : ce nb en (f + 1) m d ts = some q) :
    Calls Tryz.prog 111 #[.pointer (some ⟨P, 0, none⟩), .int .i64 (m : Int), .int .i64 (d : Int)] w fun e w' => Xans P en ts w q e w' := by
  rw [ce] at hq
  obtain ⟨q1, hq1⟩ : ∃ q1, sg nb en f d ts = some q1 := by
    cases h : sg nb en f d ts with
    | none => rw [h] at hq; cases hq
    | some q1 => exact ⟨q1, rfl⟩
  rw [hq1] at hq
  cases f with
  | zero => simp [sg] at hq1
  | succ g =>
    have c1 := single_at g P en d ts q1 w hE h8 hq1 (fun q1 d ts wx k1 k2 k3 => by
      have := ih g (by omega) 1 d ts q1 wx (by omega) (by omega) k2 k1 k3
      exact this)
    have HI : Hid (∀ k, k < g + 1 + 1 → ExC P en k) := ih
    have HE : Hid (Ey w P ts en 0 (-1)) := hE
    clear ih hE hq1
    go_enter Tryz.func111, Tryz.ntmps111
    go_wp2_with fail
    refine c1.mono ?_
    rintro e w1 ⟨hg1, hans⟩
    obtain ⟨v, o, hv, rfl, HW⟩ : ∃ v o, v = .pointer o ∧ e = .returned v ∧ Hid (Wy P en m d (g + 1) ts q w w1 v) := by
      cases q1 with
      | error cp =>
        obtain ⟨c, p⟩ := cp
        obtain ⟨o, ts', k1, k2, k3, k4⟩ := hans
        injection hq with hq
        exact ⟨_, o, rfl, k1, Or.inr ⟨o, c, p, ts', hq.symm, rfl, k2, k4, hg1, k3⟩⟩
      | ok xr =>
        obtain ⟨x, r⟩ := xr
        obtain ⟨v, k1, k2, k3, k4⟩ := hans
        obtain ⟨vb, hvb, _⟩ := k2.ptr
        exact ⟨v, some ⟨vb, 0, none⟩, hvb, k1, Or.inl ⟨g + 1, x, r, Nat.le_refl _, k2, k3, hg1, hq, k4⟩⟩
    subst hv
    clear hans hg1 c1 hq q1
    go_wp2
    go_loopw [7, 8, 9, 10] (fun v7 _ _ _ wr => ∃ o, v7 = .pointer o ∧ Hid (Wy P en m d (g + 1) ts q w wr v7)) (fun _ _ _ _ wr => ex.lenAt wr P)
    case atStart => exact ⟨o, rfl, HW.out⟩
    case round =>
      clear HW
      obtain ⟨o, rfl, HW⟩ := hrel
      rcases HW.out with ⟨f', x, r, hf, hx, hEr, hg, hcl, hlr⟩ | ⟨o', c, p, ts', hqe, ho, hEr, hc, hg, hlr⟩
      · cases f' with
        | zero => simp [cl] at hcl
        | succ k =>
          obtain ⟨l1, l2⟩ := cl_is h1 hcl
          obtain ⟨vb, hvb, _⟩ := hx.ptr
          injection hvb with hvb
          subst hvb
          have HX : Hid (IsX wr (.pointer (some ⟨vb, 0, none⟩)) x ∧ Ey wr P r en 0 (-1) ∧ Gp P w wr ∧ r.length < ts.length ∧ k < g + 1 + 1) := ⟨hx, hEr, hg, hlr, by omega⟩
          have cS := stop_at wr P r en 0 (-1) hEr
          rw [show (!((0 : Int) == 0)) = false from rfl] at cS
          have cT := fun wx (hb : Bl wr wx) => text_at wx P r en 0 (-1) (hEr.step hb)
          rw [show see 0 en r = (hd en r).t from if_pos rfl] at cT
          have cP := fun wx (hb : Bl wr wx) => place_at wx P r en 0 (-1) (hEr.step hb)
          obtain ⟨T, hT⟩ : ∃ T, T = hd en r := ⟨_, rfl⟩
          rw [← hT] at cT cP l1 l2
          have cB := hold_at T.t
          obtain ⟨S, hS⟩ : ∃ S, S = tx T.t := ⟨_, rfl⟩
          rw [← hS] at cT cB
          have HS : Hid (S = tx T.t) := hS
          clear hS hT hx hEr hg hlr hcl hf HW
          obtain ⟨B, hB⟩ : ∃ B, B = bd T.t := ⟨_, rfl⟩
          have hB3 := bd_le T.t
          rw [← hB] at cB l1 l2 hB3
          clear hB
          by_cases hb : m ≤ B
          · obtain ⟨hr0, q2, hr1, hr2, hr3⟩ := l2 hb
            have d1 : (m : Int) ≤ (B : Int) := by omega
            have d2 : (0 : Int) < (B : Int) := by omega
            have cX := fun wx (hb : Bl wr wx) => pass_yes wx P T r.tail en (-1) (by rw [← hr0]; exact HX.out.2.1.step hb)
            rw [← HS.out] at cX
            have cR := fun wx (h : Ey wx P r.tail en 0 (-1)) => HI.out k HX.out.2.2.2.2 (B + 1) d r.tail q2 wx (by omega) (by omega) h8 h hr1
            rw [show (((B + 1 : Nat) : Nat) : Int) = (B : Int) + 1 by omega] at cR
            have hwr : IntKind.i64.wrap ((B : Int) + 1) = (B : Int) + 1 := by rw [IntKind.wrap_i64]; omega
            have HR : Hid (r = T :: r.tail) := hr0
            have HQ : Hid ((∀ e, q2 = .error e → q = .error e) ∧ (∀ y r, q2 = .ok (y, r) → cl nb en k m d (.bin T.a T.t x y) r = some q)) := ⟨hr2, hr3⟩
            clear hr0 hr1 hr2 hr3 l1 l2 hb
            go_wp2_with fail
            refine cS.mono ?_
            rintro e w2 ⟨rfl, hb2⟩
            go_wp2_with fail
            refine (cT _ hb2).mono ?_
            rintro e w3 ⟨rfl, hb3⟩
            go_wp2_with fail
            refine (cB _).mono ?_
            rintro e w4 ⟨rfl, hw4⟩
            obtain rfl := hw4.symm
            go_wp2_with fail
            refine (cT _ (hb2.trans hb3)).mono ?_
            rintro e w4 ⟨rfl, hb4⟩
            go_wp2_with fail
            refine (cB _).mono ?_
            rintro e w5 ⟨rfl, hw5⟩
            obtain rfl := hw5.symm
            have HB4 : Hid (Bl wr w4) := (hb2.trans hb3).trans hb4
            clear hb2 hb3 hb4
            go_wp2_with fail
            refine (cP _ HB4.out).mono ?_
            rintro e w5 ⟨rfl, hw5⟩
            obtain rfl := hw5.symm
            go_wp2_with fail
            refine (cT _ HB4.out).mono ?_
            rintro e w5 ⟨rfl, hb5⟩
            go_wp2_with fail
            refine (cX _ (HB4.out.trans hb5)).mono ?_
            rintro e w6 ⟨rfl, hE6, hg6⟩
            have HX6 : Hid (IsX w6 (.pointer (some ⟨vb, 0, none⟩)) x ∧ Gp P wr w6) := by
              have hg06 : Gp P wr w6 := (Gp.bl (HB4.out.trans hb5)).trans hg6
              exact ⟨HX.out.1.keep (hg06.kxE HX.out.2.1), hg06⟩
            have HE6 : Hid (Ey w6 P r.tail en 0 (-1)) := hE6
            clear hE6 hg6 hb5 cX cS
            go_wp2_with fail
            refine (cB _).mono ?_
            rintro e w7 ⟨rfl, hw7⟩
            obtain rfl := hw7.symm
            go_wp2_with fail
            refine (cR _ HE6.out).mono ?_
            rintro e w7 ⟨hg7, hans⟩
            have HG7 : Hid (Gp P w w7 ∧ IsX w7 (.pointer (some ⟨vb, 0, none⟩)) x) := ⟨(HX.out.2.2.1.trans HX6.out.2).trans hg7, HX6.out.1.keep (hg7.kxE HE6.out)⟩
            have hm1 : ex.lenAt wr P = r.length := HX.out.2.1.lenAt
            have hm3 : r.tail.length < r.length := by rw [HR.out]; simp
            clear hg7 cB cP cT cR
            cases q2 with
            | error cp =>
              obtain ⟨c, p⟩ := cp
              obtain ⟨o2, ts2, rfl, hE7, hl7, hc7⟩ := hans
              have hqe := HQ.out.1 _ rfl
              subst hqe
              go_wp2
              go_roundw
              case rel => exact ⟨_, rfl, Or.inr ⟨_, c, p, ts2, rfl, rfl, hE7.step ((Bl.refl _).alloc _), hc7, HG7.out.1.alloc _, by have := HX.out.2.2.2.1; omega⟩⟩
              case measure => rw [hm1, (hE7.step ((Bl.refl _).alloc _)).lenAt]; omega
            | ok yr =>
              obtain ⟨y, r3⟩ := yr
              obtain ⟨v7, rfl, hy7, hE7, hl7⟩ := hans
              obtain ⟨vb7, rfl, _⟩ := hy7.ptr
              have hq3 := HQ.out.2 y r3 rfl
              go_wp2
              have hb9 : Bl w7 (w7.alloc (.cells #[.int .i64 3, .int .i64 (T.a : Int), .int .i64 0, .string ⟨#[]⟩, .string S, .pointer (some ⟨vb, 0, none⟩), .pointer (some ⟨vb7, 0, none⟩)] 152)) := (Bl.refl _).alloc _
              have hbin : IsX (w7.alloc (.cells #[.int .i64 3, .int .i64 (T.a : Int), .int .i64 0, .string ⟨#[]⟩, .string S, .pointer (some ⟨vb, 0, none⟩), .pointer (some ⟨vb7, 0, none⟩)] 152)) (.pointer (some ⟨w7.heap.size, 0, none⟩)) (.bin T.a T.t x y) := ⟨_, _, _, rfl, box_new w7 3 _ 0 [] _ _ _ rfl HS.out _ _, HG7.out.2.keep (Kx.bl hb9), hy7.keep (Kx.bl hb9)⟩
              go_roundw
              case rel => exact ⟨_, rfl, Or.inl ⟨k, _, r3, by have := HX.out.2.2.2.2; omega, hbin, hE7.step hb9, HG7.out.1.trans (Gp.bl hb9), hq3, by have := HX.out.2.2.2.1; omega⟩⟩
              case measure => rw [hm1, (hE7.step hb9).lenAt]; omega
          · have hq' := l1 hb
            have d1 : ¬ (m : Int) ≤ (B : Int) := by omega
            clear l1 l2 hb cP
            subst hq'
            go_wp2_with fail
            refine cS.mono ?_
            rintro e w2 ⟨rfl, hb2⟩
            go_wp2_with fail
            refine (cT _ hb2).mono ?_
            rintro e w3 ⟨rfl, hb3⟩
            go_wp2_with fail
            refine (cB _).mono ?_
            rintro e w4 ⟨rfl, hw4⟩
            obtain rfl := hw4.symm
            go_wp2
            go_ret
            have hb := hb2.trans hb3
            exact ⟨HX.out.2.2.1.trans (Gp.bl hb), _, rfl, HX.out.1.keep (Kx.bl hb), HX.out.2.1.step hb, HX.out.2.2.2.1⟩
      · have cS := stop_at wr P ts' en c p hEr
        have hc' : (c == 0) = false := by rw [beq_eq_false_iff_ne]; exact hc
        rw [hc', show (!false) = true from rfl] at cS
        have HX : Hid (Ey wr P ts' en c (p : Int) ∧ c ≠ 0 ∧ Gp P w wr ∧ ts'.length ≤ ts.length) := ⟨hEr, hc, hg, hlr⟩
        subst hqe
        clear hEr hc hg hlr hc' HW
        go_wp2_with fail
        refine cS.mono ?_
        rintro e w2 ⟨rfl, hb2⟩
        go_wp2
        go_ret
        exact ⟨HX.out.2.2.1.trans (Gp.bl hb2), o, ts', rfl, HX.out.1.step hb2, HX.out.2.2.2, HX.out.2.1⟩
theorem expr_at (P en : Nat) : ∀ f, ExC P en f := by
  intro f
  induction f using Nat.strongRecOn with
  | _ f ih =>
    intro m d ts q w h1 h4 h8 hE hq
    cases f with
    | zero => simp [ce] at hq
    | succ f => exact expr_step P en f ih m d ts q w h1 h4 h8 hE hq
end Go.Proofs.YtococaecjecjgaaGreatDoor.ex
namespace Go.Proofs.YtococaecjecjgaaGreatDoor.lx
set_option linter.unusedVariables false
open Go.ChangeShapes Go.WideShapes Go.ChangeAt Go.RowKit
open mem

theorem results_tmp_cell {fn : Func} {p u : Tmp} {ty : TypeId} (h : fn.results = #[.tmp u, .cell p ty]) (tmps : Array Value) (P : Program) (w : World) (B : Nat) (v : Value) (hp : tmps.getD p undef = .pointer (some ⟨B, 0, none⟩)) (hl : (loadVar ty ⟨B, 0, none⟩).run P w = .ok v w) :
    (results fn tmps).run P w = .ok (.tuple #[tmps.getD u undef, v]) w := by
  have hp' : tmps[p]?.getD undef = .pointer (some ⟨B, 0, none⟩) := by simpa using hp
  simp only [results, h]
  simp [Result.andThen, hp', asAddr, hl]
structure Rx (w wr : World) (N : Nat) (v : Value) (l : List Tk) : Prop where
  own : tr.Own wr (N + 1) v l
  bl : Bl w wr
  fv : wr.heap[N]? = some (.cells #[.int .i64 0, .int .i64 0] 30 (0, 0))
  n : N = w.heap.size
theorem Rx.step {w wr w' : World} {N : Nat} {v : Value} {l : List Tk} (h : Rx w wr N v l) (hb : Bl wr w') : Rx w w' N v l :=
  ⟨h.own.step hb, h.bl.trans hb, by rw [Below.block hb N (lt_of_heap h.fv)]; exact h.fv, h.n⟩
theorem Rx.app {w wr : World} {N : Nat} {v : Value} {l : List Tk} (h : Rx w wr N v l) (t : List UInt8) (a : Nat) (Z : ByteArray) (hZ : Z = tx t) (hl : l.length ≤ 3000) :
    ∃ v' w7, (Builtin.append_ #[89, 89] 89 #[v, .slice (some ⟨wr.heap.size, 0, none⟩) 1 1]).run Tryz.prog (wr.alloc (.cells #[.string Z, .int .i64 (a : Int)] 145)) = .ok v' w7 ∧ Rx w w7 N v' (l ++ [⟨t, a⟩]) := by
  have hb6 : Bl wr (wr.alloc (.cells #[.string Z, .int .i64 (a : Int)] 145)) := (Bl.refl _).alloc _
  have h6 := h.step hb6
  have hx6 := new_at wr (.cells #[.string Z, .int .i64 (a : Int)] 145)
  have hN := h.n
  obtain ⟨v', w7, hr, ho, hg⟩ := tr.app_one _ (N + 1) v l ⟨t, a⟩ wr.heap.size h6.own (by rw [cell_of hx6, hZ]; rfl) (by rw [cell_of hx6]; rfl) (by omega) (by have := lt_of_heap h6.fv; omega)
  have hne : ∀ x, v.ownBlock = some x → N + 1 ≤ x := fun x hx => (h6.own.block x hx).1
  refine ⟨v', w7, hr, ho, bl_grown h6.bl hg (fun x hx => by have := hne x hx; omega), ?_, hN⟩
  rw [hg.block N (lt_of_heap h6.fv) (fun e => by have := hne N e.symm; omega)]
  exact h6.fv
def Pz (s : List UInt8) (l : List Tk) (i : Nat) (wd : Int) (rm : Bool) : Prop :=
  ∃ R : List Tk × Option Nat, lx s 0 = (l ++ R.1, R.2) ∧ ((rm = true ∧ wd = -1 ∧ R = Rm s i) ∨ (rm = false ∧ wd = -1 ∧ R = lx (s.drop i) i) ∨
    (rm = false ∧ ∃ p : Nat, wd = (p : Int) ∧ p < i ∧ (∀ j, p ≤ j → (h : j < i) → ∃ c, s[j]? = some c ∧ isW c = true) ∧ R = lx (s.drop p) p))
theorem Pz.len {s : List UInt8} {l : List Tk} {i : Nat} {wd : Int} {rm : Bool} (h : Pz s l i wd rm) (hs : s.length ≤ 3000) : l.length ≤ 3000 := by
  obtain ⟨R, h1, _⟩ := h
  have h2 := lx_len s _ 0 (Nat.le_refl _)
  rw [h1] at h2
  simp only [List.length_append] at h2
  omega
theorem Pz.word {s : List UInt8} {l : List Tk} {i : Nat} {wd : Int} {c : UInt8} (h : Pz s l i wd false) (hc : s[i]? = some c) (hw : isW c = true) : Pz s l (i + 1) (if wd < 0 then (i : Int) else wd) false := by
  obtain ⟨R, h1, ⟨h2, _⟩ | ⟨_, rfl, rfl⟩ | ⟨_, p, rfl, hp, hall, rfl⟩⟩ := h
  · cases h2
  · refine ⟨_, h1, Or.inr (Or.inr ⟨rfl, i, by rw [if_pos (by decide)], by omega, fun j h3 h4 => ?_, rfl⟩)⟩
    obtain rfl : j = i := by omega
    exact ⟨c, hc, hw⟩
  · refine ⟨_, h1, Or.inr (Or.inr ⟨rfl, p, by rw [if_neg (by omega)], by omega, fun j h3 h4 => ?_, rfl⟩)⟩
    rcases Nat.lt_or_ge j i with h5 | h5
    · exact hall j h3 h5
    · obtain rfl : j = i := by omega
      exact ⟨c, hc, hw⟩
theorem Pz.out {s : List UInt8} {l : List Tk} {i p : Nat} {rm : Bool} (h : Pz s l i (p : Int) rm) (hi : i ≤ s.length) (he : ∀ c, s[i]? = some c → isW c = false) : p < i ∧ Pz s (l ++ [⟨(s.take i).drop p, p⟩]) i (-1) false ∧ rm = false := by
  obtain ⟨R, h1, ⟨_, h2, _⟩ | ⟨_, h2, _⟩ | ⟨hrm, q, h2, hp, hall, rfl⟩⟩ := h
  · omega
  · omega
  · obtain rfl : p = q := by omega
    refine ⟨hp, ⟨lx (s.drop i) i, ?_, Or.inr (Or.inl ⟨rfl, rfl, rfl⟩)⟩, hrm⟩
    have := word_end s p i hp hi (fun j h3 h4 => by
      obtain ⟨c, h5, h6⟩ := hall j h3 h4
      obtain ⟨h7, h8⟩ := List.getElem?_eq_some_iff.1 h5
      rw [h8]; exact h6) he
    rw [h1, this]
    simp
theorem Pz.rm_out {s : List UInt8} {l : List Tk} {i : Nat} {wd : Int} (h : Pz s l i wd true) : wd = -1 := by
  obtain ⟨R, h1, ⟨_, h2, _⟩ | ⟨h2, _⟩ | ⟨h2, _⟩⟩ := h
  · exact h2
  · cases h2
  · cases h2
theorem Pz.rm_next {s : List UInt8} {l : List Tk} {i : Nat} {wd : Int} {c : UInt8} (h : Pz s l i wd true) (hc : s[i]? = some c) : Pz s l (i + 1) (-1) (!(c == 10)) := by
  obtain ⟨R, h1, ⟨_, h2, rfl⟩ | ⟨h2, _⟩ | ⟨h2, _⟩⟩ := h
  · by_cases h10 : c = 10
    · subst h10
      exact ⟨_, h1, Or.inr (Or.inl ⟨rfl, rfl, lx.rm_out s i hc⟩)⟩
    · refine ⟨_, h1, Or.inl ⟨by simpa using h10, rfl, rm_on s i c hc h10⟩⟩
  · cases h2
  · cases h2
theorem Pz.go {s : List UInt8} {l : List Tk} {i j : Nat} {rm : Bool} (h : Pz s l i (-1) false) (hj : lx (s.drop i) i = lx (s.drop j) j) : Pz s l j (-1) false := by
  obtain ⟨R, h1, ⟨h2, _⟩ | ⟨_, _, rfl⟩ | ⟨_, p, h2, _⟩⟩ := h
  · cases h2
  · exact ⟨_, h1, Or.inr (Or.inl ⟨rfl, rfl, hj⟩)⟩
  · omega
theorem Pz.rem {s : List UInt8} {l : List Tk} {i : Nat} (h : Pz s l i (-1) false) (hc : s[i]? = some 35) : Pz s l (i + 1) (-1) true := by
  obtain ⟨R, h1, ⟨h2, _⟩ | ⟨_, _, rfl⟩ | ⟨_, p, h2, _⟩⟩ := h
  · cases h2
  · exact ⟨_, h1, Or.inl ⟨rfl, rfl, by rw [rm_in s i hc, rm_on s i 35 hc (by decide)]⟩⟩
  · omega
theorem Pz.mark {s : List UInt8} {l : List Tk} {i n : Nat} (h : Pz s l i (-1) false) (hi : i < s.length) (hg : gap (s.drop i) = 0) (hn : tl (s.drop i) = n) (h0 : 0 < n) : i + n ≤ s.length ∧ Pz s (l ++ [⟨(s.take (i + n)).drop i, i⟩]) (i + n) (-1) false := by
  obtain ⟨R, h1, ⟨h2, _⟩ | ⟨_, _, rfl⟩ | ⟨_, p, h2, _⟩⟩ := h
  · cases h2
  · obtain ⟨g1, g2⟩ := lx_mark s i n hi hg hn h0
    refine ⟨g1, _, ?_, Or.inr (Or.inl ⟨rfl, rfl, rfl⟩)⟩
    rw [h1, g2]
    simp
  · omega
theorem Pz.bad {s : List UInt8} {l : List Tk} {i : Nat} (h : Pz s l i (-1) false) (hi : i < s.length) (hg : gap (s.drop i) = 0) (hn : tl (s.drop i) = 0) : (lx s 0).2 = some i := by
  obtain ⟨R, h1, ⟨h2, _⟩ | ⟨_, _, rfl⟩ | ⟨_, p, h2, _⟩⟩ := h
  · cases h2
  · rw [h1, lx_bad _ _ (fun e => by have := congrArg List.length e; rw [List.length_drop] at this; simp at this; omega) hg hn]
  · omega
theorem Pz.end_ {s : List UInt8} {l : List Tk} {i : Nat} {rm : Bool} (h : Pz s l i (-1) rm) (hi : s.length ≤ i) : lx s 0 = (l, none) := by
  obtain ⟨R, h1, ⟨_, _, rfl⟩ | ⟨_, _, rfl⟩ | ⟨_, p, h2, _⟩⟩ := h
  · rw [h1, rm_end s i hi]; simp
  · rw [h1, lx_end s i hi]; simp
  · omega
theorem Pz.kind {s : List UInt8} {l : List Tk} {i : Nat} {wd : Int} {rm : Bool} (h : Pz s l i wd rm) : wd = -1 ∨ ∃ p : Nat, wd = (p : Int) ∧ p < i := by
  obtain ⟨R, h1, ⟨_, h2, _⟩ | ⟨_, h2, _⟩ | ⟨_, p, h2, h3, _⟩⟩ := h
  · exact Or.inl h2
  · exact Or.inl h2
  · exact Or.inr ⟨p, h2, h3⟩
def RxAns (s : ByteArray) (w : World) (e : Ending) (w' : World) : Prop :=
  Bl w w' ∧ (((lx (L s) 0).2 = none ∧ ∃ v, e = .returned (.tuple #[v, flt 0 (-1)]) ∧ tr.Own w' w.heap.size v (lx (L s) 0).1) ∨
    ∃ p : Nat, (lx (L s) 0).2 = some p ∧ e = .returned (.tuple #[.slice none 0 0, flt 3 (p : Int)]))
end Go.Proofs.YtococaecjecjgaaGreatDoor.lx
namespace Go.Proofs.YtococaecjecjgaaGreatDoor.lx
set_option linter.unusedVariables false
open Go.ChangeShapes Go.WideShapes Go.ChangeAt Go.RowKit
open mem

theorem Rx.told {w w3 : World} {N : Nat} {v : Value} {l : List Tk} (h : Rx w w3 N v l) (c p : Int) : ((w3.setCell ⟨N, 0, none⟩ (.int .i64 c)).setCell ⟨N, 1, none⟩ (.int .i64 p)).heap[N]? = some (.cells #[.int .i64 c, .int .i64 p] 30 (0, 0)) ∧ Bl w ((w3.setCell ⟨N, 0, none⟩ (.int .i64 c)).setCell ⟨N, 1, none⟩ (.int .i64 p)) ∧ tr.Own ((w3.setCell ⟨N, 0, none⟩ (.int .i64 c)).setCell ⟨N, 1, none⟩ (.int .i64 p)) w.heap.size v l := by
  have hn := h.n
  refine ⟨?_, (h.bl.setCell (by show w.heap.size ≤ N; omega) _).setCell (by show w.heap.size ≤ N; omega) _, ?_⟩
  · simp [World.setCell, Array.getElem?_modify, h.fv]
  · have hne : ∀ x, v.ownBlock = some x → N + 1 ≤ x := fun x hx => (h.own.block x hx).1
    refine tr.Own.low (base := N + 1) ?_ (by omega)
    refine (h.own.kept (grown_set _ _ _ _) ?_).kept (grown_set _ _ _ _) ?_
    · intro x hx e; injection e with e; have := hne x hx; omega
    · intro x hx e; injection e with e; have := hne x hx; omega
theorem or_yes (a b : Bool) (h : true = (a || b)) : a = true ∨ a = false ∧ b = true := by cases a <;> cases b <;> simp at h ⊢
theorem or_no (a b : Bool) (h : false = (a || b)) : a = false ∧ b = false := by cases a <;> cases b <;> simp at h ⊢
theorem two_at (s : List UInt8) (i : Nat) (c a b : UInt8) (h : s[i]? = some c) : [a, b].isPrefixOf (s.drop i) = (a == c && (s[i + 1]? == some b)) := by
  rw [drop_cons s i c h]
  cases h2 : s[i + 1]? with
  | none =>
    have : s.drop (i + 1) = [] := List.drop_of_length_le (by rw [List.getElem?_eq_none_iff] at h2; exact h2)
    rw [this]
    cases hac : (a == c) <;> simp [List.isPrefixOf, hac]
  | some d =>
    rw [drop_cons s (i + 1) d h2]
    have e : ((some d : Option UInt8) == some b) = (b == d) := by
      rw [Bool.eq_iff_iff, beq_iff_eq, beq_iff_eq, Option.some.injEq]
      exact eq_comm
    rw [e]
    show (a == c && (b == d && List.isPrefixOf [] (s.drop (i + 1 + 1)))) = _
    cases s.drop (i + 1 + 1) <;> simp [List.isPrefixOf]
theorem tl_two (s : List UInt8) (i : Nat) (c : UInt8) (h : s[i]? = some c) (h1 : isB c = false) (h2 : (c == 35) = false) (h3 : isW c = false) :
    gap (s.drop i) = 0 ∧ tl (s.drop i) = (if [61, 61].isPrefixOf (s.drop i) || [33, 61].isPrefixOf (s.drop i) then 2 else if isM c then 1 else 0) := by
  obtain ⟨g1, g2⟩ := mark_at s i c h h1 h2 h3
  refine ⟨g1, ?_⟩
  rw [g2, two_at s i c 61 61 h, two_at s i c 33 61 h, ← Bool.and_or_distrib_right]
  have e : (c == 61 || c == 33) = ((61 : UInt8) == c || (33 : UInt8) == c) := by
    rw [Bool.beq_comm (a := c) (b := 61), Bool.beq_comm (a := c) (b := 33)]
  rw [e]
theorem refLex_long (s : ByteArray) (w : World) (hs : 3000 < s.size) :
    Calls Tryz.prog 67 #[.string s] w fun e w' => e = .returned (.tuple #[.slice none 0 0, flt 4 (-1)]) ∧ Bl w w' := by
  have hn : 3000 < (s.size : Int) := by omega
  go_enter Tryz.func67, Tryz.ntmps67
  go_wp2
  exact bodyPost_ret (v := .tuple #[.slice none 0 0, flt 4 (-1)]) (results_tmp_cell (p := 3) (u := 2) (ty := 30) rfl _ _ _ w.heap.size (flt 4 (-1)) rfl (ldF _ _ _ _ (new_at w _))) rfl ⟨rfl, (Bl.refl _).alloc _⟩
set_option maxHeartbeats 4000000 in
set_option maxRecDepth 10000 in
theorem refLex_at (s : ByteArray) (w : World) (hs : s.size ≤ 3000) :
    Calls Tryz.prog 67 #[.string s] w fun e w' => RxAns s w e w' := by
  have hn : ¬ 3000 < (s.size : Int) := by omega
  have hL : (L s).length = s.size := L_len s
  have HL : Hid ((L s).length = s.size) := hL
  clear hL
  obtain ⟨w2, hw2⟩ : ∃ w2, w2 = w.alloc (.cells #[.int .i64 0, .int .i64 0] 30) := ⟨_, rfl⟩
  obtain ⟨N, hN⟩ : ∃ N, N = w.heap.size := ⟨_, rfl⟩
  have HC0 : Hid (Rx w w2 N (.slice none 0 0) []) := by
    refine ⟨tr.Own.nil _ _, by rw [hw2]; exact (Bl.refl _).alloc _, ?_, hN⟩
    rw [hw2, hN]; exact new_at w _
  have HP0 : Hid (Pz (L s) [] 0 (-1) false) := ⟨lx (L s) 0, by simp, Or.inr (Or.inl ⟨rfl, rfl, rfl⟩)⟩
  go_enter Tryz.func67, Tryz.ntmps67
  go_wp2_with fail
  rw [← hw2, ← hN]
  clear hw2 hN hn
  go_wp2
  go_loopw [4, 5, 6, 7] (fun v5 wv rv iv wr => ∃ (i : Nat) (wd : Int) (rm : Bool) (v : Value) (l : List Tk), v5 = v ∧ i ≤ s.size ∧ iv = .int .i64 (i : Int) ∧ wv = .int .i64 wd ∧ rv = .bool rm ∧ Hid (Rx w wr N v l ∧ Pz (L s) l i wd rm)) (fun _ _ _ iv _ => s.size + 1 - (intOf iv).toNat)
  case atStart => exact ⟨0, -1, false, _, _, rfl, Nat.zero_le _, rfl, rfl, rfl, HC0.out, HP0.out⟩
  case round =>
    clear HC0 HP0
    obtain ⟨i, wd, rm, v, l, rfl, hi, rfl, rfl, rfl, H⟩ := hrel
    have hll : l.length ≤ 3000 := H.out.2.len (by rw [HL.out]; exact hs)
    have d0 : decide ((i : Int) ≤ (s.size : Int)) = true := decide_eq_true (by omega)
    by_cases hin : i = s.size
    · subst hin
      have d1 : decide ((s.size : Int) < (s.size : Int)) = false := decide_eq_false (by omega)
      rcases H.out.2.kind with rfl | ⟨p, rfl, hp⟩
      · have HE : Hid (lx (L s) 0 = (l, none)) := H.out.2.end_ (by rw [HL.out]; omega)
        go_wp2_with fail
        refine (Good_at _).mono ?_
        rintro e w3 ⟨rfl, hb3⟩
        have HR : Hid (Rx w w3 N u4 l) := H.out.1.step hb3
        have c0 : w3.cell? ⟨N, 0, none⟩ = some (.int .i64 0) := by rw [cell_of HR.out.fv]; rfl
        have c1 : w3.cell? ⟨N, 1, none⟩ = some (.int .i64 0) := by rw [cell_of HR.out.fv]; rfl
        have z0 : w3.frozen? ⟨N, 0, none⟩ = false := by simp [World.frozen?, HR.out.fv]
        have z1 : w3.frozen? ⟨N, 1, none⟩ = false := by simp [World.frozen?, HR.out.fv]
        unfold flt
        go_wp2
        obtain ⟨q1, q2, q3⟩ := HR.out.told 0 (-1)
        exact bodyPost_ret (v := .tuple #[u4, flt 0 (-1)]) (results_tmp_cell (p := 3) (u := 2) (ty := 30) rfl _ _ _ N (flt 0 (-1)) rfl (ldF _ _ _ _ q1)) rfl ⟨q2, Or.inl ⟨by rw [HE.out], _, rfl, by rw [HE.out]; exact q3⟩⟩
      · have hpo := H.out.2.out (by rw [HL.out]; omega) (fun c hc => by rw [List.getElem?_eq_none (by rw [HL.out]; omega)] at hc; cases hc)
        obtain ⟨Z, hZ⟩ : ∃ Z, Z = s.extract p s.size := ⟨_, rfl⟩
        have hZ' : s.extract p s.size = Z := hZ.symm
        obtain ⟨v', w7, hr, hx⟩ := H.out.1.app (((L s).take s.size).drop p) p Z (by rw [hZ, ← L_ext, tx_L]) hll
        have HE : Hid (lx (L s) 0 = (l ++ [⟨((L s).take s.size).drop p, p⟩], none)) := hpo.2.1.end_ (by rw [HL.out]; omega)
        have HR : Hid _ := hr
        have HX : Hid _ := hx
        have hpi : p ≤ s.size := by omega
        clear hr hx hpo hZ
        go_wp2_with (at_builtin; refine Lib.wpList_append_run _ rfl (.tmp 46) (.tmp 53) _ _ rfl _ _ rfl rfl _ _ HR.out ?_)
        refine (Good_at _).mono ?_
        rintro e w3 ⟨rfl, hb3⟩
        have HR3 : Hid _ := HX.out.step hb3
        have c0 : w3.cell? ⟨N, 0, none⟩ = some (.int .i64 0) := by rw [cell_of HR3.out.fv]; rfl
        have c1 : w3.cell? ⟨N, 1, none⟩ = some (.int .i64 0) := by rw [cell_of HR3.out.fv]; rfl
        have z0 : w3.frozen? ⟨N, 0, none⟩ = false := by simp [World.frozen?, HR3.out.fv]
        have z1 : w3.frozen? ⟨N, 1, none⟩ = false := by simp [World.frozen?, HR3.out.fv]
        unfold flt
        go_wp2
        obtain ⟨q1, q2, q3⟩ := HR3.out.told 0 (-1)
        exact bodyPost_ret (v := .tuple #[v', flt 0 (-1)]) (results_tmp_cell (p := 3) (u := 2) (ty := 30) rfl _ _ _ N (flt 0 (-1)) rfl (ldF _ _ _ _ q1)) rfl ⟨q2, Or.inl ⟨by rw [HE.out], _, rfl, by rw [HE.out]; exact q3⟩⟩
    · have hlt : i < s.size := by omega
      have d1 : decide ((i : Int) < (s.size : Int)) = true := decide_eq_true (by omega)
      have d2 : ((i : Int) == (s.size : Int)) = false := by rw [beq_eq_false_iff_ne]; omega
      have e1 : (((s[i]'hlt).toNat : Nat) : Int) = sb s i := (sb_get s i hlt).symm
      have hc : (L s)[i]? = some (s[i]'hlt) := L_get s i hlt
      have hW : isW (s[i]'hlt) = (lt (sb s i) || dg (sb s i)) := by rw [sb_get s i hlt]; rfl
      obtain ⟨c, hcc⟩ : ∃ c, c = s[i]'hlt := ⟨_, rfl⟩
      have hx : sb s i = (c.toNat : Int) := by rw [hcc, sb_get s i hlt]
      rw [← hcc] at hc hW
      have HC : Hid ((L s)[i]? = some c ∧ sb s i = (c.toNat : Int)) := ⟨hc, hx⟩
      clear hc hx hcc hin
      cases rm with
      | true =>
        obtain rfl := H.out.2.rm_out
        have HN : Hid (Pz (L s) l (i + 1) (-1) (!(c == 10))) := H.out.2.rm_next HC.out.1
        have HX := HC.out.2
        generalize sb s i = x at *
        by_cases h10 : x = 10
        · have hc10 : c = 10 := UInt8.toNat_inj.1 (by have : (10 : UInt8).toNat = 10 := rfl; omega)
          subst h10 hc10
          clear hW HX
          go_wp2
          go_roundw
          case rel => exact ⟨i + 1, -1, false, _, l, rfl, by omega, by go_num, rfl, rfl, H.out.1, HN.out⟩
          case measure => simp [intOf]; omega
        · have n10 : (x == 10) = false := by rw [beq_eq_false_iff_ne]; exact h10
          have hc10 : (!(c == 10)) = true := by
            have : c ≠ 10 := by rintro rfl; exact h10 HX
            simpa using this
          rw [hc10] at HN
          clear h10 hW HX
          by_cases h35 : x = 35
          · subst h35
            go_wp2
            go_roundw
            case rel => exact ⟨i + 1, -1, true, _, l, rfl, by omega, by go_num, rfl, rfl, H.out.1, HN.out⟩
            case measure => simp [intOf]; omega
          · have n35 : (x == 35) = false := by rw [beq_eq_false_iff_ne]; exact h35
            clear h35
            go_wp2
            go_roundw
            case rel => exact ⟨i + 1, -1, true, _, l, rfl, by omega, by go_num, rfl, rfl, H.out.1, HN.out⟩
            case measure => simp [intOf]; omega
      | false =>
        have cL := refLetter_at (sb s i)
        have cD := refDigit_at (sb s i)
        by_cases hw : isW c = true
        · have HN : Hid (Pz (L s) l (i + 1) (if wd < 0 then (i : Int) else wd) false) := H.out.2.word HC.out.1 hw
          rw [hw] at hW
          have hor := or_yes _ _ hW
          clear hW hw
          rcases H.out.2.kind with rfl | ⟨p, rfl, hp⟩
          · rw [if_pos (by decide)] at HN
            rcases hor with h1 | ⟨h1, h2⟩
            · rw [h1] at cL
              clear h1
              go_wp2_with fail
              refine (cL _).mono ?_
              rintro e w3 ⟨rfl, rfl⟩
              go_wp2
              go_roundw
              case rel => exact ⟨i + 1, i, false, _, l, rfl, by omega, by go_num, rfl, rfl, H.out.1, HN.out⟩
              case measure => simp [intOf]; omega
            · rw [h1] at cL
              rw [h2] at cD
              clear h1 h2
              go_wp2_with fail
              refine (cL _).mono ?_
              rintro e w3 ⟨rfl, rfl⟩
              go_wp2_with fail
              refine (cD _).mono ?_
              rintro e w3 ⟨rfl, rfl⟩
              go_wp2
              go_roundw
              case rel => exact ⟨i + 1, i, false, _, l, rfl, by omega, by go_num, rfl, rfl, H.out.1, HN.out⟩
              case measure => simp [intOf]; omega
          · rw [if_neg (by omega)] at HN
            rcases hor with h1 | ⟨h1, h2⟩
            · rw [h1] at cL
              clear h1
              go_wp2_with fail
              refine (cL _).mono ?_
              rintro e w3 ⟨rfl, rfl⟩
              go_wp2
              go_roundw
              case rel => exact ⟨i + 1, p, false, _, l, rfl, by omega, by go_num, rfl, rfl, H.out.1, HN.out⟩
              case measure => simp [intOf]; omega
            · rw [h1] at cL
              rw [h2] at cD
              clear h1 h2
              go_wp2_with fail
              refine (cL _).mono ?_
              rintro e w3 ⟨rfl, rfl⟩
              go_wp2_with fail
              refine (cD _).mono ?_
              rintro e w3 ⟨rfl, rfl⟩
              go_wp2
              go_roundw
              case rel => exact ⟨i + 1, p, false, _, l, rfl, by omega, by go_num, rfl, rfl, H.out.1, HN.out⟩
              case measure => simp [intOf]; omega
        · rw [Bool.not_eq_true] at hw
          rw [hw] at hW
          obtain ⟨h1, h2⟩ := or_no _ _ hW
          rw [h1] at cL
          rw [h2] at cD
          clear hW h1 h2
          go_wp2_with fail
          refine (cL _).mono ?_
          rintro e w3 ⟨rfl, rfl⟩
          go_wp2_with fail
          refine (cD _).mono ?_
          rintro e w3 ⟨rfl, rfl⟩
          go_upto_if 45 with fail
          go_cut [4, 5] from 14 to 120 (fun v5 wv wc => ∃ (v : Value) (l : List Tk), v5 = v ∧ wv = .int .i64 (-1) ∧ l.length ≤ 3000 ∧ Hid (Rx w wc N v l ∧ Pz (L s) l i (-1) false))
          case first =>
            rcases H.out.2.kind with rfl | ⟨p, rfl, hp⟩
            · go_wp2_with fail
              go_meet
              case rel => exact ⟨_, l, rfl, rfl, hll, H.out⟩
            · have hpo := H.out.2.out (by rw [HL.out]; omega) (fun d hd => by rw [HC.out.1] at hd; injection hd with hd; rw [← hd]; exact hw)
              obtain ⟨Z, hZ⟩ : ∃ Z, Z = s.extract p i := ⟨_, rfl⟩
              have hZ' : s.extract p i = Z := hZ.symm
              obtain ⟨v', w7, hr, hx⟩ := H.out.1.app (((L s).take i).drop p) p Z (by rw [hZ, ← L_ext, tx_L]) hll
              have HP : Hid (Pz (L s) (l ++ [⟨((L s).take i).drop p, p⟩]) i (-1) false) := hpo.2.1
              have hlen := hpo.2.1.len (by rw [HL.out]; exact hs)
              have HR : Hid _ := hr
              have HX : Hid (Rx w w7 N v' (l ++ [⟨((L s).take i).drop p, p⟩])) := hx
              have hpi : p ≤ i := by omega
              clear hr hx hpo hZ
              go_wp2_with (at_builtin; refine Lib.wpList_append_run _ rfl (.tmp 46) (.tmp 53) _ _ rfl _ _ rfl rfl _ _ HR.out ?_)
              go_meet
              case rel => exact ⟨_, _, rfl, rfl, hlen, HX.out, HP.out⟩
          case rest =>
            clear cL cD H hll
            obtain ⟨v, l, rfl, rfl, hll, H⟩ := hcut
            have hx := HC.out.2
            have key : ∀ k : UInt8, sb s i = (k.toNat : Int) → c = k := fun k hk => UInt8.toNat_inj.1 (by omega)
            have HK : Hid (∀ k : UInt8, sb s i = (k.toNat : Int) → c = k) := key
            have HX : Hid (sb s i = (c.toNat : Int)) := hx
            clear key hx
            generalize sb s i = x at *
            by_cases hB : x = 10 ∨ x = 32 ∨ x = 9
            · have HN : Hid (Pz (L s) l (i + 1) (-1) false) := by
                refine H.out.2.go (rm := false) ?_
                rcases hB with h | h | h
                · exact lx_over _ i 10 (by rw [HC.out.1, HK.out 10 h]) rfl
                · exact lx_over _ i 32 (by rw [HC.out.1, HK.out 32 h]) rfl
                · exact lx_over _ i 9 (by rw [HC.out.1, HK.out 9 h]) rfl
              rcases hB with rfl | rfl | rfl
              all_goals
                go_wp2
                go_roundw
                case rel => exact ⟨i + 1, -1, false, _, l, rfl, by omega, by go_num, rfl, rfl, H.out.1, HN.out⟩
                case measure => simp [intOf]; omega
            · have n10 : (x == 10) = false := by rw [beq_eq_false_iff_ne]; omega
              have n32 : (x == 32) = false := by rw [beq_eq_false_iff_ne]; omega
              have n9 : (x == 9) = false := by rw [beq_eq_false_iff_ne]; omega
              by_cases h35 : x = 35
              · have HN : Hid (Pz (L s) l (i + 1) (-1) true) := H.out.2.rem (by rw [HC.out.1, HK.out 35 h35])
                subst h35
                clear hB
                go_wp2
                go_roundw
                case rel => exact ⟨i + 1, -1, true, _, l, rfl, by omega, by go_num, rfl, rfl, H.out.1, HN.out⟩
                case measure => simp [intOf]; omega
              · have n35 : (x == 35) = false := by rw [beq_eq_false_iff_ne]; exact h35
                have hB' : isB c = false := by
                  unfold isB
                  simp only [Bool.or_eq_false_iff, beq_eq_false_iff_ne]
                  refine ⟨⟨?_, ?_⟩, ?_⟩
                  · rintro rfl; exact hB (Or.inr (Or.inl HX.out))
                  · rintro rfl; exact hB (Or.inl HX.out)
                  · rintro rfl; exact hB (Or.inr (Or.inr HX.out))
                have h35' : (c == 35) = false := by
                  rw [beq_eq_false_iff_ne]; rintro rfl; exact h35 HX.out
                obtain ⟨hg, htl⟩ := tl_two (L s) i c HC.out.1 hB' h35' hw
                have HG : Hid (gap ((L s).drop i) = 0) := hg
                have cC := one_byte c
                have cE : ∀ w : World, Calls Tryz.prog 109 #[.string (s.extract i s.size), .string ⟨#[61, 61]⟩] w fun e w' => e = .returned (.bool ([61, 61].isPrefixOf ((L s).drop i))) ∧ w' = w := has_at s i [61, 61]
                have cN : ∀ w : World, Calls Tryz.prog 109 #[.string (s.extract i s.size), .string ⟨#[33, 61]⟩] w fun e w' => e = .returned (.bool ([33, 61].isPrefixOf ((L s).drop i))) ∧ w' = w := has_at s i [33, 61]
                have hex : s.extract i (i + 1) = ⟨#[c]⟩ := by
                  apply L_inj
                  rw [L_ext, List.take_add_one, HC.out.1, List.drop_append_of_le_length (by rw [List.length_take, HL.out]; omega), List.drop_of_length_le (by rw [List.length_take, HL.out]; omega)]
                  rfl
                have hB1 : [61, 61].isPrefixOf ((L s).drop i) = true → isM c = true := by
                  rw [two_at _ _ _ _ _ HC.out.1]
                  intro h
                  simp at h
                  rw [← h.1]; rfl
                clear hB h35 hB' h35' hw hg
                generalize [61, 61].isPrefixOf ((L s).drop i) = b1 at *
                generalize [33, 61].isPrefixOf ((L s).drop i) = b2 at *
                generalize isM c = b0 at *
                obtain ⟨T, hT⟩ : ∃ T, T = tl ((L s).drop i) := ⟨_, rfl⟩
                rw [← hT] at htl
                have hc := HC.out.1
                have hxs : i + 1 ≤ s.size := by omega
                cases b1 with
                | true =>
                  obtain rfl := hB1 rfl
                  simp only [Bool.true_or, if_true] at htl
                  have hm := H.out.2.mark (by rw [HL.out]; exact hlt) HG.out (hT.symm.trans htl) (by decide)
                  rw [HL.out] at hm
                  obtain ⟨Z, hZ⟩ : ∃ Z, Z = s.extract i (i + 2) := ⟨_, rfl⟩
                  have hZ' : s.extract i (i + 2) = Z := hZ.symm
                  obtain ⟨v', w7, hr, hx⟩ := H.out.1.app (((L s).take (i + 2)).drop i) i Z (by rw [hZ, ← L_ext, tx_L]) hll
                  have HN : Hid (Pz (L s) (l ++ [⟨((L s).take (i + 2)).drop i, i⟩]) (i + 2) (-1) false) := hm.2
                  have HX7 : Hid (Rx w w7 N v' (l ++ [⟨((L s).take (i + 2)).drop i, i⟩])) := hx
                  have HR : Hid _ := hr
                  have hin : i + 2 ≤ s.size := hm.1
                  clear hr hx hm hT htl hZ hc
                  go_wp2_with fail
                  refine (cC _).mono ?_
                  rintro e w4 ⟨rfl, rfl⟩
                  go_wp2_with fail
                  refine (cE _).mono ?_
                  rintro e w4 ⟨rfl, rfl⟩
                  go_wp2_with (at_builtin; refine Lib.wpList_append_run _ rfl (.tmp 106) (.tmp 115) _ _ rfl _ _ rfl rfl _ _ HR.out ?_)
                  go_roundw
                  case rel => exact ⟨i + 2, -1, false, _, _, rfl, hin, by go_num, rfl, rfl, HX7.out, HN.out⟩
                  case measure => simp [intOf]; omega
                | false =>
                  clear hB1
                  cases b2 with
                  | true =>
                    simp only [Bool.false_or, if_true] at htl
                    cases b0 with
                    | true =>
                      have hm := H.out.2.mark (by rw [HL.out]; exact hlt) HG.out (hT.symm.trans htl) (by decide)
                      rw [HL.out] at hm
                      obtain ⟨Z, hZ⟩ : ∃ Z, Z = s.extract i (i + 2) := ⟨_, rfl⟩
                      have hZ' : s.extract i (i + 2) = Z := hZ.symm
                      obtain ⟨v', w7, hr, hx⟩ := H.out.1.app (((L s).take (i + 2)).drop i) i Z (by rw [hZ, ← L_ext, tx_L]) hll
                      have HN : Hid (Pz (L s) (l ++ [⟨((L s).take (i + 2)).drop i, i⟩]) (i + 2) (-1) false) := hm.2
                      have HX7 : Hid (Rx w w7 N v' (l ++ [⟨((L s).take (i + 2)).drop i, i⟩])) := hx
                      have HR : Hid _ := hr
                      have hin : i + 2 ≤ s.size := hm.1
                      clear hr hx hm hT htl hZ hc
                      go_wp2_with fail
                      refine (cC _).mono ?_
                      rintro e w4 ⟨rfl, rfl⟩
                      go_wp2_with fail
                      refine (cE _).mono ?_
                      rintro e w4 ⟨rfl, rfl⟩
                      go_wp2_with fail
                      refine (cN _).mono ?_
                      rintro e w4 ⟨rfl, rfl⟩
                      go_wp2_with (at_builtin; refine Lib.wpList_append_run _ rfl (.tmp 106) (.tmp 115) _ _ rfl _ _ rfl rfl _ _ HR.out ?_)
                      go_roundw
                      case rel => exact ⟨i + 2, -1, false, _, _, rfl, hin, by go_num, rfl, rfl, HX7.out, HN.out⟩
                      case measure => simp [intOf]; omega

                    | false =>
                      have hm := H.out.2.mark (by rw [HL.out]; exact hlt) HG.out (hT.symm.trans htl) (by decide)
                      rw [HL.out] at hm
                      obtain ⟨Z, hZ⟩ : ∃ Z, Z = s.extract i (i + 2) := ⟨_, rfl⟩
                      have hZ' : s.extract i (i + 2) = Z := hZ.symm
                      obtain ⟨v', w7, hr, hx⟩ := H.out.1.app (((L s).take (i + 2)).drop i) i Z (by rw [hZ, ← L_ext, tx_L]) hll
                      have HN : Hid (Pz (L s) (l ++ [⟨((L s).take (i + 2)).drop i, i⟩]) (i + 2) (-1) false) := hm.2
                      have HX7 : Hid (Rx w w7 N v' (l ++ [⟨((L s).take (i + 2)).drop i, i⟩])) := hx
                      have HR : Hid _ := hr
                      have hin : i + 2 ≤ s.size := hm.1
                      clear hr hx hm hT htl hZ hc
                      go_wp2_with fail
                      refine (cC _).mono ?_
                      rintro e w4 ⟨rfl, rfl⟩
                      go_wp2_with fail
                      refine (cE _).mono ?_
                      rintro e w4 ⟨rfl, rfl⟩
                      go_wp2_with fail
                      refine (cN _).mono ?_
                      rintro e w4 ⟨rfl, rfl⟩
                      go_wp2_with (at_builtin; refine Lib.wpList_append_run _ rfl (.tmp 106) (.tmp 115) _ _ rfl _ _ rfl rfl _ _ HR.out ?_)
                      go_roundw
                      case rel => exact ⟨i + 2, -1, false, _, _, rfl, hin, by go_num, rfl, rfl, HX7.out, HN.out⟩
                      case measure => simp [intOf]; omega

                  | false =>
                    simp only [Bool.false_or, Bool.false_eq_true, if_false] at htl
                    cases b0 with
                    | true =>
                      simp only [if_true] at htl
                      have hm := H.out.2.mark (by rw [HL.out]; exact hlt) HG.out (hT.symm.trans htl) (by decide)
                      rw [HL.out] at hm
                      obtain ⟨v', w7, hr, hx⟩ := H.out.1.app (((L s).take (i + 1)).drop i) i ⟨#[c]⟩ (by rw [← hex, ← L_ext, tx_L]) hll
                      have HN : Hid (Pz (L s) (l ++ [⟨((L s).take (i + 1)).drop i, i⟩]) (i + 1) (-1) false) := hm.2
                      have HX7 : Hid (Rx w w7 N v' (l ++ [⟨((L s).take (i + 1)).drop i, i⟩])) := hx
                      have HR : Hid _ := hr
                      have hin : i + 1 ≤ s.size := hm.1
                      clear hr hx hm hT htl hc
                      go_wp2_with fail
                      refine (cC _).mono ?_
                      rintro e w4 ⟨rfl, rfl⟩
                      go_wp2_with fail
                      refine (cE _).mono ?_
                      rintro e w4 ⟨rfl, rfl⟩
                      go_wp2_with fail
                      refine (cN _).mono ?_
                      rintro e w4 ⟨rfl, rfl⟩
                      go_wp2_with (at_builtin; refine Lib.wpList_append_run _ rfl (.tmp 106) (.tmp 115) _ _ rfl _ _ rfl rfl _ _ HR.out ?_)
                      go_roundw
                      case rel => exact ⟨i + 1, -1, false, _, _, rfl, hin, by go_num, rfl, rfl, HX7.out, HN.out⟩
                      case measure => simp [intOf]; omega

                    | false =>
                      simp only [Bool.false_eq_true, if_false] at htl
                      have HBD : Hid ((lx (L s) 0).2 = some i) := H.out.2.bad (by rw [HL.out]; exact hlt) HG.out (hT.symm.trans htl)
                      have c0 : wc.cell? ⟨N, 0, none⟩ = some (.int .i64 0) := by rw [cell_of H.out.1.fv]; rfl
                      have c1 : wc.cell? ⟨N, 1, none⟩ = some (.int .i64 0) := by rw [cell_of H.out.1.fv]; rfl
                      have z0 : wc.frozen? ⟨N, 0, none⟩ = false := by simp [World.frozen?, H.out.1.fv]
                      have z1 : wc.frozen? ⟨N, 1, none⟩ = false := by simp [World.frozen?, H.out.1.fv]
                      clear hT htl hc
                      go_wp2_with fail
                      refine (cC _).mono ?_
                      rintro e w4 ⟨rfl, rfl⟩
                      go_wp2_with fail
                      refine (cE _).mono ?_
                      rintro e w4 ⟨rfl, rfl⟩
                      go_wp2_with fail
                      refine (cN _).mono ?_
                      rintro e w4 ⟨rfl, rfl⟩
                      go_wp2
                      obtain ⟨q1, q2, q3⟩ := H.out.1.told 3 (i : Int)
                      exact bodyPost_ret (v := .tuple #[.slice none 0 0, flt 3 (i : Int)]) (results_tmp_cell (p := 3) (u := 2) (ty := 30) rfl _ _ _ N (flt 3 (i : Int)) rfl (ldF _ _ _ _ q1)) rfl ⟨q2, Or.inr ⟨i, HBD.out, rfl⟩⟩
end Go.Proofs.YtococaecjecjgaaGreatDoor.lx
namespace Go.Proofs.YtococaecjecjgaaGreatDoor.ex
set_option linter.unusedVariables false
open Go.ChangeShapes Go.WideShapes Go.ChangeAt Go.RowKit
open mem lx

theorem upd2 (w : World) (N : Nat) (a b c d : Value) (ty : TypeId) (h : w.heap[N]? = some (.cells #[a, b] ty (0, 0))) : ((w.setCell ⟨N, 0, none⟩ c).setCell ⟨N, 1, none⟩ d).heap[N]? = some (.cells #[c, d] ty (0, 0)) := by
  simp [World.setCell, Array.getElem?_modify, h]
structure Fl (w W : World) (M N : Nat) (c p : Int) : Prop where
  bl : Bl w W
  m : W.heap[M]? = some (.cells #[.int .i64 0, .int .i64 0] 30 (0, 0))
  n : W.heap[N]? = some (.cells #[.int .i64 c, .int .i64 p] 30 (0, 0))
  ge : w.heap.size ≤ M ∧ w.heap.size ≤ N ∧ M ≠ N
theorem Fl.step {w W W' : World} {M N : Nat} {c p : Int} (h : Fl w W M N c p) (hb : Bl W W') : Fl w W' M N c p :=
  ⟨h.bl.trans hb, by rw [Below.block hb M (lt_of_heap h.m)]; exact h.m, by rw [Below.block hb N (lt_of_heap h.n)]; exact h.n, h.ge⟩
theorem Fl.cells {w W : World} {M N : Nat} {c p : Int} (h : Fl w W M N c p) : W.cell? ⟨N, 0, none⟩ = some (.int .i64 c) ∧ W.cell? ⟨N, 1, none⟩ = some (.int .i64 p) ∧ W.cell? ⟨M, 0, none⟩ = some (.int .i64 0) ∧ W.cell? ⟨M, 1, none⟩ = some (.int .i64 0) ∧ W.frozen? ⟨M, 0, none⟩ = false ∧ W.frozen? ⟨M, 1, none⟩ = false ∧ M < W.heap.size ∧ N < W.heap.size :=
  ⟨by rw [cell_of h.n]; rfl, by rw [cell_of h.n]; rfl, by rw [cell_of h.m]; rfl, by rw [cell_of h.m]; rfl, by simp [World.frozen?, h.m], by simp [World.frozen?, h.m], lt_of_heap h.m, lt_of_heap h.n⟩
theorem Fl.made {w w2 : World} {c p : Int} (hb : Bl (w.alloc (.cells #[.int .i64 0, .int .i64 0] 30)) w2) :
    Fl w (w2.alloc (.cells #[.int .i64 c, .int .i64 p] 30)) w.heap.size w2.heap.size c p := by
  have h0 := new_at w (.cells #[.int .i64 0, .int .i64 0] 30)
  have hs : w.heap.size < w2.heap.size := by have := hb.size; simp at this; omega
  have hbl : Bl w2 (w2.alloc (.cells #[.int .i64 c, .int .i64 p] 30)) := (Bl.refl w2).alloc _
  refine ⟨(((Bl.refl w).alloc _).trans hb).trans hbl, ?_, new_at w2 _, Nat.le_refl _, Nat.le_of_lt hs, by omega⟩
  rw [Below.block hbl _ hs, Below.block hb _ (lt_of_heap h0)]
  exact h0
theorem tk_blank {t : List UInt8} (h : IsT t) : (32 : UInt8) ∉ t := by
  rcases h with ⟨_, h⟩ | ⟨c, rfl, h⟩ | rfl | rfl
  · intro hm
    exact absurd (h 32 hm) (by decide)
  · intro hm
    have : (32 : UInt8) = c := by simpa using hm
    rw [← this] at h
    revert h; decide
  · decide
  · decide
theorem toks {s : List UInt8} {l : List Tk} : ∀ {p : Nat}, Ch s p l → ∀ t ∈ l, (t.t ≠ [] ∧ (32 : UInt8) ∉ t.t) ∧ t.t.length ≤ s.length := by
  induction l with
  | nil => intro p h x hx; simp at hx
  | cons t r ih =>
    intro p h x hx
    obtain ⟨_, h2, _, h4, h5⟩ : p ≤ t.a ∧ t.a + t.t.length ≤ s.length ∧ (s.drop t.a).take t.t.length = t.t ∧ IsT t.t ∧ Ch s (t.a + t.t.length) r := h
    rw [List.mem_cons] at hx
    rcases hx with rfl | hx
    · refine ⟨⟨?_, tk_blank h4⟩, by omega⟩
      rcases h4 with ⟨h, _⟩ | ⟨c, h, _⟩ | h | h
      · exact h
      · rw [h]; simp
      · rw [h]; simp
      · rw [h]; simp
    · exact ih h5 x hx
theorem eyes_end {w w2 W w6 : World} {M N : Nat} {c p : Int} {vq : Option Addr} {vn vk : Nat} {s : ByteArray} (hs : s.size ≤ 3000) (hF : Fl w W M N c p) (h2 : Bl w2 W) (h6 : Bl W w6) (hM : M = w.heap.size)
    (hA : (lx (L s) 0).2 = none → ∃ base, w.heap.size < base ∧ tr.Own w2 base (.slice vq vn vk) (lx (L s) 0).1) :
    Bl w (((w6.setCell ⟨M, 0, none⟩ (.int .i64 c)).setCell ⟨M, 1, none⟩ (.int .i64 p)).alloc (.cells #[.slice vq vn vk, .int .i64 (s.size : Int), .int .i64 0, .int .i64 (-1)] 91)) ∧
    (((w6.setCell ⟨M, 0, none⟩ (.int .i64 c)).setCell ⟨M, 1, none⟩ (.int .i64 p)).alloc (.cells #[.slice vq vn vk, .int .i64 (s.size : Int), .int .i64 0, .int .i64 (-1)] 91)).heap[M]? = some (.cells #[.int .i64 c, .int .i64 p] 30 (0, 0)) ∧
    w.heap.size ≤ w6.heap.size ∧ ((lx (L s) 0).2 = none → Ey (((w6.setCell ⟨M, 0, none⟩ (.int .i64 c)).setCell ⟨M, 1, none⟩ (.int .i64 p)).alloc (.cells #[.slice vq vn vk, .int .i64 (s.size : Int), .int .i64 0, .int .i64 (-1)] 91)) w6.heap.size (lx (L s) 0).1 s.size 0 (-1)) := by
  have hF6 := hF.step h6
  have hset := upd2 w6 M _ _ (.int .i64 c) (.int .i64 p) _ hF6.m
  have hsz : ((w6.setCell ⟨M, 0, none⟩ (.int .i64 c)).setCell ⟨M, 1, none⟩ (.int .i64 p)).heap.size = w6.heap.size := by simp [World.setCell]
  have hgp : Gp M w6 ((w6.setCell ⟨M, 0, none⟩ (.int .i64 c)).setCell ⟨M, 1, none⟩ (.int .i64 p)) := (Gp.set _).trans (Gp.set _)
  have hbs : Bl w ((w6.setCell ⟨M, 0, none⟩ (.int .i64 c)).setCell ⟨M, 1, none⟩ (.int .i64 p)) := Gp.below hF6.bl hgp (by omega)
  generalize ((w6.setCell ⟨M, 0, none⟩ (.int .i64 c)).setCell ⟨M, 1, none⟩ (.int .i64 p)) = X at *
  have hX : Bl X (X.alloc (.cells #[.slice vq vn vk, .int .i64 (s.size : Int), .int .i64 0, .int .i64 (-1)] 91)) := (Bl.refl _).alloc _
  refine ⟨hbs.trans hX, by rw [Below.block hX M (lt_of_heap hset)]; exact hset, hF6.bl.size, fun hn => ?_⟩
  obtain ⟨base, hb, ho⟩ := hA hn
  have ho6 := (ho.step h2).step h6
  have hch := lx_ch (L s) _ 0 (Nat.le_refl _) (Nat.zero_le _)
  have hlen := lx_len (L s) _ 0 (Nat.le_refl _)
  rw [List.drop_zero] at hch
  rw [L_len] at hlen
  have htk := toks hch
  rw [L_len] at htk
  generalize (lx (L s) 0).1 = l at ho6 hlen htk
  obtain ⟨q, k, e, h1, h3⟩ := ho6.view
  injection e with e1 e2 e3
  subst e1
  subst e2
  subst e3
  have hblk := ho6.block
  have hq : ∀ x, vq = some x → x.block < w6.heap.size ∧ x.block ≠ M := by
    intro x hx
    rcases ho6.shape with ⟨h, _⟩ | ⟨g, cap, h, h4, h5, _⟩
    · injection h with h; rw [h] at hx; cases hx
    · injection h with h
      rw [h] at hx
      injection hx with hx
      rw [← hx]
      exact ⟨h5, by show g ≠ M; omega⟩
  have hn9 := new_at X (.cells #[.slice vq l.length vk, .int .i64 (s.size : Int), .int .i64 0, .int .i64 (-1)] 91)
  rw [hsz] at hn9
  refine ⟨⟨vq, vk, hn9, h1, (In.gp h3 hgp hq).step hX, fun x hx => ?_⟩, by omega, fun t ht => ⟨(htk t ht).1, by have := (htk t ht).2; omega⟩⟩
  have := (hq x hx).1
  have hs2 := hX.size
  exact ⟨by omega, by omega⟩
set_option maxRecDepth 10000 in
set_option maxHeartbeats 2000000 in
theorem newEyes_at (s : ByteArray) (w : World) (hs : s.size ≤ 3000) :
    Calls Tryz.prog 36 #[.string s] w fun e w' => Bl w w' ∧ ∃ P, w.heap.size ≤ P ∧ (((lx (L s) 0).2 = none ∧ e = .returned (.tuple #[.pointer (some ⟨P, 0, none⟩), flt 0 (-1)]) ∧ Ey w' P (lx (L s) 0).1 s.size 0 (-1)) ∨
      ∃ p : Nat, (lx (L s) 0).2 = some p ∧ e = .returned (.tuple #[.pointer (some ⟨P, 0, none⟩), flt 3 (p : Int)])) := by
  have cX := fun w => refLex_at s w hs
  go_enter Tryz.func36, Tryz.ntmps36
  go_wp2_with fail
  refine (cX _).mono ?_
  rintro e w2 ⟨hb2, hans⟩
  obtain ⟨vq, vn, vk, c, p, rfl, HA⟩ : ∃ vq vn vk c p, e = .returned (.tuple #[.slice vq vn vk, flt c p]) ∧ Hid ((((lx (L s) 0).2 = none ∧ c = 0 ∧ p = -1) ∨ ∃ k : Nat, (lx (L s) 0).2 = some k ∧ c = 3 ∧ p = (k : Int)) ∧ ((lx (L s) 0).2 = none → ∃ base, w.heap.size < base ∧ tr.Own w2 base (.slice vq vn vk) (lx (L s) 0).1)) := by
    rcases hans with ⟨h1, v, rfl, h2⟩ | ⟨k, h1, rfl⟩
    · obtain ⟨q, k, e, _⟩ := h2.view
      subst e
      exact ⟨_, _, _, _, _, rfl, Or.inl ⟨h1, rfl, rfl⟩, fun _ => ⟨_, by simp, h2⟩⟩
    · exact ⟨_, _, _, _, _, rfl, Or.inr ⟨k, h1, rfl, rfl⟩, fun h => by rw [h1] at h; cases h⟩
  clear hans
  unfold flt
  go_upto_region 2 with fail
  have hF := Fl.made (c := c) (p := p) hb2
  obtain ⟨W, hW⟩ : ∃ W, W = (w2.alloc (.cells #[.int .i64 c, .int .i64 p] 30)) := ⟨_, rfl⟩
  rw [← hW] at hF ⊢
  have HBW : Hid (Bl w2 W) := by rw [hW]; exact (Bl.refl w2).alloc _
  obtain ⟨M, hM⟩ : ∃ M, M = w.heap.size := ⟨_, rfl⟩
  obtain ⟨N, hN⟩ : ∃ N, N = w2.heap.size := ⟨_, rfl⟩
  rw [← hM, ← hN] at hF
  rw [← hM, ← hN]
  have HF : Hid (Fl w W M N c p ∧ M = w.heap.size) := ⟨hF, hM⟩
  obtain ⟨g0, g1, m0, m1, z0, z1, hMs, hNs⟩ := hF.cells
  have hMN := hF.ge.2.2
  clear hW hM hN hF hb2 cX
  have cG : ∀ w, Calls Tryz.prog 21 #[] w fun e w' => e = .returned (.agg #[.int .i64 0, .int .i64 (-1)]) ∧ Bl w w' := Good_at
  go_region_with (go_at_call 21; refine (cG _).mono ?_; rintro e w6 ⟨rfl, hb6⟩; have HB6 : Hid (Bl W w6) := ((Bl.refl W).drew).trans hb6; obtain ⟨q0, q1, q2, q3, y0, y1, hM6, hN6⟩ := (HF.out.1.step HB6.out).cells; clear hb6)
  all_goals
    obtain ⟨k1, k2, k3, k4⟩ := eyes_end (s := s) (vq := vq) (vn := vn) (vk := vk) hs HF.out.1 HBW.out HB6.out HF.out.2 HA.out.2
    have HK : Hid _ := And.intro k1 (And.intro k2 (And.intro k3 k4))
    clear k1 k2 k3 k4 q0 q1 q2 q3 y0 y1 g0 g1 m0 m1 z0 z1
    go_wp2
    refine bodyPost_ret (v := .tuple #[.pointer (some ⟨w6.heap.size, 0, none⟩), flt c p]) (results_tmp_cell (p := 3) (u := 2) (ty := 30) rfl _ _ _ M (flt c p) rfl (ldF _ _ _ _ HK.out.2.1)) rfl ⟨HK.out.1, _, HK.out.2.2.1, ?_⟩
    rcases HA.out.1 with ⟨j1, j2, j3⟩ | ⟨k, j1, j2, j3⟩
    · exact Or.inl ⟨j1, by rw [j2, j3], HK.out.2.2.2 j1⟩
    · exact Or.inr ⟨k, j1, by rw [j2, j3]⟩
end Go.Proofs.YtococaecjecjgaaGreatDoor.ex
