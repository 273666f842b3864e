/- The law on expressions that are written and read again: the walk. -/
import Derived.Test.YtfngcphklfjhjaaDoorExV
namespace Go.Proofs.YtfngcphklfjhjaaDoor.ex
set_option linter.unusedVariables false
open Go.ChangeShapes Go.WideShapes Go.ChangeAt Go.RowKit
open mem lx

/-- What Tell says of what Eval answered. -/
def code (q : Except Nat Int) : Int := match q with | .ok _ => 0 | .error _ => 5
def valu (q : Except Nat Int) : Int := match q with | .ok n => n | .error _ => 0
theorem Eqv.same {p q : Except Nat Int} (h : Eqv p q) : valu p = valu q ∧ code p = code q := by
  rcases h with ⟨n, rfl, rfl⟩ | ⟨a, b, rfl, rfl⟩ <;> exact ⟨rfl, rfl⟩
/-- Eval's answer, and what Tell says of it, at any later world. -/
theorem EAns.get {q : Except Nat Int} {w w' : World} {e : Ending} (h : EAns q w e w') (hg : Gd w) : Bl w w' ∧ ∃ ev, e = .returned (.tuple #[.int .i64 (valu q), ev]) ∧ ((ev = .nilIface ∧ code q = 0) ∨ ∃ B, ev = .iface 62 (.pointer (some ⟨B, 0, none⟩)) ∧ code q = 5) ∧ ∀ wx, Bl w' wx → Calls Tryd.prog 21 #[ev] wx fun e w'' => e = .returned (.int .i64 (code q)) ∧ Bl wx w'' := by
  obtain ⟨hb, h⟩ := h
  refine ⟨hb, ?_⟩
  cases q with
  | ok n =>
    refine ⟨_, h, Or.inl ⟨rfl, rfl⟩, fun wx hx => (errs.tell_nil wx).mono ?_⟩
    rintro e w'' ⟨rfl, rfl⟩
    exact ⟨rfl, Bl.refl _⟩
  | error p =>
    obtain ⟨B, h1, h2, h3⟩ := h
    refine ⟨_, h1, Or.inr ⟨B, rfl, rfl⟩, fun wx hx => (errs.tell_at 5 B wx ((hg.step (hb.trans hx)).er) (at_bl hx (by rw [cell_of h3]; rfl))).mono ?_⟩
    rintro e w'' ⟨rfl, hgb⟩
    exact ⟨rfl, hgb.bl⟩
set_option maxRecDepth 10000 in
set_option maxHeartbeats 4000000 in
theorem again_at (a0 : ByteArray) (m : Value) (env : List UInt8 → Option Int) (n : Nat) (w : World) (hg : Gd w) (hn : Nm w m env n) :
    Calls Tryd.prog 5 #[.string a0, m] w fun e w' => e = .returned (.bool true) ∧ Below w.heap.size w w' := by
  have cF := fixed_at w hg
  have cL := long_at a0
  have HG : Hid (Gd w) := hg
  have HN : Hid (Nm w m env n) := hn
  clear hg hn
  go_enter Tryd.func5, Tryd.ntmps5
  go_wp2_with fail
  refine cF.mono ?_
  rintro e w1 ⟨rfl, hb1⟩
  by_cases hs : 900 < a0.size
  · rw [decide_eq_true hs] at cL
    go_wp2_with fail
    refine (cL _).mono ?_
    rintro e w2 ⟨rfl, rfl⟩
    go_wp2
    go_ret
    exact ⟨rfl, hb1⟩
  · rw [decide_eq_false hs] at cL
    have hln := HN.out.ln w1 hb1
    by_cases h20 : 20 < n
    · have h20' : (20 : Int) < (n : Int) := by omega
      go_wp2_with fail
      refine (cL _).mono ?_
      rintro e w2 ⟨rfl, rfl⟩
      go_wp2
      go_ret
      exact ⟨rfl, hb1⟩
    · have h20' : ¬ (20 : Int) < (n : Int) := by omega
      have cP := Parse_at a0 w1 (by omega) (HG.out.step hb1).ms (HG.out.step hb1).er
      go_wp2_with fail
      refine (cL _).mono ?_
      rintro e w2 ⟨rfl, rfl⟩
      go_wp2_with fail
      refine cP.mono ?_
      rintro e w3 ⟨hb3, hans⟩
      cases hp : prs (L a0) with
      | error cp =>
        obtain ⟨c, p⟩ := cp
        rw [hp] at hans
        obtain ⟨B, rfl, _, _⟩ := hans
        go_wp2
        go_ret
        exact ⟨rfl, hb1.trans hb3⟩
      | ok x =>
        rw [hp] at hans
        obtain ⟨v, rfl, hv⟩ := hans
        have hk := prs_kn hp
        obtain ⟨vb, rfl, _⟩ := hv.ptr
        clear hp cP cF cL hln
        have hb03 := hb1.trans hb3
        have hlen : (txt x).length ≤ 100000 := by
          have h1 := txt_len hk.nw hk.wf.okb
          have h2 := hk.sz
          rw [L_len] at h2
          omega
        have cT := Text_at x _ w3 hv (HG.out.step hb03).pw (HG.out.step hb03).lt hk.nw.fit (by omega)
        obtain ⟨x', hsm, hp2⟩ := again hk.wf hk.nw hk.dp
        obtain ⟨S, hS⟩ : ∃ S, S = tx (txt x) := ⟨_, rfl⟩
        have hLS : L S = txt x := by rw [hS, L_tx]
        rw [← hS] at cT
        have hSs : S.size ≤ 100000 := by rw [hS, tx_size]; exact hlen
        have HK : Hid (Kn (L a0) x ∧ Sm x x' ∧ prs (txt x) = .ok x' ∧ L S = txt x ∧ S = tx (txt x) ∧ (txt x).length ≤ 100000) := ⟨hk, hsm, hp2, hLS, hS, hlen⟩
        have HV : Hid (IsX w3 (.pointer (some ⟨vb, 0, none⟩)) x ∧ Bl w w3) := ⟨hv, hb03⟩
        clear hk hsm hp2 hLS hS hlen hv hb03 hb1 hb3
        go_wp2_with fail
        refine cT.mono ?_
        rintro e w4 ⟨rfl, hb4⟩
        have HB4 : Hid (Bl w w4 ∧ Bl w3 w4) := ⟨HV.out.2.trans hb4, hb4⟩
        clear hb4 cT
        by_cases h3 : 3000 < S.size
        · have h3' : (3000 : Int) < (S.size : Int) := by omega
          have cQ := Parse_long S w4 h3
          go_wp2_with fail
          refine cQ.mono ?_
          rintro e w5 ⟨rfl, hb5⟩
          go_wp2_with fail
          refine (errs.tell_errno 4 w5 (HG.out.step (HB4.out.1.trans hb5)).er).mono ?_
          rintro e w6 ⟨rfl, hb6⟩
          go_wp2
          go_ret
          exact ⟨rfl, (HB4.out.1.trans hb5).trans hb6.bl⟩
        · have cQ := Parse_at S w4 (by omega) (HG.out.step HB4.out.1).ms (HG.out.step HB4.out.1).er
          go_wp2_with fail
          refine cQ.mono ?_
          rintro e w5 ⟨hb5, hans5⟩
          rw [HK.out.2.2.2.1, HK.out.2.2.1] at hans5
          obtain ⟨v', rfl, hv'⟩ := hans5
          obtain ⟨vb', rfl, _⟩ := hv'.ptr
          have HB5 : Hid (Bl w w5 ∧ Bl w3 w5 ∧ IsX w5 (.pointer (some ⟨vb', 0, none⟩)) x') := ⟨HB4.out.1.trans hb5, HB4.out.2.trans hb5, hv'⟩
          have cT2 := Text_at x' _ w5 hv' (HG.out.step HB5.out.1).pw (HG.out.step HB5.out.1).lt (HK.out.2.1.nw HK.out.1.nw).fit (by rw [HK.out.2.1.txt.1]; have := HK.out.2.2.2.2.2; omega)
          rw [HK.out.2.1.txt.1, ← HK.out.2.2.2.2.1] at cT2
          clear hb5 hv' cQ
          go_wp2_with fail
          refine cT2.mono ?_
          rintro e w6 ⟨rfl, hb6⟩
          have HB6 : Hid (Bl w w6 ∧ Bl w3 w6 ∧ IsX w6 (.pointer (some ⟨vb', 0, none⟩)) x') := ⟨HB5.out.1.trans hb6, HB5.out.2.1.trans hb6, HB5.out.2.2.keep (Kx.bl hb6)⟩
          have cE := Eval_at env m x _ w6 (HV.out.1.keep (Kx.bl HB6.out.2.1)) HK.out.1.wf.okb (HN.out.is.step HB6.out.1)
          clear hb6 cT2
          go_wp2_with fail
          refine cE.mono ?_
          rintro e w7 hE7
          obtain ⟨hb7, ev7, rfl, _, ct7⟩ := hE7.get (HG.out.step HB6.out.1)
          have HB7 : Hid (Bl w w7) := HB6.out.1.trans hb7
          have cE' := Eval_at env m x' _ w7 (HB6.out.2.2.keep (Kx.bl hb7)) (HK.out.2.1.okb HK.out.1.wf.okb) (HN.out.is.step HB7.out)
          have HEV : Hid (Eqv (ev env x) (ev env x')) := HK.out.2.1.ev
          obtain ⟨V, hV⟩ : ∃ V, V = valu (ev env x) := ⟨_, rfl⟩
          obtain ⟨C, hC⟩ : ∃ C, C = code (ev env x) := ⟨_, rfl⟩
          rw [← hC] at ct7
          rw [← hV]
          have HVC : Hid (V = valu (ev env x) ∧ C = code (ev env x)) := ⟨hV, hC⟩
          clear hE7 hb7 hV hC cE
          go_wp2_with fail
          refine cE'.mono ?_
          rintro e w8 hE8
          obtain ⟨hb8, ev8, rfl, _, ct8⟩ := hE8.get (HG.out.step HB7.out)
          rw [← HEV.out.same.1, ← HVC.out.1]
          rw [← HEV.out.same.2, ← HVC.out.2] at ct8
          have HB8 : Hid (Bl w7 w8) := hb8
          clear hE8 cE' hb8
          have hnn : (V != V) = false := by simp
          have hcc : (C != C) = false := by simp
          go_wp2_with fail
          refine (ct7 _ HB8.out).mono ?_
          rintro e w9 ⟨rfl, hb9⟩
          go_wp2_with fail
          refine (ct8 _ hb9).mono ?_
          rintro e w10 ⟨rfl, hb10⟩
          have HB10 : Hid (Bl w w10 ∧ Bl w7 w10) := ⟨((HB7.out.trans HB8.out).trans hb9).trans hb10, (HB8.out.trans hb9).trans hb10⟩
          clear ct8 hb9 hb10
          obtain ⟨Z, hZ⟩ : ∃ Z, Z = (⟨#[40]⟩ ++ S ++ ⟨#[41, 42, 49]⟩ : ByteArray) := ⟨_, rfl⟩
          have hZ' : (⟨#[40]⟩ ++ S ++ ⟨#[41, 42, 49]⟩ : ByteArray) = Z := hZ.symm
          have hLZ : L Z = [40] ++ txt x ++ [41, 42, 49] := by rw [hZ, L_app, L_app, HK.out.2.2.2.1]; rfl
          have HZ : Hid (L Z = [40] ++ txt x ++ [41, 42, 49]) := hLZ
          clear hZ hLZ
          by_cases hz : 3000 < Z.size
          · have cQ := Parse_long Z w10 hz
            go_wp2_with fail
            refine cQ.mono ?_
            rintro e w11 ⟨rfl, hb11⟩
            go_wp2_with fail
            refine (errs.tell_errno 4 w11 (HG.out.step (HB10.out.1.trans hb11)).er).mono ?_
            rintro e w12 ⟨rfl, hb12⟩
            go_wp2
            go_ret
            exact ⟨rfl, (HB10.out.1.trans hb11).trans hb12.bl⟩
          · have cQ := Parse_at Z w10 (by omega) (HG.out.step HB10.out.1).ms (HG.out.step HB10.out.1).er
            go_wp2_with fail
            refine cQ.mono ?_
            rintro e w11 ⟨hb11, hans11⟩
            rcases about HK.out.1.wf HK.out.1.nw HK.out.1.dp with ⟨x'', pa, pb, hsm2, hz2⟩ | ⟨p, hz2⟩
            · rw [HZ.out, hz2] at hans11
              obtain ⟨v'', rfl, hv''⟩ := hans11
              obtain ⟨vb'', rfl, _⟩ := hv''.ptr
              have cE3 := Eval_at env m _ _ w11 hv'' (show Okb (.bin pa [42] x'' (.num pb 1)) from ⟨by decide, hsm2.okb HK.out.1.wf.okb, trivial⟩) (HN.out.is.step (HB10.out.1.trans hb11))
              have HE3 : Hid (Eqv (ev env x) (ev env (.bin pa [42] x'' (.num pb 1)))) := ev_about HN.out.rg HK.out.1.nw hsm2 pa pb
              have HB11 : Hid (Bl w w11 ∧ Bl w7 w11) := ⟨HB10.out.1.trans hb11, HB10.out.2.trans hb11⟩
              clear hz2 hsm2 hv'' hb11 cQ
              go_wp2_with fail
              refine cE3.mono ?_
              rintro e w12 hE12
              obtain ⟨hb12, ev12, rfl, _, ct12⟩ := hE12.get (HG.out.step HB11.out.1)
              rw [← HE3.out.same.1, ← HVC.out.1]
              rw [← HE3.out.same.2, ← HVC.out.2] at ct12
              have HB12 : Hid (Bl w w12 ∧ Bl w7 w12) := ⟨HB11.out.1.trans hb12, HB11.out.2.trans hb12⟩
              clear hE12 cE3 hb12
              have hvv : (V == V) = true := by simp
              have hcc2 : (C == C) = true := by simp
              go_wp2_with fail
              refine (ct12 _ (Bl.refl _)).mono ?_
              rintro e w13 ⟨rfl, hb13⟩
              go_wp2_with fail
              refine (ct7 _ (HB12.out.2.trans hb13)).mono ?_
              rintro e w14 ⟨rfl, hb14⟩
              go_wp2
              go_ret
              exact ⟨rfl, (HB12.out.1.trans hb13).trans hb14⟩
            · rw [HZ.out, hz2] at hans11
              obtain ⟨B, rfl, hB1, hB2⟩ := hans11
              go_wp2_with fail
              refine (errs.tell_at 4 B w11 (HG.out.step (HB10.out.1.trans hb11)).er (by rw [cell_of hB2]; rfl)).mono ?_
              rintro e w12 ⟨rfl, hb12⟩
              go_wp2
              go_ret
              exact ⟨rfl, (HB10.out.1.trans hb11).trans hb12.bl⟩
end Go.Proofs.YtfngcphklfjhjaaDoor.ex
