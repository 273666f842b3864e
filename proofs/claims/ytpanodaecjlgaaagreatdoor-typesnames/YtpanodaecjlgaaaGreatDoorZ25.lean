/- Texts laid together: TmR, TyNb. -/
import Derived.Test.YtpanodaecjlgaaaGreatDoorZ23
import Derived.Test.YtpanodaecjlgaaaGreatDoorZ24
/- The law on templates that are written and read again: the walk. -/
namespace Go.Proofs.YtpanodaecjlgaaaGreatDoor.tm
set_option linter.unusedVariables false
open Go.ChangeShapes Go.WideShapes Go.ChangeAt Go.RowKit Go.Shelf
open mem lx ex

/-- What Check tells, as a value. -/
theorem CkA.get {w w' : World} {q : Option (Int × Nat)} {e : Ending} (h : CkA w q e w') : Bl w w' ∧ ((q = none ∧ e = .returned .nilIface) ∨ (q ≠ none ∧ ∃ A, e = .returned (.iface 110 (.pointer (some ⟨A, 0, none⟩))))) := by
  obtain ⟨hb, h⟩ := h
  refine ⟨hb, ?_⟩
  cases q with
  | none => exact Or.inl ⟨rfl, h⟩
  | some cp =>
    obtain ⟨c, p⟩ := cp
    obtain ⟨A, h1, _⟩ := h
    exact Or.inr ⟨by simp, A, h1⟩
set_option maxRecDepth 10000 in
set_option maxHeartbeats 4000000 in
theorem again_at (a0 : ByteArray) (w : World) (hG : Gt w) :
    Calls Tryz.prog 4 #[.string a0] w fun e w' => e = .returned (.bool true) ∧ Below w.heap.size w w' := by
  have cF := boxed_at w hG
  have cL := long_at a0
  have HG : Hid (Gt w) := hG
  clear hG
  go_enter Tryz.func4, Tryz.ntmps4
  go_wp2_with fail
  refine cF.mono ?_
  rintro e w1 ⟨⟨v0, rfl⟩, hb1⟩
  by_cases hs : 900 < a0.size
  · rw [decide_eq_true hs] at cL
    go_wp2_with fail
    refine (cL _).mono ?_
    rintro e w2 ⟨rfl, rfl⟩
    go_wp2
    go_ret
    exact ⟨rfl, hb1⟩
  · rw [decide_eq_false hs] at cL
    have cP := Parse_at a0 w1 (by omega) (HG.out.bl hb1)
    go_wp2_with fail
    refine (cL _).mono ?_
    rintro e w2 ⟨rfl, rfl⟩
    go_wp2_with fail
    refine cP.mono ?_
    rintro e w3 ⟨hb3, hans⟩
    cases hp : prT (L a0) with
    | error cp =>
      obtain ⟨c, p⟩ := cp
      rw [hp] at hans
      obtain ⟨B, rfl, _, _⟩ := hans
      unfold atV
      go_wp2
      go_ret
      exact ⟨rfl, hb1.trans hb3⟩
    | ok l =>
      rw [hp] at hans
      obtain ⟨v, rfl, hv⟩ := hans
      obtain ⟨c1, c2, c3, c4⟩ := prT_told hp (by rw [L_len]; omega)
      obtain ⟨l', h1, h2, h3, h4⟩ := prT_print c2
      have hb03 := hb1.trans hb3
      have cX := Print_at l v w3 _ hv c2 (HG.out.bl hb03) (by omega)
      obtain ⟨S, hS⟩ : ∃ S, S = tx (ptxt l) := ⟨_, rfl⟩
      have hLS : L S = ptxt l := by rw [hS, L_tx]
      have hSs : S.size = (ptxt l).length := by rw [hS, tx_size]
      rw [← hS] at cX
      have HV : Hid ((∃ ok, IsTs w3 ok v l) ∧ Bl w w3 ∧ CI l ∧ prT (ptxt l) = .ok l' ∧ ptxt l' = ptxt l ∧ (chk l' = none ↔ chk l = none) ∧ L S = ptxt l ∧ S = tx (ptxt l)) := ⟨⟨_, hv⟩, hb03, c1, h1, h3, h4, hLS, hS⟩
      obtain ⟨tp, tn, tc, rfl⟩ : ∃ tp tn tc, v = .slice tp tn tc := by
        obtain ⟨p, c, cs, h1, _⟩ := hv
        exact ⟨_, _, _, h1⟩
      clear hv hb03 c1 c2 h1 h2 h3 h4 hLS hS cP cF cL hp hb1 hb3
      go_wp2_with fail
      refine cX.mono ?_
      rintro e w4 ⟨rfl, hb4⟩
      have HB4 : Hid (Bl w w4 ∧ (∃ ok, IsTs w4 ok (.slice tp tn tc) l)) := ⟨HV.out.2.1.trans hb4, by obtain ⟨ok, h⟩ := HV.out.1; exact ⟨ok, h.bl hb4⟩⟩
      by_cases h3k : 3000 < S.size
      · have cQ := Parse_long S w4 h3k
        have h3k' : (3000 : Int) < (S.size : Int) := by omega
        clear hb4 cX
        go_wp2_with fail
        refine cQ.mono ?_
        rintro e w5 ⟨rfl, hb5⟩
        go_wp2
        go_ret
        exact ⟨ret_bool (decide_eq_true (by omega)), HB4.out.1.trans hb5⟩
      · have cQ := Parse_at S w4 (by omega) (HG.out.bl HB4.out.1)
        clear hb4 cX
        go_wp2_with fail
        refine cQ.mono ?_
        rintro e w5 ⟨hb5, hans⟩
        rw [HV.out.2.2.2.2.2.2.1, HV.out.2.2.2.1] at hans
        obtain ⟨u, rfl, hu⟩ := hans
        obtain ⟨d1, d2, d3, d4⟩ := prT_told HV.out.2.2.2.1 (by rw [← hSs]; omega)
        obtain ⟨up, un, uc, rfl⟩ : ∃ up un uc, u = .slice up un uc := by
          obtain ⟨p, c, cs, h1, _⟩ := hu
          exact ⟨_, _, _, h1⟩
        have H5 : Hid (Bl w w5 ∧ (∃ ok, IsTs w5 ok (.slice tp tn tc) l) ∧ (∃ ok, IsTs w5 ok (.slice up un uc) l')) := ⟨HB4.out.1.trans hb5, by obtain ⟨ok, h⟩ := HB4.out.2; exact ⟨ok, h.bl hb5⟩, ⟨_, hu⟩⟩
        obtain ⟨okm, hm⟩ := H5.out.2.2
        obtain ⟨okl, hl⟩ := H5.out.2.1
        have kX := fun wx (hb : Bl w5 wx) => Print_at l' (.slice up un uc) wx okm (hm.bl hb) d2 (HG.out.bl (H5.out.1.trans hb)) (by omega)
        rw [HV.out.2.2.2.2.1, ← HV.out.2.2.2.2.2.2.2] at kX
        have kL := fun wx (hb : Bl w5 wx) => Check_at l (.slice tp tn tc) wx okl (hl.bl hb) HV.out.2.2.1
        have kM := fun wx (hb : Bl w5 wx) => Check_at l' (.slice up un uc) wx okm (hm.bl hb) d1
        clear hu d1 d2 d3 d4 hb5 cQ hm hl
        have hiff := HV.out.2.2.2.2.2.1
        have HBD : Hid (Bl w5 w5.drew) := (Bl.refl w5).drew
        by_cases hck : chk l = none
        · have hck' := hiff.2 hck
          clear hiff
          have kL' := fun wx (hb : Bl w5 wx) => (kL wx hb).mono (R' := fun e w' => e = .returned .nilIface ∧ Bl wx w') (fun e w' h => by obtain ⟨hb, h⟩ := h.get; rcases h with ⟨_, h⟩ | ⟨hn, _⟩; exact ⟨h, hb⟩; exact absurd hck hn)
          have kM' := fun wx (hb : Bl w5 wx) => (kM wx hb).mono (R' := fun e w' => e = .returned .nilIface ∧ Bl wx w') (fun e w' h => by obtain ⟨hb, h⟩ := h.get; rcases h with ⟨_, h⟩ | ⟨hn, _⟩; exact ⟨h, hb⟩; exact absurd hck' hn)
          clear kL kM hck hck'
          go_upto_region 13 with fail
          go_region_held3 (fun _ => True) (exact trivial)
            (first
              | (go_at_call 13; (with_reducible refine (kX _ HBD.out).mono ?_); rintro e w6 ⟨rfl, hb6⟩; have HB6 : Hid (Bl w5 w6) := HBD.out.trans hb6; clear hb6)
              | (go_at_call 17; (with_reducible refine (kL' _ HB6.out).mono ?_); rintro e w7 ⟨rfl, hb7⟩; have HB7 : Hid (Bl w5 w7) := HB6.out.trans hb7; clear hb7)
              | (go_at_call 17; (with_reducible refine (kM' _ HB7.out).mono ?_); rintro e w8 ⟨rfl, hb8⟩; have HB8 : Hid (Bl w5 w8) := HB7.out.trans hb8; clear hb8))
          all_goals
            go_wp2
            go_ret
            exact ⟨rfl, H5.out.1.trans HB8.out⟩
        · have hck' : chk l' ≠ none := fun h => hck (hiff.1 h)
          clear hiff
          have kL' := fun wx (hb : Bl w5 wx) => (kL wx hb).mono (R' := fun e w' => ∃ A : Nat, e = .returned (.iface 110 (.pointer (some ⟨A, 0, none⟩))) ∧ Bl wx w') (fun e w' h => by obtain ⟨hb, h⟩ := h.get; rcases h with ⟨hn, _⟩ | ⟨_, A, h⟩; exact absurd hn hck; exact ⟨A, h, hb⟩)
          have kM' := fun wx (hb : Bl w5 wx) => (kM wx hb).mono (R' := fun e w' => ∃ A : Nat, e = .returned (.iface 110 (.pointer (some ⟨A, 0, none⟩))) ∧ Bl wx w') (fun e w' h => by obtain ⟨hb, h⟩ := h.get; rcases h with ⟨hn, _⟩ | ⟨_, A, h⟩; exact absurd hn hck'; exact ⟨A, h, hb⟩)
          clear kL kM hck hck'
          go_upto_region 13 with fail
          go_region_held3 (fun _ => True) (exact trivial)
            (first
              | (go_at_call 13; (with_reducible refine (kX _ HBD.out).mono ?_); rintro e w6 ⟨rfl, hb6⟩; have HB6 : Hid (Bl w5 w6) := HBD.out.trans hb6; clear hb6)
              | (go_at_call 17; (with_reducible refine (kL' _ HB6.out).mono ?_); rintro e w7 ⟨A7, rfl, hb7⟩; have HB7 : Hid (Bl w5 w7) := HB6.out.trans hb7; clear hb7)
              | (go_at_call 17; (with_reducible refine (kM' _ HB7.out).mono ?_); rintro e w8 ⟨A8, rfl, hb8⟩; have HB8 : Hid (Bl w5 w8) := HB7.out.trans hb8; clear hb8))
          all_goals
            go_wp2
            go_ret
            exact ⟨rfl, H5.out.1.trans HB8.out⟩
end Go.Proofs.YtpanodaecjlgaaaGreatDoor.tm
/- The law on templates with a letter more at each name: the walk. -/
namespace Go.Proofs.YtpanodaecjlgaaaGreatDoor.tm
set_option linter.unusedVariables false
open Go.ChangeShapes Go.WideShapes Go.ChangeAt Go.RowKit Go.Shelf
open mem lx ex

theorem jb_len (b : List UInt8) (l : List (List UInt8)) (hb : b.length ≤ 6) : (jb b l).length ≤ 6 * l.length + (l.map List.length).sum := by
  induction l with
  | nil => simp [jb]
  | cons x l ih => simp only [jb, List.length_append, List.map_cons, List.sum_cons, List.length_cons]; omega
theorem ch_sum {s : List UInt8} {l : List Tk} : ∀ {p : Nat}, Ch s p l → p ≤ s.length → p + ((l.map Tk.t).map List.length).sum ≤ s.length := by
  induction l with
  | nil => intro p h hp; simpa using hp
  | cons t r ih =>
    intro p h hp
    obtain ⟨h1, h2, _, _, h5⟩ := (show p ≤ t.a ∧ t.a + t.t.length ≤ s.length ∧ (s.drop t.a).take t.t.length = t.t ∧ IsT t.t ∧ Ch s (t.a + t.t.length) r from h)
    have := ih h5 h2
    simp only [List.map_cons, List.sum_cons] at this ⊢
    omega
theorem ch_tl {s : List UInt8} {l : List Tk} : ∀ {p : Nat}, Ch s p l → ∀ t ∈ l, t.t.length ≤ s.length := by
  induction l with
  | nil => intro p h t ht; cases ht
  | cons u r ih =>
    intro p h t ht
    obtain ⟨_, h2, _, _, h5⟩ := (show p ≤ u.a ∧ u.a + u.t.length ≤ s.length ∧ (s.drop u.a).take u.t.length = u.t ∧ IsT u.t ∧ Ch s (u.a + u.t.length) r from h)
    rw [List.mem_cons] at ht
    rcases ht with rfl | ht
    · omega
    · exact ih h5 t ht
theorem ren_len (t : List UInt8) : (ren t).length ≤ t.length + 1 := by
  unfold ren
  split
  · simp
  · omega
theorem ren_sum (l : List Tk) : ((l.map (fun t => ren t.t)).map List.length).sum ≤ ((l.map Tk.t).map List.length).sum + l.length := by
  induction l with
  | nil => simp
  | cons t l ih =>
    have := ren_len t.t
    simp only [List.map_cons, List.sum_cons, List.length_cons]
    omega
/-- What Tell says of what Check answered. -/
def tellQ (q : Option (Int × Nat)) : Int := match q with | none => 0 | some cp => cp.1
theorem tell_code {p q : Option (Int × Nat)} (h : code p = code q) : tellQ p = tellQ q := by
  unfold code at h
  cases p <;> cases q <;> simp at h
  · rfl
  · exact h
theorem CkA.tell {w w' : World} {q : Option (Int × Nat)} {e : Ending} (h : CkA w q e w') (hl : ∀ wx, Bl w wx → errs.Laid wx) : Bl w w' ∧ ∃ ev, e = .returned ev ∧ ∀ wx, Bl w' wx → Calls Tryz.prog 23 #[ev] wx fun e w'' => e = .returned (.int .i64 (tellQ q)) ∧ Bl wx w'' := by
  obtain ⟨hb, h⟩ := h
  refine ⟨hb, ?_⟩
  cases q with
  | none =>
    refine ⟨_, h, fun wx hx => (errs.tell_nil wx).mono ?_⟩
    rintro e w'' ⟨rfl, rfl⟩
    exact ⟨rfl, Bl.refl _⟩
  | some cp =>
    obtain ⟨c, p⟩ := cp
    obtain ⟨A, h1, _, h3⟩ := h
    refine ⟨_, h1, fun wx hx => (errs.tell_at c A wx (hl wx (hb.trans hx)) (at_bl hx (by rw [cell_of h3]; rfl))).mono ?_⟩
    rintro e w'' ⟨rfl, hgb⟩
    exact ⟨rfl, hgb.bl⟩
/-- Is it a name, as the law asks? -/
theorem one_at (t : List UInt8) (w : World) (hT : IsT t) (hl : t.length ≤ 900) (hG : Gt w) : Calls Tryz.prog 10 #[.string (⟨#[115, 116, 114, 117, 99, 116, 32]⟩ ++ tx t ++ ⟨#[32, 123, 125]⟩)] w fun e w' => Bl w w' ∧ ∃ v ev, e = .returned (.tuple #[v, ev]) ∧ (isN t = true → (ev = .nilIface ∧ resv t = false ∧ t.length ≤ 12) ∨ ((∃ B : Nat, ev = .iface 110 (.pointer (some ⟨B, 0, none⟩))) ∧ ¬ (resv t = false ∧ t.length ≤ 12))) := by
  have hL : L (⟨#[115, 116, 114, 117, 99, 116, 32]⟩ ++ tx t ++ ⟨#[32, 123, 125]⟩) = wStruct ++ [32] ++ t ++ [32, 123, 125] := by
    rw [L_app, L_app, L_tx]
    rfl
  refine (Parse_at _ w (by rw [ByteArray.size_append, ByteArray.size_append, tx_size]; show 7 + t.length + 3 ≤ 3000; omega) hG).mono ?_
  rintro e w' ⟨hb, hans⟩
  rw [hL] at hans
  refine ⟨hb, ?_⟩
  cases hp : prT (wStruct ++ [32] ++ t ++ [32, 123, 125]) with
  | ok l =>
    rw [hp] at hans
    obtain ⟨v, rfl, _⟩ := hans
    exact ⟨_, _, rfl, fun hn => Or.inl ⟨rfl, (prT_one hn hT).1 ⟨l, hp⟩⟩⟩
  | error cp =>
    obtain ⟨c, p⟩ := cp
    rw [hp] at hans
    obtain ⟨B, rfl, _⟩ := hans
    exact ⟨_, _, rfl, fun hn => Or.inr ⟨⟨B, rfl⟩, fun hc => by
      obtain ⟨l, h⟩ := (prT_one hn hT).2 hc
      rw [h] at hp; cases hp⟩⟩
set_option maxRecDepth 10000 in
set_option maxHeartbeats 4000000 in
theorem names_at (a0 : ByteArray) (w : World) (hG : Gt w) :
    Calls Tryz.prog 7 #[.string a0] w fun e w' => e = .returned (.bool true) ∧ Below w.heap.size w w' := by
  have cF := boxed_at w hG
  have cL := long_at a0
  have HG : Hid (Gt w) := hG
  clear hG
  go_enter Tryz.func7, Tryz.ntmps7
  go_wp2_with fail
  refine cF.mono ?_
  rintro e w1 ⟨⟨v0, rfl⟩, hb1⟩
  have cU := cutUp_at w1 (HG.out.bl hb1).gd.ms
  go_wp2_with fail
  refine cU.mono ?_
  rintro e w2 ⟨rfl, hb2⟩
  have HB2 : Hid (Bl w w2) := hb1.trans hb2
  clear hb1 hb2 cU cF
  by_cases hs : 900 < a0.size
  · rw [decide_eq_true hs] at cL
    go_wp2_with fail
    refine (cL _).mono ?_
    rintro e w3 ⟨rfl, rfl⟩
    go_wp2
    go_ret
    exact ⟨rfl, HB2.out⟩
  rw [decide_eq_false hs] at cL
  have cP := Parse_at a0 w2 (by omega) (HG.out.bl HB2.out)
  go_wp2_with fail
  refine (cL _).mono ?_
  rintro e w3 ⟨rfl, rfl⟩
  go_wp2_with fail
  refine cP.mono ?_
  rintro e w4 ⟨hb4, hans⟩
  cases hp : prT (L a0) with
  | error cp =>
    obtain ⟨c, p⟩ := cp
    rw [hp] at hans
    obtain ⟨B, rfl, _, _⟩ := hans
    unfold atV
    go_wp2
    go_ret
    exact ⟨rfl, HB2.out.trans hb4⟩
  | ok x =>
    rw [hp] at hans
    obtain ⟨v, rfl, hv⟩ := hans
    obtain ⟨xp, xn, xc, rfl⟩ : ∃ xp xn xc, v = .slice xp xn xc := by
      obtain ⟨p, c, cs, h1, _⟩ := hv
      exact ⟨_, _, _, h1⟩
    have HX : Hid (prT (L a0) = .ok x ∧ (∃ ok, IsTs w4 ok (.slice xp xn xc) x) ∧ Bl w w4) := ⟨hp, ⟨_, hv⟩, HB2.out.trans hb4⟩
    have cX := Lex_at a0 w4 (by omega) (HG.out.bl HX.out.2.2).gd.ms
    have hx0 : (lx (L a0) 0).2 = none := by
      unfold prT at hp
      split at hp
      · cases hp
      · assumption
    clear cP cL hp hv hb4
    go_wp2_with fail
    refine cX.mono ?_
    rintro e w5 ⟨hb5, ⟨h1, v, rfl, h2⟩ | ⟨p, B, h1, rfl, h2⟩⟩
    · have hch := lx_ch (L a0) _ 0 (Nat.le_refl _) (Nat.zero_le _)
      have hlen := lx_len (L a0) _ 0 (Nat.le_refl _)
      rw [List.drop_zero] at hch
      rw [L_len] at hlen
      obtain ⟨l, hl⟩ : ∃ l, l = (lx (L a0) 0).1 := ⟨_, rfl⟩
      rw [← hl] at h2 hch hlen
      obtain ⟨vp, vc, rfl, hvc, hin⟩ := h2.view
      have HV : Hid (tr.In w5 vp l ∧ Ch (L a0) 0 l ∧ Bl w4 w5 ∧ l = (lx (L a0) 0).1) := ⟨hin, hch, hb5, hl⟩
      clear h1 h2 hch hin hb5 cX hl hx0
      obtain ⟨n, hn⟩ : ∃ n, n = l.length := ⟨_, rfl⟩
      rw [← hn] at hlen hvc ⊢
      have HN : Hid (n = l.length) := hn
      clear hn
      go_wp2
      go_loopw [8, 9] (fun tv iv wr => ∃ i : Nat, i ≤ n ∧ iv = .int .i64 (i : Int) ∧ tv = .string (tx (jb [32] ((l.take i).map (fun t => ren t.t)))) ∧ Hid ((∀ t ∈ l.take i, isN t.t = true → resv t.t = false → t.t.length ≤ 12 → t.t.length ≤ 11) ∧ Bl w5 wr)) (fun _ iv _ => n - (intOf iv).toNat)
      case atStart => exact ⟨0, Nat.zero_le _, rfl, rfl, fun t ht => by simp at ht, Bl.refl _⟩
      case round =>
        obtain ⟨i, hi, rfl, rfl, HC⟩ := hrel
        have hTs : (tx (jb [32] ((l.take i).map (fun t => ren t.t)))).size ≤ 100000 := by
          rw [tx_size]
          have h1 := jb_len [32] ((l.take i).map (fun t => ren t.t)) (by decide)
          have h2 := ch_sum HV.out.2.1 (Nat.zero_le _)
          have h3 : (((l.take i).map Tk.t).map List.length).sum ≤ ((l.map Tk.t).map List.length).sum := by
            conv => rhs; rw [← List.take_append_drop i l]
            simp only [List.map_append, List.sum_append]
            try omega
          have h4 : ((l.take i).map (fun t => ren t.t)).length ≤ n := by rw [List.length_map, List.length_take, ← HN.out]; omega
          have h5 := ren_sum (l.take i)
          have h6 : (l.take i).length ≤ n := by rw [List.length_take, ← HN.out]; omega
          rw [L_len] at h2
          omega
        have HW : Hid (Bl w wr) := (HX.out.2.2.trans HV.out.2.2.1).trans HC.out.2
        by_cases h1 : i < n
        · have d1 : decide ((i : Int) < (n : Int)) = true := decide_eq_true (by omega)
          have hil : i < l.length := by have := HN.out; omega
          obtain ⟨x0, rfl, b1, b2⟩ := (HV.out.1.step HC.out.2).at' i hil
          have hmem : l[i] ∈ l := List.getElem_mem hil
          have hT := ch_is HV.out.2.1 _ hmem
          have hTl : l[i].t.length ≤ a0.size := by
            have := ch_tl HV.out.2.1 _ hmem
            rwa [L_len] at this
          have hnext : jb [32] ((l.take (i + 1)).map (fun t => ren t.t)) = jb [32] ((l.take i).map (fun t => ren t.t)) ++ (ren l[i].t ++ [32]) := by
            rw [List.take_add_one, List.getElem?_eq_getElem hil, List.map_append]
            exact jb_snoc [32] _ _
          have htake : ∀ t ∈ l.take (i + 1), t ∈ l.take i ∨ t = l[i] := by
            intro t ht
            rw [List.take_add_one, List.getElem?_eq_getElem hil, List.mem_append] at ht
            rcases ht with ht | ht
            · exact Or.inl ht
            · exact Or.inr (by simpa using ht)
          have c1 := one_at l[i].t wr hT (by omega) (HG.out.bl HW.out)
          have c2 := fun wx => Name_at (tx l[i].t) wx
          rw [L_tx, isN_nmb] at c2
          obtain ⟨y, hy⟩ : ∃ y, y = l[i].t := ⟨_, rfl⟩
          rw [← hy] at c1 c2 hTl hnext b1
          have HY : Hid (y = l[i].t ∧ (∀ t ∈ l.take (i + 1), t ∈ l.take i ∨ t = l[i]) ∧ jb [32] ((l.take (i + 1)).map (fun t => ren t.t)) = jb [32] ((l.take i).map (fun t => ren t.t)) ++ (ren y ++ [32])) := ⟨hy, htake, hnext⟩
          have hySs : (tx y).size ≤ 900 := by rw [tx_size]; omega
          have hyS1 : (tx y).size = y.length := tx_size _
          clear hmem hT hTl hnext htake hy
          obtain ⟨S, hS⟩ : ∃ S, S = tx y := ⟨_, rfl⟩
          rw [← hS] at b1 c1 c2 hySs hyS1
          obtain ⟨T, hT⟩ : ∃ T, T = tx (jb [32] ((l.take i).map (fun t => ren t.t))) := ⟨_, rfl⟩
          rw [← hT] at hTs ⊢
          have HT : Hid (S = tx y ∧ T = tx (jb [32] ((l.take i).map (fun t => ren t.t)))) := ⟨hS, hT⟩
          clear hS hT
          go_wp2_with fail
          refine c1.mono ?_
          rintro e w6 ⟨hb6, pv, ev, rfl, hev⟩
          have HW6 : Hid (Bl w w6 ∧ Bl w5 w6) := ⟨HW.out.trans hb6, HC.out.2.trans hb6⟩
          clear hb6 c1 b1 b2
          cases hn : isN y with
          | false =>
            rw [hn] at c2
            have HR : Hid ((∀ t ∈ l.take (i + 1), isN t.t = true → resv t.t = false → t.t.length ≤ 12 → t.t.length ≤ 11) ∧ T ++ (S ++ ⟨#[32]⟩) = tx (jb [32] ((l.take (i + 1)).map (fun t => ren t.t)))) := by
              refine ⟨fun t ht k1 k2 k3 => ?_, ?_⟩
              · rcases HY.out.2.1 t ht with h | h
                · exact HC.out.1 t h k1 k2 k3
                · rw [h, ← HY.out.1, hn] at k1; cases k1
              · rw [HY.out.2.2, HT.out.1, HT.out.2, show (⟨#[32]⟩ : ByteArray) = tx [32] from rfl, tx_app, tx_app]
                unfold ren
                rw [if_neg (by rw [hn]; simp)]
            clear hev hn
            go_wp2_with fail
            refine (c2 _).mono ?_
            rintro e w7 ⟨rfl, rfl⟩
            go_wp2
            go_roundw
            case rel => exact ⟨i + 1, by omega, by go_num, by rw [HR.out.2], HR.out.1, HW6.out.2⟩
            case measure => simp [intOf]; omega
          | true =>
            rw [hn] at c2
            rcases hev hn with ⟨rfl, k1, k2⟩ | ⟨⟨B, rfl⟩, k1⟩
            · clear hev
              by_cases h12 : 12 < S.size + 1
              · have h12' : (12 : Int) < (S.size : Int) + 1 := by omega
                go_wp2_with fail
                refine (c2 _).mono ?_
                rintro e w7 ⟨rfl, rfl⟩
                go_wp2
                go_ret
                exact ⟨rfl, HW6.out.1⟩
              · have h12' : ¬ (12 : Int) < (S.size : Int) + 1 := by omega
                have HR : Hid ((∀ t ∈ l.take (i + 1), isN t.t = true → resv t.t = false → t.t.length ≤ 12 → t.t.length ≤ 11) ∧ T ++ (S ++ ⟨#[90]⟩ ++ ⟨#[32]⟩) = tx (jb [32] ((l.take (i + 1)).map (fun t => ren t.t)))) := by
                  refine ⟨fun t ht k1 k2 k3 => ?_, ?_⟩
                  · rcases HY.out.2.1 t ht with h | h
                    · exact HC.out.1 t h k1 k2 k3
                    · rw [h, ← HY.out.1]; omega
                  · rw [HY.out.2.2, HT.out.1, HT.out.2, show (⟨#[32]⟩ : ByteArray) = tx [32] from rfl, show (⟨#[90]⟩ : ByteArray) = tx [90] from rfl, tx_app, tx_app, tx_app]
                    unfold ren
                    rw [if_pos ⟨hn, k1, k2⟩]
                clear hn k1 k2
                go_wp2_with fail
                refine (c2 _).mono ?_
                rintro e w7 ⟨rfl, rfl⟩
                go_wp2
                go_roundw
                case rel => exact ⟨i + 1, by omega, by go_num, by rw [HR.out.2], HR.out.1, HW6.out.2⟩
                case measure => simp [intOf]; omega
            · clear hev
              have HR : Hid ((∀ t ∈ l.take (i + 1), isN t.t = true → resv t.t = false → t.t.length ≤ 12 → t.t.length ≤ 11) ∧ T ++ (S ++ ⟨#[32]⟩) = tx (jb [32] ((l.take (i + 1)).map (fun t => ren t.t)))) := by
                refine ⟨fun t ht j1 j2 j3 => ?_, ?_⟩
                · rcases HY.out.2.1 t ht with h | h
                  · exact HC.out.1 t h j1 j2 j3
                  · rw [h, ← HY.out.1] at j2 j3; exact absurd ⟨j2, j3⟩ k1
                · rw [HY.out.2.2, HT.out.1, HT.out.2, show (⟨#[32]⟩ : ByteArray) = tx [32] from rfl, tx_app, tx_app]
                  unfold ren
                  rw [if_neg (fun h => k1 h.2)]
              clear hn k1
              go_wp2_with fail
              refine (c2 _).mono ?_
              rintro e w7 ⟨rfl, rfl⟩
              go_wp2
              go_roundw
              case rel => exact ⟨i + 1, by omega, by go_num, by rw [HR.out.2], HR.out.1, HW6.out.2⟩
              case measure => simp [intOf]; omega
        · have d1 : decide ((i : Int) < (n : Int)) = false := decide_eq_false (by omega)
          have hil : l.take i = l := List.take_of_length_le (by have := HN.out; omega)
          have HA := HC.out.1
          rw [hil] at hTs HA ⊢
          obtain ⟨y, hy1, hy2⟩ := prT_names HX.out.1 (by rw [L_len]; omega) (by rw [← HV.out.2.2.2]; exact HA)
          rw [← HV.out.2.2.2] at hy1
          obtain ⟨T, hT⟩ : ∃ T, T = tx (jb [32] (l.map (fun t => ren t.t))) := ⟨_, rfl⟩
          have HT : Hid (L T = jb [32] (l.map (fun t => ren t.t)) ∧ prT (L T) = .ok y ∧ tellQ (chk y) = tellQ (chk x)) := ⟨by rw [hT, L_tx], by rw [hT, L_tx]; exact hy1, tell_code hy2⟩
          rw [← hT] at hTs ⊢
          clear hT hil hy1 hy2 HA
          by_cases h3 : 3000 < T.size
          · have d3 : decide (3000 < (T.size : Int)) = true := decide_eq_true (by omega)
            have h3' : 3000 < (T.size : Int) := by omega
            go_wp2
            go_ret
            exact ⟨rfl, HW.out⟩
          · have h3' : ¬ 3000 < (T.size : Int) := by omega
            have cT := Parse_at T wr (by omega) (HG.out.bl HW.out)
            go_wp2_with fail
            refine cT.mono ?_
            rintro e w6 ⟨hb6, hans⟩
            rw [HT.out.2.1] at hans
            obtain ⟨v, rfl, hv⟩ := hans
            obtain ⟨yp, yn, yc, rfl⟩ : ∃ yp yn yc, v = .slice yp yn yc := by
              obtain ⟨p, c, cs, h1, _⟩ := hv
              exact ⟨_, _, _, h1⟩
            obtain ⟨okx, hvx⟩ := HX.out.2.1
            have hvx := ((hvx.bl HV.out.2.2.1).bl HC.out.2).bl hb6
            have hCx := (prT_told HX.out.1 (by rw [L_len]; omega)).1
            have hCy := (prT_told HT.out.2.1 (by rw [L_len]; omega)).1
            have HW6 : Hid (Bl w w6) := HW.out.trans hb6
            have kY := Check_at y (.slice yp yn yc) w6 _ hv hCy
            have kX := fun wx (hb : Bl w6 wx) => Check_at x (.slice xp xn xc) wx okx (hvx.bl hb) hCx
            clear hvx hCx hCy hv hb6 cT
            go_wp2_with fail
            refine kY.mono ?_
            rintro e w7 hans
            obtain ⟨hb7, ev, rfl, ht7⟩ := hans.tell (fun wx hx => (HG.out.bl (HW6.out.trans hx)).gd.er)
            obtain ⟨K, hK⟩ : ∃ K, tellQ (chk x) = K := ⟨_, rfl⟩
            rw [HT.out.2.2, hK] at ht7
            have HK : Hid (tellQ (chk x) = K) := hK
            clear hans kY hK
            have HB7 : Hid (Bl w w7 ∧ Bl w6 w7) := ⟨HW6.out.trans hb7, hb7⟩
            clear hb7
            go_wp2_with fail
            refine (ht7 _ (Bl.refl _)).mono ?_
            rintro e w8 ⟨rfl, hb8⟩
            have HB8 : Hid (Bl w w8 ∧ Bl w6 w8) := ⟨HB7.out.1.trans hb8, HB7.out.2.trans hb8⟩
            clear hb8 ht7
            go_wp2_with fail
            refine (kX _ HB8.out.2).mono ?_
            rintro e w9 hans
            obtain ⟨hb9, ev', rfl, ht9⟩ := hans.tell (fun wx hx => (HG.out.bl (HB8.out.1.trans hx)).gd.er)
            rw [HK.out] at ht9
            have HB9 : Hid (Bl w w9) := HB8.out.1.trans hb9
            clear hans hb9 kX
            go_wp2_with fail
            refine (ht9 _ (Bl.refl _)).mono ?_
            rintro e w10 ⟨rfl, hb10⟩
            have HB10 : Hid (Bl w w10) := HB9.out.trans hb10
            clear hb10 ht9
            go_wp2
            go_ret
            exact ⟨rfl, HB10.out⟩
    · rw [hx0] at h1; cases h1
end Go.Proofs.YtpanodaecjlgaaaGreatDoor.tm
