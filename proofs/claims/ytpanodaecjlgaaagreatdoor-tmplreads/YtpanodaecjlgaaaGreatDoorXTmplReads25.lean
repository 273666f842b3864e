/- Texts laid together: Tr5, Tr6, Tr7, ErL, Tr8. -/
import Derived.Test.YtpanodaecjlgaaaGreatDoorXTmplReads24
import Derived.Test.YtpanodaecjlgaaaGreatDoorXTmplReads14
import Derived.Test.YtpanodaecjlgaaaGreatDoorXTmplReads15
import Derived.Test.YtpanodaecjlgaaaGreatDoorXTmplReads23
/- The document's reader of templates: a block, walked. -/
namespace Go.Proofs.YtpanodaecjlgaaaGreatDoor.tr
set_option linter.unusedVariables false
open Go.ChangeShapes Go.WideShapes Go.ChangeAt Go.RowKit Go.Shelf
open mem lx ex tm

def lenV (v : Value) : Nat := match v with | .slice _ n _ => n | _ => 0
set_option maxRecDepth 10000 in
set_option maxHeartbeats 4000000 in
theorem block_succ (k : Nat) (cB : BlkR k) : BlkR (k + 1) := by
  intro w P en dp σ hk h hm hP
  show Calls _ _ _ _ fun e w' => BkA w P en (k + 1) σ e w'
  have cT := text_es w P en σ h
  have HE : Hid (Es w P en σ ∧ Ml w ∧ BlkR k) := ⟨h, hm, cB⟩
  have hPw := h.lt
  have htl := tl_tx (seeT en σ)
  have hd8 : ¬ (8 : Int) < (dp : Int) := by omega
  obtain ⟨S, hS⟩ : ∃ S, S = tx (seeT en σ) := ⟨_, rfl⟩
  rw [← hS] at cT htl
  clear h hm hS cB
  cases hq : (S.toList == [123])
  all_goals
    clear htl
    go_enter Tryz.func31, Tryz.ntmps31
    go_wp2_with fail
    refine cT.mono ?_
    rintro e w1 ⟨rfl, hb1⟩
    have HE1 : Hid (Es w1 P en σ ∧ Bl w w1) := ⟨HE.out.1.bl hb1, hb1⟩
    have cM := must_es w1 P en _ [123] (by simp) HE1.out.1
    clear hb1 cT
    go_wp2_with fail
    refine cM.mono ?_
    rintro e w3 ⟨rfl, hE, hg⟩
    have hg3 := (Gp.bl HE1.out.2).trans hg
    obtain ⟨base, hbase⟩ : ∃ base, base = w3.heap.size := ⟨_, rfl⟩
    have H3 : Hid (Bs w w3 P en (mu en [123] σ) base (.slice none 0 0) [] ∧ base = w3.heap.size) := ⟨⟨hg3, hE, HE.out.2.1.gp hg3 hP hPw, ir.Own.nil _ _, hP, by rw [hbase]; exact hE.lt, by rw [hbase]; exact hg3.size, by rw [hbase]; exact Nat.le_refl _⟩, hbase⟩
    clear hE hg hg3 cM hbase hq
    go_wp2
    go_loopw [5] (fun v5 wr => ∃ (σ' : Sg) (cs : List C) (l : Its) (n : Nat), n + cs.length = 16 ∧ Hid (Bs w wr P en σ' base v5 cs ∧ Lf k en σ σ' l n ∧ ∀ ts, σ' = .ok ts → RepB w wr v5 l cs)) (fun v5 _ => 16 - lenV v5)
    case atStart => exact ⟨_, [], .nil, 16, rfl, H3.out.1, Lf.start, fun _ _ => rfl⟩
    case round =>
      obtain ⟨σ', cs, l, n, hn, HB⟩ := hrel
      obtain ⟨lp, lc, rfl, hlie⟩ := HB.out.1.own.lie
      obtain ⟨m, hm⟩ : ∃ m, m = cs.length := ⟨_, rfl⟩
      have cS := stop_es wr P en σ' HB.out.1.es
      have HL : Hid (ir.Lie wr (fun g => base ≤ g) lp cs.length lc cs ∧ m = cs.length) := ⟨hlie, hm⟩
      rw [← hm] at hn HB ⊢
      clear hlie hm
      cases σ' with
      | error x =>
        have HA : Hid (bkS (k + 1) en σ = .error x) := HB.out.2.1
        go_wp2_with fail
        refine cS.mono ?_
        rintro e w4 ⟨rfl, hb4⟩
        have H4 : Hid (Bs w w4 P en (.error x) base (.slice lp m lc) cs) := HB.out.1.bl hb4
        clear hb4 cS
        go_wp2
        go_ret
        exact BkA.bad H4.out.es HA.out H4.out.gp
      | ok ts =>
        go_wp2_with fail
        refine cS.mono ?_
        rintro e w4 ⟨rfl, hb4⟩
        have H4 : Hid (Bs w w4 P en (.ok ts) base (.slice lp m lc) cs ∧ Bl wr w4) := ⟨HB.out.1.bl hb4, hb4⟩
        have cK := take_es w4 P en _ [125] (by simp) H4.out.1.es
        clear hb4 cS
        by_cases hc : (hd en ts).t = [125]
        · rw [decide_eq_true (show seeT en (.ok ts) = [125] from hc), show tk en [125] (.ok ts) = ps en (.ok ts) from if_pos hc] at cK
          have HF : Hid ((hd en ts).t = [125]) := hc
          clear hc
          go_wp2_with fail
          refine cK.mono ?_
          rintro e w5 ⟨rfl, hE, hg⟩
          have H5 : Hid (Es w5 P en (ps en (.ok ts)) ∧ Gp P w4 w5) := ⟨hE, hg⟩
          clear hE hg cK
          go_wp2
          go_ret
          obtain ⟨g1, g2⟩ := HB.out.2.1.done HF.out
          have hps : ps en (.ok ts) = .ok ts.tail := by
            cases ts with
            | nil => exact absurd HF.out (by show ¬ ([] : List UInt8) = [125]; decide)
            | cons t r => rfl
          have hgr : Gp P wr w5 := (Gp.bl H4.out.2).trans H5.out.2
          refine ⟨⟨lp, m, lc, rfl, fun ts0 m' r h1 h2 => ?_⟩, by rw [g1, ← hps]; exact H5.out.1, HB.out.1.gp.trans hgr⟩
          obtain rfl := g2 ts0 m' r h1 h2
          have hrep := HB.out.2.2 ts rfl
          have hcl := hrep.len.1
          have h1 := HL.out.1.keep (w' := w5) (fun g h1 h2 => hgr.block g h2 (by have := HB.out.1.ord; omega)) hgr.size
          refine ⟨lp, lc, cs, by rw [HL.out.2, hcl], ?_, ?_⟩
          · rw [← hcl]
            exact h1.mono (fun g hg _ => Nat.le_trans HB.out.1.ord.2.2.1 hg)
          · exact (RepB.go HB.out.1 hrep hgr hPw).mono (fun g h1 _ => h1.1)
        · rw [decide_eq_false (show ¬ seeT en (.ok ts) = [125] from hc), show tk en [125] (.ok ts) = .ok ts from if_neg hc] at cK
          cases n with
          | zero =>
            have hm16 : ¬ (m : Int) < 16 := by omega
            have hm16' : (16 : Int) ≤ (m : Int) := by omega
            clear hn
            have HA : Hid (bkS (k + 1) en σ = .error (4, (hd en ts).a)) := HB.out.2.1.full hc
            clear hc
            go_wp2_with fail
            refine cK.mono ?_
            rintro e w5 ⟨rfl, hE, hg⟩
            have H5 : Hid (Bs w w5 P en (.ok ts) base (.slice lp m lc) cs) := H4.out.1.go hE hg
            have cA := place_es w5 P en _ H5.out.es
            clear hE hg cK
            go_wp2_with fail
            refine cA.mono ?_
            rintro e w6 ⟨⟨a, rfl, ha⟩, hw6⟩
            obtain rfl := hw6.symm
            have ha2 := ha ts rfl
            clear ha
            have cW := wrong_es w5 P en (.ok ts) 4 a (by decide) H5.out.es
            rw [← ha2] at HA
            clear ha2 cA
            go_wp2_with fail
            refine cW.mono ?_
            rintro e w6 ⟨rfl, hE, hg⟩
            have H6 : Hid (Es w6 P en (.error (4, a)) ∧ Gp P w w6) := ⟨hE, H5.out.gp.trans hg⟩
            clear hE hg cW
            go_wp2
            go_ret
            exact BkA.bad H6.out.1 HA.out H6.out.2
          | succ n =>
            have hm16 : (m : Int) < 16 := by omega
            have hm16' : ¬ (16 : Int) ≤ (m : Int) := by omega
            obtain ⟨o4, o5⟩ := HB.out.2.1.item hc
            clear hc
            go_wp2_with fail
            refine cK.mono ?_
            rintro e w5 ⟨rfl, hE, hg⟩
            have H5 : Hid (Bs w w5 P en (.ok ts) base (.slice lp m lc) cs ∧ RepB w w5 (.slice lp m lc) l cs) := ⟨H4.out.1.go hE hg, RepB.go H4.out.1 (RepB.go HB.out.1 (HB.out.2.2 ts rfl) (Gp.bl H4.out.2) hPw) hg hPw⟩
            have cI := item_es k HE.out.2.2 w5 P en dp (.ok ts) (by omega) H5.out.1.es H5.out.1.ml hP
            clear hE hg cK
            go_wp2_with fail
            refine cI.mono ?_
            rintro e w6 ⟨⟨c5, rfl, hv⟩, hE, hg⟩
            have HC6 : ∃ c6 : C, itV c5 = itV c6 ∧ Hid ((∃ x, itS k en (.ok ts) = .error x ∧ bkS (k + 1) en σ = .error x) ∨ ∃ s r, IsO w6 c6.pc c6.d.ct ∧ Sub w6 w5.heap.size c6 s ∧ itS k en (.ok ts) = .ok r ∧ Lf k en σ (.ok r) (l.app c6.d s) n) := by
              cases hi : tm.item nb en (blk nb en k) ts with
              | error x =>
                have h1 := o4 x hi
                have e1 : itS k en (.ok ts) = .error x := by unfold itS; dsimp only; rw [hi]
                rw [e1] at h1
                exact ⟨c5, rfl, Or.inl ⟨x, e1, h1⟩⟩
              | ok xr =>
                obtain ⟨⟨d, s⟩, r⟩ := xr
                obtain ⟨h1, h2⟩ := o5 d s r hi
                obtain ⟨c6, k1, k2, k3, k4⟩ := hv ts (d, s) r rfl hi
                have k2 : c6.d = d := k2
                exact ⟨c6, k1, Or.inr ⟨s, r, by rw [k2]; exact k3, k4, h1, by rw [k2]; exact h2⟩⟩
            obtain ⟨c6, hcv, HI⟩ := HC6
            rw [hcv]
            have H6 : Hid (Bs w w6 P en (itS k en (.ok ts)) base (.slice lp m lc) cs ∧ RepB w w6 (.slice lp m lc) l cs ∧ w.heap.size ≤ w5.heap.size ∧ ∀ x, (Value.slice lp m lc).ownBlock = some x → x < w5.heap.size) := ⟨H5.out.1.go hE hg, RepB.go H5.out.1 H5.out.2 hg hPw, H5.out.1.gp.size, fun x hx => (H5.out.1.own.block x hx).2⟩
            obtain ⟨w7, hw7⟩ : ∃ w7, w7 = w6.alloc (.cells (cl c6).toArray 75) := ⟨_, rfl⟩
            have hb7 : Bl w6 w7 := by rw [hw7]; exact (Bl.refl _).alloc _
            obtain ⟨X, hX⟩ : ∃ X, X = w6.heap.size := ⟨_, rfl⟩
            have hX7 : Iv w7 X c6 := ⟨by rw [hw7, hX]; exact new_at _ _⟩
            have hown7 := H6.out.1.own.bl hb7
            have hcells : ∀ j u, (cl c6)[j]? = some u → w7.cell? ((⟨X, 0, none⟩ : Addr).add j) = some u := fun j u hu => by
              rw [Addr.add_lit, Nat.zero_add, hX7.cell j]; exact hu
            have hb67 : base ≤ w7.heap.size := Nat.le_trans H6.out.1.ord.2.2.2 hb7.size
            obtain ⟨v', w8, hr, ho8, hg8⟩ := ir.app_one w7 base (.slice lp m lc) cs c6 ⟨X, 0, none⟩ hown7 hcells (by have := HL.out.2; omega) hb67
            have hwh := ir_where w7 base (.slice lp m lc) cs c6 ⟨X, 0, none⟩ hown7 hcells (by have := HL.out.2; omega) v' w8 hr
            have H8 : Hid (Bs w w8 P en (itS k en (.ok ts)) base v' (cs ++ [c6]) ∧ (∃ l', Lf k en σ (itS k en (.ok ts)) l' n ∧ ∀ us, itS k en (.ok ts) = .ok us → RepB w w8 v' l' (cs ++ [c6])) ∧ lenV v' = m + 1 ∧ m + 1 = (cs ++ [c6]).length) := by
              refine ⟨H6.out.1.app hw7 ho8 hg8, ?_, ?_, by rw [List.length_append, ← HL.out.2]; rfl⟩
              · rcases HI.out with ⟨x, q1, q2⟩ | ⟨s, r, q1, q2, q3, q4⟩
                · refine ⟨l, by rw [q1]; exact q2, fun us hu => by rw [q1] at hu; cases hu⟩
                · exact ⟨l.app c6.d s, by rw [q3]; exact q4, fun us hu => RepB.app H6.out.1 H6.out.2.1 q1 q2 H6.out.2.2.1 H6.out.2.2.2 hw7 hg8 hwh⟩
              · obtain ⟨p8, c8, hv8, _⟩ := ho8.lie
                rw [hv8]
                show (cs ++ [c6]).length = m + 1
                rw [List.length_append, ← HL.out.2]; rfl
            have HRn : Hid _ := hr
            unfold itV
            have hcl : (cl c6).toArray = #[.int .i64 (c6.d.kd : Int), .int .i64 (c6.d.at_ : Int), .string (tx c6.d.nm), .string (tx c6.d.ty), .int .i64 (c6.d.wd : Int), .int .i64 (c6.d.od : Int), .bool c6.d.sg, .bool c6.d.mn, .pointer c6.pc, .int .i64 (c6.d.ru : Int), .string (tx c6.d.f1), .string (tx c6.d.l1), .slice c6.p c6.n c6.c] := rfl
            rw [hcl] at hw7 ⊢
            have hw7' := hw7.symm
            have hX' : w6.heap.size = X := hX.symm
            clear hcl hw7 hX hb7 hX7 hown7 hcells hb67 hr ho8 hg8 hwh hE hg o4 o5 cI hcv hv HI
            go_wp2_with (at_builtin; refine Lib.wpList_append_run _ rfl (.tmp 34) (.tmp 38) _ _ rfl _ _ rfl rfl _ _ HRn.out ?_)
            obtain ⟨l', g1, g2⟩ := H8.out.2.1
            refine ⟨⟨itS k en (.ok ts), cs ++ [c6], l', n, by rw [← H8.out.2.2.2]; omega, H8.out.1, g1, g2⟩, ?_⟩
            rw [H8.out.2.2.1]
            show 16 - (m + 1) < 16 - m
            omega
theorem block_es (k : Nat) : BlkR k := by
  induction k with
  | zero => exact block_zero
  | succ k ih => exact block_succ k ih
end Go.Proofs.YtpanodaecjlgaaaGreatDoor.tr
/- The document's reader of templates: structs, one behind the other. -/
namespace Go.Proofs.YtpanodaecjlgaaaGreatDoor.tr
set_option linter.unusedVariables false
open Go.ChangeShapes Go.WideShapes Go.ChangeAt Go.RowKit Go.Shelf
open mem lx ex tm

/-- What is left to be read. -/
def LfT (en : Nat) (q : Except (Int × Nat) (List Ty)) (σ : Sg) (l : List Ty) (n : Nat) : Prop := match σ with
  | .ok ts => preT l (typs nb en n ts) = q
  | .error e => q = .error e
/-- A struct more: the state behind it, and its place. -/
theorem LfT.full {en : Nat} {q : Except (Int × Nat) (List Ty)} {t : Tk} {r : List Tk} {l : List Ty} (h : LfT en q (.ok (t :: r)) l 0) (hc : t.t = wStruct) : q = .error (4, t.a) := by
  have h : preT l (typs nb en 0 (t :: r)) = q := h
  rw [← h, typs, if_pos hc]
  rfl
theorem LfT.on {en n : Nat} {q : Except (Int × Nat) (List Ty)} {t : Tk} {r : List Tk} {l : List Ty} (h : LfT en q (.ok (t :: r)) l n) (hn : t.t = wStruct → n ≠ 0) {a : Nat} (ha : ∀ us, mu en wStruct (.ok (t :: r)) = .ok us → a = (hd en us).a) :
    (∃ e, q = .error e ∧ bkS 8 en (nmS en (mu en wStruct (.ok (t :: r)))) = .error e) ∨
    ∃ us r1 it r2, mu en wStruct (.ok (t :: r)) = .ok us ∧ nmS en (.ok us) = .ok r1 ∧ blk nb en 8 r1 = .ok (it, r2) ∧ bkS 8 en (nmS en (mu en wStruct (.ok (t :: r)))) = .ok r2 ∧ LfT en q (.ok r2) (l ++ [⟨(hd en us).t, a, it⟩]) (n - 1) := by
  have h : preT l (typs nb en n (t :: r)) = q := h
  by_cases hc : t.t = wStruct
  · obtain ⟨m, rfl⟩ : ∃ m, n = m + 1 := ⟨n - 1, by have := hn hc; omega⟩
    have e0 : mu en wStruct (.ok (t :: r)) = .ok r := by
      show want en wStruct (t :: r) = _
      unfold want
      rw [if_pos (show (hd en (t :: r)).t = wStruct from hc)]
      rfl
    have ha := ha r e0
    rw [e0]
    rw [typs, if_pos hc] at h
    have h1 := name_rl (en := en) (us := r)
    cases hf : nmS en (.ok r) with
    | error e =>
      rw [hf] at h1
      rw [h1.err] at h
      exact Or.inl ⟨e, h.symm, rfl⟩
    | ok r1 =>
      rw [hf] at h1
      rw [h1.okk] at h
      dsimp only at h
      unfold bkS
      dsimp only
      cases hb : blk nb en 8 r1 with
      | error e =>
        rw [hb] at h
        exact Or.inl ⟨e, h.symm, rfl⟩
      | ok lr =>
        obtain ⟨it, r2⟩ := lr
        rw [hb] at h
        dsimp only at h
        refine Or.inr ⟨r, r1, it, r2, rfl, hf, hb, rfl, ?_⟩
        show preT _ (typs nb en (m + 1 - 1) r2) = q
        rw [← h, show m + 1 - 1 = m by omega, ha]
        cases typs nb en m r2 with
        | error e => rfl
        | ok x =>
          show Except.ok ((l ++ [_]) ++ x) = Except.ok (l ++ (_ :: x))
          rw [List.append_assoc]
          rfl
  · have e0 : mu en wStruct (.ok (t :: r)) = .error (3, t.a) := by
      show want en wStruct (t :: r) = _
      unfold want
      rw [if_neg (show ¬ (hd en (t :: r)).t = wStruct from hc)]
      rfl
    rw [e0]
    refine Or.inl ⟨(3, t.a), ?_, rfl⟩
    rw [← h]
    cases n with
    | zero => rw [typs, if_neg hc]; rfl
    | succ n => rw [typs, if_neg hc]; rfl
/-- A row, but for one block. -/
theorem sown_keep {w w' : World} {base : Nat} {v : Value} {l : List CT} (h : sr.Own w base v l) (hk : ∀ k, v.ownBlock = some k → w'.heap[k]? = w.heap[k]?) : sr.Own w' base v l := by
  refine ⟨h.1, ?_⟩
  rcases h.2 with h | ⟨g, cap, cur, rfl, h2, h3, h4⟩
  · exact Or.inl h
  · refine Or.inr ⟨g, cap, cur, rfl, h2, ?_, h4⟩
    rw [hk g rfl]
    exact h3
/-- The row of structs, under way. -/
structure Bz (w0 w : World) (P en : Nat) (σ : Sg) (base : Nat) (v : Value) (cs : List CT) : Prop where
  gp : Gp P w0 w
  es : Es w P en σ
  ml : Ml w
  own : sr.Own w base v cs
  ord : 4 < P ∧ P < base ∧ w0.heap.size ≤ base ∧ base ≤ w.heap.size
theorem Bz.go {w0 w w' : World} {P en base : Nat} {σ σ' : Sg} {v : Value} {cs : List CT} (h : Bz w0 w P en σ base v cs) (he : Es w' P en σ') (hg : Gp P w w') : Bz w0 w' P en σ' base v cs :=
  ⟨h.gp.trans hg, he, h.ml.gp hg h.ord.1 h.es.lt, h.own.gp hg h.ord.2.1, h.ord.1, h.ord.2.1, h.ord.2.2.1, Nat.le_trans h.ord.2.2.2 hg.size⟩
theorem Bz.bl {w0 w w' : World} {P en base : Nat} {σ : Sg} {v : Value} {cs : List CT} (h : Bz w0 w P en σ base v cs) (hb : Bl w w') : Bz w0 w' P en σ base v cs := h.go (h.es.bl hb) (Gp.bl hb)
/-- A cell of a struct's variable. -/
theorem Bz.put {w0 w : World} {P en base T j : Nat} {σ : Sg} {v u : Value} {cs : List CT} (h : Bz w0 w P en σ base v cs) (hT : base ≤ T) (hv : ∀ k, v.ownBlock = some k → k ≠ T) : Bz w0 (w.setCell ⟨T, j, none⟩ u) P en σ base v cs := by
  have ho := h.ord
  have hg := grown_set w T j u
  have hl := h.es.lt
  refine ⟨h.gp.setNew (by omega) u, h.es.put (by omega) u, ?_, sown_keep h.own (fun k hk => hg.block k (h.own.block k hk).2 (fun e => by injection e with e; exact hv k hk e)), ho.1, ho.2.1, ho.2.2.1, Nat.le_trans ho.2.2.2 hg.size⟩
  obtain ⟨m, hm⟩ := h.ml
  refine ⟨m, ?_⟩
  unfold World.cell? at hm ⊢
  simp only [hg.block 4 (by omega) (fun e => by injection e with e; omega)]
  exact hm
/-- Structs that were read, below a block. -/
abbrev RepZ (w0 w : World) (v : Value) (T : Nat) (l : List Ty) (cs : List CT) : Prop := RepT w (fun g => (w0.heap.size ≤ g ∧ v.ownBlock ≠ some g) ∧ g < T) l cs
abbrev RepY (w0 w : World) (v : Value) (l : List Ty) (cs : List CT) : Prop := RepT w (fun g => w0.heap.size ≤ g ∧ v.ownBlock ≠ some g) l cs
theorem RepZ.go {w0 w w' : World} {P T : Nat} {v : Value} {cs : List CT} {l : List Ty} (hr : RepZ w0 w v T l cs) (hg : Gp P w w') (hP : P < w0.heap.size) (hk : Kx w w') : RepZ w0 w' v T l cs :=
  hr.keep (fun g h1 h2 => hg.block g h2 (by omega)) hg.size hk
theorem RepY.go {w0 w w' : World} {P : Nat} {v : Value} {cs : List CT} {l : List Ty} (hr : RepY w0 w v l cs) (hg : Gp P w w') (hP : P < w0.heap.size) (hk : Kx w w') : RepY w0 w' v l cs :=
  hr.keep (fun g h1 h2 => hg.block g h2 (by omega)) hg.size hk
theorem sown_kx {w6 w' : World} {base : Nat} {v : Value} {cs : List CT} (h6 : sr.Own w6 base v cs) (hg : w6.grownBy w' v.ownBlock) : Kx w6 w' := fun b cs' hb => by
  rw [hg.block b (lt_of_heap hb) (fun e => by
    obtain ⟨cap, hv⟩ : ∃ cap, v = .slice (some ⟨b, 0, none⟩) cs.length cap := by
      rcases h6.shape with ⟨rfl, _⟩ | ⟨g, cap, rfl, _⟩
      · cases e
      · have : g = b := by
          have : (Value.slice (some ⟨g, 0, none⟩) cs.length cap).ownBlock = some g := rfl
          rw [this] at e; injection e with e; exact e.symm
        subst this; exact ⟨cap, rfl⟩
    rw [hv] at h6
    obtain ⟨cur, hcur⟩ := h6.kind
    rw [hb] at hcur
    simp at hcur)]
  exact hb
/-- One struct more. -/
theorem Bz.app {w0 w w6 w' : World} {P en base : Nat} {σ : Sg} {v v' : Value} {cs : List CT} {c : CT} (h : Bz w0 w P en σ base v cs) (hb6 : w6 = w.alloc (.cells (clT c).toArray 36))
    (ho' : sr.Own w' base v' (cs ++ [c])) (hg : w6.grownBy w' v.ownBlock) : Bz w0 w' P en σ base v' (cs ++ [c]) := by
  have hbl : Bl w w6 := by rw [hb6]; exact (Bl.refl _).alloc _
  have h6 := h.bl hbl
  have hbk : ∀ k, v.ownBlock = some k → base ≤ k := fun k hk => (h.own.block k hk).1
  have ho := h.ord
  have keep : ∀ k, k < w6.heap.size → k < base → w'.heap[k]? = w6.heap[k]? := fun k hk hne => hg.block k hk (fun e => by have := hbk k e.symm; omega)
  have hlt := h6.es.lt
  refine ⟨⟨hg.os.trans h6.gp.os, hg.tape.trans h6.gp.tape, hg.output.trans h6.gp.output, Nat.le_trans h6.gp.size hg.size, fun k hk hne => (keep k (Nat.lt_of_lt_of_le hk h6.gp.size) (by omega)).trans (h6.gp.block k hk hne)⟩, h6.es.keep (fun g hg' => keep g (by omega) (by omega)) hg.size, ?_, ho', ho.1, ho.2.1, ho.2.2.1, Nat.le_trans h6.ord.2.2.2 hg.size⟩
  obtain ⟨m, hm⟩ := h6.ml
  refine ⟨m, ?_⟩
  unfold World.cell? at hm ⊢
  simp only [keep 4 (by omega) (by omega)]
  exact hm
theorem RepZ.app {w0 w w6 w' : World} {P en base M T : Nat} {σ : Sg} {v v' : Value} {cs : List CT} {c : CT} {l : List Ty} {it : Its} (h : Bz w0 w P en σ base v cs) (hr : RepZ w0 w v T l cs) (hs : ∃ cs2, ir.Lie w (fun g => M ≤ g) c.p c.n c.c cs2 ∧ Rep w (fun g => M ≤ g) it cs2) (hM : w0.heap.size ≤ M) (hvM : ∀ k, v.ownBlock = some k → k < M) (hTw : T ≤ w.heap.size)
    (hb6 : w6 = w.alloc (.cells (clT c).toArray 36)) (hg : w6.grownBy w' v.ownBlock) (hw : v'.ownBlock = v.ownBlock ∨ v'.ownBlock = some w6.heap.size) : RepY w0 w' v' (l ++ [⟨c.nm, c.a, it⟩]) (cs ++ [c]) := by
  have hbl : Bl w w6 := by rw [hb6]; exact (Bl.refl _).alloc _
  have h6 := h.bl hbl
  have keep : ∀ k, k < w6.heap.size → v.ownBlock ≠ some k → w'.heap[k]? = w6.heap[k]? := fun k hk hne => hg.block k hk (fun e => hne e.symm)
  have hkx : Kx w6 w' := sown_kx h6.own hg
  have hsz : w6.heap.size = w.heap.size + 1 := by rw [hb6]; simp
  have r7 : RepT w' (fun g => w0.heap.size ≤ g ∧ v'.ownBlock ≠ some g) l cs := by
    have r5' : RepT w' (fun g => (w0.heap.size ≤ g ∧ v.ownBlock ≠ some g) ∧ g < T) l cs := (hr.keep (fun g h1 hg' => Below.block hbl g hg') hbl.size (Kx.bl hbl)).keep (fun g h1 hg' => keep g hg' h1.1.2) hg.size hkx
    refine r5'.mono (fun g h1 _ => ⟨h1.1.1, fun e => ?_⟩)
    rcases hw with hw | hw
    · rw [hw] at e; exact h1.1.2 e
    · rw [hw] at e; injection e with e; have := h1.2; omega
  refine RepT.app ?_ r7
  obtain ⟨cs2, k1, k2⟩ := hs
  have hlt : ∀ g, M ≤ g → g < w.heap.size → v'.ownBlock ≠ some g := fun g h1 h2 e => by
    rcases hw with hw | hw
    · rw [hw] at e; have := hvM g e; omega
    · rw [hw] at e; injection e with e; omega
  have k1' := k1.mono (ok' := fun g => M ≤ g ∧ g < w.heap.size) (fun g h1 h2 => ⟨h1, h2⟩)
  have k2' := k2.mono (ok' := fun g => M ≤ g ∧ g < w.heap.size) (fun g h1 h2 => ⟨h1, h2⟩)
  refine ⟨cs2, ?_, ?_⟩
  · exact ((k1'.keep (fun g _ hg' => Below.block hbl g hg') hbl.size).keep (fun g h1 hg' => keep g hg' (fun e => by have := hvM g e; omega)) hg.size).mono (fun g h1 _ => ⟨by omega, hlt g h1.1 h1.2⟩)
  · exact ((k2'.keep (fun g _ hg' => Below.block hbl g hg') hbl.size (Kx.bl hbl)).keep (fun g h1 hg' => keep g hg' (fun e => by have := hvM g e; omega)) hg.size hkx).mono (fun g h1 _ => ⟨by omega, hlt g h1.1 h1.2⟩)
end Go.Proofs.YtpanodaecjlgaaaGreatDoor.tr
/- The document's reader of templates: TmplParse. -/
namespace Go.Proofs.YtpanodaecjlgaaaGreatDoor.tr
set_option linter.unusedVariables false
open Go.ChangeShapes Go.WideShapes Go.ChangeAt Go.RowKit Go.Shelf
open mem lx ex tm

/-- What the document tells of a text. -/
def RtA (s : ByteArray) (w : World) (e : Ending) (w' : World) : Prop :=
  Bl w w' ∧ match prT (L s) with
  | .ok l => ∃ v, e = .returned (.tuple #[v, flt 0 (-1)]) ∧ IsTs w' (fun g => w.heap.size ≤ g) v l
  | .error (c, p) => e = .returned (.tuple #[.slice none 0 0, flt c (p : Int)]) ∧ c ≠ 0
theorem RtA.bad {s : ByteArray} {w w' : World} {c : Int} {p : Nat} (hb : Bl w w') (hq : prT (L s) = .error (c, p)) (hc : c ≠ 0) : RtA s w (.returned (.tuple #[.slice none 0 0, flt c (p : Int)])) w' := by
  refine ⟨hb, ?_⟩
  rw [hq]
  exact ⟨rfl, hc⟩
def lenV' (v : Value) : Nat := match v with | .slice _ n _ => n | _ => 0
set_option maxRecDepth 10000 in
set_option maxHeartbeats 4000000 in
theorem TParse_at (s : ByteArray) (w : World) (hs : s.size ≤ 3000) (hm : Ml w) (hMw : 4 < w.heap.size) :
    Calls Tryz.prog 9 #[.string s] w fun e w' => RtA s w e w' := by
  have cX := fun w => newEyes_at s w hs
  have HM0 : Hid (Ml w ∧ 4 < w.heap.size) := ⟨hm, hMw⟩
  clear hm hMw
  go_enter Tryz.func9, Tryz.ntmps9
  go_wp2_with fail
  refine (cX _).mono ?_
  rintro e w2 ⟨hb2, P, hP, ⟨h1, rfl, hE⟩ | ⟨p, h1, rfl⟩⟩
  · have hF := Fl.made (c := 0) (p := -1) hb2
    have hPs := hE.lt
    have hPM : w.heap.size < P := by simp at hP; omega
    obtain ⟨W, hW⟩ : ∃ W, W = w2.alloc (.cells #[.int .i64 0, .int .i64 (-1)] 26) := ⟨_, rfl⟩
    have hbW : Bl w2 W := by rw [hW]; exact (Bl.refl _).alloc _
    obtain ⟨M, hM⟩ : ∃ M, M = w.heap.size := ⟨_, rfl⟩
    obtain ⟨N, hN⟩ : ∃ N, N = w2.heap.size := ⟨_, rfl⟩
    have hMP : M ≠ P := by omega
    have hNP : N ≠ P := by omega
    have hprs : prT (L s) = typs nb s.size 8 (lx (L s) 0).1 := by
      unfold prT
      rw [h1]
      dsimp only
      rw [L_len]
    generalize (lx (L s) 0).1 = ts at hE hprs
    have hEW := hE.step hbW
    rw [← hW, ← hM, ← hN] at hF
    obtain ⟨q, hq⟩ : ∃ q, prT (L s) = q := ⟨_, rfl⟩
    have hMl : Ml W := (HM0.out.1.step ((Bl.refl w).alloc (.cells #[.int .i64 0, .int .i64 0] 26))).step (hb2.trans hbW)
    have HF : Hid (Fl w W M N 0 (-1) ∧ w.heap.size ≤ P ∧ M ≠ P ∧ N ≠ P ∧ prT (L s) = q ∧ P < W.heap.size) := ⟨hF, by omega, hMP, hNP, hq, hEW.lt⟩
    obtain ⟨base, hbase⟩ : ∃ base, base = W.heap.size := ⟨_, rfl⟩
    have H0 : Hid (Bz W W P s.size (.ok ts) base (.slice none 0 0) [] ∧ LfT s.size q (.ok ts) [] 8 ∧ base = W.heap.size) := by
      refine ⟨⟨Gp.refl _ _, hEW, hMl, sr.Own.nil _ _, by have := HM0.out.2; omega, by rw [hbase]; exact hEW.lt, by rw [hbase]; exact Nat.le_refl _, by rw [hbase]; exact Nat.le_refl _⟩, ?_, hbase⟩
      show preT [] (typs nb s.size 8 ts) = q
      rw [← hq, hprs]
      cases typs nb s.size 8 ts with
      | error e => rfl
      | ok x => rfl
    unfold flt
    obtain ⟨g0, g1, m0, m1, z0, z1, hMs, hNs⟩ := hF.cells
    clear hE hEW hF h1 hP hPs hPM hMP hNP cX hb2 hbW hprs hq hMl hbase
    go_wp2_with fail
    rw [← hW, ← hM, ← hN]
    clear hW hM hN
    refine (Is_at 0 (-1) W).mono ?_
    rintro e w3 ⟨rfl, hb3⟩
    have H3 : Hid (Bz W w3 P s.size (.ok ts) base (.slice none 0 0) []) := H0.out.1.bl hb3
    clear hb3 g0 g1 m0 m1 z0 z1 hMs hNs
    have h00 : ((0 : Int) == 0) = true := rfl
    rw [h00]
    go_wp2
    go_loopw [6] (fun v6 wr => ∃ (σ : Sg) (cs : List CT) (l : List Ty) (n : Nat), Hid (Bz W wr P s.size σ base v6 cs ∧ LfT s.size q σ l n ∧ (∀ ts, σ = .ok ts → RepY W wr v6 l cs) ∧ ∀ ts, σ = .ok ts → n + cs.length = 8)) (fun v6 _ => 9 - lenV' v6)
    case atStart => exact ⟨_, [], [], 8, H3.out, H0.out.2.1, fun _ _ => rfl, fun _ _ => rfl⟩
    case round =>
      obtain ⟨σ, cs, l, n, HB⟩ := hrel
      obtain ⟨lp, lc, rfl, hlie⟩ := HB.out.1.own.lie
      obtain ⟨m, hm⟩ : ∃ m, m = cs.length := ⟨_, rfl⟩
      have cS := stop_es wr P s.size σ HB.out.1.es
      have HL : Hid (sr.Lie wr (fun g => base ≤ g) lp cs.length lc cs ∧ m = cs.length) := ⟨hlie, hm⟩
      rw [← hm] at HB ⊢
      clear hlie hm
      cases σ with
      | error x =>
        obtain ⟨xc, xp⟩ := x
        have HA : Hid (q = .error (xc, xp)) := HB.out.2.1
        go_wp2_with fail
        refine cS.mono ?_
        rintro e w4 ⟨rfl, hb4⟩
        have H4 : Hid (Bz W w4 P s.size (.error (xc, xp)) base (.slice lp m lc) cs) := HB.out.1.bl hb4
        have cS4 := stop_es w4 P s.size _ H4.out.es
        clear hb4 cS
        go_wp2_with fail
        refine cS4.mono ?_
        rintro e w5 ⟨rfl, hb5⟩
        have H5 : Hid (Bz W w5 P s.size (.error (xc, xp)) base (.slice lp m lc) cs) := H4.out.bl hb5
        have HF5 : Hid (Fl w w5 M N 0 (-1)) := HF.out.1.gp H5.out.gp HF.out.2.2.1 HF.out.2.2.2.1 HF.out.2.1
        obtain ⟨hxc, us, hEy⟩ := H5.out.es
        obtain ⟨_, e2, e3, eF, _, _⟩ := hEy.cells
        have hPs := hEy.lt
        have HC : Hid (xc ≠ 0) := hxc
        obtain ⟨g0, g1, m0, m1, z0, z1, hMs, hNs⟩ := HF5.out.cells
        clear hb5 cS4 hEy hxc
        go_upto_region 14 with fail
        go_region
        go_wp2
        obtain ⟨k1, k2⟩ := HF5.out.told xc xp
        exact bodyPost_ret (v := .tuple #[.slice none 0 0, flt xc (xp : Int)]) (results_tmp_cell (p := 3) (u := 2) (ty := 26) rfl _ _ _ M (flt xc (xp : Int)) rfl (ldF _ _ _ _ k2)) rfl (RtA.bad (k1.trans ((Bl.refl _).drew)) (HF.out.2.2.2.2.1.trans HA.out) HC.out)
      | ok ts' =>
        go_wp2_with fail
        refine cS.mono ?_
        rintro e w4 ⟨rfl, hb4⟩
        have H4 : Hid (Bz W w4 P s.size (.ok ts') base (.slice lp m lc) cs ∧ Bl wr w4) := ⟨HB.out.1.bl hb4, hb4⟩
        clear hb4 cS
        obtain ⟨sq, sk, c0⟩ := Ey.cell0 H4.out.1.es
        have hPs := H4.out.1.es.lt
        cases ts' with
        | nil =>
          have HA : Hid (q = .ok l) := by have h : preT l (typs nb s.size n []) = q := HB.out.2.1; rw [typs_end] at h; exact h.symm
          rw [show ([] : List Tk).length = 0 from rfl] at c0
          have cS4 := stop_es w4 P s.size _ H4.out.1.es
          have cG : ∀ w, Calls Tryz.prog 32 #[] w fun e w' => e = .returned (.agg #[.int .i64 0, .int .i64 (-1)]) ∧ Bl w w' := Good_at
          go_wp2_with fail
          refine cS4.mono ?_
          rintro e w5 ⟨rfl, hb5⟩
          go_wp2_with fail
          refine (cG _).mono ?_
          rintro e w6 ⟨rfl, hb6⟩
          have H6 : Hid (Bz W w6 P s.size (.ok []) base (.slice lp m lc) cs ∧ Bl w4 w6) := ⟨H4.out.1.bl (hb5.trans hb6), hb5.trans hb6⟩
          have HF6 : Hid (Fl w w6 M N 0 (-1)) := HF.out.1.gp H6.out.1.gp HF.out.2.2.1 HF.out.2.2.2.1 HF.out.2.1
          obtain ⟨g0, g1, m0, m1, z0, z1, hMs, hNs⟩ := HF6.out.cells
          clear hb5 hb6 cS4 cG c0 hPs
          go_wp2
          obtain ⟨k1, k2⟩ := HF6.out.told 0 (-1)
          refine bodyPost_ret (v := .tuple #[.slice lp m lc, flt 0 (-1)]) (results_tmp_cell (p := 3) (u := 2) (ty := 26) rfl _ _ _ M (flt 0 (-1)) rfl (ldF _ _ _ _ k2)) rfl ⟨k1, ?_⟩
          rw [HF.out.2.2.2.2.1, HA.out]
          have hg1 : Gp P wr w6 := Gp.bl (H4.out.2.trans H6.out.2)
          have hg2 : Gp M w6 ((w6.setCell ⟨M, 0, none⟩ (.int .i64 0)).setCell ⟨M, 1, none⟩ (.int .i64 (-1))) := (Gp.set _).trans (Gp.set _)
          have hMW : M < W.heap.size := lt_of_heap HF.out.1.m
          have hrep := RepY.go (HB.out.2.2.1 _ rfl) hg1 HF.out.2.2.2.2.2 (HB.out.1.es.kx hg1)
          have hcl := hrep.len
          have hWw := HF.out.1.bl.size
          have hbase := HB.out.1.ord
          refine ⟨_, rfl, lp, lc, cs, by rw [HL.out.2, hcl], ?_, ?_⟩
          · rw [← hcl]
            exact ((HL.out.1.keep (fun g h1 h2 => hg1.block g h2 (by omega)) hg1.size).keep (fun g h1 h2 => hg2.block g h2 (by omega)) hg2.size).mono (fun g h1 _ => by omega)
          · exact (hrep.keep (fun g h1 h2 => hg2.block g h2 (by omega)) hg2.size (HF6.out.kx 0 (-1))).mono (fun g h1 _ => by omega)
        | cons t r =>
          have hn := HB.out.2.2.2 _ rfl
          obtain ⟨j, hj⟩ : ∃ j, j = r.length := ⟨_, rfl⟩
          rw [show (t :: r).length = j + 1 by rw [hj]; rfl] at c0
          have hpos : (0 : Int) < ((j : Nat) : Int) + 1 := by omega
          have cT := text_es w4 P s.size _ H4.out.1.es
          rw [show seeT s.size (.ok (t :: r)) = t.t from rfl] at cT
          have htl := tl_tx t.t
          obtain ⟨S, hS⟩ : ∃ S, S = tx t.t := ⟨_, rfl⟩
          rw [← hS] at cT htl
          clear hj hS
          go_wp2_with fail
          refine cT.mono ?_
          rintro e w5 ⟨rfl, hb5⟩
          have H5 : Hid (Bz W w5 P s.size (.ok (t :: r)) base (.slice lp m lc) cs ∧ RepY W w5 (.slice lp m lc) l cs) := ⟨H4.out.1.bl hb5, RepY.go (RepY.go (HB.out.2.2.1 _ rfl) (Gp.bl H4.out.2) HF.out.2.2.2.2.2 (Kx.bl H4.out.2)) (Gp.bl hb5) HF.out.2.2.2.2.2 (Kx.bl hb5)⟩
          clear hb5 cT c0 hPs
          by_cases hfull : t.t = wStruct ∧ n = 0
          · have hq1 : (S.toList == [115, 116, 114, 117, 99, 116]) = true := by rw [htl, hfull.1]; rfl
            have hm8 : (8 : Int) ≤ (m : Int) := by omega
            have HQ : Hid (q = .error (4, t.a)) := by
              have h := HB.out.2.1
              rw [hfull.2] at h
              exact h.full hfull.1
            obtain ⟨hf1, hf2⟩ := hfull
            clear htl hf1 hf2
            have cA1 := place_es w5 P s.size _ H5.out.1.es
            go_wp2_with fail
            refine cA1.mono ?_
            rintro e w6 ⟨⟨a1, rfl, ha1⟩, hw6⟩
            obtain rfl := hw6.symm
            have ha2 : a1 = t.a := ha1 _ rfl
            clear ha1 cA1
            have cW := wrong_es w5 P s.size (.ok (t :: r)) 4 a1 (by decide) H5.out.1.es
            rw [show fl 4 a1 (.ok (t :: r)) = (.error (4, a1) : Sg) from rfl] at cW
            have HQ2 : Hid (q = .error (4, a1)) := by rw [ha2]; exact HQ.out
            clear ha2
            go_wp2_with fail
            refine cW.mono ?_
            rintro e w6 ⟨rfl, hE, hg⟩
            have H6 : Hid (Bz W w6 P s.size (.error (4, a1)) base (.slice lp m lc) cs ∧ RepY W w6 (.slice lp m lc) l cs) := ⟨H5.out.1.go hE hg, RepY.go H5.out.2 hg HF.out.2.2.2.2.2 (H5.out.1.es.kx hg)⟩
            clear hE hg cW
            have cM := must_es w6 P s.size _ wStruct (by decide) H6.out.1.es
            go_wp2_with fail
            refine cM.mono ?_
            rintro e wb ⟨rfl, hE, hg⟩
            have Hb : Hid (Bz W wb P s.size (mu s.size wStruct (.error (4, a1))) base (.slice lp m lc) cs ∧ RepY W wb (.slice lp m lc) l cs) := ⟨H6.out.1.go hE hg, RepY.go H6.out.2 hg HF.out.2.2.2.2.2 (H6.out.1.es.kx hg)⟩
            have cA := place_es wb P s.size _ Hb.out.1.es
            clear hE hg cM
            go_wp2_with fail
            refine cA.mono ?_
            rintro e wc ⟨⟨a, rfl, ha⟩, hwc⟩
            obtain rfl := hwc.symm
            have HA : Hid (∀ us, (mu s.size wStruct (.error (4, a1))) = .ok us → a = (hd s.size us).a) := ha
            obtain ⟨T, hT⟩ : ∃ T, T = wb.heap.size := ⟨_, rfl⟩
            obtain ⟨wd, hwd⟩ : ∃ wd, wd = wb.alloc (.cells (clT ⟨[], a, none, 0, 0⟩).toArray 36) := ⟨_, rfl⟩
            have hbd : Bl wb wd := by rw [hwd]; exact (Bl.refl _).alloc _
            have Hd : Hid (Bz W wd P s.size (mu s.size wStruct (.error (4, a1))) base (.slice lp m lc) cs ∧ RepZ W wd (.slice lp m lc) T l cs ∧ wd.heap[T]? = some (.cells (clT ⟨[], a, none, 0, 0⟩).toArray 36 (0, 0)) ∧ base ≤ T ∧ P < T ∧ (∀ k, (Value.slice lp m lc).ownBlock = some k → k < T)) := by
              have h1 := Hb.out.1.ord
              refine ⟨Hb.out.1.bl hbd, (Hb.out.2.mono (fun g h1 h2 => ⟨h1, by omega⟩)).keep (fun g h1 h2 => Below.block hbd g h2) hbd.size (Kx.bl hbd), by rw [hwd, hT]; exact new_at _ _, by omega, by omega, fun k hk => ?_⟩
              have := (Hb.out.1.own.block k hk).2
              omega
            have cN := name_es wd P s.size _ Hd.out.1.es Hd.out.1.ml
            clear ha cA hbd Hb
            go_upto_region 10 with fail
            change Code.wp _ _ _ _ (wb.alloc (.cells (clT ⟨[], a, none, 0, 0⟩).toArray 36))
            rw [← hwd, ← hT]
            clear hwd hT
            go_wp2_with fail
            refine cN.mono ?_
            rintro e we ⟨rfl, hE, hg⟩
            obtain ⟨V, hV⟩ : ∃ V, V = tx (seeT s.size (mu s.size wStruct (.error (4, a1)))) := ⟨_, rfl⟩
            rw [← hV]
            have He : Hid (Bz W we P s.size (nmS s.size (mu s.size wStruct (.error (4, a1)))) base (.slice lp m lc) cs ∧ RepZ W we (.slice lp m lc) T l cs ∧ we.heap[T]? = some (.cells (clT ⟨[], a, none, 0, 0⟩).toArray 36 (0, 0))) := ⟨Hd.out.1.go hE hg, RepZ.go Hd.out.2.1 hg HF.out.2.2.2.2.2 (Hd.out.1.es.kx hg), by rw [hg.block T (lt_of_heap Hd.out.2.2.1) (by have := Hd.out.2.2.2.2.1; omega)]; exact Hd.out.2.2.1⟩
            have y0 : we.cell? ⟨T, 0, none⟩ = some (.string (tx [])) := by rw [cell_of He.out.2.2]; rfl
            have yz : we.frozen? ⟨T, 0, none⟩ = false := by simp [World.frozen?, He.out.2.2]
            have hTs := lt_of_heap He.out.2.2
            obtain ⟨wf, hwf⟩ : ∃ wf, wf = we.setCell ⟨T, 0, none⟩ (.string V) := ⟨_, rfl⟩
            have Hf : Hid (Bz W wf P s.size (nmS s.size (mu s.size wStruct (.error (4, a1)))) base (.slice lp m lc) cs ∧ RepZ W wf (.slice lp m lc) T l cs ∧ wf.heap[T]? = some (.cells (clT ⟨seeT s.size (mu s.size wStruct (.error (4, a1))), a, none, 0, 0⟩).toArray 36 (0, 0))) := by
              have hgs := grown_set we T 0 (.string V)
              have hTT := lt_of_heap He.out.2.2
              rw [hwf]
              refine ⟨He.out.1.put Hd.out.2.2.2.1 (fun k hk => by have := Hd.out.2.2.2.2.2 k hk; omega), He.out.2.1.keep (fun g h1 h2 => hgs.block g h2 (fun e => by injection e with e; omega)) hgs.size ?_, ?_⟩
              · exact fun b cs' hb => by
                  rw [hgs.block b (lt_of_heap hb) (fun e => by injection e with e; subst e; rw [He.out.2.2] at hb; simp at hb)]
                  exact hb
              · rw [hV]
                simp [World.setCell, Array.getElem?_modify, He.out.2.2, clT]
            have cB := block_es 8 wf P s.size 1 (nmS s.size (mu s.size wStruct (.error (4, a1)))) (by omega) Hf.out.1.es Hf.out.1.ml Hf.out.1.ord.1
            clear hE hg cN hV
            go_upto_region 11 with fail
            rw [← hwf]
            clear hwf y0 yz hTs He
            go_wp2_with fail
            refine cB.mono ?_
            rintro e wg ⟨⟨bp, bn, bc, rfl, hl⟩, hE, hg⟩
            have Hg : Hid (Bz W wg P s.size (bkS 8 s.size (nmS s.size (mu s.size wStruct (.error (4, a1))))) base (.slice lp m lc) cs ∧ RepZ W wg (.slice lp m lc) T l cs ∧ wg.heap[T]? = some (.cells (clT ⟨seeT s.size (mu s.size wStruct (.error (4, a1))), a, none, 0, 0⟩).toArray 36 (0, 0)) ∧ (∀ ts l rr, (nmS s.size (mu s.size wStruct (.error (4, a1)))) = .ok ts → blk nb s.size 8 ts = .ok (l, rr) → LV wf.heap.size wg (.slice bp bn bc) l)) := ⟨Hf.out.1.go hE hg, RepZ.go Hf.out.2.1 hg HF.out.2.2.2.2.2 (Hf.out.1.es.kx hg), by rw [hg.block T (lt_of_heap Hf.out.2.2) (by have := Hd.out.2.2.2.2.1; omega)]; exact Hf.out.2.2, hl⟩
            have y2 : wg.cell? ⟨T, 2, none⟩ = some (.slice none 0 0) := by rw [cell_of Hg.out.2.2.1]; rfl
            have yz : wg.frozen? ⟨T, 2, none⟩ = false := by simp [World.frozen?, Hg.out.2.2.1]
            have hTs := lt_of_heap Hg.out.2.2.1
            obtain ⟨wh, hwh⟩ : ∃ wh, wh = wg.setCell ⟨T, 2, none⟩ (.slice bp bn bc) := ⟨_, rfl⟩
            obtain ⟨c, hc⟩ : ∃ c : CT, c = ⟨seeT s.size (mu s.size wStruct (.error (4, a1))), a, bp, bn, bc⟩ := ⟨_, rfl⟩
            have Hh : Hid (Bz W wh P s.size (bkS 8 s.size (nmS s.size (mu s.size wStruct (.error (4, a1))))) base (.slice lp m lc) cs ∧ RepZ W wh (.slice lp m lc) T l cs ∧ wh.heap[T]? = some (.cells (clT c).toArray 36 (0, 0)) ∧ (∀ ts l rr, (nmS s.size (mu s.size wStruct (.error (4, a1)))) = .ok ts → blk nb s.size 8 ts = .ok (l, rr) → LV wf.heap.size wh (.slice bp bn bc) l) ∧ c = ⟨seeT s.size (mu s.size wStruct (.error (4, a1))), a, bp, bn, bc⟩ ∧ T < wf.heap.size ∧ W.heap.size ≤ wf.heap.size) := by
              have hgs := grown_set wg T 2 (.slice bp bn bc)
              have hTf := lt_of_heap Hf.out.2.2
              have hkx : Kx wg (wg.setCell ⟨T, 2, none⟩ (.slice bp bn bc)) := fun b cs' hb => by
                rw [hgs.block b (lt_of_heap hb) (fun e => by injection e with e; subst e; rw [Hg.out.2.2.1] at hb; simp at hb)]
                exact hb
              rw [hwh, hc]
              refine ⟨Hg.out.1.put Hd.out.2.2.2.1 (fun k hk => by have := Hd.out.2.2.2.2.2 k hk; omega), Hg.out.2.1.keep (fun g h1 h2 => hgs.block g h2 (fun e => by injection e with e; omega)) hgs.size hkx, ?_, fun ts l r h1 h2 => ?_, rfl, hTf, Hf.out.1.gp.size⟩
              · simp [World.setCell, Array.getElem?_modify, Hg.out.2.2.1, clT]
              · obtain ⟨p, c, cs, k1, k2, k3⟩ := Hg.out.2.2.2 ts l r h1 h2
                exact ⟨p, c, cs, k1, k2.keep (fun g h1 h2 => hgs.block g h2 (fun e => by injection e with e; omega)) hgs.size, k3.keep (fun g h1 h2 => hgs.block g h2 (fun e => by injection e with e; omega)) hgs.size hkx⟩
            clear hE hg cB hl hc
            go_upto_region 12 with fail
            rw [← hwh]
            clear hwh y2 yz hTs
            have y0 : wh.cell? ⟨T, 0, none⟩ = some (.string (tx c.nm)) := by rw [cell_of Hh.out.2.2.1]; rfl
            have y1 : wh.cell? ⟨T, 1, none⟩ = some (.int .i64 (c.a : Int)) := by rw [cell_of Hh.out.2.2.1]; rfl
            have y2 : wh.cell? ⟨T, 2, none⟩ = some (.slice c.p c.n c.c) := by rw [cell_of Hh.out.2.2.1]; rfl
            have hTs := lt_of_heap Hh.out.2.2.1
            obtain ⟨wi, hwi⟩ : ∃ wi, wi = wh.alloc (.cells (clT c).toArray 36) := ⟨_, rfl⟩
            have hbi : Bl wh wi := by rw [hwi]; exact (Bl.refl _).alloc _
            obtain ⟨X, hX⟩ : ∃ X, X = wh.heap.size := ⟨_, rfl⟩
            have hXi : wi.heap[X]? = some (.cells (clT c).toArray 36 (0, 0)) := by rw [hwi, hX]; exact new_at _ _
            have hown := Hh.out.1.own.bl hbi
            have hcells : ∀ j u, (clT c)[j]? = some u → wi.cell? ((⟨X, 0, none⟩ : Addr).add j) = some u := fun j u hu => by
              rw [Addr.add_lit, Nat.zero_add, cell_of hXi]; simpa using hu
            have hbw : base ≤ wi.heap.size := Nat.le_trans Hh.out.1.ord.2.2.2 hbi.size
            have hcs8 : cs.length ≤ 8 := by have := HL.out.2; omega
            obtain ⟨v', wj, hr, hoj, hgj⟩ := sr.app_one wi base (.slice lp m lc) cs c ⟨X, 0, none⟩ hown hcells (by omega) hbw
            have hwhere := sr_where wi base (.slice lp m lc) cs c ⟨X, 0, none⟩ hown hcells (by omega) v' wj hr
            have HJ : Hid (∃ σ' l' n', Bz W wj P s.size σ' base v' (cs ++ [c]) ∧ LfT s.size q σ' l' n' ∧ (∀ ts, σ' = .ok ts → RepY W wj v' l' (cs ++ [c])) ∧ (∀ ts, σ' = .ok ts → n' + (cs ++ [c]).length = 8)) := by
              have hB := Hh.out.1.app hwi hoj hgj
              exact ⟨.error (4, a1), l, 0, hB, HQ2.out, fun ts h => (by cases h), fun ts h => (by cases h)⟩
            have HV : Hid (lenV' v' = m + 1 ∧ m ≤ 8) := by
              obtain ⟨p8, c8, hv8, _⟩ := hoj.lie
              refine ⟨?_, by have := HL.out.2; omega⟩
              rw [hv8]
              show (cs ++ [c]).length = m + 1
              rw [List.length_append, ← HL.out.2]; rfl
            have HRn : Hid _ := hr
            have hcl : (clT c).toArray = #[.string (tx c.nm), .int .i64 (c.a : Int), .slice c.p c.n c.c] := rfl
            rw [hcl] at hwi
            have hwi' := hwi.symm
            have hX' : wh.heap.size = X := hX.symm
            clear hcl hwi hX hbi hXi hown hcells hbw hr hoj hgj hwhere hcs8 hn
            go_wp2_with (at_builtin; refine Lib.wpList_append_run _ rfl (.tmp 51) (.tmp 53) _ _ rfl _ _ rfl rfl _ _ HRn.out ?_)
            obtain ⟨σ', l', n', h1, h2, h3, h4⟩ := HJ.out
            refine ⟨⟨σ', cs ++ [c], l', n', h1, h2, h3, h4⟩, ?_⟩
            rw [HV.out.1]
            show 9 - (m + 1) < 9 - m
            have := HV.out.2
            omega
          · have HNF : Hid (¬ (t.t = wStruct ∧ n = 0)) := hfull
            cases hq1 : (S.toList == [115, 116, 114, 117, 99, 116]) with
            | true =>
              have hm8 : ¬ (8 : Int) ≤ (m : Int) := by
                have h0 : t.t = wStruct := by rw [htl, beq_iff_eq] at hq1; exact hq1
                have h1 : n ≠ 0 := fun h => hfull ⟨h0, h⟩
                omega
              clear hfull htl
              have cM := must_es w5 P s.size _ wStruct (by decide) H5.out.1.es
              go_wp2_with fail
              refine cM.mono ?_
              rintro e wb ⟨rfl, hE, hg⟩
              have Hb : Hid (Bz W wb P s.size (mu s.size wStruct (.ok (t :: r))) base (.slice lp m lc) cs ∧ RepY W wb (.slice lp m lc) l cs) := ⟨H5.out.1.go hE hg, RepY.go H5.out.2 hg HF.out.2.2.2.2.2 (H5.out.1.es.kx hg)⟩
              have cA := place_es wb P s.size _ Hb.out.1.es
              clear hE hg cM
              go_wp2_with fail
              refine cA.mono ?_
              rintro e wc ⟨⟨a, rfl, ha⟩, hwc⟩
              obtain rfl := hwc.symm
              have HA : Hid (∀ us, (mu s.size wStruct (.ok (t :: r))) = .ok us → a = (hd s.size us).a) := ha
              obtain ⟨T, hT⟩ : ∃ T, T = wb.heap.size := ⟨_, rfl⟩
              obtain ⟨wd, hwd⟩ : ∃ wd, wd = wb.alloc (.cells (clT ⟨[], a, none, 0, 0⟩).toArray 36) := ⟨_, rfl⟩
              have hbd : Bl wb wd := by rw [hwd]; exact (Bl.refl _).alloc _
              have Hd : Hid (Bz W wd P s.size (mu s.size wStruct (.ok (t :: r))) base (.slice lp m lc) cs ∧ RepZ W wd (.slice lp m lc) T l cs ∧ wd.heap[T]? = some (.cells (clT ⟨[], a, none, 0, 0⟩).toArray 36 (0, 0)) ∧ base ≤ T ∧ P < T ∧ (∀ k, (Value.slice lp m lc).ownBlock = some k → k < T)) := by
                have h1 := Hb.out.1.ord
                refine ⟨Hb.out.1.bl hbd, (Hb.out.2.mono (fun g h1 h2 => ⟨h1, by omega⟩)).keep (fun g h1 h2 => Below.block hbd g h2) hbd.size (Kx.bl hbd), by rw [hwd, hT]; exact new_at _ _, by omega, by omega, fun k hk => ?_⟩
                have := (Hb.out.1.own.block k hk).2
                omega
              have cN := name_es wd P s.size _ Hd.out.1.es Hd.out.1.ml
              clear ha cA hbd Hb
              go_upto_region 10 with fail
              change Code.wp _ _ _ _ (wb.alloc (.cells (clT ⟨[], a, none, 0, 0⟩).toArray 36))
              rw [← hwd, ← hT]
              clear hwd hT
              go_wp2_with fail
              refine cN.mono ?_
              rintro e we ⟨rfl, hE, hg⟩
              obtain ⟨V, hV⟩ : ∃ V, V = tx (seeT s.size (mu s.size wStruct (.ok (t :: r)))) := ⟨_, rfl⟩
              rw [← hV]
              have He : Hid (Bz W we P s.size (nmS s.size (mu s.size wStruct (.ok (t :: r)))) base (.slice lp m lc) cs ∧ RepZ W we (.slice lp m lc) T l cs ∧ we.heap[T]? = some (.cells (clT ⟨[], a, none, 0, 0⟩).toArray 36 (0, 0))) := ⟨Hd.out.1.go hE hg, RepZ.go Hd.out.2.1 hg HF.out.2.2.2.2.2 (Hd.out.1.es.kx hg), by rw [hg.block T (lt_of_heap Hd.out.2.2.1) (by have := Hd.out.2.2.2.2.1; omega)]; exact Hd.out.2.2.1⟩
              have y0 : we.cell? ⟨T, 0, none⟩ = some (.string (tx [])) := by rw [cell_of He.out.2.2]; rfl
              have yz : we.frozen? ⟨T, 0, none⟩ = false := by simp [World.frozen?, He.out.2.2]
              have hTs := lt_of_heap He.out.2.2
              obtain ⟨wf, hwf⟩ : ∃ wf, wf = we.setCell ⟨T, 0, none⟩ (.string V) := ⟨_, rfl⟩
              have Hf : Hid (Bz W wf P s.size (nmS s.size (mu s.size wStruct (.ok (t :: r)))) base (.slice lp m lc) cs ∧ RepZ W wf (.slice lp m lc) T l cs ∧ wf.heap[T]? = some (.cells (clT ⟨seeT s.size (mu s.size wStruct (.ok (t :: r))), a, none, 0, 0⟩).toArray 36 (0, 0))) := by
                have hgs := grown_set we T 0 (.string V)
                have hTT := lt_of_heap He.out.2.2
                rw [hwf]
                refine ⟨He.out.1.put Hd.out.2.2.2.1 (fun k hk => by have := Hd.out.2.2.2.2.2 k hk; omega), He.out.2.1.keep (fun g h1 h2 => hgs.block g h2 (fun e => by injection e with e; omega)) hgs.size ?_, ?_⟩
                · exact fun b cs' hb => by
                    rw [hgs.block b (lt_of_heap hb) (fun e => by injection e with e; subst e; rw [He.out.2.2] at hb; simp at hb)]
                    exact hb
                · rw [hV]
                  simp [World.setCell, Array.getElem?_modify, He.out.2.2, clT]
              have cB := block_es 8 wf P s.size 1 (nmS s.size (mu s.size wStruct (.ok (t :: r)))) (by omega) Hf.out.1.es Hf.out.1.ml Hf.out.1.ord.1
              clear hE hg cN hV
              go_upto_region 11 with fail
              rw [← hwf]
              clear hwf y0 yz hTs He
              go_wp2_with fail
              refine cB.mono ?_
              rintro e wg ⟨⟨bp, bn, bc, rfl, hl⟩, hE, hg⟩
              have Hg : Hid (Bz W wg P s.size (bkS 8 s.size (nmS s.size (mu s.size wStruct (.ok (t :: r))))) base (.slice lp m lc) cs ∧ RepZ W wg (.slice lp m lc) T l cs ∧ wg.heap[T]? = some (.cells (clT ⟨seeT s.size (mu s.size wStruct (.ok (t :: r))), a, none, 0, 0⟩).toArray 36 (0, 0)) ∧ (∀ ts l rr, (nmS s.size (mu s.size wStruct (.ok (t :: r)))) = .ok ts → blk nb s.size 8 ts = .ok (l, rr) → LV wf.heap.size wg (.slice bp bn bc) l)) := ⟨Hf.out.1.go hE hg, RepZ.go Hf.out.2.1 hg HF.out.2.2.2.2.2 (Hf.out.1.es.kx hg), by rw [hg.block T (lt_of_heap Hf.out.2.2) (by have := Hd.out.2.2.2.2.1; omega)]; exact Hf.out.2.2, hl⟩
              have y2 : wg.cell? ⟨T, 2, none⟩ = some (.slice none 0 0) := by rw [cell_of Hg.out.2.2.1]; rfl
              have yz : wg.frozen? ⟨T, 2, none⟩ = false := by simp [World.frozen?, Hg.out.2.2.1]
              have hTs := lt_of_heap Hg.out.2.2.1
              obtain ⟨wh, hwh⟩ : ∃ wh, wh = wg.setCell ⟨T, 2, none⟩ (.slice bp bn bc) := ⟨_, rfl⟩
              obtain ⟨c, hc⟩ : ∃ c : CT, c = ⟨seeT s.size (mu s.size wStruct (.ok (t :: r))), a, bp, bn, bc⟩ := ⟨_, rfl⟩
              have Hh : Hid (Bz W wh P s.size (bkS 8 s.size (nmS s.size (mu s.size wStruct (.ok (t :: r))))) base (.slice lp m lc) cs ∧ RepZ W wh (.slice lp m lc) T l cs ∧ wh.heap[T]? = some (.cells (clT c).toArray 36 (0, 0)) ∧ (∀ ts l rr, (nmS s.size (mu s.size wStruct (.ok (t :: r)))) = .ok ts → blk nb s.size 8 ts = .ok (l, rr) → LV wf.heap.size wh (.slice bp bn bc) l) ∧ c = ⟨seeT s.size (mu s.size wStruct (.ok (t :: r))), a, bp, bn, bc⟩ ∧ T < wf.heap.size ∧ W.heap.size ≤ wf.heap.size) := by
                have hgs := grown_set wg T 2 (.slice bp bn bc)
                have hTf := lt_of_heap Hf.out.2.2
                have hkx : Kx wg (wg.setCell ⟨T, 2, none⟩ (.slice bp bn bc)) := fun b cs' hb => by
                  rw [hgs.block b (lt_of_heap hb) (fun e => by injection e with e; subst e; rw [Hg.out.2.2.1] at hb; simp at hb)]
                  exact hb
                rw [hwh, hc]
                refine ⟨Hg.out.1.put Hd.out.2.2.2.1 (fun k hk => by have := Hd.out.2.2.2.2.2 k hk; omega), Hg.out.2.1.keep (fun g h1 h2 => hgs.block g h2 (fun e => by injection e with e; omega)) hgs.size hkx, ?_, fun ts l r h1 h2 => ?_, rfl, hTf, Hf.out.1.gp.size⟩
                · simp [World.setCell, Array.getElem?_modify, Hg.out.2.2.1, clT]
                · obtain ⟨p, c, cs, k1, k2, k3⟩ := Hg.out.2.2.2 ts l r h1 h2
                  exact ⟨p, c, cs, k1, k2.keep (fun g h1 h2 => hgs.block g h2 (fun e => by injection e with e; omega)) hgs.size, k3.keep (fun g h1 h2 => hgs.block g h2 (fun e => by injection e with e; omega)) hgs.size hkx⟩
              clear hE hg cB hl hc
              go_upto_region 12 with fail
              rw [← hwh]
              clear hwh y2 yz hTs
              have y0 : wh.cell? ⟨T, 0, none⟩ = some (.string (tx c.nm)) := by rw [cell_of Hh.out.2.2.1]; rfl
              have y1 : wh.cell? ⟨T, 1, none⟩ = some (.int .i64 (c.a : Int)) := by rw [cell_of Hh.out.2.2.1]; rfl
              have y2 : wh.cell? ⟨T, 2, none⟩ = some (.slice c.p c.n c.c) := by rw [cell_of Hh.out.2.2.1]; rfl
              have hTs := lt_of_heap Hh.out.2.2.1
              obtain ⟨wi, hwi⟩ : ∃ wi, wi = wh.alloc (.cells (clT c).toArray 36) := ⟨_, rfl⟩
              have hbi : Bl wh wi := by rw [hwi]; exact (Bl.refl _).alloc _
              obtain ⟨X, hX⟩ : ∃ X, X = wh.heap.size := ⟨_, rfl⟩
              have hXi : wi.heap[X]? = some (.cells (clT c).toArray 36 (0, 0)) := by rw [hwi, hX]; exact new_at _ _
              have hown := Hh.out.1.own.bl hbi
              have hcells : ∀ j u, (clT c)[j]? = some u → wi.cell? ((⟨X, 0, none⟩ : Addr).add j) = some u := fun j u hu => by
                rw [Addr.add_lit, Nat.zero_add, cell_of hXi]; simpa using hu
              have hbw : base ≤ wi.heap.size := Nat.le_trans Hh.out.1.ord.2.2.2 hbi.size
              have hcs8 : cs.length ≤ 8 := by have := HL.out.2; omega
              obtain ⟨v', wj, hr, hoj, hgj⟩ := sr.app_one wi base (.slice lp m lc) cs c ⟨X, 0, none⟩ hown hcells (by omega) hbw
              have hwhere := sr_where wi base (.slice lp m lc) cs c ⟨X, 0, none⟩ hown hcells (by omega) v' wj hr
              have HJ : Hid (∃ σ' l' n', Bz W wj P s.size σ' base v' (cs ++ [c]) ∧ LfT s.size q σ' l' n' ∧ (∀ ts, σ' = .ok ts → RepY W wj v' l' (cs ++ [c])) ∧ (∀ ts, σ' = .ok ts → n' + (cs ++ [c]).length = 8)) := by
                have hB := Hh.out.1.app hwi hoj hgj
                rcases HB.out.2.1.on (fun h1 h2 => HNF.out ⟨h1, h2⟩) HA.out with ⟨x, q1, q2⟩ | ⟨us, r1, it, r2, q1, q2, q3, q4, q5⟩
                · rw [q2] at hB
                  exact ⟨.error x, l, 0, hB, q1, fun ts h => (by cases h), fun ts h => (by cases h)⟩
                · have hB2 := Hh.out.1
                  rw [q4] at hB hB2
                  have q6 : nmS s.size (mu s.size wStruct (.ok (t :: r))) = .ok r1 := by rw [q1]; exact q2
                  obtain ⟨bp', bc', cs2, k1, k2, k3⟩ := Hh.out.2.2.2.1 r1 it r2 q6 q3
                  injection k1 with k1 k4 k5
                  subst k1 k4 k5
                  have hce := Hh.out.2.2.2.2.1
                  refine ⟨.ok r2, _, n - 1, hB, q5, fun ts h => ?_, fun ts h => ?_⟩
                  · have := RepZ.app (c := c) (it := it) (M := wf.heap.size) hB2 Hh.out.2.1 (by rw [hce]; exact ⟨cs2, k2, k3⟩) Hh.out.2.2.2.2.2.2 (fun k hk => by have := Hd.out.2.2.2.2.2 k hk; have := Hh.out.2.2.2.2.2.1; omega) (Nat.le_of_lt (lt_of_heap Hh.out.2.2.1)) hwi hgj hwhere
                    rw [show c.nm = (hd s.size us).t by rw [hce, q1]; rfl, show c.a = a by rw [hce]] at this
                    exact this
                  · have h0 : n ≠ 0 := fun h0 => by
                      have h5 := q1
                      have h6 : t.t = wStruct := by
                        have h7 : want s.size wStruct (t :: r) = .ok us := h5
                        unfold want at h7
                        split at h7
                        · assumption
                        · cases h7
                      exact HNF.out ⟨h6, h0⟩
                    rw [List.length_append, ← HL.out.2]
                    show n - 1 + (m + 1) = 8
                    omega
              have HV : Hid (lenV' v' = m + 1 ∧ m ≤ 8) := by
                obtain ⟨p8, c8, hv8, _⟩ := hoj.lie
                refine ⟨?_, by have := HL.out.2; omega⟩
                rw [hv8]
                show (cs ++ [c]).length = m + 1
                rw [List.length_append, ← HL.out.2]; rfl
              have HRn : Hid _ := hr
              have hcl : (clT c).toArray = #[.string (tx c.nm), .int .i64 (c.a : Int), .slice c.p c.n c.c] := rfl
              rw [hcl] at hwi
              have hwi' := hwi.symm
              have hX' : wh.heap.size = X := hX.symm
              clear hcl hwi hX hbi hXi hown hcells hbw hr hoj hgj hwhere hcs8 hn
              go_wp2_with (at_builtin; refine Lib.wpList_append_run _ rfl (.tmp 51) (.tmp 53) _ _ rfl _ _ rfl rfl _ _ HRn.out ?_)
              obtain ⟨σ', l', n', h1, h2, h3, h4⟩ := HJ.out
              refine ⟨⟨σ', cs ++ [c], l', n', h1, h2, h3, h4⟩, ?_⟩
              rw [HV.out.1]
              show 9 - (m + 1) < 9 - m
              have := HV.out.2
              omega
            | false =>
              clear hfull htl
              have cM := must_es w5 P s.size _ wStruct (by decide) H5.out.1.es
              go_wp2_with fail
              refine cM.mono ?_
              rintro e wb ⟨rfl, hE, hg⟩
              have Hb : Hid (Bz W wb P s.size (mu s.size wStruct (.ok (t :: r))) base (.slice lp m lc) cs ∧ RepY W wb (.slice lp m lc) l cs) := ⟨H5.out.1.go hE hg, RepY.go H5.out.2 hg HF.out.2.2.2.2.2 (H5.out.1.es.kx hg)⟩
              have cA := place_es wb P s.size _ Hb.out.1.es
              clear hE hg cM
              go_wp2_with fail
              refine cA.mono ?_
              rintro e wc ⟨⟨a, rfl, ha⟩, hwc⟩
              obtain rfl := hwc.symm
              have HA : Hid (∀ us, (mu s.size wStruct (.ok (t :: r))) = .ok us → a = (hd s.size us).a) := ha
              obtain ⟨T, hT⟩ : ∃ T, T = wb.heap.size := ⟨_, rfl⟩
              obtain ⟨wd, hwd⟩ : ∃ wd, wd = wb.alloc (.cells (clT ⟨[], a, none, 0, 0⟩).toArray 36) := ⟨_, rfl⟩
              have hbd : Bl wb wd := by rw [hwd]; exact (Bl.refl _).alloc _
              have Hd : Hid (Bz W wd P s.size (mu s.size wStruct (.ok (t :: r))) base (.slice lp m lc) cs ∧ RepZ W wd (.slice lp m lc) T l cs ∧ wd.heap[T]? = some (.cells (clT ⟨[], a, none, 0, 0⟩).toArray 36 (0, 0)) ∧ base ≤ T ∧ P < T ∧ (∀ k, (Value.slice lp m lc).ownBlock = some k → k < T)) := by
                have h1 := Hb.out.1.ord
                refine ⟨Hb.out.1.bl hbd, (Hb.out.2.mono (fun g h1 h2 => ⟨h1, by omega⟩)).keep (fun g h1 h2 => Below.block hbd g h2) hbd.size (Kx.bl hbd), by rw [hwd, hT]; exact new_at _ _, by omega, by omega, fun k hk => ?_⟩
                have := (Hb.out.1.own.block k hk).2
                omega
              have cN := name_es wd P s.size _ Hd.out.1.es Hd.out.1.ml
              clear ha cA hbd Hb
              go_upto_region 10 with fail
              change Code.wp _ _ _ _ (wb.alloc (.cells (clT ⟨[], a, none, 0, 0⟩).toArray 36))
              rw [← hwd, ← hT]
              clear hwd hT
              go_wp2_with fail
              refine cN.mono ?_
              rintro e we ⟨rfl, hE, hg⟩
              obtain ⟨V, hV⟩ : ∃ V, V = tx (seeT s.size (mu s.size wStruct (.ok (t :: r)))) := ⟨_, rfl⟩
              rw [← hV]
              have He : Hid (Bz W we P s.size (nmS s.size (mu s.size wStruct (.ok (t :: r)))) base (.slice lp m lc) cs ∧ RepZ W we (.slice lp m lc) T l cs ∧ we.heap[T]? = some (.cells (clT ⟨[], a, none, 0, 0⟩).toArray 36 (0, 0))) := ⟨Hd.out.1.go hE hg, RepZ.go Hd.out.2.1 hg HF.out.2.2.2.2.2 (Hd.out.1.es.kx hg), by rw [hg.block T (lt_of_heap Hd.out.2.2.1) (by have := Hd.out.2.2.2.2.1; omega)]; exact Hd.out.2.2.1⟩
              have y0 : we.cell? ⟨T, 0, none⟩ = some (.string (tx [])) := by rw [cell_of He.out.2.2]; rfl
              have yz : we.frozen? ⟨T, 0, none⟩ = false := by simp [World.frozen?, He.out.2.2]
              have hTs := lt_of_heap He.out.2.2
              obtain ⟨wf, hwf⟩ : ∃ wf, wf = we.setCell ⟨T, 0, none⟩ (.string V) := ⟨_, rfl⟩
              have Hf : Hid (Bz W wf P s.size (nmS s.size (mu s.size wStruct (.ok (t :: r)))) base (.slice lp m lc) cs ∧ RepZ W wf (.slice lp m lc) T l cs ∧ wf.heap[T]? = some (.cells (clT ⟨seeT s.size (mu s.size wStruct (.ok (t :: r))), a, none, 0, 0⟩).toArray 36 (0, 0))) := by
                have hgs := grown_set we T 0 (.string V)
                have hTT := lt_of_heap He.out.2.2
                rw [hwf]
                refine ⟨He.out.1.put Hd.out.2.2.2.1 (fun k hk => by have := Hd.out.2.2.2.2.2 k hk; omega), He.out.2.1.keep (fun g h1 h2 => hgs.block g h2 (fun e => by injection e with e; omega)) hgs.size ?_, ?_⟩
                · exact fun b cs' hb => by
                    rw [hgs.block b (lt_of_heap hb) (fun e => by injection e with e; subst e; rw [He.out.2.2] at hb; simp at hb)]
                    exact hb
                · rw [hV]
                  simp [World.setCell, Array.getElem?_modify, He.out.2.2, clT]
              have cB := block_es 8 wf P s.size 1 (nmS s.size (mu s.size wStruct (.ok (t :: r)))) (by omega) Hf.out.1.es Hf.out.1.ml Hf.out.1.ord.1
              clear hE hg cN hV
              go_upto_region 11 with fail
              rw [← hwf]
              clear hwf y0 yz hTs He
              go_wp2_with fail
              refine cB.mono ?_
              rintro e wg ⟨⟨bp, bn, bc, rfl, hl⟩, hE, hg⟩
              have Hg : Hid (Bz W wg P s.size (bkS 8 s.size (nmS s.size (mu s.size wStruct (.ok (t :: r))))) base (.slice lp m lc) cs ∧ RepZ W wg (.slice lp m lc) T l cs ∧ wg.heap[T]? = some (.cells (clT ⟨seeT s.size (mu s.size wStruct (.ok (t :: r))), a, none, 0, 0⟩).toArray 36 (0, 0)) ∧ (∀ ts l rr, (nmS s.size (mu s.size wStruct (.ok (t :: r)))) = .ok ts → blk nb s.size 8 ts = .ok (l, rr) → LV wf.heap.size wg (.slice bp bn bc) l)) := ⟨Hf.out.1.go hE hg, RepZ.go Hf.out.2.1 hg HF.out.2.2.2.2.2 (Hf.out.1.es.kx hg), by rw [hg.block T (lt_of_heap Hf.out.2.2) (by have := Hd.out.2.2.2.2.1; omega)]; exact Hf.out.2.2, hl⟩
              have y2 : wg.cell? ⟨T, 2, none⟩ = some (.slice none 0 0) := by rw [cell_of Hg.out.2.2.1]; rfl
              have yz : wg.frozen? ⟨T, 2, none⟩ = false := by simp [World.frozen?, Hg.out.2.2.1]
              have hTs := lt_of_heap Hg.out.2.2.1
              obtain ⟨wh, hwh⟩ : ∃ wh, wh = wg.setCell ⟨T, 2, none⟩ (.slice bp bn bc) := ⟨_, rfl⟩
              obtain ⟨c, hc⟩ : ∃ c : CT, c = ⟨seeT s.size (mu s.size wStruct (.ok (t :: r))), a, bp, bn, bc⟩ := ⟨_, rfl⟩
              have Hh : Hid (Bz W wh P s.size (bkS 8 s.size (nmS s.size (mu s.size wStruct (.ok (t :: r))))) base (.slice lp m lc) cs ∧ RepZ W wh (.slice lp m lc) T l cs ∧ wh.heap[T]? = some (.cells (clT c).toArray 36 (0, 0)) ∧ (∀ ts l rr, (nmS s.size (mu s.size wStruct (.ok (t :: r)))) = .ok ts → blk nb s.size 8 ts = .ok (l, rr) → LV wf.heap.size wh (.slice bp bn bc) l) ∧ c = ⟨seeT s.size (mu s.size wStruct (.ok (t :: r))), a, bp, bn, bc⟩ ∧ T < wf.heap.size ∧ W.heap.size ≤ wf.heap.size) := by
                have hgs := grown_set wg T 2 (.slice bp bn bc)
                have hTf := lt_of_heap Hf.out.2.2
                have hkx : Kx wg (wg.setCell ⟨T, 2, none⟩ (.slice bp bn bc)) := fun b cs' hb => by
                  rw [hgs.block b (lt_of_heap hb) (fun e => by injection e with e; subst e; rw [Hg.out.2.2.1] at hb; simp at hb)]
                  exact hb
                rw [hwh, hc]
                refine ⟨Hg.out.1.put Hd.out.2.2.2.1 (fun k hk => by have := Hd.out.2.2.2.2.2 k hk; omega), Hg.out.2.1.keep (fun g h1 h2 => hgs.block g h2 (fun e => by injection e with e; omega)) hgs.size hkx, ?_, fun ts l r h1 h2 => ?_, rfl, hTf, Hf.out.1.gp.size⟩
                · simp [World.setCell, Array.getElem?_modify, Hg.out.2.2.1, clT]
                · obtain ⟨p, c, cs, k1, k2, k3⟩ := Hg.out.2.2.2 ts l r h1 h2
                  exact ⟨p, c, cs, k1, k2.keep (fun g h1 h2 => hgs.block g h2 (fun e => by injection e with e; omega)) hgs.size, k3.keep (fun g h1 h2 => hgs.block g h2 (fun e => by injection e with e; omega)) hgs.size hkx⟩
              clear hE hg cB hl hc
              go_upto_region 12 with fail
              rw [← hwh]
              clear hwh y2 yz hTs
              have y0 : wh.cell? ⟨T, 0, none⟩ = some (.string (tx c.nm)) := by rw [cell_of Hh.out.2.2.1]; rfl
              have y1 : wh.cell? ⟨T, 1, none⟩ = some (.int .i64 (c.a : Int)) := by rw [cell_of Hh.out.2.2.1]; rfl
              have y2 : wh.cell? ⟨T, 2, none⟩ = some (.slice c.p c.n c.c) := by rw [cell_of Hh.out.2.2.1]; rfl
              have hTs := lt_of_heap Hh.out.2.2.1
              obtain ⟨wi, hwi⟩ : ∃ wi, wi = wh.alloc (.cells (clT c).toArray 36) := ⟨_, rfl⟩
              have hbi : Bl wh wi := by rw [hwi]; exact (Bl.refl _).alloc _
              obtain ⟨X, hX⟩ : ∃ X, X = wh.heap.size := ⟨_, rfl⟩
              have hXi : wi.heap[X]? = some (.cells (clT c).toArray 36 (0, 0)) := by rw [hwi, hX]; exact new_at _ _
              have hown := Hh.out.1.own.bl hbi
              have hcells : ∀ j u, (clT c)[j]? = some u → wi.cell? ((⟨X, 0, none⟩ : Addr).add j) = some u := fun j u hu => by
                rw [Addr.add_lit, Nat.zero_add, cell_of hXi]; simpa using hu
              have hbw : base ≤ wi.heap.size := Nat.le_trans Hh.out.1.ord.2.2.2 hbi.size
              have hcs8 : cs.length ≤ 8 := by have := HL.out.2; omega
              obtain ⟨v', wj, hr, hoj, hgj⟩ := sr.app_one wi base (.slice lp m lc) cs c ⟨X, 0, none⟩ hown hcells (by omega) hbw
              have hwhere := sr_where wi base (.slice lp m lc) cs c ⟨X, 0, none⟩ hown hcells (by omega) v' wj hr
              have HJ : Hid (∃ σ' l' n', Bz W wj P s.size σ' base v' (cs ++ [c]) ∧ LfT s.size q σ' l' n' ∧ (∀ ts, σ' = .ok ts → RepY W wj v' l' (cs ++ [c])) ∧ (∀ ts, σ' = .ok ts → n' + (cs ++ [c]).length = 8)) := by
                have hB := Hh.out.1.app hwi hoj hgj
                rcases HB.out.2.1.on (fun h1 h2 => HNF.out ⟨h1, h2⟩) HA.out with ⟨x, q1, q2⟩ | ⟨us, r1, it, r2, q1, q2, q3, q4, q5⟩
                · rw [q2] at hB
                  exact ⟨.error x, l, 0, hB, q1, fun ts h => (by cases h), fun ts h => (by cases h)⟩
                · have hB2 := Hh.out.1
                  rw [q4] at hB hB2
                  have q6 : nmS s.size (mu s.size wStruct (.ok (t :: r))) = .ok r1 := by rw [q1]; exact q2
                  obtain ⟨bp', bc', cs2, k1, k2, k3⟩ := Hh.out.2.2.2.1 r1 it r2 q6 q3
                  injection k1 with k1 k4 k5
                  subst k1 k4 k5
                  have hce := Hh.out.2.2.2.2.1
                  refine ⟨.ok r2, _, n - 1, hB, q5, fun ts h => ?_, fun ts h => ?_⟩
                  · have := RepZ.app (c := c) (it := it) (M := wf.heap.size) hB2 Hh.out.2.1 (by rw [hce]; exact ⟨cs2, k2, k3⟩) Hh.out.2.2.2.2.2.2 (fun k hk => by have := Hd.out.2.2.2.2.2 k hk; have := Hh.out.2.2.2.2.2.1; omega) (Nat.le_of_lt (lt_of_heap Hh.out.2.2.1)) hwi hgj hwhere
                    rw [show c.nm = (hd s.size us).t by rw [hce, q1]; rfl, show c.a = a by rw [hce]] at this
                    exact this
                  · have h0 : n ≠ 0 := fun h0 => by
                      have h5 := q1
                      have h6 : t.t = wStruct := by
                        have h7 : want s.size wStruct (t :: r) = .ok us := h5
                        unfold want at h7
                        split at h7
                        · assumption
                        · cases h7
                      exact HNF.out ⟨h6, h0⟩
                    rw [List.length_append, ← HL.out.2]
                    show n - 1 + (m + 1) = 8
                    omega
              have HV : Hid (lenV' v' = m + 1 ∧ m ≤ 8) := by
                obtain ⟨p8, c8, hv8, _⟩ := hoj.lie
                refine ⟨?_, by have := HL.out.2; omega⟩
                rw [hv8]
                show (cs ++ [c]).length = m + 1
                rw [List.length_append, ← HL.out.2]; rfl
              have HRn : Hid _ := hr
              have hcl : (clT c).toArray = #[.string (tx c.nm), .int .i64 (c.a : Int), .slice c.p c.n c.c] := rfl
              rw [hcl] at hwi
              have hwi' := hwi.symm
              have hX' : wh.heap.size = X := hX.symm
              clear hcl hwi hX hbi hXi hown hcells hbw hr hoj hgj hwhere hcs8 hn
              go_wp2_with (at_builtin; refine Lib.wpList_append_run _ rfl (.tmp 51) (.tmp 53) _ _ rfl _ _ rfl rfl _ _ HRn.out ?_)
              obtain ⟨σ', l', n', h1, h2, h3, h4⟩ := HJ.out
              refine ⟨⟨σ', cs ++ [c], l', n', h1, h2, h3, h4⟩, ?_⟩
              rw [HV.out.1]
              show 9 - (m + 1) < 9 - m
              have := HV.out.2
              omega

  · have hF := Fl.made (c := 3) (p := (p : Int)) hb2
    have HP : Hid (prT (L s) = .error (3, p)) := by show prT (L s) = _; unfold prT; rw [h1]
    obtain ⟨W, hW⟩ : ∃ W, W = w2.alloc (.cells #[.int .i64 3, .int .i64 (p : Int)] 26) := ⟨_, rfl⟩
    obtain ⟨M, hM⟩ : ∃ M, M = w.heap.size := ⟨_, rfl⟩
    obtain ⟨N, hN⟩ : ∃ N, N = w2.heap.size := ⟨_, rfl⟩
    rw [← hW, ← hM, ← hN] at hF
    have HF : Hid (Fl w W M N 3 (p : Int)) := hF
    unfold flt
    clear hF h1 cX hb2
    go_wp2_with fail
    rw [← hW, ← hM, ← hN]
    clear hW hM hN
    refine (Is_at 3 (p : Int) W).mono ?_
    rintro e w3 ⟨rfl, hb3⟩
    have HF3 : Hid (Fl w w3 M N 3 (p : Int)) := HF.out.step hb3
    obtain ⟨g0, g1, m0, m1, z0, z1, hMs, hNs⟩ := HF3.out.cells
    clear hb3
    have h00 : ((3 : Int) == 0) = false := rfl
    rw [h00]
    go_upto_region 3 with fail
    go_region
    go_wp2
    obtain ⟨k1, k2⟩ := HF3.out.told 3 (p : Int)
    exact bodyPost_ret (v := .tuple #[.slice none 0 0, flt 3 (p : Int)]) (results_tmp_cell (p := 3) (u := 2) (ty := 26) rfl _ _ _ M (flt 3 (p : Int)) rfl (ldF _ _ _ _ k2)) rfl (RtA.bad (k1.trans ((Bl.refl _).drew)) HP.out (by decide))
end Go.Proofs.YtpanodaecjlgaaaGreatDoor.tr
/- The document's reader at a text that is too long. -/
namespace Go.Proofs.YtpanodaecjlgaaaGreatDoor.ex
set_option linter.unusedVariables false
open Go.ChangeShapes Go.WideShapes Go.ChangeAt Go.RowKit
open mem lx

theorem eyes_far {w W w6 : World} {M N : Nat} {c p : Int} {o : Obj} (hF : Fl w W M N c p) (h6 : Bl W w6) (hM : M = w.heap.size) :
    Bl w (((w6.setCell ⟨M, 0, none⟩ (.int .i64 c)).setCell ⟨M, 1, none⟩ (.int .i64 p)).alloc o) ∧
    (((w6.setCell ⟨M, 0, none⟩ (.int .i64 c)).setCell ⟨M, 1, none⟩ (.int .i64 p)).alloc o).heap[M]? = some (.cells #[.int .i64 c, .int .i64 p] 26 (0, 0)) ∧
    w.heap.size ≤ w6.heap.size := by
  have hF6 := hF.step h6
  have hset := upd2 w6 M _ _ (.int .i64 c) (.int .i64 p) _ hF6.m
  have hgp : Gp M w6 ((w6.setCell ⟨M, 0, none⟩ (.int .i64 c)).setCell ⟨M, 1, none⟩ (.int .i64 p)) := (Gp.set _).trans (Gp.set _)
  have hbs : Bl w ((w6.setCell ⟨M, 0, none⟩ (.int .i64 c)).setCell ⟨M, 1, none⟩ (.int .i64 p)) := Gp.below hF6.bl hgp (by omega)
  generalize ((w6.setCell ⟨M, 0, none⟩ (.int .i64 c)).setCell ⟨M, 1, none⟩ (.int .i64 p)) = X at *
  have hX : Bl X (X.alloc o) := (Bl.refl _).alloc _
  exact ⟨hbs.trans hX, by rw [Below.block hX M (lt_of_heap hset)]; exact hset, hF6.bl.size⟩
set_option maxRecDepth 10000 in
set_option maxHeartbeats 2000000 in
theorem newEyes_long (s : ByteArray) (w : World) (hs : 3000 < s.size) :
    Calls Tryz.prog 24 #[.string s] w fun e w' => Bl w w' ∧ ∃ P, w.heap.size ≤ P ∧ e = .returned (.tuple #[.pointer (some ⟨P, 0, none⟩), flt 4 (-1)]) := by
  have cX := fun w => refLex_long s w hs
  go_enter Tryz.func24, Tryz.ntmps24
  go_wp2_with fail
  refine (cX _).mono ?_
  rintro e w2 ⟨rfl, hb2⟩
  unfold flt
  go_upto_region 2 with fail
  have hF := Fl.made (c := 4) (p := -1) hb2
  obtain ⟨W, hW⟩ : ∃ W, W = (w2.alloc (.cells #[.int .i64 4, .int .i64 (-1)] 26)) := ⟨_, rfl⟩
  rw [← hW] at hF ⊢
  obtain ⟨M, hM⟩ : ∃ M, M = w.heap.size := ⟨_, rfl⟩
  obtain ⟨N, hN⟩ : ∃ N, N = w2.heap.size := ⟨_, rfl⟩
  rw [← hM, ← hN] at hF
  rw [← hM, ← hN]
  have HF : Hid (Fl w W M N 4 (-1) ∧ M = w.heap.size) := ⟨hF, hM⟩
  obtain ⟨g0, g1, m0, m1, z0, z1, hMs, hNs⟩ := hF.cells
  have hMN := hF.ge.2.2
  clear hW hM hN hF hb2 cX
  have cG : ∀ w, Calls Tryz.prog 32 #[] w fun e w' => e = .returned (.agg #[.int .i64 0, .int .i64 (-1)]) ∧ Bl w w' := Good_at
  go_region_with (go_at_call 32; refine (cG _).mono ?_; rintro e w6 ⟨rfl, hb6⟩; have HB6 : Hid (Bl W w6) := ((Bl.refl W).drew).trans hb6; obtain ⟨q0, q1, q2, q3, y0, y1, hM6, hN6⟩ := (HF.out.1.step HB6.out).cells; clear hb6)
  all_goals
    have HK : Hid _ := eyes_far (o := .cells #[.slice none 0 0, .int .i64 (s.size : Int), .int .i64 0, .int .i64 (-1)] 55) HF.out.1 HB6.out HF.out.2
    clear q0 q1 q2 q3 y0 y1 g0 g1 m0 m1 z0 z1
    go_wp2
    exact bodyPost_ret (v := .tuple #[.pointer (some ⟨w6.heap.size, 0, none⟩), flt 4 (-1)]) (results_tmp_cell (p := 3) (u := 2) (ty := 26) rfl _ _ _ M (flt 4 (-1)) rfl (ldF _ _ _ _ HK.out.2.1)) rfl ⟨HK.out.1, _, HK.out.2.2, rfl⟩
end Go.Proofs.YtpanodaecjlgaaaGreatDoor.ex
/- The document's reader of templates at a text that is too long. -/
namespace Go.Proofs.YtpanodaecjlgaaaGreatDoor.tr
set_option linter.unusedVariables false
open Go.ChangeShapes Go.WideShapes Go.ChangeAt Go.RowKit
open mem lx ex tm

set_option maxRecDepth 10000 in
set_option maxHeartbeats 2000000 in
theorem TParse_long (s : ByteArray) (w : World) (hs : 3000 < s.size) :
    Calls Tryz.prog 9 #[.string s] w fun e w' => e = .returned (.tuple #[(.slice none 0 0), flt 4 (-1)]) ∧ Bl w w' := by
  have cX := fun w => newEyes_long s w hs
  go_enter Tryz.func9, Tryz.ntmps9
  go_wp2_with fail
  refine (cX _).mono ?_
  rintro e w2 ⟨hb2, P, hP, rfl⟩
  have hF := Fl.made (c := 4) (p := -1) hb2
  obtain ⟨W, hW⟩ : ∃ W, W = w2.alloc (.cells #[.int .i64 4, .int .i64 (-1)] 26) := ⟨_, rfl⟩
  obtain ⟨M, hM⟩ : ∃ M, M = w.heap.size := ⟨_, rfl⟩
  obtain ⟨N, hN⟩ : ∃ N, N = w2.heap.size := ⟨_, rfl⟩
  rw [← hW, ← hM, ← hN] at hF
  have HF : Hid (Fl w W M N 4 (-1)) := hF
  unfold flt
  clear hF hP cX hb2
  go_wp2_with fail
  rw [← hW, ← hM, ← hN]
  clear hW hM hN
  refine (Is_at 4 (-1) W).mono ?_
  rintro e w3 ⟨rfl, hb3⟩
  have HF3 : Hid (Fl w w3 M N 4 (-1)) := HF.out.step hb3
  obtain ⟨g0, g1, m0, m1, z0, z1, hMs, hNs⟩ := HF3.out.cells
  clear hb3
  have h00 : ((4 : Int) == 0) = false := rfl
  rw [h00]
  go_upto_region 3 with fail
  go_region
  go_wp2
  obtain ⟨k1, k2⟩ := HF3.out.told 4 (-1)
  exact bodyPost_ret (v := .tuple #[(.slice none 0 0), flt 4 (-1)]) (results_tmp_cell (p := 3) (u := 2) (ty := 26) rfl _ _ _ M (flt 4 (-1)) rfl (ldF _ _ _ _ k2)) rfl ⟨rfl, k1.trans ((Bl.refl _).drew)⟩
end Go.Proofs.YtpanodaecjlgaaaGreatDoor.tr
