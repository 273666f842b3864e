/- What the closure of lz.Pack does: it tells PLAIN bytes. -/
import Derived.Test.YtmchpmfogjhpoaaDoorLz3
import Derived.Test.YtmchpmfogjhpoaaDoorByRow
import Derived.StillTailTactics
namespace Go.Proofs.YtmchpmfogjhpoaaDoor.lz
set_option linter.unusedVariables false
open Go.ChangeShapes Go.WideShapes Go.ChangeAt Go.RowKit
open mem rows

/-- What Pack has made so far: the text lies at A, what is told at A + 1, from where on PLAIN bytes aren't told yet at A + 2. -/
structure Pk (w0 w : World) (A : Nat) (s : ByteArray) (v : Value) (L : List Int) (fr : Nat) : Prop where
  str : Vr w A (.string s) 9
  pl : Vr w (A + 1) v 44
  frm : Vr w (A + 2) (.int .i64 (fr : Int)) 3
  own : BOwn w (A + 3) v L
  bl : Bl w0 w
  base : w0.heap.size ≤ A
theorem _root_.Go.Proofs.YtmchpmfogjhpoaaDoor.rows.BOwn.drew {w : World} {base : Nat} {v : Value} {l : List Int} (h : BOwn w base v l) : BOwn w.drew base v l := h
theorem Pk.drew {w0 w : World} {A : Nat} {s : ByteArray} {v : Value} {L : List Int} {fr : Nat} (h : Pk w0 w A s v L fr) : Pk w0 w.drew A s v L fr := ⟨h.str, h.pl, h.frm, h.own, h.bl.drew, h.base⟩
theorem Pk.step {w0 w w' : World} {A : Nat} {s : ByteArray} {v : Value} {L : List Int} {fr : Nat} (h : Pk w0 w A s v L fr) (hb : Bl w w') : Pk w0 w' A s v L fr :=
  ⟨h.str.step hb, h.pl.step hb, h.frm.step hb, h.own.step hb, h.bl.trans hb, h.base⟩
theorem Pk.put {w0 w w' : World} {A : Nat} {s : ByteArray} {v v' : Value} {L L' : List Int} {fr : Nat} (h : Pk w0 w A s v L fr) (ho : BOwn w' (A + 3) v' L') (hg : w.grownBy w' v.ownBlock) : Pk w0 (w'.setCell ⟨A + 1, 0, none⟩ v') A s v' L' fr := by
  have h1 := h.own.ne h.str (by decide)
  have h2 := h.own.ne h.pl (by decide)
  have h3 := h.own.ne h.frm (by decide)
  have p2 := h.pl.grown hg h2
  exact ⟨(h.str.grown hg h1).set_other (by omega) _, p2.set _, (h.frm.grown hg h3).set_other (by omega) _, ho.set_other (ho.ne p2 (by decide)) _,
    (bl_grown h.bl hg (fun k e => by have := (h.own.block k e).1; have := h.base; omega)).setCell (by have := h.base; show w0.heap.size ≤ A + 1; omega) _, h.base⟩
theorem Pk.move {w0 w : World} {A : Nat} {s : ByteArray} {v : Value} {L : List Int} {fr : Nat} (h : Pk w0 w A s v L fr) (fr' : Nat) : Pk w0 (w.setCell ⟨A + 2, 0, none⟩ (.int .i64 (fr' : Int))) A s v L fr' :=
  ⟨h.str.set_other (by omega) _, h.pl.set_other (by omega) _, h.frm.set _, h.own.set_other (h.own.ne h.frm (by decide)) _, h.bl.setCell (by have := h.base; show w0.heap.size ≤ A + 2; omega) _, h.base⟩
/-- Rows of numbers stay what they were, but in block F. -/
def Kp (F : Nat) (w w' : World) : Prop := ∀ B R, B ≠ F → RowI w B R → RowI w' B R
theorem Kp.refl (F : Nat) (w : World) : Kp F w w := fun _ _ _ h => h
theorem Kp.trans {F : Nat} {a b c : World} (h : Kp F a b) (k : Kp F b c) : Kp F a c := fun B R hne hr => k B R hne (h B R hne hr)
theorem Kp.bl {F : Nat} {w w' : World} (h : Bl w w') : Kp F w w' := fun _ _ _ hr => hr.step h
theorem rowI_ne {w : World} {base B : Nat} {v : Value} {l R : List Int} (h : BOwn w base v l) (k : RowI w B R) : v.ownBlock ≠ some B := by
  intro e
  obtain ⟨c, hc⟩ := h.typed e
  unfold RowI at k
  rw [k] at hc
  injection hc with hc
  injection hc with _ h2 _
  exact absurd h2 (by decide)
theorem Pk.keep {w0 w w' : World} {A : Nat} {s : ByteArray} {v v' : Value} {L : List Int} {fr : Nat} (h : Pk w0 w A s v L fr) (hg : w.grownBy w' v.ownBlock) : Kp (A + 2) w (w'.setCell ⟨A + 1, 0, none⟩ v') := fun B R hne hr => by
  have h1 := rowI_ne h.own hr
  have hlt := hr.lt
  have hB : ¬ A + 1 = B := fun e => by
    have := h.pl
    unfold Vr at this
    unfold RowI at hr
    rw [e, hr] at this
    injection this with this
    injection this with _ h2 _
    exact absurd h2 (by decide)
  unfold RowI at hr ⊢
  rw [← hg.block B hlt (fun e => h1 e.symm)] at hr
  simp [World.setCell, Array.getElem?_modify, hB, hr]
theorem Kp.move (A : Nat) (w : World) (x : Value) : Kp (A + 2) w (w.setCell ⟨A + 2, 0, none⟩ x) := fun B R hne hr => by
  unfold RowI at hr ⊢
  simp [World.setCell, Array.getElem?_modify, hr, show ¬ A + 2 = B from fun e => hne e.symm]
theorem told_step (g : Nat → Int) (a b k : Nat) (h : a < b) (hk : k = min (b - a) 128) (L : List Int) : (L ++ [((k : Nat) : Int) - 1] ++ ((List.range k).map fun i => g (a + i))) ++ told g (a + k) b = L ++ told g a b := by
  conv => rhs; rw [told, dif_pos h, ← hk]
  simp [List.append_assoc]
theorem told_none (g : Nat → Int) (a : Nat) : told g a a = [] := by rw [told, dif_neg (Nat.lt_irrefl _)]
set_option maxHeartbeats 1000000 in
set_option maxRecDepth 10000 in
theorem plain_at (s : ByteArray) (w0 w : World) (A to fr : Nat) (v : Value) (L : List Int) (hs : s.size ≤ 4000) (hto : to ≤ s.size) (hfr : fr ≤ to) (hL : (L ++ told (sb s) fr to).length ≤ 10000) (h : Pk w0 w A s v L fr) :
    Calls Tryd.prog 21 #[.int .i64 (to : Int), .pointer (some ⟨A + 2, 0, none⟩), .pointer (some ⟨A + 1, 0, none⟩), .pointer (some ⟨A, 0, none⟩)] w fun e w' => e = .returned (.tuple #[]) ∧ (∃ v', Pk w0 w' A s v' (L ++ told (sb s) fr to) to) ∧ Kp (A + 2) w w' := by
  obtain ⟨T, hT⟩ : ∃ T, T = L ++ told (sb s) fr to := ⟨_, rfl⟩
  rw [← hT] at hL ⊢
  have HT : Hid (L ++ told (sb s) fr to = T) := hT.symm
  have H0 : Hid (Pk w0 w A s v L fr) := h
  clear hT h
  go_enter Tryd.func21, Tryd.ntmps21
  go_wp2
  go_loopw [5] (fun _ wr => ∃ (v : Value) (L : List Int) (fr : Nat), fr ≤ to ∧ Hid (Pk w0 wr A s v L fr ∧ L ++ told (sb s) fr to = T ∧ Kp (A + 2) w wr)) (fun _ wr => to - (intOf ((wr.cell? ⟨A + 2, 0, none⟩).getD (.int .i64 0))).toNat)
  case atStart => exact ⟨v, L, fr, hfr, ⟨H0.out, HT.out, Kp.refl _ _⟩⟩
  case round =>
    clear H0 HT hfr v L fr
    obtain ⟨v, L, fr, hfr, H⟩ := hrel
    have cF := H.out.1.frm.cell
    have CF0 : Hid (wr.cell? ⟨A + 2, 0, none⟩ = some (.int .i64 (fr : Int))) := cF
    have cP := H.out.1.pl.cell
    have cS := H.out.1.str.cell
    by_cases hlt : fr < to
    · have hltz : (fr : Int) < to := by omega
      obtain ⟨k, hk⟩ : ∃ k, k = min (to - fr) 128 := ⟨_, rfl⟩
      have hmin : (if (128 : Int) < (to : Int) - (fr : Int) then (128 : Int) else (to : Int) - (fr : Int)) = (k : Int) := by split <;> omega
      have hkb : 1 ≤ k ∧ k ≤ 128 ∧ fr + k ≤ to := by omega
      have hst := told_step (sb s) fr to k hlt hk L
      rw [H.out.2.1] at hst
      have hlen : L.length + 1 + k ≤ 10000 := by
        have := congrArg List.length hst
        simp only [List.length_append, List.length_cons, List.length_nil, List.length_map, List.length_range] at this
        omega
      obtain ⟨y, hy⟩ : ∃ y : Int, y = (k : Int) - 1 := ⟨_, rfl⟩
      have hyb : y % 256 = y := by omega
      have hyz : (k : Int) - 1 = y := hy.symm
      rw [hyz] at hst
      clear hk hy
      obtain ⟨v1, w1, hr1, ho1, hg1⟩ := app_lit wr (A + 3) v L [y] H.out.1.own (by simp; omega) (by have := H.out.1.frm.lt; omega)
      have hb1 : Bl wr (wr.alloc (.cells ([y].map (Value.int .u8)).toArray 5)) := (Bl.refl _).alloc _
      have hp1 := (H.out.1.step hb1).put ho1 hg1
      have hk1 : Kp (A + 2) w (w1.setCell ⟨A + 1, 0, none⟩ v1) := (H.out.2.2.trans (Kp.bl hb1)).trans ((H.out.1.step hb1).keep hg1)
      have q1 := (H.out.1.step hb1).pl.grown hg1 ((H.out.1.step hb1).own.ne (H.out.1.step hb1).pl (by decide))
      obtain ⟨p1, c1, hv1⟩ := ho1.slice
      obtain ⟨n1, hn1⟩ : ∃ n, n = (L ++ [y]).length := ⟨_, rfl⟩
      rw [← hn1] at hv1
      subst hv1
      clear hn1
      have cP1 := q1.cell
      have fP1 := q1.frozen
      have HP1 : Hid (Pk w0 (w1.setCell ⟨A + 1, 0, none⟩ (.slice p1 n1 c1)) A s (.slice p1 n1 c1) (L ++ [y]) fr ∧ Kp (A + 2) w (w1.setCell ⟨A + 1, 0, none⟩ (.slice p1 n1 c1))) := ⟨hp1, hk1⟩
      have HR1 : Hid _ := hr1
      have HST : Hid _ := hst
      clear hr1 ho1 hg1 hb1 hp1 hk1 q1 H hst
      go_wp2_with (at_builtin; refine Lib.wpList_append_run _ rfl (.tmp 13) (.tmp 17) _ _ rfl _ _ rfl rfl _ _ HR1.out ?_)
      generalize w1.setCell ⟨A + 1, 0, none⟩ (.slice p1 n1 c1) = wb at HP1 ⊢
      clear cF cP cS cP1 fP1 HR1
      have cF := HP1.out.1.frm.cell
      have cP := HP1.out.1.pl.cell
      have cS := HP1.out.1.str.cell
      obtain ⟨j, hj⟩ : ∃ j, j = fr + k := ⟨_, rfl⟩
      have hjz : (fr : Int) + (k : Int) = (j : Int) := by omega
      have hwj : IntKind.i64.wrap ((fr : Int) + (k : Int)) = (j : Int) := by rw [IntKind.wrap_i64]; omega
      have hwj2 : IntKind.i64.wrap (j : Int) = (j : Int) := by rw [IntKind.wrap_i64]; omega
      have hj1 : fr ≤ j := by omega
      have hj2 : j ≤ s.size := by omega
      have g1 : (0 : Int) ≤ (fr : Int) := by omega
      have g2 : (fr : Int) ≤ (j : Int) := by omega
      have g3 : (j : Int) ≤ (s.size : Int) := by omega
      obtain ⟨t, ht⟩ : ∃ t, t = s.extract fr j := ⟨_, rfl⟩
      have hex : s.extract fr j = t := ht.symm
      have hsl : ∀ w, (Instr.slice 9 (.string s) (some (.int .i64 (fr : Int))) (some (.int .i64 (j : Int))) none).run Tryd.prog w = .ok (.string t) w := fun w => by
        rw [run_slice_string w 9 s .i64 .i64 (fr : Int) (j : Int) Tryd.underlying9 g1 g2 g3, Int.toNat_natCast, Int.toNat_natCast, hex]
      have hbt : bs t = (List.range k).map fun i => sb s (fr + i) := by rw [ht, bs_extract s fr j hj1 hj2, show j - fr = k by omega]
      have hts : t.size = k := by rw [ht, ByteArray.size_extract]; omega
      obtain ⟨v2, w2, hr2, ho2, hg2⟩ := app_str wb.drew (A + 3) (.slice p1 n1 c1) (L ++ [y]) t HP1.out.1.own.drew (by simp; omega) (by have := HP1.out.1.frm.lt; show A + 3 ≤ wb.heap.size; omega)
      have q2 := HP1.out.1.drew.pl.grown hg2 (HP1.out.1.drew.own.ne HP1.out.1.drew.pl (by decide))
      have q3 := HP1.out.1.drew.frm.grown hg2 (HP1.out.1.drew.own.ne HP1.out.1.drew.frm (by decide))
      have cF2 := q3.cell
      have fF2 := q3.frozen
      have hp2 := HP1.out.1.drew.put ho2 hg2
      have hk2 : Kp (A + 2) w (w2.setCell ⟨A + 1, 0, none⟩ v2) := HP1.out.2.trans (HP1.out.1.drew.keep hg2)
      obtain ⟨p2, c2, hv2⟩ := ho2.slice
      obtain ⟨n2, hn2⟩ : ∃ n, n = (L ++ [y] ++ bs t).length := ⟨_, rfl⟩
      rw [← hn2] at hv2
      subst hv2
      have cP2 := q2.cell
      have fP2 := q2.frozen
      have HP2 : Hid (Pk w0 (w2.setCell ⟨A + 1, 0, none⟩ (.slice p2 n2 c2)) A s (.slice p2 n2 c2) (L ++ [y] ++ bs t) fr ∧ Kp (A + 2) w (w2.setCell ⟨A + 1, 0, none⟩ (.slice p2 n2 c2))) := ⟨hp2, hk2⟩
      have HR2 : Hid _ := hr2
      have HBT : Hid (bs t = (List.range k).map fun i => sb s (fr + i)) := hbt
      have HJ : Hid (j = fr + k) := hj
      clear hr2 ho2 hg2 q2 q3 hp2 hk2 hbt hts ht hn2 HP1 hj
      refine wp_region_still_tail 7 (by kernel_rfl) (by kernel_rfl) ?_
      change wpStill _ _ wb.drew (fun a' => wpList _ _ _ _ a' wb.drew) _ _
      simp only [List.take_succ_cons, List.take_zero, List.drop_succ_cons, List.drop_zero]
      iterate 7 still_step
      refine wpStill_nil ?_
      go_wp2_with (at_builtin; refine Lib.wpList_append_run _ rfl (.tmp 19) (.tmp 25) _ _ rfl _ _ rfl rfl _ _ HR2.out ?_)
      go_roundw
      case rel => exact ⟨_, _, j, by rw [HJ.out]; omega, ⟨HP2.out.1.move j, by rw [HBT.out, HJ.out]; exact HST.out, HP2.out.2.trans (Kp.move A _ _)⟩⟩
      case measure =>
        have e1 := (HP2.out.1.move j).frm.cell
        rw [CF0.out, e1, HJ.out]
        simp [intOf]
        omega
    · have hltz : ¬ (fr : Int) < to := by omega
      obtain rfl : fr = to := by omega
      have HE : Hid (∃ v', Pk w0 wr A s v' T fr) := ⟨v, by
        have := H.out.2.1
        rw [told_none, List.append_nil] at this
        rw [← this]
        exact H.out.1⟩
      go_wp2
      go_end0
      exact ⟨rfl, HE.out, H.out.2.2⟩
end Go.Proofs.YtmchpmfogjhpoaaDoor.lz
