/- Texts laid together: Ri, Ty5, TyP, Qi. -/
import Derived.Test.YtpanodaecjlgaaaZ6
import Derived.Laws.AppendOwn
import Derived.Lib.AppendZeros
import Derived.Test.YtpanodaecjlgaaaZ19
import Derived.Deep.Upon
/- A row of numbers that grows: what append makes of it, and what lies in it then; two rows that lie apart. -/
namespace Go.Proofs.Ytpanodaecjlgaaa.ri
set_option linter.unusedVariables false
open Go.ChangeShapes Go.WideShapes Go.ChangeAt Go.RowKit
open mem

def rowI (l : List Int) : List Value := l.map (Value.int .i64)
theorem rowI_get (l : List Int) (k : Nat) (h : k < l.length) : (rowI l)[k]? = some (.int .i64 (l.getD k 0)) := by simp [rowI, h]
theorem infoI : (Try.prog.info? 3).map (fun i => (i.zero, i.size, i.bytes)) = some (some (.int .i64 0), 1, 8) := by kernel_rfl
theorem infoI' : ∃ i, Try.prog.info? 3 = some i ∧ i.zero = some (.int .i64 0) ∧ i.size = 1 ∧ i.bytes = 8 := by
  obtain ⟨i, h1, h2⟩ := Option.map_eq_some_iff.1 infoI
  simp only [Prod.mk.injEq] at h2
  exact ⟨i, h1, h2.1, h2.2.1, h2.2.2⟩
/-- A row of the call's own that holds just these numbers. -/
def Own (w : World) (base : Nat) (v : Value) (l : List Int) : Prop := w.ownsRow base 3 1 v l.length (rowI l)
theorem Own.nil (w : World) (base : Nat) : Own w base (.slice none 0 0) [] := World.ownsRow_nil _ _ _ _
theorem Own.shape {w : World} {base : Nat} {v : Value} {l : List Int} (h : Own w base v l) : (v = .slice none 0 0 ∧ l = []) ∨
    ∃ g cap, v = .slice (some ⟨g, 0, none⟩) l.length cap ∧ base ≤ g ∧ g < w.heap.size ∧ l.length ≤ cap ∧ cap ≤ maxLen ∧ ∀ k, k < l.length → w.cell? ⟨g, k, none⟩ = some (.int .i64 (l.getD k 0)) := by
  rcases h.2 with ⟨h1, h2⟩ | ⟨g, cap, cur, rfl, hbg, hg, hnc, hcm, hcs, htake⟩
  · exact Or.inl ⟨h1, List.eq_nil_of_length_eq_zero h2⟩
  · refine Or.inr ⟨g, cap, rfl, hbg, ?_, hnc, hcm, fun k hk => ?_⟩
    · rcases Nat.lt_or_ge g w.heap.size with h | h
      · exact h
      · rw [Array.getElem?_eq_none h] at hg; cases hg
    · have := rowI_get l k hk
      rw [← htake, Nat.mul_one, List.getElem?_take, if_pos hk] at this
      simp only [World.cell?, hg]
      simpa using this
theorem Own.block {w : World} {base : Nat} {v : Value} {l : List Int} (h : Own w base v l) : ∀ k, v.ownBlock = some k → base ≤ k ∧ k < w.heap.size := World.ownsRow.lt h
theorem Own.step {w w' : World} {base : Nat} {v : Value} {l : List Int} (h : Own w base v l) (hb : Bl w w') : Own w' base v l := by
  refine ⟨h.1, ?_⟩
  rcases h.2 with h | ⟨g, cap, cur, h1, h2, h3, h4⟩
  · exact Or.inl h
  · refine Or.inr ⟨g, cap, cur, h1, h2, ?_, h4⟩
    have hg : g < w.heap.size := by
      rcases Nat.lt_or_ge g w.heap.size with h | h
      · exact h
      · rw [Array.getElem?_eq_none h] at h3; cases h3
    rw [Below.block hb g hg]
    exact h3
theorem Own.kept {w w' : World} {base : Nat} {v : Value} {l : List Int} {row : Option Nat} (h : Own w base v l) (hg : w.grownBy w' row) (hne : ∀ k, v.ownBlock = some k → row ≠ some k) : Own w' base v l :=
  World.ownsRow.kept h hg (by
    cases e : v.ownBlock with
    | none => exact Or.inl rfl
    | some k => exact Or.inr (fun e' => hne k e e'.symm))
theorem bl_grown {w0 w w' : World} {row : Option Nat} (h : Bl w0 w) (hg : w.grownBy w' row) (hrow : ∀ k, row = some k → w0.heap.size ≤ k) : Bl w0 w' := by
  refine ⟨hg.os.trans h.os, hg.tape.trans h.tape, hg.output.trans h.output, Nat.le_trans h.size hg.size, fun k hk => ?_⟩
  rw [hg.block k (Nat.lt_of_lt_of_le hk h.size) (fun e => by have := hrow k e.symm; omega)]
  exact h.block k hk
theorem app_one (w : World) (base : Nat) (v : Value) (l : List Int) (z : Int) (X : Nat) (hown : Own w base v l) (hX : w.cell? ⟨X, 0, none⟩ = some (.int .i64 z)) (hn : l.length ≤ 5000) (hb : base ≤ w.heap.size) :
    ∃ v' w', (Builtin.append_ #[38, 38] 38 #[v, .slice (some ⟨X, 0, none⟩) 1 1]).run Try.prog w = .ok v' w' ∧ Own w' base v' (l ++ [z]) ∧ w.grownBy w' v.ownBlock ∧ (v'.ownBlock = v.ownBlock ∨ v'.ownBlock = some w.heap.size) := by
  obtain ⟨i, hi, hz, h1, h2⟩ := infoI'
  have hnews : ∀ j u, [Value.int .i64 z][j]? = some u → w.cell? ((⟨X, 0, none⟩ : Addr).add j) = some u := fun j u hu => by
    cases j with
    | zero => simp at hu; subst hu; simpa [Addr.add] using hX
    | succ j => simp at hu
  obtain ⟨v', w', hr, ho, hg, _⟩ := run_append_own (P := Try.prog) w base 38 38 3 i (.int .i64 0) 1 8 Try.underlying38 hi hz h1 h2 rfl (by decide) v l.length (rowI l) hown
    ⟨X, 0, none⟩ 1 1 [.int .i64 z] rfl hnews (fun u hu => by simp at hu; subst hu; rfl) (by simp [maxLen]; omega) (by omega) hb
  refine ⟨v', w', hr, ?_, hg, ?_⟩
  · have e : rowI (l ++ [z]) = rowI l ++ [.int .i64 z] := by simp [rowI]
    unfold Own
    rw [e, List.length_append]
    exact ho
  · rcases hown.2 with ⟨rfl, hl0⟩ | ⟨g, cap, cur, rfl, hbg, hg, hnc, hcm, hcs, htake⟩
    · have hr2 := run_append_nil (P := Try.prog) w 38 38 3 i (.int .i64 0) Try.underlying38 hi hz ⟨X, 0, none⟩ 1 1 [.int .i64 z] (by rw [h1]; rfl) hnews (by omega) (by omega) (by rw [h2]; omega)
      rw [hr2] at hr
      injection hr with e1 _
      exact Or.inr (by rw [← e1]; rfl)
    · by_cases hroom : l.length + 1 ≤ cap
      · have hr2 := run_append_room (P := Try.prog) w 38 38 3 i Try.underlying38 hi g l.length cap cur hg ⟨X, 0, none⟩ 1 1 [.int .i64 z] (by rw [h1]; rfl) hnews (fun u hu => by simp at hu; subst hu; rfl) hroom (by rw [h1, hcs]; simp; omega)
        rw [hr2] at hr
        injection hr with e1 _
        exact Or.inl (by rw [← e1]; rfl)
      · have holds : ∀ j u, (rowI l)[j]? = some u → w.cell? ((⟨g, 0, none⟩ : Addr).add j) = some u := World.ownsRow.cells hown (g := g) rfl
        have hr2 := run_append_grow (P := Try.prog) w 38 38 3 i (.int .i64 0) Try.underlying38 hi hz ⟨g, 0, none⟩ l.length cap (rowI l) (by rw [h1]; exact hown.1) holds ⟨X, 0, none⟩ 1 1 [.int .i64 z] (by rw [h1]; rfl) hnews (by omega) (by omega) (growslice_fits (by omega) (by rw [h2]; omega))
        rw [hr2] at hr
        injection hr with e1 _
        exact Or.inr (by rw [← e1]; rfl)
/-- An append of one number, as a step of a walk. -/
theorem wpL_app {ops : Array Oper} {rest : List Oper} {o : Oper} {a : Act} {Q : Exit → Act → World → Prop} {w : World} (hgd : o.guard = none) (s x : Operand)
    (ho : o.op = .call { callee := .builtin .append, args := #[s, x], argTypes := #[38, 38] }) (hty : o.type = 38) (v : Value) (l : List Int) (z : Int) (X : Nat) (hs : a.eval s = v) (hx : a.eval x = .slice (some ⟨X, 0, none⟩) 1 1)
    (base : Nat) (hown : Own w base v l) (hX : w.cell? ⟨X, 0, none⟩ = some (.int .i64 z)) (hn : l.length ≤ 5000) (hb : base ≤ w.heap.size)
    (h : ∀ v' w', Own w' base v' (l ++ [z]) → w.grownBy w' v.ownBlock → (v'.ownBlock = v.ownBlock ∨ v'.ownBlock = some w.heap.size) → wpList Try.prog ops Q rest (a.put o.dst v') w') : wpList Try.prog ops Q (o :: rest) a w := by
  obtain ⟨v', w', hr, h1, h2, h3⟩ := app_one w base v l z X hown hX hn hb
  exact Lib.wpList_append_run w hgd s x _ _ ho v _ hs hx v' w' (by rw [hty]; exact hr) (h v' w' h1 h2 h3)
/-- Two rows of the call's own that lie apart. -/
structure Own2 (w : World) (base : Nat) (v1 : Value) (l1 : List Int) (v2 : Value) (l2 : List Int) : Prop where
  a : Own w base v1 l1
  b : Own w base v2 l2
  apart : ∀ k, v1.ownBlock = some k → v2.ownBlock ≠ some k
  le : base ≤ w.heap.size
theorem Own2.step {w w' : World} {base : Nat} {v1 v2 : Value} {l1 l2 : List Int} (h : Own2 w base v1 l1 v2 l2) (hb : Bl w w') : Own2 w' base v1 l1 v2 l2 :=
  ⟨h.a.step hb, h.b.step hb, h.apart, Nat.le_trans h.le hb.size⟩
theorem Own2.alloc {w : World} {base : Nat} {v1 v2 : Value} {l1 l2 : List Int} (h : Own2 w base v1 l1 v2 l2) (o : Obj) : Own2 (w.alloc o) base v1 l1 v2 l2 := h.step ((Bl.refl w).alloc o)
theorem Own2.first {w w' : World} {base : Nat} {v1 v2 v' : Value} {l1 l2 l' : List Int} (h : Own2 w base v1 l1 v2 l2) (ho : Own w' base v' l') (hg : w.grownBy w' v1.ownBlock) (hv : v'.ownBlock = v1.ownBlock ∨ v'.ownBlock = some w.heap.size) : Own2 w' base v' l' v2 l2 := by
  refine ⟨ho, h.b.kept hg (fun k e e' => h.apart k e' e), fun k e e' => ?_, Nat.le_trans h.le hg.size⟩
  rcases hv with hv | hv
  · exact h.apart k (by rw [← hv]; exact e) e'
  · have := (h.b.block k e').2
    rw [hv] at e
    injection e with e
    omega
theorem Own2.second {w w' : World} {base : Nat} {v1 v2 v' : Value} {l1 l2 l' : List Int} (h : Own2 w base v1 l1 v2 l2) (ho : Own w' base v' l') (hg : w.grownBy w' v2.ownBlock) (hv : v'.ownBlock = v2.ownBlock ∨ v'.ownBlock = some w.heap.size) : Own2 w' base v1 l1 v' l' := by
  refine ⟨h.a.kept hg (fun k e e' => h.apart k e e'), ho, fun k e e' => ?_, Nat.le_trans h.le hg.size⟩
  rcases hv with hv | hv
  · exact h.apart k e (by rw [← hv]; exact e')
  · have := (h.a.block k e).2
    rw [hv] at e'
    injection e' with e'
    omega
end Go.Proofs.Ytpanodaecjlgaaa.ri
/- Whether templates fit together: the Checks under a Check. -/
namespace Go.Proofs.Ytpanodaecjlgaaa.tm
set_option linter.unusedVariables false
open Go.ChangeShapes Go.WideShapes Go.ChangeAt Go.RowKit Go.Shelf
open mem lx ex

def pf (ds : List D) (a j : Nat) : List Nat := ((List.range j).drop a).filter (isC ds)
theorem pf_start (ds : List D) (a j : Nat) (h : j ≤ a) : pf ds a j = [] := by
  unfold pf
  rw [List.drop_eq_nil_of_le (by rw [List.length_range]; exact h)]
  rfl
theorem pf_step (ds : List D) (a j : Nat) (h : a ≤ j) : pf ds a (j + 1) = pf ds a j ++ (if isC ds j = true then [j] else []) := by
  unfold pf
  rw [List.range_succ, List.drop_append_of_le_length (by rw [List.length_range]; exact h), List.filter_append]
  congr 1
  cases hc : isC ds j <;> simp [hc]
theorem pf_len (ds : List D) (a j : Nat) : (pf ds a j).length ≤ j := by
  unfold pf
  refine Nat.le_trans (List.length_filter_le _ _) ?_
  rw [List.length_drop, List.length_range]
  omega
theorem under_is (ds : List D) (i : Nat) (d : D) (h : ds[i]? = some d) : (∀ a b, ends ds d = (some a, some b) → under ds i = pf ds a (b + 1)) ∧ (∀ b, ends ds d = (none, b) → under ds i = []) ∧ (∀ a, ends ds d = (a, none) → under ds i = []) := by
  unfold under
  rw [h]
  dsimp only
  refine ⟨fun a b he => by rw [he]; rfl, fun b he => by rw [he], fun a he => by rw [he]; cases a <;> rfl⟩
def ints (l : List Nat) : List Int := l.map (fun k : Nat => (k : Int))
theorem ints_app (a : List Nat) (k : Nat) : ints (a ++ [k]) = ints a ++ [(k : Int)] := by simp [ints]
theorem ints_len (a : List Nat) : (ints a).length = a.length := by simp [ints]
set_option maxRecDepth 10000 in
set_option maxHeartbeats 4000000 in
theorem under_at (x : C) (i : Nat) (cs : List C) (ok : Nat → Prop) (p : Option Addr) (n c : Nat) (w : World) (hin : ir.Lie w ok p n c cs) (hn : n ≤ 3000) (hx : cs[i]? = some x) :
    Calls Try.prog 27 #[.slice p n c, .int .i64 (i : Int)] w fun e w' => ∃ v, e = .returned v ∧ Bl w w' ∧ ri.Own w' w.heap.size v (ints (under (cs.map C.d) i)) := by
  have hil := (List.getElem?_eq_some_iff.1 hx).1
  have hnc := hin.1
  have hncap := hin.2.1
  obtain ⟨X, rfl, _, g0', g⟩ := lie_at hin i x hx
  have g0 : w.cell? (X.add (i * 13)) = some (.int .i64 (x.d.kd : Int)) := g0'
  clear g0'
  have g1 := g 1 _ rfl
  have g2 := g 2 _ rfl
  have g3 := g 3 _ rfl
  have g4 := g 4 _ rfl
  have g5 := g 5 _ rfl
  have g6 := g 6 _ rfl
  have g7 := g 7 _ rfl
  have g8 := g 8 _ rfl
  have g9 := g 9 _ rfl
  have g10 := g 10 _ rfl
  have g11 := g 11 _ rfl
  have g12 := g 12 _ rfl
  clear g
  have i0 : (0 : Int) ≤ (i : Int) := by omega
  have i1 : (i : Int) < (n : Int) := by omega
  have cE := ends_at x cs ok (some X) n c w hin hn
  obtain ⟨o1, o2, o3⟩ := under_is (cs.map C.d) i x.d (by rw [List.getElem?_map, hx]; rfl)
  obtain ⟨U, hU⟩ : ∃ U, U = under (cs.map C.d) i := ⟨_, rfl⟩
  rw [← hU] at o1 o2 o3 ⊢
  obtain ⟨E, hE⟩ : ∃ E, E = ends (cs.map C.d) x.d := ⟨_, rfl⟩
  rw [← hE] at cE o1 o2 o3
  have HI : Hid (ir.Lie w ok (some X) n c cs ∧ n = cs.length ∧ E = ends (cs.map C.d) x.d) := ⟨hin, hnc, hE⟩
  unfold itV cl at cE
  clear hin hnc hx hE hU
  go_enter Try.func27, Try.ntmps27
  go_wp2_with fail
  refine cE.mono ?_
  rintro e w2 ⟨rfl, hb2⟩
  have H2 : Hid (Bl w w2) := hb2
  clear cE hb2 g0 g1 g2 g3 g4 g5 g6 g7 g8 g9 g10 g11 g12
  obtain ⟨ea, eb⟩ := E
  cases ea with
  | none =>
    have hi : idx (none : Option Nat) = -1 := rfl
    have HU : Hid (U = []) := o2 _ rfl
    clear o1 o2 o3
    go_wp2
    go_ret
    exact ⟨.slice none 0 0, rfl, H2.out, by rw [HU.out]; exact ri.Own.nil _ _⟩
  | some a =>
    have hi : idx (none : Option Nat) = -1 := rfl
    have hi2 : idx (some a) = (a : Int) := rfl
    have ha0 : ¬ ((a : Int) < 0) := by omega
    -- where it ends
    obtain ⟨b1, hb1, hUb, hbn⟩ : ∃ b1 : Nat, idx eb = (b1 : Int) - 1 ∧ U = pf (cs.map C.d) a b1 ∧ b1 ≤ n := by
      cases eb with
      | none => exact ⟨0, rfl, by rw [o3 _ rfl, pf_start _ _ _ (Nat.zero_le _)], Nat.zero_le _⟩
      | some b =>
        refine ⟨b + 1, ?_, o1 a b rfl, ?_⟩
        · show ((b : Nat) : Int) = _
          omega
        · have := (ends_lt HI.out.2.2.symm).2
          rw [List.length_map, ← HI.out.2.1] at this
          omega
    have HU : Hid (U = pf (cs.map C.d) a b1) := hUb
    clear o1 o2 o3 hUb
    obtain ⟨B, hB⟩ : ∃ B, B = idx eb := ⟨_, rfl⟩
    rw [← hB]
    have hB1 : B = (b1 : Int) - 1 := by rw [hB, hb1]
    clear hB hb1
    subst hB1
    go_wp2
    go_loopw [7, 8] (fun v s8 wr => ∃ j : Nat, a ≤ j ∧ (j ≤ b1 ∨ j = a) ∧ s8 = .int .i64 (j : Int) ∧ Hid (Bl w wr ∧ ri.Own wr w.heap.size v (ints (pf (cs.map C.d) a j)))) (fun _ s8 _ => b1 - (intOf s8).toNat)
    case atStart => exact ⟨a, Nat.le_refl _, Or.inr rfl, rfl, H2.out, by rw [pf_start _ _ _ (Nat.le_refl _)]; exact ri.Own.nil _ _⟩
    case round =>
      obtain ⟨j, hj1, hj2, rfl, HB⟩ := hrel
      have hb64 : (b1 : Int) - 1 < 9223372036854775808 := by omega
      by_cases hjb : j < b1
      · have d1 : decide ((j : Int) ≤ (b1 : Int) - 1) = true := decide_eq_true (by omega)
        have d1' : (j : Int) ≤ (b1 : Int) - 1 := by omega
        have j0 : (0 : Int) ≤ (j : Int) := by omega
        have j1 : (j : Int) < (n : Int) := by omega
        obtain ⟨y, hy⟩ : ∃ y, cs[j]? = some y := ⟨_, List.getElem?_eq_getElem (by have := HI.out.2.1; omega)⟩
        obtain ⟨Y, hY, _, _, gy⟩ := lie_at (lie_bl HI.out.1 HB.out.1) j y hy
        injection hY with hY
        subst hY
        have y9 := gy 9 _ rfl
        have hisC : isC (cs.map C.d) j = (y.d.ru == 3) := by
          unfold isC
          rw [List.getElem?_map, hy]
          rfl
        clear gy
        by_cases r3 : y.d.ru = 3
        · rw [r3] at y9
          obtain ⟨M, hM⟩ : ∃ M, M = wr.heap.size := ⟨_, rfl⟩
          obtain ⟨w7, hw7⟩ : ∃ w7, w7 = wr.alloc (.cells #[.int .i64 (j : Int)] 3) := ⟨_, rfl⟩
          have hb7 : Bl wr w7 := by rw [hw7]; exact (Bl.refl _).alloc _
          have c7 : w7.cell? ⟨M, 0, none⟩ = some (.int .i64 (j : Int)) := by rw [hw7, hM, cell_of (new_at _ _)]; rfl
          obtain ⟨v', w8, hr8, ho8, hg8, _⟩ := ri.app_one w7 w.heap.size u7 _ (j : Int) M (HB.out.2.step hb7) c7 (by rw [ints_len]; have := pf_len (cs.map C.d) a j; omega) (Nat.le_trans HB.out.1.size hb7.size)
          have hb8 : Bl w w8 := bl_grown (HB.out.1.trans hb7) hg8 (fun k hk => (HB.out.2.block k hk).1)
          have HR : Hid _ := hr8
          have H8 : Hid (Bl w w8 ∧ ri.Own w8 w.heap.size v' (ints (pf (cs.map C.d) a (j + 1)))) := by
            refine ⟨hb8, ?_⟩
            rw [pf_step _ _ _ hj1, hisC, r3]
            rw [show (if ((3 : Nat) == 3) = true then [j] else []) = [j] from rfl, ints_app]
            exact ho8
          clear c7 hr8 ho8 hg8 hb8 hb7 hy hisC
          go_upto_region 9 with fail
          go_wp2_with (at_builtin; rw [← hw7, ← hM]; refine Lib.wpList_append_run _ rfl (.tmp 32) (.tmp 34) _ _ rfl _ _ rfl rfl _ _ HR.out ?_)
          go_roundw
          case rel => exact ⟨j + 1, by omega, Or.inl (by omega), by go_num, H8.out⟩
          case measure => simp [intOf]; omega
        · have r3' : ¬ ((y.d.ru : Int) = 3) := by omega
          have H8 : Hid (Bl w wr ∧ ri.Own wr w.heap.size u7 (ints (pf (cs.map C.d) a (j + 1)))) := by
            refine ⟨HB.out.1, ?_⟩
            rw [pf_step _ _ _ hj1, hisC]
            rw [show (y.d.ru == 3) = false by simpa using r3]
            rw [show (if false = true then [j] else []) = ([] : List Nat) from rfl, List.append_nil]
            exact HB.out.2
          clear hy hisC
          go_wp2
          go_roundw
          case rel => exact ⟨j + 1, by omega, Or.inl (by omega), by go_num, H8.out⟩
          case measure => simp [intOf]; omega
      · have d1 : decide ((j : Int) ≤ (b1 : Int) - 1) = false := decide_eq_false (by omega)
        have d1' : ¬ ((j : Int) ≤ (b1 : Int) - 1) := by omega
        have H9 : Hid (Bl w wr ∧ ri.Own wr w.heap.size u7 (ints U)) := by
          refine ⟨HB.out.1, ?_⟩
          have h := HB.out.2
          rw [HU.out]
          rcases hj2 with h2 | h2
          · obtain rfl : j = b1 := by omega
            exact h
          · subst h2
            rw [pf_start _ _ _ (Nat.le_refl _)] at h
            rw [pf_start _ _ _ (by omega)]
            exact h
        go_wp2
        go_ret
        exact ⟨_, rfl, H9.out⟩
end Go.Proofs.Ytpanodaecjlgaaa.tm
/- Whether templates fit together: going round comes to an end (pure). -/
namespace Go.Proofs.Ytpanodaecjlgaaa.tm
set_option linter.unusedVariables false
open lx ex

def unm (n : Nat) (met : List Nat) : Nat := ((List.range n).filter (fun k => decide (k ∉ met))).length
theorem filter_lt (p q : Nat → Bool) (l : List Nat) (h : ∀ x, q x = true → p x = true) (j : Nat) (hj : j ∈ l) (hp : p j = true) (hq : q j = false) : (l.filter q).length < (l.filter p).length := by
  have le : ∀ l : List Nat, (l.filter q).length ≤ (l.filter p).length := by
    intro l
    induction l with
    | nil => exact Nat.le_refl _
    | cons x r ih =>
      rw [List.filter_cons, List.filter_cons]
      cases hx : q x with
      | true => rw [if_pos (h x hx), if_pos rfl]; simp; exact ih
      | false =>
        rw [if_neg (by simp)]
        split
        · simp; omega
        · exact ih
  induction l with
  | nil => cases hj
  | cons x r ih =>
    rw [List.filter_cons, List.filter_cons]
    by_cases hxj : x = j
    · subst hxj
      rw [hp, hq]
      simp
      have := le r
      omega
    · have hj' : j ∈ r := by
        rw [List.mem_cons] at hj
        rcases hj with e | e
        · exact absurd e.symm hxj
        · exact e
      have := ih hj'
      cases hx : q x with
      | true => rw [if_pos (h x hx), if_pos rfl]; simp; exact this
      | false =>
        rw [if_neg (by simp)]
        split
        · simp; omega
        · exact this
theorem unm_lt (n : Nat) (met : List Nat) (j : Nat) (hj : j < n) (hm : j ∉ met) : unm n (j :: met) < unm n met := by
  unfold unm
  refine filter_lt _ _ _ ?_ j (List.mem_range.2 hj) (by simpa using hm) (by simp)
  intro x hx
  simp only [List.mem_cons, not_or, decide_eq_true_eq] at hx ⊢
  exact hx.2
theorem unm_le (n : Nat) (met : List Nat) : unm n met ≤ n := by
  unfold unm
  refine Nat.le_trans (List.length_filter_le _ _) ?_
  rw [List.length_range]
  exact Nat.le_refl _
def mu (ds : List D) (met todo : List Nat) : Nat := todo.length + unm ds.length met * (ds.length + 1)
theorem isC_lt {ds : List D} {k : Nat} (h : isC ds k = true) : k < ds.length := by
  unfold isC at h
  rcases Nat.lt_or_ge k ds.length with hk | hk
  · exact hk
  · rw [List.getElem?_eq_none hk] at h
    simp at h
theorem under_lt {ds : List D} {j k : Nat} (h : k ∈ under ds j) : k < ds.length := by
  unfold under at h
  split at h
  · cases h
  · split at h
    · exact isC_lt (List.mem_filter.1 h).2
    · cases h
theorem under_len (ds : List D) (j : Nat) : (under ds j).length ≤ ds.length := by
  unfold under
  split
  · exact Nat.zero_le _
  · rename_i d _
    split
    · rename_i a b he
      have := (ends_lt he).2
      have h2 := pf_len ds a (b + 1)
      unfold pf at h2
      unfold upTo
      omega
    · exact Nat.zero_le _
theorem mu_step (ds : List D) (met r : List Nat) (j : Nat) (hj : j < ds.length) (hm : j ∉ met) : mu ds (j :: met) (r ++ under ds j) < mu ds met (j :: r) := by
  unfold mu
  have h1 := under_len ds j
  have h2 := unm_lt ds.length met j hj hm
  rw [List.length_append, List.length_cons]
  have h3 : (unm ds.length (j :: met) + 1) * (ds.length + 1) ≤ unm ds.length met * (ds.length + 1) := Nat.mul_le_mul_right _ h2
  rw [Nat.add_mul, Nat.one_mul] at h3
  omega
theorem bfs_enough (ds : List D) (tg : Nat) (f : Nat) : ∀ met todo, mu ds met todo < f → (∀ j ∈ todo, j < ds.length) → bfs ds tg f met todo = bfs ds tg (f + 1) met todo ∧ (bfs ds tg f met todo).isSome = true := by
  induction f with
  | zero => intro met todo h; exact absurd h (Nat.not_lt_zero _)
  | succ f ih =>
    intro met todo h ht
    cases todo with
    | nil => exact ⟨rfl, rfl⟩
    | cons j r =>
      rw [bfs, bfs]
      by_cases e : j = tg
      · rw [if_pos e, if_pos e]; exact ⟨rfl, rfl⟩
      · rw [if_neg e, if_neg e]
        by_cases hm : j ∈ met
        · rw [if_pos hm, if_pos hm]
          refine ih met r ?_ (fun k hk => ht k (by simp [hk]))
          unfold mu at h ⊢
          rw [List.length_cons] at h
          omega
        · rw [if_neg hm, if_neg hm]
          refine ih _ _ ?_ ?_
          · have := mu_step ds met r j (ht j (by simp)) hm
            omega
          · intro k hk
            rw [List.mem_append] at hk
            rcases hk with hk | hk
            · exact ht k (by simp [hk])
            · exact under_lt hk
theorem bfs_more (ds : List D) (tg f met todo) (h : mu ds met todo < f) (ht : ∀ j ∈ todo, j < ds.length) (g : Nat) : bfs ds tg (f + g) met todo = bfs ds tg f met todo := by
  induction g with
  | zero => rfl
  | succ g ih => rw [← Nat.add_assoc, ← (bfs_enough ds tg (f + g) met todo (by omega) ht).1, ih]
/-- Whether one comes to it, at last. -/
def bR (ds : List D) (tg : Nat) (met todo : List Nat) : Bool := bfs ds tg (mu ds met todo + 1) met todo == some true
theorem bR_of (ds : List D) (tg f met todo) (h : mu ds met todo < f) (ht : ∀ j ∈ todo, j < ds.length) : (bfs ds tg f met todo == some true) = bR ds tg met todo := by
  unfold bR
  obtain ⟨g, rfl⟩ : ∃ g, f = mu ds met todo + 1 + g := ⟨f - (mu ds met todo + 1), by omega⟩
  rw [bfs_more ds tg _ met todo (by omega) ht g]
theorem bR_nil (ds : List D) (tg : Nat) (met : List Nat) : bR ds tg met [] = false := rfl
theorem bR_hit (ds : List D) (tg : Nat) (met r : List Nat) : bR ds tg met (tg :: r) = true := by
  unfold bR
  rw [bfs, if_pos rfl]; rfl
theorem bR_met (ds : List D) (tg : Nat) (met r : List Nat) (j : Nat) (h1 : j ≠ tg) (h2 : j ∈ met) (ht : ∀ k ∈ j :: r, k < ds.length) : bR ds tg met (j :: r) = bR ds tg met r := by
  have h3 : bR ds tg met (j :: r) = (bfs ds tg (mu ds met (j :: r)) met r == some true) := by
    unfold bR
    rw [bfs, if_neg h1, if_pos h2]
  rw [h3]
  refine bR_of _ _ _ _ _ ?_ (fun k hk => ht k (by simp [hk]))
  unfold mu
  rw [List.length_cons]
  omega
theorem bR_new (ds : List D) (tg : Nat) (met r : List Nat) (j : Nat) (h1 : j ≠ tg) (h2 : j ∉ met) (ht : ∀ k ∈ j :: r, k < ds.length) : bR ds tg met (j :: r) = bR ds tg (j :: met) (r ++ under ds j) := by
  have h3 : bR ds tg met (j :: r) = (bfs ds tg (mu ds met (j :: r)) (j :: met) (r ++ under ds j) == some true) := by
    unfold bR
    rw [bfs, if_neg h1, if_neg h2]
  rw [h3]
  refine bR_of _ _ _ _ _ (mu_step ds met r j (ht j (by simp)) h2) ?_
  intro k hk
  rw [List.mem_append] at hk
  rcases hk with hk | hk
  · exact ht k (by simp [hk])
  · exact under_lt hk
theorem rnd_is (ds : List D) (i : Nat) : rnd ds i = bR ds i [] (under ds i) := by
  unfold rnd
  refine bR_of _ _ _ _ _ ?_ (fun k hk => under_lt hk)
  unfold mu
  have h1 := under_len ds i
  have h2 := unm_le ds.length []
  have h3 : unm ds.length [] * (ds.length + 1) ≤ ds.length * (ds.length + 1) := Nat.mul_le_mul_right _ h2
  have h4 : (ds.length + 1) * (ds.length + 1) = ds.length * (ds.length + 1) + (ds.length + 1) := by rw [Nat.add_mul, Nat.one_mul]
  omega
end Go.Proofs.Ytpanodaecjlgaaa.tm
/- A row of numbers from which one takes at the left, and to which one adds at the right. -/
namespace Go.Proofs.Ytpanodaecjlgaaa.qi
set_option linter.unusedVariables false
open Go.ChangeShapes Go.WideShapes Go.ChangeAt Go.RowKit Go.Shelf
open mem lx ex

def Q (w : World) (base : Nat) (v : Value) (l : List Int) : Prop := (v = .slice none 0 0 ∧ l = []) ∨ ∃ (g off cap : Nat), v = .slice (some ⟨g, off, none⟩) l.length cap ∧ base ≤ g ∧ g < w.heap.size ∧ l.length ≤ cap ∧ cap ≤ maxLen ∧ (∀ k u, (ri.rowI l)[k]? = some u → w.cell? ⟨g, off + k, none⟩ = some u) ∧ (∀ k, k < cap → (w.cell? ⟨g, off + k, none⟩).isSome = true ∧ w.frozen? ⟨g, off + k, none⟩ = false)
theorem Q.shape {w : World} {base : Nat} {v : Value} {l : List Int} (h : Q w base v l) : ∃ p c, v = .slice p l.length c ∧ l.length ≤ c ∧ c ≤ maxLen := by
  rcases h with ⟨rfl, rfl⟩ | ⟨g, off, cap, rfl, _, _, h1, h2, _⟩
  · exact ⟨none, 0, rfl, Nat.le_refl _, Nat.zero_le _⟩
  · exact ⟨_, cap, rfl, h1, h2⟩
theorem Q.of {w : World} {base : Nat} {v : Value} {l : List Int} (h : ri.Own w base v l) : Q w base v l := by
  rcases h.2 with ⟨h1, h2⟩ | ⟨g, cap, cur, rfl, hbg, hg, hnc, hcm, hcs, htake⟩
  · exact Or.inl ⟨h1, List.eq_nil_of_length_eq_zero h2⟩
  · refine Or.inr ⟨g, 0, cap, rfl, hbg, lt_of_heap hg, hnc, hcm, fun k u hu => ?_, fun k hk => ?_⟩
    · have hk : k < l.length * 1 := by
        have := (List.getElem?_eq_some_iff.1 hu).1
        simpa [ri.rowI] using this
      rw [← htake, List.getElem?_take, if_pos hk] at hu
      rw [Nat.zero_add, cell_of hg]
      simpa using hu
    · rw [Nat.zero_add]
      refine ⟨?_, by simp [World.frozen?, hg]⟩
      rw [cell_of hg, Array.getElem?_eq_getElem (by rw [hcs]; omega)]
      rfl
theorem Q.block {w : World} {base : Nat} {v : Value} {l : List Int} (h : Q w base v l) : ∀ k, v.ownBlock = some k → base ≤ k ∧ k < w.heap.size := by
  intro k hk
  rcases h with ⟨rfl, _⟩ | ⟨g, off, cap, rfl, h1, h2, _⟩
  · cases hk
  · injection hk with hk
    subst hk
    exact ⟨h1, h2⟩
theorem Q.kept {w w' : World} {base : Nat} {v : Value} {l : List Int} {row : Option Nat} (h : Q w base v l) (hg : w.grownBy w' row) (hne : ∀ k, v.ownBlock = some k → row ≠ some k) : Q w' base v l := by
  rcases h with h | ⟨g, off, cap, rfl, h1, h2, h3, h4, h5, h6⟩
  · exact Or.inl h
  · have hb : w'.heap[g]? = w.heap[g]? := hg.block g h2 (fun e => hne g rfl e.symm)
    refine Or.inr ⟨g, off, cap, rfl, h1, Nat.lt_of_lt_of_le h2 hg.size, h3, h4, fun k u hu => ?_, fun k hk => ?_⟩
    · rw [World.cell?_of_block (a := ⟨g, off + k, none⟩) hb]; exact h5 k u hu
    · rw [World.cell?_of_block (a := ⟨g, off + k, none⟩) hb, World.frozen?_of_block (a := ⟨g, off + k, none⟩) hb]; exact h6 k hk
theorem Q.bl {w w' : World} {base : Nat} {v : Value} {l : List Int} (h : Q w base v l) (hb : Bl w w') : Q w' base v l := h.kept (row := none) ⟨hb.os, hb.tape, hb.output, hb.size, fun k hk _ => Below.block hb k hk⟩ (fun _ _ => by simp)
/-- The first one. -/
theorem Q.head {w : World} {base : Nat} {p : Option Addr} {n c : Nat} {z : Int} {l : List Int} (h : Q w base (.slice p n c) (z :: l)) : ∃ x, p = some x ∧ n = l.length + 1 ∧ 1 ≤ c ∧ w.cell? x = some (.int .i64 z) ∧ Q w base (.slice (if c = 1 then some x else some ⟨x.block, x.off + 1, none⟩) l.length (c - 1)) l := by
  rcases h with ⟨_, h⟩ | ⟨g, off, cap, hv, h1, h2, h3, h4, h5, h6⟩
  · cases h
  · injection hv with e1 e2 e3
    subst e1 e2 e3
    have h3' : l.length + 1 ≤ c := h3
    refine ⟨_, rfl, rfl, by omega, by have := h5 0 _ rfl; exact this, Or.inr ?_⟩
    by_cases hc : c = 1
    · rw [if_pos hc]
      have hl : l = [] := List.eq_nil_of_length_eq_zero (by omega)
      subst hl
      refine ⟨g, off, c - 1, rfl, h1, h2, Nat.zero_le _, by omega, fun k u hu => by simp [ri.rowI] at hu, fun k hk => h6 k (by omega)⟩
    · rw [if_neg hc]
      refine ⟨g, off + 1, c - 1, rfl, h1, h2, by omega, by omega, fun k u hu => ?_, fun k hk => ?_⟩
      · have := h5 (k + 1) u (by simpa [ri.rowI] using hu)
        rw [show off + 1 + k = off + (k + 1) by omega]; exact this
      · rw [show off + 1 + k = off + (k + 1) by omega]; exact h6 (k + 1) (by omega)
theorem tape_setCells (b : Nat) : ∀ (vs : List Value) (o : Nat) (w : World), (w.setCells b o vs).tape = w.tape ∧ (w.setCells b o vs).heap.size = w.heap.size
  | [], _, _ => ⟨rfl, rfl⟩
  | v :: r, o, w => by
    obtain ⟨h1, h2⟩ := tape_setCells b r (o + 1) (w.setCell ⟨b, o, none⟩ v)
    exact ⟨h1.trans rfl, h2.trans (by simp [World.setCell])⟩
theorem grown_cells (w : World) (b o : Nat) (vs : List Value) : w.grownBy (w.setCells b o vs) (some b) :=
  ⟨World.os_setCells w b o vs, (tape_setCells b vs o w).1, World.output_setCells w b o vs, Nat.le_of_eq (tape_setCells b vs o w).2.symm, fun k hk hne => World.heap_setCells_other w b o vs hk (fun e => hne (by rw [e]))⟩
theorem rowI_len (l : List Int) : (ri.rowI l).length = l.length := by simp [ri.rowI]
theorem rowI_app (a b : List Int) : ri.rowI (a ++ b) = ri.rowI a ++ ri.rowI b := by simp [ri.rowI]
set_option maxRecDepth 10000 in
/-- More, at the right. -/
theorem Q.app {w : World} {base base2 : Nat} {v u : Value} {l m : List Int} (h : Q w base v l) (hu : ri.Own w base2 u m) (hn : l.length + m.length ≤ 100000) (hb : base ≤ w.heap.size) :
    ∃ v' w', (Builtin.append_ #[38, 38] 38 #[v, u]).run Try.prog w = .ok v' w' ∧ Q w' base v' (l ++ m) ∧ w.grownBy w' v.ownBlock ∧ (v'.ownBlock = v.ownBlock ∨ v'.ownBlock = some w.heap.size) := by
  obtain ⟨i, hi, hz, h1, h2⟩ := ri.infoI'
  have hs : Src Try.prog i.size 38 u m.length (ri.rowI m) w := by
    rw [h1]
    rcases hu.shape with ⟨rfl, rfl⟩ | ⟨g, cap, rfl, _, _, _, _, hc⟩
    · exact Src.ofNil w Try.underlying38 0
    · refine Src.ofSlice w Try.underlying38 _ _ _ _ (by rw [rowI_len, Nat.mul_one]) (fun j x hx => ?_) (fun x hx => ?_)
      · have hj : j < m.length := by have := (List.getElem?_eq_some_iff.1 hx).1; rwa [rowI_len] at this
        rw [ri.rowI_get m j hj] at hx
        injection hx with hx
        rw [Addr.add_lit, Nat.zero_add, hc j hj, hx]
      · simp only [ri.rowI, List.mem_map] at hx
        obtain ⟨z, _, rfl⟩ := hx
        rfl
  -- a new row
  have grow : ∀ (p : Option Addr) (sc : Nat), v = .slice p l.length sc → sc < l.length + m.length → (Builtin.firstCells i.size l.length (.slice p l.length sc)).run Try.prog w.drew = .ok (ri.rowI l).toArray w.drew →
      ∃ v' w', (Builtin.append_ #[38, 38] 38 #[v, u]).run Try.prog w = .ok v' w' ∧ Q w' base v' (l ++ m) ∧ w.grownBy w' v.ownBlock ∧ (v'.ownBlock = v.ownBlock ∨ v'.ownBlock = some w.heap.size) := by
    rintro p sc rfl hg hold
    have hrun := run_append_grow_src (P := Try.prog) w 38 38 38 3 i (.int .i64 0) Try.underlying38 hi hz p l.length sc (ri.rowI l) hold u m.length (ri.rowI m) hs hg (by omega) (growslice_fits hg (by rw [h2]; omega))
    have hge := grownCap_ge w (l.length + m.length) sc 3
    have hcm := grownCap_le_maxLen w (l.length + m.length) sc 3 (by unfold maxLen; omega)
    obtain ⟨A, hA⟩ : ∃ A, A = (ri.rowI l ++ ri.rowI m).toArray ++ Builtin.zeroCells (Value.int .i64 0).cells (grownCap w (l.length + m.length) sc 3 - (l.length + m.length)) := ⟨_, rfl⟩
    rw [← hA] at hrun
    have hAs : A.size = grownCap w (l.length + m.length) sc 3 := by
      rw [hA, Array.size_append, size_zeroCells, List.size_toArray, List.length_append, rowI_len, rowI_len, show (Value.int .i64 0).cells.size = 1 from rfl]
      omega
    have hcell : ∀ j, (w.drew.alloc (.cells A 3)).cell? ⟨w.heap.size, j, none⟩ = A[j]? := fun j => World.cell?_alloc_new w.drew A 3 j
    have hnew : (w.drew.alloc (.cells A 3)).heap[w.heap.size]? = some (.cells A 3 (0, 0)) := new_at w.drew (.cells A 3)
    refine ⟨_, _, hrun, Or.inr ⟨w.heap.size, 0, _, by rw [List.length_append], hb, lt_of_heap hnew, by rw [List.length_append]; exact hge, hcm, fun k x hx => ?_, fun k hk => ?_⟩, ⟨rfl, rfl, rfl, by simp, fun k hk _ => Below.heap_alloc w.drew _ k hk⟩, Or.inr rfl⟩
    · rw [Nat.zero_add, hcell, hA]
      have hk := (List.getElem?_eq_some_iff.1 hx).1
      rw [rowI_app] at hx hk
      rw [Array.getElem?_append_left (by rw [List.size_toArray]; exact hk), List.getElem?_toArray]
      exact hx
    · rw [Nat.zero_add, hcell]
      refine ⟨by rw [Array.getElem?_eq_getElem (by rw [hAs]; exact hk)]; rfl, ?_⟩
      unfold World.frozen?
      dsimp only
      rw [hnew]
      simp
  rcases h with ⟨rfl, rfl⟩ | ⟨g, off, cap, rfl, k1, k2, k3, k4, k5, k6⟩
  · by_cases hm : m = []
    · subst hm
      refine ⟨.slice none 0 0, w, ?_, Or.inl ⟨rfl, rfl⟩, ⟨rfl, rfl, rfl, Nat.le_refl _, fun _ _ _ => rfl⟩, Or.inl rfl⟩
      exact run_append_nothing (P := Try.prog) w 38 38 38 3 i Try.underlying38 hi none 0 0 (Nat.le_refl _) u hs
    · have hmp : 0 < m.length := List.length_pos_iff.2 hm
      exact grow none 0 rfl (by simpa using hmp) (run_firstCells_none w.drew i.size 0 0 0)
  · by_cases hroom : l.length + m.length ≤ cap
    · have hrun := run_append_room_src (P := Try.prog) w 38 38 38 3 i Try.underlying38 hi g off l.length cap u m.length (ri.rowI m) hs hroom
        (fun j hj => by rw [rowI_len] at hj; rw [h1, Nat.mul_one, Nat.add_assoc]; exact (k6 _ (by omega)).1) (fun j hj => by rw [rowI_len] at hj; rw [h1, Nat.mul_one, Nat.add_assoc]; exact (k6 _ (by omega)).2)
      rw [h1, Nat.mul_one] at hrun
      refine ⟨_, _, hrun, Or.inr ⟨g, off, cap, by rw [List.length_append], k1, by rw [(tape_setCells g _ _ w).2]; exact k2, by rw [List.length_append]; exact hroom, k4, fun k x hx => ?_, fun k hk => ?_⟩, grown_cells _ _ _ _, Or.inl rfl⟩
      · rw [rowI_app] at hx
        by_cases hkl : k < l.length
        · rw [List.getElem?_append_left (by rw [rowI_len]; exact hkl)] at hx
          rw [World.cell?_setCells_out g _ _ w _ (fun _ _ => Or.inl (by show off + k < off + l.length; omega))]
          exact k5 k x hx
        · rw [List.getElem?_append_right (by rw [rowI_len]; omega), rowI_len] at hx
          have hj := (List.getElem?_eq_some_iff.1 hx).1
          have := World.cell?_setCells_in g (ri.rowI m) (off + l.length) w (fun j hj => by rw [rowI_len] at hj; rw [Nat.add_assoc]; exact (k6 _ (by omega)).1) (k - l.length) hj
          rw [show off + l.length + (k - l.length) = off + k by omega] at this
          rw [this, ← hx]
          first | rfl | exact (List.getElem?_eq_getElem hj).symm
      · exact ⟨World.isSome_setCells g _ _ w _ (k6 k hk).1, by rw [World.frozen?_setCells]; exact (k6 k hk).2⟩
    · refine grow _ cap rfl (by omega) ?_
      rw [h1]
      exact run_firstCells_some w.drew 1 l.length ⟨g, off, none⟩ l.length cap (ri.rowI l) (by rw [rowI_len, Nat.mul_one]) (fun j x hx => by rw [Addr.add_lit]; simpa using k5 j x hx)
end Go.Proofs.Ytpanodaecjlgaaa.qi
