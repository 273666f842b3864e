/- What Plain of package xxd answers. -/
import Derived.Test.YtmchpmfogjhpoaaXd1
import Derived.Test.YtmchpmfogjhpoaaXd2
namespace Go.Proofs.Ytmchpmfogjhpoaa.xd
set_option linter.unusedVariables false
open Go.ChangeShapes Go.WideShapes Go.ChangeAt Go.RowKit Go.Shelf
open mem rows bld
open digs (hexL hexL_len hex_at)
attribute [local go_sem] Oper.semAt_some
theorem _root_.Go.Proofs.Ytmchpmfogjhpoaa.mem.Bl.thru2 {a b c : World} (h : Bl a b) (k : Below a.heap.size b c) : Bl a c := Below.trans h k
/-- Lines of digits. -/
def pln : List Pt → List Int
  | [] => []
  | x :: l => hexL x.1.2 x.1.2.size ++ [10] ++ pln l
theorem pln_app (a b : List Pt) : pln (a ++ b) = pln a ++ pln b := by
  induction a with
  | nil => rfl
  | cons x a ih => rw [List.cons_append, pln, pln, ih]; simp only [List.append_assoc]
theorem pln_snoc (a : List Pt) (x : Pt) : pln (a ++ [x]) = pln a ++ hexL x.1.2 x.1.2.size ++ [10] := by
  rw [pln_app, pln, pln, List.append_nil, List.append_assoc]
theorem pln_len (a : List Pt) : (pln a).length ≤ 2001 * a.length := by
  induction a with
  | nil => simp [pln]
  | cons x a ih =>
    have := x.2.2
    rw [pln, List.length_append, List.length_append, hexL_len, List.length_cons, List.length_cons, List.length_nil]
    omega
/-- What holds between two lines: the builder lies at A. -/
structure Pi (w : World) (A : Nat) (s : ByteArray) (pre : List Pt) (W : World) : Prop where
  bd : Bd A A (ub (pln pre)) W
  p5 : Vr W (A + 1) (.string s) 9
  p6 : Vr W (A + 2) (.int .i64 30) 3
  bl : Below w.heap.size w W
theorem Pi.own {w : World} {A : Nat} {s : ByteArray} : OwnFrom (A + 1) (fun pre W => Pi w A s pre W ∧ w.heap.size ≤ A) := by
  intro pre W W' row h hg hr
  obtain ⟨h, hA⟩ := h
  have hr' : ∀ r, row = some r → ∃ o : Obj, W.heap[r]? = some o ∧ o.isCells = false := fun r e => (hr r e).2
  refine ⟨⟨h.bd.own hg hr', Vr.own h.p5 hg hr', Vr.own h.p6 hg hr', ?_⟩, hA⟩
  refine ⟨hg.os.trans h.bl.os, hg.tape.trans h.bl.tape, hg.output.trans h.bl.output, Nat.le_trans h.bl.size hg.size, fun k hk => ?_⟩
  rw [hg.block k (Nat.lt_of_lt_of_le hk h.bl.size) (fun e => by have := (hr k e.symm).1; omega)]
  exact h.bl.block k hk
set_option maxRecDepth 100000 in
set_option maxHeartbeats 4000000 in
theorem Plain_at (s : ByteArray) (w : World) (hs : s.size ≤ 600) :
    Calls Try.prog 14 #[.string s] w fun e w' => e = .returned (.string (strOfNums (pln (ptl s 30 (np s 30))))) ∧ Bl w w' := by
  have hnp := np_le s 30 (by omega)
  refine (callsIn_wide (n := 3)).1 ?_
  refine callsIn_of_wp_marks Try.func14 rfl trivial ?_ rfl
  simp only [Try.ntmps14, List.size_toArray, List.length_cons, List.length_nil, Nat.reduceAdd, Nat.reduceSub, Array.replicate_succ, Array.replicate_zero, List.push_toArray, List.append_toArray, List.nil_append, List.cons_append]
  gi_wp2_with (refine ⟨trivial, ?_⟩; gi_at_call 26; refine (callsIn_wide.2 (parts_at _ _ _)).mono ?_; rintro e w1 ⟨rfl, rfl⟩)
  obtain ⟨A, hA⟩ : ∃ A, A = w.heap.size := ⟨_, rfl⟩
  obtain ⟨W0, hW0⟩ : ∃ W0, W0 = ((w.alloc (.cells #[.pointer none, .slice none 0 0] 49)).alloc (.cells #[.string s] 9)).alloc (.cells #[.int .i64 30] 3) := ⟨_, rfl⟩
  rw [← hW0, ← hA]
  simp only [Nat.add_assoc, Nat.reduceAdd]
  obtain ⟨w5, e5⟩ : ∃ w5, w5 = w.alloc (.cells #[.pointer none, .slice none 0 0] 49) := ⟨_, rfl⟩
  obtain ⟨w6, e6⟩ : ∃ w6, w6 = w5.alloc (.cells #[.string s] 9) := ⟨_, rfl⟩
  rw [← e5, ← e6] at hW0
  have z5 : w5.heap.size = A + 1 := by rw [e5, World.size_alloc, hA]
  have z6 : w6.heap.size = A + 2 := by rw [e6, World.size_alloc, z5]
  have z7 : W0.heap.size = A + 3 := by rw [hW0, World.size_alloc, z6]
  have b7 : Bl w6 W0 := by rw [hW0]; exact (Bl.refl _).alloc _
  have b6 : Bl w5 W0 := Bl.trans (by rw [e6]; exact (Bl.refl _).alloc _) b7
  have b1 : Bl w W0 := Bl.trans (by rw [e5]; exact (Bl.refl _).alloc _) b6
  have v4 : Bd A A (ub (pln [])) W0 := by have := Bd.new w; rw [← e5, ← hA] at this; exact this.bl b6
  have v5 : Vr W0 (A + 1) (.string s) 9 := by have := Vr.new w5 (.string s) 9; rw [← e6, z5] at this; exact this.step b7
  have v6 : Vr W0 (A + 2) (.int .i64 30) 3 := by have := Vr.new w6 (.int .i64 30) 3; rw [← hW0, z6] at this; exact this
  have D0 : Pi w A s [] W0 := ⟨v4, v5, v6, b1⟩
  have hA0 : w.heap.size ≤ A := by omega
  have HA : Hid (A = w.heap.size) := hA
  clear e5 e6 z5 z6 b6 b7 v4 hW0 hA w5 w6
  refine wpIn_rangeFunc_ownF rfl (by decide) (gf := 43) (lb := #[.pointer (some ⟨A + 1, 0, none⟩), .pointer (some ⟨A + 2, 0, none⟩)]) rfl trivial (enters_of Try.func43 (by kernel_rfl) rfl)
    (parts_stops 2 (by decide) (A + 1) (A + 2) w.heap.size 30 s (by omega) (by omega) (by omega) W0 v5 v6) (fun h k => h.trans k) (KV.putObj (w := W0) b1.size) (Below.refl _ _) (fun _ => rfl)
    (fun pre W => Pi w A s pre W ∧ w.heap.size ≤ A) (fun _ _ _ => False) (fun pre W W' row h hg hr => Pi.own pre W W' row h hg (fun r e => ⟨by have := (hr r e).1; omega, (hr r e).2⟩)) (fun _ _ _ _ _ h _ _ => h) ⟨D0, hA0⟩
    (fun x => { tmps := #[.string s, undef, .string ⟨#[]⟩, .pointer (some ⟨A, 0, none⟩), undef, .string x.1.2, .string s, .func (.func 43) #[] #[.pointer (some ⟨A + 1, 0, none⟩), .pointer (some ⟨A + 2, 0, none⟩)], .int .i64 (x.1.1 : Int), .string x.1.2, undef, undef, undef, undef, undef], defers := [] }) ?assign ?body ?done ?stop
  case assign =>
    intro l x W K hK
    gi_wp2
    exact hK
  case body =>
    rintro l pre x W ⟨D, _⟩ hlt
    obtain ⟨⟨a, p⟩, ha, hp⟩ := x
    dsimp only at ha hp ⊢
    have hll := pln_len pre
    have HN : Hid (pln (pre ++ [⟨(a, p), ha, hp⟩]) = pln pre ++ hexL p p.size ++ [10]) := pln_snoc pre ⟨(a, p), ha, hp⟩
    have hpl : pre.length ≤ 600 := by omega
    have hD : Hid (Pi w A s pre W) := D
    obtain ⟨L0, hL0⟩ : ∃ L, L = pln pre := ⟨_, rfl⟩
    have hL0l : L0.length ≤ 1300000 := by rw [hL0]; omega
    rw [← hL0] at HN
    have bd0 : Bd A A (ub L0) W := by rw [hL0]; exact D.bd
    have hhl := hexL_len p p.size
    clear D hL0 hll
    gi_wp2_with (fail)
    refine ⟨trivial, ?_⟩
    refine (CallsIn.inRound l (callsIn_wide.2 (hex_at p W hp))).mono ?_
    rintro e W1 ⟨rfl, q1⟩
    have K1 : Hid (Below A W W1 ∧ Kb A W W1 ∧ Bd A A (ub L0) W1) := ⟨Below.mono q1.bl bd0.le, Kb.bl q1.bl, bd0.bl q1.bl⟩
    clear q1 bd0
    gi_wp2_with (fail)
    refine ⟨trivial, ?_⟩
    refine (CallsIn.inRound l (callsIn_wide.2 (write_at A A (ub L0) (strOfNums (hexL p p.size)) W1 K1.out.2.2 (by rw [ub_len, strOfNums_size]; omega)))).mono ?_
    rintro e W2 ⟨rfl, q1, q2, q3⟩
    have K2 : Hid (Below A W W2 ∧ Kb A W W2 ∧ Bd A A (ub (L0 ++ hexL p p.size)) W2) := ⟨Below.trans K1.out.1 q2, K1.out.2.1.trans q3, by rw [ub_app, ← ub_str (hexL p p.size)]; exact q1⟩
    clear q1 q2 q3 K1
    gi_wp2_with (fail)
    refine ⟨trivial, ?_⟩
    refine (CallsIn.inRound l (callsIn_wide.2 (writeb_at A A (ub (L0 ++ hexL p p.size)) 10 10 rfl W2 K2.out.2.2 (by rw [ub_len, List.length_append]; omega)))).mono ?_
    rintro e W9 ⟨rfl, q1, q2, q3⟩
    have K9 : Hid (Below A W W9 ∧ Kb A W W9 ∧ Bd A A (ub (L0 ++ hexL p p.size ++ [10])) W9) := ⟨Below.trans K2.out.1 q2, K2.out.2.1.trans q3, by rw [ub_app]; exact q1⟩
    clear q1 q2 q3 K2
    gi_wp2
    refine ⟨K9.out.2.1.others hD.out.bd, ⟨Below.mono K9.out.1 (by omega), fun i hi c' t f hcell => ?_⟩, ?_, hA0⟩
    · have h5 := hD.out.p5
      have h6 := hD.out.p6
      unfold Vr at h5 h6
      refine K9.out.2.1.same i _ hcell ?_ ?_
      · simp only [List.mem_cons, List.not_mem_nil, or_false] at hi
        omega
      · intro c'' fz e
        injection e with _ e2 _
        subst e2
        simp only [List.mem_cons, List.not_mem_nil, or_false] at hi
        rcases hi with rfl | rfl
        · rw [h5] at hcell
          injection hcell with hcell
          injection hcell with _ e3 _
          exact absurd e3 (by decide)
        · rw [h6] at hcell
          injection hcell with hcell
          injection hcell with _ e3 _
          exact absurd e3 (by decide)
    · have hk := K9.out.2.1
      refine ⟨?_, hk.vr hD.out.p5 (by omega) (by decide), hk.vr hD.out.p6 (by omega) (by decide), hD.out.bl.trans (Below.mono K9.out.1 (by omega))⟩
      rw [HN.out]
      exact K9.out.2.2
  case done =>
    rintro D ys W hD rfl ⟨I, _⟩ hK
    have HI : Hid (Pi w A s (ptl s 30 (np s 30)) W) := I
    gi_wp2_with (fail)
    refine ⟨trivial, ?_⟩
    refine (callsIn_wide.2 (string_at A A _ W HI.out.bd)).mono ?_
    rintro e W1 ⟨rfl, q2, q3⟩
    rw [str_ub]
    have HB : Hid (Bl w W1) := HI.out.bl.trans (Below.mono q2 (by omega))
    have hK1 : W1.heap[D]? = some (.deferred (some [])) := (q3.others HI.out.bd).same D _ hK rfl
    clear q2 q3 I hK
    obtain ⟨R, hR⟩ : ∃ R, R = strOfNums (pln (ptl s 30 (np s 30))) := ⟨_, rfl⟩
    rw [← hR]
    have HR : Hid (R = strOfNums (pln (ptl s 30 (np s 30)))) := hR
    clear hR
    gi_wp2
    refine ⟨by simp, .inl ⟨_, _, rfl, run_takeDeferred hK1, ?_⟩⟩
    refine ⟨.string R, by simp [results, Try.f14, go_sem], by rw [HR.out], HB.out.thru2 (belowK_b (w := w) (Nat.le_refl _) _ D _ _ (by omega) hK1 rfl rfl)⟩
  case stop =>
    rintro D c pre W _ _ h _
    exact h.elim
end Go.Proofs.Ytmchpmfogjhpoaa.xd
