/- What Dump of package xxd answers. -/
import Derived.Test.YtmchpmfogjhpoabDoorXd1
import Derived.Test.YtmchpmfogjhpoabDoorXd2
import Derived.Test.YtmchpmfogjhpoabDoorShownP
namespace Go.Proofs.YtmchpmfogjhpoabDoor.xd
set_option linter.unusedVariables false
open Go.ChangeShapes Go.WideShapes Go.ChangeAt Go.RowKit Go.Shelf
open mem rows bld
open dig (pr isK pr_len)
open digs (print_at)
open shown (shL shL_len Shown_at)
attribute [local go_sem] Oper.semAt_some

theorem _root_.Go.Proofs.YtmchpmfogjhpoabDoor.mem.Bl.thru {a b c : World} (h : Bl a b) (k : Below a.heap.size b c) : Bl a c := Below.trans h k
/-- A line: where it begins, its bytes. -/
def ln (c g : Nat) (a : Nat) (p : ByteArray) : List Int := pr 16 a 8 ++ [58] ++ rwl p g c ++ [32, 32] ++ shL p p.size ++ [10]
theorem ln_len (c g a : Nat) (p : ByteArray) (hc : c ≤ 256) (hp : p.size ≤ 1000) : (ln c g a p).length ≤ 2000 := by
  have := rwl_len p g c
  unfold ln
  simp only [List.length_append, List.length_cons, List.length_nil, pr_len, shL_len]
  omega
/-- Lines. -/
def dmp (c g : Nat) : List Pt → List Int
  | [] => []
  | x :: l => ln c g x.1.1 x.1.2 ++ dmp c g l
theorem dmp_app (c g : Nat) (a b : List Pt) : dmp c g (a ++ b) = dmp c g a ++ dmp c g b := by
  induction a with
  | nil => rfl
  | cons x a ih => rw [List.cons_append, dmp, dmp, ih, List.append_assoc]
theorem dmp_snoc (c g : Nat) (a : List Pt) (x : Pt) : dmp c g (a ++ [x]) = dmp c g a ++ ln c g x.1.1 x.1.2 := by
  rw [dmp_app, dmp, dmp, List.append_nil]
theorem dmp_len (c g : Nat) (hc : c ≤ 256) (a : List Pt) : (dmp c g a).length ≤ 2000 * a.length := by
  induction a with
  | nil => simp [dmp]
  | cons x a ih =>
    have := ln_len c g x.1.1 x.1.2 hc x.2.2
    rw [dmp, List.length_append, List.length_cons]
    omega
theorem isK8 (a : Nat) (h : a ≤ 5000) : isK 16 a 8 8 := ⟨by omega, by omega, by
  have : (16 : Nat) ^ 8 = 4294967296 := by decide
  omega, Or.inr (Or.inl rfl)⟩
/-- What holds between two lines: the variables' blocks begin at A, the builder lies at A + 4. -/
structure Di (w : World) (A c g : Nat) (s : ByteArray) (pre : List Pt) (W : World) : Prop where
  bd : Bd (A + 4) (A + 4) (ub (dmp c g pre)) W
  cols : Vr W A (.int .i64 (c : Int)) 3
  grp : Vr W (A + 1) (.int .i64 (g : Int)) 3
  r1 : Vr W (A + 2) (.string ⟨#[]⟩) 9
  r2 : Vr W (A + 3) .nilIface 24
  p5 : Vr W (A + 5) (.string s) 9
  p6 : Vr W (A + 6) (.int .i64 (c : Int)) 3
  bl : Below w.heap.size w W
theorem Di.own {w : World} {A c g : Nat} {s : ByteArray} : OwnFrom (A + 5) (fun pre W => Di w A c g s pre W ∧ w.heap.size ≤ A) := by
  intro pre W W' row h hg hr
  obtain ⟨h, hA⟩ := h
  have hr' : ∀ r, row = some r → ∃ o : Obj, W.heap[r]? = some o ∧ o.isCells = false := fun r e => (hr r e).2
  refine ⟨⟨h.bd.own hg hr', Vr.own h.cols hg hr', Vr.own h.grp hg hr', Vr.own h.r1 hg hr', Vr.own h.r2 hg hr', Vr.own h.p5 hg hr', Vr.own h.p6 hg hr', ?_⟩, hA⟩
  refine ⟨hg.os.trans h.bl.os, hg.tape.trans h.bl.tape, hg.output.trans h.bl.output, Nat.le_trans h.bl.size hg.size, fun k hk => ?_⟩
  rw [hg.block k (Nat.lt_of_lt_of_le hk h.bl.size) (fun e => by have := (hr k e.symm).1; omega)]
  exact h.bl.block k hk
set_option maxRecDepth 100000 in
set_option maxHeartbeats 4000000 in
theorem Dump_at (s : ByteArray) (c g : Nat) (w : World) (hs : s.size ≤ 600) (hg : 1 ≤ g) (hgc : g ≤ c) (hc : c ≤ 256) :
    Calls Tryd.prog 5 #[.string s, .int .i64 (c : Int), .int .i64 (g : Int)] w fun e w' => e = .returned (.tuple #[.string (strOfNums (dmp c g (ptl s c (np s c)))), .nilIface]) ∧ Bl w w' := by
  have hnp := np_le s c (by omega)
  have d1 : ¬ (c : Int) < 1 := by omega
  have d2 : ¬ (256 : Int) < (c : Int) := by omega
  have d3 : ¬ (g : Int) < 1 := by omega
  have d4 : ¬ (c : Int) < (g : Int) := by omega
  have d1' : decide ((c : Int) < 1) = false := decide_eq_false d1
  have d2' : decide ((256 : Int) < (c : Int)) = false := decide_eq_false d2
  have d3' : decide ((g : Int) < 1) = false := decide_eq_false d3
  have d4' : decide ((c : Int) < (g : Int)) = false := decide_eq_false d4
  refine (callsIn_wide (n := 3)).1 ?_
  refine callsIn_of_wp_marks Tryd.func5 rfl trivial ?_ rfl
  simp only [Tryd.ntmps5, List.size_toArray, List.length_cons, List.length_nil, Nat.reduceAdd, Nat.reduceSub, Array.replicate_succ, Array.replicate_zero, List.push_toArray, List.append_toArray, List.nil_append, List.cons_append]
  gi_wp2_with (refine ⟨trivial, ?_⟩; gi_at_call 13; refine (callsIn_wide.2 (parts_at _ _ _)).mono ?_; rintro e w1 ⟨rfl, rfl⟩)
  obtain ⟨A, hA⟩ : ∃ A, A = w.heap.size := ⟨_, rfl⟩
  obtain ⟨W0, hW0⟩ : ∃ W0, W0 = (((((((w.alloc (.cells #[.int .i64 (c : Int)] 3)).alloc (.cells #[.int .i64 (g : Int)] 3)).alloc (.cells #[.string ⟨#[]⟩] 9)).alloc (.cells #[.nilIface] 24)).alloc (.cells #[.pointer none, .slice none 0 0] 40)).alloc (.cells #[.string s] 9)).alloc (.cells #[.int .i64 (c : Int)] 3)) := ⟨_, rfl⟩
  rw [← hW0, ← hA]
  simp only [Nat.add_assoc, Nat.reduceAdd]
  obtain ⟨w1, e1⟩ : ∃ w1, w1 = w.alloc (.cells #[.int .i64 (c : Int)] 3) := ⟨_, rfl⟩
  obtain ⟨w2, e2⟩ : ∃ w2, w2 = w1.alloc (.cells #[.int .i64 (g : Int)] 3) := ⟨_, rfl⟩
  obtain ⟨w3, e3⟩ : ∃ w3, w3 = w2.alloc (.cells #[.string ⟨#[]⟩] 9) := ⟨_, rfl⟩
  obtain ⟨w4, e4⟩ : ∃ w4, w4 = w3.alloc (.cells #[.nilIface] 24) := ⟨_, rfl⟩
  obtain ⟨w5, e5⟩ : ∃ w5, w5 = w4.alloc (.cells #[.pointer none, .slice none 0 0] 40) := ⟨_, rfl⟩
  obtain ⟨w6, e6⟩ : ∃ w6, w6 = w5.alloc (.cells #[.string s] 9) := ⟨_, rfl⟩
  rw [← e1, ← e2, ← e3, ← e4, ← e5, ← e6] at hW0
  have z1 : w1.heap.size = A + 1 := by rw [e1, World.size_alloc, hA]
  have z2 : w2.heap.size = A + 2 := by rw [e2, World.size_alloc, z1]
  have z3 : w3.heap.size = A + 3 := by rw [e3, World.size_alloc, z2]
  have z4 : w4.heap.size = A + 4 := by rw [e4, World.size_alloc, z3]
  have z5 : w5.heap.size = A + 5 := by rw [e5, World.size_alloc, z4]
  have z6 : w6.heap.size = A + 6 := by rw [e6, World.size_alloc, z5]
  have z7 : W0.heap.size = A + 7 := by rw [hW0, World.size_alloc, z6]
  have b7 : Bl w6 W0 := by rw [hW0]; exact (Bl.refl _).alloc _
  have b6 : Bl w5 W0 := Bl.trans (by rw [e6]; exact (Bl.refl _).alloc _) b7
  have b5 : Bl w4 W0 := Bl.trans (by rw [e5]; exact (Bl.refl _).alloc _) b6
  have b4 : Bl w3 W0 := Bl.trans (by rw [e4]; exact (Bl.refl _).alloc _) b5
  have b3 : Bl w2 W0 := Bl.trans (by rw [e3]; exact (Bl.refl _).alloc _) b4
  have b2 : Bl w1 W0 := Bl.trans (by rw [e2]; exact (Bl.refl _).alloc _) b3
  have b1 : Bl w W0 := Bl.trans (by rw [e1]; exact (Bl.refl _).alloc _) b2
  have v0 : Vr W0 A (.int .i64 (c : Int)) 3 := by have := Vr.new w (.int .i64 (c : Int)) 3; rw [← e1, ← hA] at this; exact this.step b2
  have v1 : Vr W0 (A + 1) (.int .i64 (g : Int)) 3 := by have := Vr.new w1 (.int .i64 (g : Int)) 3; rw [← e2, z1] at this; exact this.step b3
  have v2 : Vr W0 (A + 2) (.string ⟨#[]⟩) 9 := by have := Vr.new w2 (.string ⟨#[]⟩) 9; rw [← e3, z2] at this; exact this.step b4
  have v3 : Vr W0 (A + 3) .nilIface 24 := by have := Vr.new w3 .nilIface 24; rw [← e4, z3] at this; exact this.step b5
  have v4 : Bd (A + 4) (A + 4) (ub (dmp c g [])) W0 := by have := Bd.new w4; rw [← e5, z4] at this; exact this.bl b6
  have v5 : Vr W0 (A + 5) (.string s) 9 := by have := Vr.new w5 (.string s) 9; rw [← e6, z5] at this; exact this.step b7
  have v6 : Vr W0 (A + 6) (.int .i64 (c : Int)) 3 := by have := Vr.new w6 (.int .i64 (c : Int)) 3; rw [← hW0, z6] at this; exact this
  have D0 : Di w A c g s [] W0 := ⟨v4, v0, v1, v2, v3, v5, v6, b1⟩
  have hA0 : w.heap.size ≤ A := by omega
  have HA : Hid (A = w.heap.size) := hA
  clear e1 e2 e3 e4 e5 e6 z1 z2 z3 z4 z5 z6 b2 b3 b4 b5 b6 b7 v0 v1 v2 v3 v4 hW0 hA w1 w2 w3 w4 w5 w6
  refine wpIn_rangeFunc_ownF rfl (by decide) (gf := 28) (lb := #[.pointer (some ⟨A + 5, 0, none⟩), .pointer (some ⟨A + 6, 0, none⟩)]) rfl trivial (enters_of Tryd.func28 (by kernel_rfl) rfl)
    (parts_stops 2 (by decide) (A + 5) (A + 6) w.heap.size c s (by omega) (by omega) (by omega) W0 v5 v6) (fun h k => h.trans k) (KV.putObj (w := W0) b1.size) (Below.refl _ _) (fun _ => rfl)
    (fun pre W => Di w A c g s pre W ∧ w.heap.size ≤ A) (fun _ _ _ => False) (fun pre W W' row h hg hr => Di.own pre W W' row h hg (fun r e => ⟨by have := (hr r e).1; omega, (hr r e).2⟩)) (fun _ _ _ _ _ h _ _ => h) ⟨D0, hA0⟩
    (fun x => { tmps := #[.string s, .int .i64 (c : Int), .int .i64 (g : Int), undef, .pointer (some ⟨A, 0, none⟩), .pointer (some ⟨A + 1, 0, none⟩), .pointer (some ⟨A + 2, 0, none⟩), .pointer (some ⟨A + 3, 0, none⟩), .pointer (some ⟨A + 4, 0, none⟩), .int .i64 (x.1.1 : Int), .string x.1.2, undef, undef, .int .i64 (c : Int), .bool false, .bool false, .int .i64 (c : Int), .bool false, .bool false, .bool false, .int .i64 (g : Int), .bool false, .bool false, .bool false, .int .i64 (g : Int), .int .i64 (c : Int), .bool false, .bool false, undef, .string s, .int .i64 (c : Int), .func (.func 28) #[] #[.pointer (some ⟨A + 5, 0, none⟩), .pointer (some ⟨A + 6, 0, none⟩)], .int .i64 (x.1.1 : Int), .string x.1.2, undef, undef, undef, undef, undef, undef, undef, undef, undef, undef, undef, undef, undef, undef, undef, undef, undef, undef, undef, undef, undef, undef, undef], defers := [] }) ?assign ?body ?done ?stop
  case assign =>
    intro l x W K hK
    gi_wp2
    exact hK
  case body =>
    rintro l pre x W ⟨D, _⟩ hlt
    obtain ⟨⟨a, p⟩, ha, hp⟩ := x
    dsimp only at ha hp ⊢
    have hll := dmp_len c g hc pre
    have hrl := rwl_len p g c
    have hsnoc : dmp c g (pre ++ [⟨(a, p), ha, hp⟩]) = dmp c g pre ++ ln c g a p := dmp_snoc c g pre ⟨(a, p), ha, hp⟩
    have HN : Hid (dmp c g (pre ++ [⟨(a, p), ha, hp⟩]) = dmp c g pre ++ pr 16 a 8 ++ [58] ++ rwl p g c ++ [32, 32] ++ shL p p.size ++ [10]) := by
      unfold Hid
      rw [hsnoc]
      unfold ln
      simp only [List.append_assoc]
    have hpl : pre.length ≤ 600 := by omega
    have cP := print_at a 16 8 8
    have hD : Hid (Di w A c g s pre W) := D
    have hcw : IntKind.u64.wrap (a : Int) = (a : Int) := by rw [IntKind.wrap_u64]; omega
    have cc := D.cols.cell
    have cg := D.grp.cell
    obtain ⟨L0, hL0⟩ : ∃ L, L = dmp c g pre := ⟨_, rfl⟩
    have hL0l : L0.length ≤ 1200000 := by rw [hL0]; omega
    rw [← hL0] at HN
    have bd0 : Bd (A + 4) (A + 4) (ub L0) W := by rw [hL0]; exact D.bd
    clear hsnoc D hL0 hll
    gi_wp2_with (fail)
    refine ⟨trivial, ?_⟩
    refine (CallsIn.inRound l (callsIn_wide.2 (print_at a 16 8 8 W (by omega) (by omega) (by omega) (by omega) (isK8 a ha)))).mono ?_
    rintro e W1 ⟨rfl, q1⟩
    have K1 : Hid (Below (A + 4) W W1 ∧ Kb (A + 4) W W1 ∧ Bd (A + 4) (A + 4) (ub L0) W1) := ⟨Below.mono q1.bl bd0.le, Kb.bl q1.bl, bd0.bl q1.bl⟩
    clear q1 bd0 cP
    gi_wp2_with (fail)
    refine ⟨trivial, ?_⟩
    refine (CallsIn.inRound l (callsIn_wide.2 (write_at (A + 4) (A + 4) (ub (L0)) (strOfNums (pr 16 a 8)) W1 K1.out.2.2 (by simp only [ub_len, strOfNums_size, pr_len]; omega)))).mono ?_
    rintro e W2 ⟨rfl, q1, q2, q3⟩
    have K2 : Hid (Below (A + 4) W W2 ∧ Kb (A + 4) W W2 ∧ Bd (A + 4) (A + 4) (ub (L0 ++ pr 16 a 8)) W2) := ⟨Below.trans K1.out.1 q2, K1.out.2.1.trans q3, by rw [ub_app, ← ub_str (pr 16 a 8)]; exact q1⟩
    clear q1 q2 q3 K1
    gi_wp2_with (fail)
    refine ⟨trivial, ?_⟩
    refine (CallsIn.inRound l (callsIn_wide.2 (writeb_at (A + 4) (A + 4) (ub (L0 ++ pr 16 a 8)) 58 58 rfl W2 K2.out.2.2 (by simp only [ub_len, List.length_append, pr_len]; omega)))).mono ?_
    rintro e W3 ⟨rfl, q1, q2, q3⟩
    have K3 : Hid (Below (A + 4) W W3 ∧ Kb (A + 4) W W3 ∧ Bd (A + 4) (A + 4) (ub (L0 ++ pr 16 a 8 ++ [58])) W3) := ⟨Below.trans K2.out.1 q2, K2.out.2.1.trans q3, by rw [ub_app]; exact q1⟩
    clear q1 q2 q3 K2
    have cc3 := (K3.out.2.1.vr hD.out.cols (by omega) (by decide)).cell
    have cg3 := (K3.out.2.1.vr hD.out.grp (by omega) (by decide)).cell
    gi_wp2_with (fail)
    refine ⟨trivial, ?_⟩
    refine (CallsIn.inRound l (callsIn_wide.2 (row_at p c g W3 hg hgc hc hp))).mono ?_
    rintro e W4 ⟨rfl, q1⟩
    have K4 : Hid (Below (A + 4) W W4 ∧ Kb (A + 4) W W4 ∧ Bd (A + 4) (A + 4) (ub (L0 ++ pr 16 a 8 ++ [58])) W4) := ⟨Below.trans K3.out.1 (Below.mono q1 K3.out.2.2.le), K3.out.2.1.trans (Kb.bl q1), K3.out.2.2.bl q1⟩
    clear q1 K3 cc3 cg3
    gi_wp2_with (fail)
    refine ⟨trivial, ?_⟩
    refine (CallsIn.inRound l (callsIn_wide.2 (write_at (A + 4) (A + 4) (ub (L0 ++ pr 16 a 8 ++ [58])) (strOfNums (rwl p g c)) W4 K4.out.2.2 (by simp only [ub_len, strOfNums_size, List.length_append, List.length_cons, List.length_nil, pr_len]; omega)))).mono ?_
    rintro e W5 ⟨rfl, q1, q2, q3⟩
    have K5 : Hid (Below (A + 4) W W5 ∧ Kb (A + 4) W W5 ∧ Bd (A + 4) (A + 4) (ub (L0 ++ pr 16 a 8 ++ [58] ++ rwl p g c)) W5) := ⟨Below.trans K4.out.1 q2, K4.out.2.1.trans q3, by rw [ub_app, ← ub_str (rwl p g c)]; exact q1⟩
    clear q1 q2 q3 K4
    gi_wp2_with (fail)
    refine ⟨trivial, ?_⟩
    refine (CallsIn.inRound l (callsIn_wide.2 (write_at (A + 4) (A + 4) (ub (L0 ++ pr 16 a 8 ++ [58] ++ rwl p g c)) ⟨#[32, 32]⟩ W5 K5.out.2.2 (by rw [ub_len]; simp only [List.length_append, List.length_cons, List.length_nil, pr_len]; show _ + 2 ≤ _; omega)))).mono ?_
    rintro e W6 ⟨rfl, q1, q2, q3⟩
    have K6 : Hid (Below (A + 4) W W6 ∧ Kb (A + 4) W W6 ∧ Bd (A + 4) (A + 4) (ub (L0 ++ pr 16 a 8 ++ [58] ++ rwl p g c ++ [32, 32])) W6) := ⟨Below.trans K5.out.1 q2, K5.out.2.1.trans q3, by rw [ub_app]; exact q1⟩
    clear q1 q2 q3 K5
    gi_wp2_with (fail)
    refine ⟨trivial, ?_⟩
    refine (CallsIn.inRound l (callsIn_wide.2 (Shown_at p W6 hp))).mono ?_
    rintro e W7 ⟨rfl, q1⟩
    have K7 : Hid (Below (A + 4) W W7 ∧ Kb (A + 4) W W7 ∧ Bd (A + 4) (A + 4) (ub (L0 ++ pr 16 a 8 ++ [58] ++ rwl p g c ++ [32, 32])) W7) := ⟨Below.trans K6.out.1 (Below.mono q1 K6.out.2.2.le), K6.out.2.1.trans (Kb.bl q1), K6.out.2.2.bl q1⟩
    clear q1 K6
    gi_wp2_with (fail)
    refine ⟨trivial, ?_⟩
    refine (CallsIn.inRound l (callsIn_wide.2 (write_at (A + 4) (A + 4) (ub (L0 ++ pr 16 a 8 ++ [58] ++ rwl p g c ++ [32, 32])) (strOfNums (shL p p.size)) W7 K7.out.2.2 (by simp only [ub_len, strOfNums_size, List.length_append, List.length_cons, List.length_nil, pr_len, shL_len]; omega)))).mono ?_
    rintro e W8 ⟨rfl, q1, q2, q3⟩
    have K8 : Hid (Below (A + 4) W W8 ∧ Kb (A + 4) W W8 ∧ Bd (A + 4) (A + 4) (ub (L0 ++ pr 16 a 8 ++ [58] ++ rwl p g c ++ [32, 32] ++ shL p p.size)) W8) := ⟨Below.trans K7.out.1 q2, K7.out.2.1.trans q3, by rw [ub_app, ← ub_str (shL p p.size)]; exact q1⟩
    clear q1 q2 q3 K7
    gi_wp2_with (fail)
    refine ⟨trivial, ?_⟩
    refine (CallsIn.inRound l (callsIn_wide.2 (writeb_at (A + 4) (A + 4) (ub (L0 ++ pr 16 a 8 ++ [58] ++ rwl p g c ++ [32, 32] ++ shL p p.size)) 10 10 rfl W8 K8.out.2.2 (by simp only [ub_len, List.length_append, List.length_cons, List.length_nil, pr_len, shL_len]; omega)))).mono ?_
    rintro e W9 ⟨rfl, q1, q2, q3⟩
    have K9 : Hid (Below (A + 4) W W9 ∧ Kb (A + 4) W W9 ∧ Bd (A + 4) (A + 4) (ub (L0 ++ pr 16 a 8 ++ [58] ++ rwl p g c ++ [32, 32] ++ shL p p.size ++ [10])) W9) := ⟨Below.trans K8.out.1 q2, K8.out.2.1.trans q3, by rw [ub_app]; exact q1⟩
    clear q1 q2 q3 K8
    gi_wp2
    refine ⟨K9.out.2.1.others hD.out.bd, ⟨Below.mono K9.out.1 (by omega), fun i hi c' t f hcell => ?_⟩, ?_, hA0⟩
    · have h5 := hD.out.p5
      have h6 := hD.out.p6
      unfold Vr at h5 h6
      refine K9.out.2.1.same i _ hcell ?_ ?_
      · simp only [List.mem_cons, List.not_mem_nil, or_false] at hi
        omega
      · intro c'' fz e
        injection e with _ e2 _
        subst e2
        simp only [List.mem_cons, List.not_mem_nil, or_false] at hi
        rcases hi with rfl | rfl
        · rw [h5] at hcell
          injection hcell with hcell
          injection hcell with _ e3 _
          exact absurd e3 (by decide)
        · rw [h6] at hcell
          injection hcell with hcell
          injection hcell with _ e3 _
          exact absurd e3 (by decide)
    · have hk := K9.out.2.1
      refine ⟨?_, hk.vr hD.out.cols (by omega) (by decide), hk.vr hD.out.grp (by omega) (by decide), hk.vr hD.out.r1 (by omega) (by decide), hk.vr hD.out.r2 (by omega) (by decide), hk.vr hD.out.p5 (by omega) (by decide), hk.vr hD.out.p6 (by omega) (by decide), hD.out.bl.trans (Below.mono K9.out.1 (by omega))⟩
      rw [HN.out]
      exact K9.out.2.2
  case done =>
    rintro D ys W hD rfl ⟨I, _⟩ hK
    have HI : Hid (Di w A c g s (ptl s c (np s c)) W) := I
    gi_wp2_with (fail)
    refine ⟨trivial, ?_⟩
    refine (callsIn_wide.2 (string_at (A + 4) (A + 4) _ W HI.out.bd)).mono ?_
    rintro e W1 ⟨rfl, q2, q3⟩
    rw [str_ub]
    have r1 := q3.vr HI.out.r1 (by omega) (by decide)
    have r2 := q3.vr HI.out.r2 (by omega) (by decide)
    have HB : Hid (Bl w W1) := HI.out.bl.trans (Below.mono q2 (by omega))
    have hK1 : W1.heap[D]? = some (.deferred (some [])) := (q3.others HI.out.bd).same D _ hK rfl
    have y1 := r1.cell
    have y2 := r2.cell
    have y3 := r1.frozen
    have y4 := r2.frozen
    have HV : Hid (Vr W1 (A + 2) (.string ⟨#[]⟩) 9 ∧ Vr W1 (A + 3) .nilIface 24) := ⟨r1, r2⟩
    clear q2 q3 I hK r1 r2
    obtain ⟨R, hR⟩ : ∃ R, R = strOfNums (dmp c g (ptl s c (np s c))) := ⟨_, rfl⟩
    rw [← hR]
    have HR : Hid (R = strOfNums (dmp c g (ptl s c (np s c)))) := hR
    clear hR
    gi_wp2
    have hK' := ((KeepsOthers.setCell W1 ⟨A + 2, 0, none⟩ (.string R)).trans (KeepsOthers.setCell _ ⟨A + 3, 0, none⟩ .nilIface)).same D _ hK1 rfl
    refine ⟨by simp, .inl ⟨_, _, rfl, run_takeDeferred hK', ?_⟩⟩
    have u1 : Vr ((W1.setCell ⟨A + 2, 0, none⟩ (.string R)).setCell ⟨A + 3, 0, none⟩ .nilIface) (A + 2) (.string R) 9 := (HV.out.1.set _).set_other (by omega) _
    have u2 : Vr ((W1.setCell ⟨A + 2, 0, none⟩ (.string R)).setCell ⟨A + 3, 0, none⟩ .nilIface) (A + 3) .nilIface 24 := (HV.out.2.set_other (by omega) _).set _
    have hc1 := (Vr.own u1 (grownBy_putObj' _ D (.deferred none)) (fun r e => by cases e; exact ⟨_, hK', rfl⟩)).cell
    have hc2 := (Vr.own u2 (grownBy_putObj' _ D (.deferred none)) (fun r e => by cases e; exact ⟨_, hK', rfl⟩)).cell
    refine ⟨.tuple #[.string R, .nilIface], ?_, by rw [HR.out], ((HB.out.setCell (a := ⟨A + 2, 0, none⟩) (by show w.heap.size ≤ A + 2; omega) _).setCell (a := ⟨A + 3, 0, none⟩) (by show w.heap.size ≤ A + 3; omega) _).thru (belowK_b (w := w) (Nat.le_refl _) _ D _ _ (by omega) hK' rfl rfl)⟩
    simp [results, Tryd.f5, go_sem, hc1, hc2]
  case stop =>
    rintro D c pre W _ _ h _
    exact h.elim
end Go.Proofs.YtmchpmfogjhpoabDoor.xd
