/- The document's own: the statement in which two numbers are taken from one another, in whatever order. -/
import Derived.Test.YtnhekkahiphlgaaDoorUnCmp
import Derived.Deep.RegionHeld3
namespace Go.Proofs.YtnhekkahiphlgaaDoor.rl
open Go.RowKit
open mem flt
def op19_0 : Oper := { dst := some 82, op := Op.load 73 (Operand.tmp 14), type := 73, pos := "low.go:380", after := #[], guard := none }
def op19_1 : Oper := { dst := some 83, op := Op.load 73 (Operand.tmp 12), type := 73, pos := "low.go:380", after := #[], guard := none }
def op19_2 : Oper := { dst := some 84, op := Op.call { callee := Callee.value (Operand.func 42), args := #[Operand.tmp 82, Operand.tmp 83], argTypes := #[73, 73] }, type := 73, pos := "low.go:380", after := #[{ on := 0, ground := Ground.data }, { on := 1, ground := Ground.data }], guard := none }
def op19_3 : Oper := { dst := some 85, op := Op.load 73 (Operand.tmp 13), type := 73, pos := "low.go:380", after := #[], guard := none }
def op19_4 : Oper := { dst := some 86, op := Op.load 73 (Operand.tmp 14), type := 73, pos := "low.go:380", after := #[], guard := none }
def op19_5 : Oper := { dst := some 87, op := Op.call { callee := Callee.value (Operand.func 42), args := #[Operand.tmp 85, Operand.tmp 86], argTypes := #[73, 73] }, type := 73, pos := "low.go:380", after := #[{ on := 3, ground := Ground.data }, { on := 4, ground := Ground.data }, { on := 2, ground := Ground.chain }], guard := none }
def op19_6 : Oper := { dst := some 15, op := Op.alloc 73, type := 0, pos := "low.go:380", after := #[], guard := none }
def op19_7 : Oper := { dst := some 16, op := Op.alloc 73, type := 0, pos := "low.go:380", after := #[], guard := none }
def op19_8 : Oper := { dst := none, op := Op.store 73 (Operand.tmp 15) (Operand.tmp 84), type := 0, pos := "low.go:380", after := #[{ on := 6, ground := Ground.data }, { on := 2, ground := Ground.data }, { on := 5, ground := Ground.chain }, { on := 0, ground := Ground.phase }, { on := 1, ground := Ground.phase }, { on := 2, ground := Ground.phase }, { on := 3, ground := Ground.textOnly Departure.lateStores }, { on := 4, ground := Ground.textOnly Departure.lateStores }, { on := 5, ground := Ground.textOnly Departure.lateStoresUnsure }, { on := 6, ground := Ground.phase }, { on := 7, ground := Ground.phase }], guard := none }
def op19_9 : Oper := { dst := none, op := Op.store 73 (Operand.tmp 16) (Operand.tmp 87), type := 0, pos := "low.go:380", after := #[{ on := 7, ground := Ground.data }, { on := 5, ground := Ground.data }, { on := 8, ground := Ground.chain }, { on := 0, ground := Ground.phase }, { on := 1, ground := Ground.phase }, { on := 2, ground := Ground.phase }, { on := 3, ground := Ground.phase }, { on := 4, ground := Ground.phase }, { on := 5, ground := Ground.phase }, { on := 6, ground := Ground.phase }, { on := 7, ground := Ground.phase }, { on := 8, ground := Ground.phase }], guard := none }
def ops19 : Array Oper := #[{ dst := some 82, op := Op.load 73 (Operand.tmp 14), type := 73, pos := "low.go:380", after := #[], guard := none }, { dst := some 83, op := Op.load 73 (Operand.tmp 12), type := 73, pos := "low.go:380", after := #[], guard := none }, { dst := some 84, op := Op.call { callee := Callee.value (Operand.func 42), args := #[Operand.tmp 82, Operand.tmp 83], argTypes := #[73, 73] }, type := 73, pos := "low.go:380", after := #[{ on := 0, ground := Ground.data }, { on := 1, ground := Ground.data }], guard := none }, { dst := some 85, op := Op.load 73 (Operand.tmp 13), type := 73, pos := "low.go:380", after := #[], guard := none }, { dst := some 86, op := Op.load 73 (Operand.tmp 14), type := 73, pos := "low.go:380", after := #[], guard := none }, { dst := some 87, op := Op.call { callee := Callee.value (Operand.func 42), args := #[Operand.tmp 85, Operand.tmp 86], argTypes := #[73, 73] }, type := 73, pos := "low.go:380", after := #[{ on := 3, ground := Ground.data }, { on := 4, ground := Ground.data }, { on := 2, ground := Ground.chain }], guard := none }, { dst := some 15, op := Op.alloc 73, type := 0, pos := "low.go:380", after := #[], guard := none }, { dst := some 16, op := Op.alloc 73, type := 0, pos := "low.go:380", after := #[], guard := none }, { dst := none, op := Op.store 73 (Operand.tmp 15) (Operand.tmp 84), type := 0, pos := "low.go:380", after := #[{ on := 6, ground := Ground.data }, { on := 2, ground := Ground.data }, { on := 5, ground := Ground.chain }, { on := 0, ground := Ground.phase }, { on := 1, ground := Ground.phase }, { on := 2, ground := Ground.phase }, { on := 3, ground := Ground.textOnly Departure.lateStores }, { on := 4, ground := Ground.textOnly Departure.lateStores }, { on := 5, ground := Ground.textOnly Departure.lateStoresUnsure }, { on := 6, ground := Ground.phase }, { on := 7, ground := Ground.phase }], guard := none }, { dst := none, op := Op.store 73 (Operand.tmp 16) (Operand.tmp 87), type := 0, pos := "low.go:380", after := #[{ on := 7, ground := Ground.data }, { on := 5, ground := Ground.data }, { on := 8, ground := Ground.chain }, { on := 0, ground := Ground.phase }, { on := 1, ground := Ground.phase }, { on := 2, ground := Ground.phase }, { on := 3, ground := Ground.phase }, { on := 4, ground := Ground.phase }, { on := 5, ground := Ground.phase }, { on := 6, ground := Ground.phase }, { on := 7, ground := Ground.phase }, { on := 8, ground := Ground.phase }], guard := none }]
theorem Un.setAll {w : World} {g : Nat} {f : Nat → Nat} (h : Un w g f) (f' : Nat → Nat) : Un (w.setCells g 0 (ulf f')) g f' := fun j hj => by
  have t := h.there
  refine ⟨?_, ?_⟩
  · have := World.rangeAt_setCells_same w g 0 (ulf f') (by rw [ulf_len]; exact t) j (.int .u64 (f' j : Int)) (by simp [ulf, List.getElem?_range hj])
    simpa using this
  · rw [World.frozen?_setCells]; exact (h j hj).2
theorem Un.farAll {w : World} {g g' : Nat} {f : Nat → Nat} (h : Un w g f) (hg : g ≠ g') (l : List Value) : Un (w.setCells g' 0 l) g f := fun j hj => by
  refine ⟨?_, ?_⟩
  · rw [World.cell?_setCells_out g' l 0 w ⟨g, j, none⟩ (fun e => absurd e hg)]; exact (h j hj).1
  · rw [World.frozen?_setCells]; exact (h j hj).2
set_option maxHeartbeats 1000000 in
theorem wp19_call {Q : Exit → Act → World → Prop} {o : Oper} {a : Act} {w : World} {K : Act → World → Prop} {u v x : Value} {i j d : Nat} (ho : o.op = .call { callee := .value (.func 42), args := #[.tmp i, .tmp j], argTypes := #[73, 73] })
    (hd : o.dst = some d) (h1 : a.tmps[i]?.getD undef = u) (h2 : a.tmps[j]?.getD undef = v) (hc : Calls Tryd.prog 42 #[u, v] w fun e w' => e = .returned x ∧ Gb w w')
    (h : ∀ w', Gb w w' → K (a.put o.dst x) w') : o.wp Tryd.prog a w K Q := by
  obtain ⟨od, oo, ot, op, oa, og⟩ := o
  dsimp only at ho h hd
  subst ho hd
  unfold Oper.wp execOp
  go_simp
  refine hc.mono ?_
  intro e w2 he
  obtain ⟨he, g2⟩ := he
  subst he
  exact h _ g2
theorem wp19_alloc {Q : Exit → Act → World → Prop} {o : Oper} {a : Act} {w : World} {K : Act → World → Prop} (ho : o.op = .alloc 73)
    (h : K (a.put o.dst (.pointer (some ⟨w.heap.size, 0, none⟩))) (w.alloc (.cells (ulf fun _ => 0).toArray 73))) : o.wp Tryd.prog a w K Q := by
  obtain ⟨od, oo, ot, op, oa, og⟩ := o
  dsimp only at ho h
  subst ho
  rw [← zeros34] at h
  unfold Oper.wp execOp
  go_simp
  exact h
theorem Un.lt {w : World} {g : Nat} {f : Nat → Nat} (h : Un w g f) : g < w.heap.size := lt_block (a := ⟨g, 0, none⟩) (h 0 (by omega)).1
set_option maxRecDepth 20000 in
set_option maxHeartbeats 4000000 in
theorem reg19 {Q : Exit → Act → World → Prop} {t0 t1 t2 t3 t4 t5 t6 t7 t8 t9 t10 t11 t15 t16 t17 t18 t19 t20 t21 t22 t23 t24 t25 t26 t27 t28 t29 t30 t31 t32 t33 t34 t35 t36 t37 t38 t39 t40 t41 t42 t43 t44 t45 t46 t47 t48 t49 t50 t51 t52 t53 t54 t55 t56 t57 t58 t59 t60 t61 t62 t63 t64 t65 t66 t67 t68 t69 t70 t71 t72 t73 t74 t75 t76 t77 t78 t79 t80 t81 t82 t83 t84 t85 t86 t87 t88 t89 t90 t91 t92 t93 t94 t95 t96 t97 t98 t99 t100 t101 t102 t103 t104 t105 t106 t107 t108 t109 t110 : Value} {A B C X Y Z : Nat} {w : World} (hA : Un w A (wd X)) (hB : Un w B (wd Y)) (hC : Un w C (wd Z)) (hxz : X ≤ Z) (hzy : Z ≤ Y)
    (hP : ∀ c a d v w, Q (.panic c) (a.put d v) w → Q (.panic c) a w)
    (hQ : ∀ p q w', Un w' p (wd (Z - X)) → Un w' q (wd (Y - Z)) → Gb w w' → Q .normal ({ tmps := #[t0, t1, t2, t3, t4, t5, t6, t7, t8, t9, t10, t11, (.pointer (some ⟨A, 0, none⟩)), (.pointer (some ⟨B, 0, none⟩)), (.pointer (some ⟨C, 0, none⟩)), (.pointer (some ⟨p, 0, none⟩)), (.pointer (some ⟨q, 0, none⟩)), t17, t18, t19, t20, t21, t22, t23, t24, t25, t26, t27, t28, t29, t30, t31, t32, t33, t34, t35, t36, t37, t38, t39, t40, t41, t42, t43, t44, t45, t46, t47, t48, t49, t50, t51, t52, t53, t54, t55, t56, t57, t58, t59, t60, t61, t62, t63, t64, t65, t66, t67, t68, t69, t70, t71, t72, t73, t74, t75, t76, t77, t78, t79, t80, t81, (.agg (ul Z)), (.agg (ul X)), (.agg (ul (Z - X))), (.agg (ul Y)), (.agg (ul Z)), (.agg (ul (Y - Z))), t88, t89, t90, t91, t92, t93, t94, t95, t96, t97, t98, t99, t100, t101, t102, t103, t104, t105, t106, t107, t108, t109, t110], defers := [] } : Act) w') :
    (Code.region 19 ops19 true).wp Tryd.prog Q ({ tmps := #[t0, t1, t2, t3, t4, t5, t6, t7, t8, t9, t10, t11, (.pointer (some ⟨A, 0, none⟩)), (.pointer (some ⟨B, 0, none⟩)), (.pointer (some ⟨C, 0, none⟩)), t15, t16, t17, t18, t19, t20, t21, t22, t23, t24, t25, t26, t27, t28, t29, t30, t31, t32, t33, t34, t35, t36, t37, t38, t39, t40, t41, t42, t43, t44, t45, t46, t47, t48, t49, t50, t51, t52, t53, t54, t55, t56, t57, t58, t59, t60, t61, t62, t63, t64, t65, t66, t67, t68, t69, t70, t71, t72, t73, t74, t75, t76, t77, t78, t79, t80, t81, t82, t83, t84, t85, t86, t87, t88, t89, t90, t91, t92, t93, t94, t95, t96, t97, t98, t99, t100, t101, t102, t103, t104, t105, t106, t107, t108, t109, t110], defers := [] } : Act) w := by
  obtain ⟨VX, hVX⟩ : ∃ V : Value, .agg (ul X) = V := ⟨_, rfl⟩
  obtain ⟨VY, hVY⟩ : ∃ V : Value, .agg (ul Y) = V := ⟨_, rfl⟩
  obtain ⟨VZ, hVZ⟩ : ∃ V : Value, .agg (ul Z) = V := ⟨_, rfl⟩
  obtain ⟨VD, hVD⟩ : ∃ V : Value, .agg (ul (Z - X)) = V := ⟨_, rfl⟩
  obtain ⟨VE, hVE⟩ : ∃ V : Value, .agg (ul (Y - Z)) = V := ⟨_, rfl⟩
  have cD : ∀ w', Calls Tryd.prog 42 #[VZ, VX] w' fun e w'' => e = .returned VD ∧ Gb w' w'' := fun w' => by rw [← hVZ, ← hVX, ← hVD]; exact less_at Z X w' hxz
  have cE : ∀ w', Calls Tryd.prog 42 #[VY, VZ] w' fun e w'' => e = .returned VE ∧ Gb w' w'' := fun w' => by rw [← hVZ, ← hVY, ← hVE]; exact less_at Y Z w' hzy
  rw [hVX, hVY, hVZ, hVD, hVE] at hQ
  obtain ⟨S, hS⟩ : ∃ S : World → Prop, S = fun w' => w'.rangeAt A 0 (ulf (wd X)) ∧ w'.rangeAt B 0 (ulf (wd Y)) ∧ w'.rangeAt C 0 (ulf (wd Z)) := ⟨_, rfl⟩
  have sg : ∀ w', Gb w w' → S w' := fun w' g => by rw [hS]; exact ⟨(hA.gb g).range, (hB.gb g).range, (hC.gb g).range⟩
  have zr : ∀ w', S w' → w'.rangeAt C 0 (ulf (wd Z)) := fun w' h => by rw [hS] at h; exact h.2.2
  have yr : ∀ w', S w' → w'.rangeAt B 0 (ulf (wd Y)) := fun w' h => by rw [hS] at h; exact h.2.1
  have xr : ∀ w', S w' → w'.rangeAt A 0 (ulf (wd X)) := fun w' h => by rw [hS] at h; exact h.1
  clear hA hB hC hS
  -- both are made, both blocks stand
  have s1111 : ∀ p q w', Gb w w' → w.heap.size ≤ p → Un w' p (fun _ => 0) → w.heap.size ≤ q → Un w' q (fun _ => 0) → p ≠ q → wpAnyH Tryd.prog .any ops19 Q S 2 #[true, true, true, true, true, true, true, true, false, false] ({ tmps := #[t0, t1, t2, t3, t4, t5, t6, t7, t8, t9, t10, t11, (.pointer (some ⟨A, 0, none⟩)), (.pointer (some ⟨B, 0, none⟩)), (.pointer (some ⟨C, 0, none⟩)), (.pointer (some ⟨p, 0, none⟩)), (.pointer (some ⟨q, 0, none⟩)), t17, t18, t19, t20, t21, t22, t23, t24, t25, t26, t27, t28, t29, t30, t31, t32, t33, t34, t35, t36, t37, t38, t39, t40, t41, t42, t43, t44, t45, t46, t47, t48, t49, t50, t51, t52, t53, t54, t55, t56, t57, t58, t59, t60, t61, t62, t63, t64, t65, t66, t67, t68, t69, t70, t71, t72, t73, t74, t75, t76, t77, t78, t79, t80, t81, VZ, VX, VD, VY, VZ, VE, t88, t89, t90, t91, t92, t93, t94, t95, t96, t97, t98, t99, t100, t101, t102, t103, t104, t105, t106, t107, t108, t109, t110], defers := [] } : Act) w' := by
    intro p q w' g hp up hq uq hpq
    refine wpAnyH_ready (rs := [8]) (by kernel_rfl) (by simp) (AllReadyH.cons (o := op19_8) rfl (fun K hK => ?_) AllReadyH.nil)
    rw [if_pos (by rfl)]
    refine wp_store_mid 73 _ _ rfl p 0 (ulf (wd (Z - X))).toArray rfl hVD.symm (by simpa [ulf_len] using up.there) (by simpa [ulf_len] using info34) (ulf_one _) ?_
    have g2 : Gb w (w'.setCells p 0 (ulf (wd (Z - X)))) := gb_setCells hp _ _ _ g
    refine hK.out _ _ (sg _ g2) (fun _ => ?_)
    have up2 := up.setAll (wd (Z - X))
    have uq2 := uq.farAll hpq.symm (ulf (wd (Z - X)))
    change wpAnyH Tryd.prog .any ops19 Q S 1 #[true, true, true, true, true, true, true, true, true, false] ({ tmps := #[t0, t1, t2, t3, t4, t5, t6, t7, t8, t9, t10, t11, (.pointer (some ⟨A, 0, none⟩)), (.pointer (some ⟨B, 0, none⟩)), (.pointer (some ⟨C, 0, none⟩)), (.pointer (some ⟨p, 0, none⟩)), (.pointer (some ⟨q, 0, none⟩)), t17, t18, t19, t20, t21, t22, t23, t24, t25, t26, t27, t28, t29, t30, t31, t32, t33, t34, t35, t36, t37, t38, t39, t40, t41, t42, t43, t44, t45, t46, t47, t48, t49, t50, t51, t52, t53, t54, t55, t56, t57, t58, t59, t60, t61, t62, t63, t64, t65, t66, t67, t68, t69, t70, t71, t72, t73, t74, t75, t76, t77, t78, t79, t80, t81, VZ, VX, VD, VY, VZ, VE, t88, t89, t90, t91, t92, t93, t94, t95, t96, t97, t98, t99, t100, t101, t102, t103, t104, t105, t106, t107, t108, t109, t110], defers := [] } : Act) (w'.setCells p 0 (ulf (wd (Z - X))))
    generalize w'.setCells p 0 (ulf (wd (Z - X))) = w2 at *
    refine wpAnyH_ready (rs := [9]) (by kernel_rfl) (by simp) (AllReadyH.cons (o := op19_9) rfl (fun K hK => ?_) AllReadyH.nil)
    rw [if_pos (by rfl)]
    refine wp_store_mid 73 _ _ rfl q 0 (ulf (wd (Y - Z))).toArray rfl hVE.symm (by simpa [ulf_len] using uq2.there) (by simpa [ulf_len] using info34) (ulf_one _) ?_
    have g3 : Gb w (w2.setCells q 0 (ulf (wd (Y - Z)))) := gb_setCells hq _ _ _ g2
    refine hK.out _ _ (sg _ g3) (fun _ => wpAnyH_done (by kernel_rfl) ?_ _)
    exact hQ p q _ (up2.farAll hpq _) (uq2.setAll _) g3
  have s1011 : ∀ p q w', Gb w w' → w.heap.size ≤ p → Un w' p (fun _ => 0) → w.heap.size ≤ q → Un w' q (fun _ => 0) → p ≠ q → wpAnyH Tryd.prog .any ops19 Q S 3 #[true, true, true, true, true, false, true, true, false, false] ({ tmps := #[t0, t1, t2, t3, t4, t5, t6, t7, t8, t9, t10, t11, (.pointer (some ⟨A, 0, none⟩)), (.pointer (some ⟨B, 0, none⟩)), (.pointer (some ⟨C, 0, none⟩)), (.pointer (some ⟨p, 0, none⟩)), (.pointer (some ⟨q, 0, none⟩)), t17, t18, t19, t20, t21, t22, t23, t24, t25, t26, t27, t28, t29, t30, t31, t32, t33, t34, t35, t36, t37, t38, t39, t40, t41, t42, t43, t44, t45, t46, t47, t48, t49, t50, t51, t52, t53, t54, t55, t56, t57, t58, t59, t60, t61, t62, t63, t64, t65, t66, t67, t68, t69, t70, t71, t72, t73, t74, t75, t76, t77, t78, t79, t80, t81, VZ, VX, VD, VY, VZ, t87, t88, t89, t90, t91, t92, t93, t94, t95, t96, t97, t98, t99, t100, t101, t102, t103, t104, t105, t106, t107, t108, t109, t110], defers := [] } : Act) w' := by
    intro p q w' g hp up hq uq hpq
    refine wpAnyH_ready (rs := [5]) (by kernel_rfl) (by simp) ?_
    refine AllReadyH.cons (o := op19_5) rfl (fun K hK => ?_) ?_
    · rw [if_pos (by rfl)]
      refine wp19_call rfl rfl rfl rfl (cE _) ?_
      intro w2 g2
      refine hK.out _ _ (sg _ (g.trans g2)) (fun _ => ?_)
      exact s1111 p q w2 (g.trans g2) hp (up.gb g2) hq (uq.gb g2) hpq
    exact AllReadyH.nil
  have s1101 : ∀ q w', Gb w w' → w.heap.size ≤ q → Un w' q (fun _ => 0) → wpAnyH Tryd.prog .any ops19 Q S 3 #[true, true, true, true, true, true, false, true, false, false] ({ tmps := #[t0, t1, t2, t3, t4, t5, t6, t7, t8, t9, t10, t11, (.pointer (some ⟨A, 0, none⟩)), (.pointer (some ⟨B, 0, none⟩)), (.pointer (some ⟨C, 0, none⟩)), t15, (.pointer (some ⟨q, 0, none⟩)), t17, t18, t19, t20, t21, t22, t23, t24, t25, t26, t27, t28, t29, t30, t31, t32, t33, t34, t35, t36, t37, t38, t39, t40, t41, t42, t43, t44, t45, t46, t47, t48, t49, t50, t51, t52, t53, t54, t55, t56, t57, t58, t59, t60, t61, t62, t63, t64, t65, t66, t67, t68, t69, t70, t71, t72, t73, t74, t75, t76, t77, t78, t79, t80, t81, VZ, VX, VD, VY, VZ, VE, t88, t89, t90, t91, t92, t93, t94, t95, t96, t97, t98, t99, t100, t101, t102, t103, t104, t105, t106, t107, t108, t109, t110], defers := [] } : Act) w' := by
    intro q w' g hq uq
    refine wpAnyH_ready (rs := [6]) (by kernel_rfl) (by simp) ?_
    refine AllReadyH.cons (o := op19_6) rfl (fun K hK => ?_) ?_
    · rw [if_pos (by rfl)]
      refine wp19_alloc rfl ?_
      have g2 : Gb w (w'.alloc (.cells (ulf fun _ => 0).toArray 73)) := g.alloc _ _
      refine hK.out _ _ (sg _ g2) (fun _ => ?_)
      exact s1111 w'.heap.size q _ g2 g.size (Un.new w' _ _) hq (uq.alloc _ _) (Nat.ne_of_gt uq.lt)
    exact AllReadyH.nil
  have s1110 : ∀ p w', Gb w w' → w.heap.size ≤ p → Un w' p (fun _ => 0) → wpAnyH Tryd.prog .any ops19 Q S 3 #[true, true, true, true, true, true, true, false, false, false] ({ tmps := #[t0, t1, t2, t3, t4, t5, t6, t7, t8, t9, t10, t11, (.pointer (some ⟨A, 0, none⟩)), (.pointer (some ⟨B, 0, none⟩)), (.pointer (some ⟨C, 0, none⟩)), (.pointer (some ⟨p, 0, none⟩)), t16, t17, t18, t19, t20, t21, t22, t23, t24, t25, t26, t27, t28, t29, t30, t31, t32, t33, t34, t35, t36, t37, t38, t39, t40, t41, t42, t43, t44, t45, t46, t47, t48, t49, t50, t51, t52, t53, t54, t55, t56, t57, t58, t59, t60, t61, t62, t63, t64, t65, t66, t67, t68, t69, t70, t71, t72, t73, t74, t75, t76, t77, t78, t79, t80, t81, VZ, VX, VD, VY, VZ, VE, t88, t89, t90, t91, t92, t93, t94, t95, t96, t97, t98, t99, t100, t101, t102, t103, t104, t105, t106, t107, t108, t109, t110], defers := [] } : Act) w' := by
    intro p w' g hp up
    refine wpAnyH_ready (rs := [7]) (by kernel_rfl) (by simp) ?_
    refine AllReadyH.cons (o := op19_7) rfl (fun K hK => ?_) ?_
    · rw [if_pos (by rfl)]
      refine wp19_alloc rfl ?_
      have g2 : Gb w (w'.alloc (.cells (ulf fun _ => 0).toArray 73)) := g.alloc _ _
      refine hK.out _ _ (sg _ g2) (fun _ => ?_)
      exact s1111 p w'.heap.size _ g2 hp (up.alloc _ _) g.size (Un.new w' _ _) (Nat.ne_of_lt up.lt)
    exact AllReadyH.nil
  have s0011 : ∀ p q w', Gb w w' → w.heap.size ≤ p → Un w' p (fun _ => 0) → w.heap.size ≤ q → Un w' q (fun _ => 0) → p ≠ q → wpAnyH Tryd.prog .any ops19 Q S 4 #[true, true, false, true, true, false, true, true, false, false] ({ tmps := #[t0, t1, t2, t3, t4, t5, t6, t7, t8, t9, t10, t11, (.pointer (some ⟨A, 0, none⟩)), (.pointer (some ⟨B, 0, none⟩)), (.pointer (some ⟨C, 0, none⟩)), (.pointer (some ⟨p, 0, none⟩)), (.pointer (some ⟨q, 0, none⟩)), t17, t18, t19, t20, t21, t22, t23, t24, t25, t26, t27, t28, t29, t30, t31, t32, t33, t34, t35, t36, t37, t38, t39, t40, t41, t42, t43, t44, t45, t46, t47, t48, t49, t50, t51, t52, t53, t54, t55, t56, t57, t58, t59, t60, t61, t62, t63, t64, t65, t66, t67, t68, t69, t70, t71, t72, t73, t74, t75, t76, t77, t78, t79, t80, t81, VZ, VX, t84, VY, VZ, t87, t88, t89, t90, t91, t92, t93, t94, t95, t96, t97, t98, t99, t100, t101, t102, t103, t104, t105, t106, t107, t108, t109, t110], defers := [] } : Act) w' := by
    intro p q w' g hp up hq uq hpq
    refine wpAnyH_ready (rs := [2]) (by kernel_rfl) (by simp) ?_
    refine AllReadyH.cons (o := op19_2) rfl (fun K hK => ?_) ?_
    · rw [if_pos (by rfl)]
      refine wp19_call rfl rfl rfl rfl (cD _) ?_
      intro w2 g2
      refine hK.out _ _ (sg _ (g.trans g2)) (fun _ => ?_)
      exact s1011 p q w2 (g.trans g2) hp (up.gb g2) hq (uq.gb g2) hpq
    exact AllReadyH.nil
  have s1001 : ∀ q w', Gb w w' → w.heap.size ≤ q → Un w' q (fun _ => 0) → wpAnyH Tryd.prog .any ops19 Q S 4 #[true, true, true, true, true, false, false, true, false, false] ({ tmps := #[t0, t1, t2, t3, t4, t5, t6, t7, t8, t9, t10, t11, (.pointer (some ⟨A, 0, none⟩)), (.pointer (some ⟨B, 0, none⟩)), (.pointer (some ⟨C, 0, none⟩)), t15, (.pointer (some ⟨q, 0, none⟩)), t17, t18, t19, t20, t21, t22, t23, t24, t25, t26, t27, t28, t29, t30, t31, t32, t33, t34, t35, t36, t37, t38, t39, t40, t41, t42, t43, t44, t45, t46, t47, t48, t49, t50, t51, t52, t53, t54, t55, t56, t57, t58, t59, t60, t61, t62, t63, t64, t65, t66, t67, t68, t69, t70, t71, t72, t73, t74, t75, t76, t77, t78, t79, t80, t81, VZ, VX, VD, VY, VZ, t87, t88, t89, t90, t91, t92, t93, t94, t95, t96, t97, t98, t99, t100, t101, t102, t103, t104, t105, t106, t107, t108, t109, t110], defers := [] } : Act) w' := by
    intro q w' g hq uq
    refine wpAnyH_ready (rs := [5, 6]) (by kernel_rfl) (by simp) ?_
    refine AllReadyH.cons (o := op19_5) rfl (fun K hK => ?_) ?_
    · rw [if_pos (by rfl)]
      refine wp19_call rfl rfl rfl rfl (cE _) ?_
      intro w2 g2
      refine hK.out _ _ (sg _ (g.trans g2)) (fun _ => ?_)
      exact s1101 q w2 (g.trans g2) hq (uq.gb g2)
    refine AllReadyH.cons (o := op19_6) rfl (fun K hK => ?_) ?_
    · rw [if_pos (by rfl)]
      refine wp19_alloc rfl ?_
      have g2 : Gb w (w'.alloc (.cells (ulf fun _ => 0).toArray 73)) := g.alloc _ _
      refine hK.out _ _ (sg _ g2) (fun _ => ?_)
      exact s1011 w'.heap.size q _ g2 g.size (Un.new w' _ _) hq (uq.alloc _ _) (Nat.ne_of_gt uq.lt)
    exact AllReadyH.nil
  have s1010 : ∀ p w', Gb w w' → w.heap.size ≤ p → Un w' p (fun _ => 0) → wpAnyH Tryd.prog .any ops19 Q S 4 #[true, true, true, true, true, false, true, false, false, false] ({ tmps := #[t0, t1, t2, t3, t4, t5, t6, t7, t8, t9, t10, t11, (.pointer (some ⟨A, 0, none⟩)), (.pointer (some ⟨B, 0, none⟩)), (.pointer (some ⟨C, 0, none⟩)), (.pointer (some ⟨p, 0, none⟩)), t16, t17, t18, t19, t20, t21, t22, t23, t24, t25, t26, t27, t28, t29, t30, t31, t32, t33, t34, t35, t36, t37, t38, t39, t40, t41, t42, t43, t44, t45, t46, t47, t48, t49, t50, t51, t52, t53, t54, t55, t56, t57, t58, t59, t60, t61, t62, t63, t64, t65, t66, t67, t68, t69, t70, t71, t72, t73, t74, t75, t76, t77, t78, t79, t80, t81, VZ, VX, VD, VY, VZ, t87, t88, t89, t90, t91, t92, t93, t94, t95, t96, t97, t98, t99, t100, t101, t102, t103, t104, t105, t106, t107, t108, t109, t110], defers := [] } : Act) w' := by
    intro p w' g hp up
    refine wpAnyH_ready (rs := [5, 7]) (by kernel_rfl) (by simp) ?_
    refine AllReadyH.cons (o := op19_5) rfl (fun K hK => ?_) ?_
    · rw [if_pos (by rfl)]
      refine wp19_call rfl rfl rfl rfl (cE _) ?_
      intro w2 g2
      refine hK.out _ _ (sg _ (g.trans g2)) (fun _ => ?_)
      exact s1110 p w2 (g.trans g2) hp (up.gb g2)
    refine AllReadyH.cons (o := op19_7) rfl (fun K hK => ?_) ?_
    · rw [if_pos (by rfl)]
      refine wp19_alloc rfl ?_
      have g2 : Gb w (w'.alloc (.cells (ulf fun _ => 0).toArray 73)) := g.alloc _ _
      refine hK.out _ _ (sg _ g2) (fun _ => ?_)
      exact s1011 p w'.heap.size _ g2 hp (up.alloc _ _) g.size (Un.new w' _ _) (Nat.ne_of_lt up.lt)
    exact AllReadyH.nil
  have s1100 : ∀  w', Gb w w' → wpAnyH Tryd.prog .any ops19 Q S 4 #[true, true, true, true, true, true, false, false, false, false] ({ tmps := #[t0, t1, t2, t3, t4, t5, t6, t7, t8, t9, t10, t11, (.pointer (some ⟨A, 0, none⟩)), (.pointer (some ⟨B, 0, none⟩)), (.pointer (some ⟨C, 0, none⟩)), t15, t16, t17, t18, t19, t20, t21, t22, t23, t24, t25, t26, t27, t28, t29, t30, t31, t32, t33, t34, t35, t36, t37, t38, t39, t40, t41, t42, t43, t44, t45, t46, t47, t48, t49, t50, t51, t52, t53, t54, t55, t56, t57, t58, t59, t60, t61, t62, t63, t64, t65, t66, t67, t68, t69, t70, t71, t72, t73, t74, t75, t76, t77, t78, t79, t80, t81, VZ, VX, VD, VY, VZ, VE, t88, t89, t90, t91, t92, t93, t94, t95, t96, t97, t98, t99, t100, t101, t102, t103, t104, t105, t106, t107, t108, t109, t110], defers := [] } : Act) w' := by
    intro  w' g 
    refine wpAnyH_ready (rs := [6, 7]) (by kernel_rfl) (by simp) ?_
    refine AllReadyH.cons (o := op19_6) rfl (fun K hK => ?_) ?_
    · rw [if_pos (by rfl)]
      refine wp19_alloc rfl ?_
      have g2 : Gb w (w'.alloc (.cells (ulf fun _ => 0).toArray 73)) := g.alloc _ _
      refine hK.out _ _ (sg _ g2) (fun _ => ?_)
      exact s1110 w'.heap.size _ g2 g.size (Un.new w' _ _)
    refine AllReadyH.cons (o := op19_7) rfl (fun K hK => ?_) ?_
    · rw [if_pos (by rfl)]
      refine wp19_alloc rfl ?_
      have g2 : Gb w (w'.alloc (.cells (ulf fun _ => 0).toArray 73)) := g.alloc _ _
      refine hK.out _ _ (sg _ g2) (fun _ => ?_)
      exact s1101 w'.heap.size _ g2 g.size (Un.new w' _ _)
    exact AllReadyH.nil
  have s0001 : ∀ q w', Gb w w' → w.heap.size ≤ q → Un w' q (fun _ => 0) → wpAnyH Tryd.prog .any ops19 Q S 5 #[true, true, false, true, true, false, false, true, false, false] ({ tmps := #[t0, t1, t2, t3, t4, t5, t6, t7, t8, t9, t10, t11, (.pointer (some ⟨A, 0, none⟩)), (.pointer (some ⟨B, 0, none⟩)), (.pointer (some ⟨C, 0, none⟩)), t15, (.pointer (some ⟨q, 0, none⟩)), t17, t18, t19, t20, t21, t22, t23, t24, t25, t26, t27, t28, t29, t30, t31, t32, t33, t34, t35, t36, t37, t38, t39, t40, t41, t42, t43, t44, t45, t46, t47, t48, t49, t50, t51, t52, t53, t54, t55, t56, t57, t58, t59, t60, t61, t62, t63, t64, t65, t66, t67, t68, t69, t70, t71, t72, t73, t74, t75, t76, t77, t78, t79, t80, t81, VZ, VX, t84, VY, VZ, t87, t88, t89, t90, t91, t92, t93, t94, t95, t96, t97, t98, t99, t100, t101, t102, t103, t104, t105, t106, t107, t108, t109, t110], defers := [] } : Act) w' := by
    intro q w' g hq uq
    refine wpAnyH_ready (rs := [2, 6]) (by kernel_rfl) (by simp) ?_
    refine AllReadyH.cons (o := op19_2) rfl (fun K hK => ?_) ?_
    · rw [if_pos (by rfl)]
      refine wp19_call rfl rfl rfl rfl (cD _) ?_
      intro w2 g2
      refine hK.out _ _ (sg _ (g.trans g2)) (fun _ => ?_)
      exact s1001 q w2 (g.trans g2) hq (uq.gb g2)
    refine AllReadyH.cons (o := op19_6) rfl (fun K hK => ?_) ?_
    · rw [if_pos (by rfl)]
      refine wp19_alloc rfl ?_
      have g2 : Gb w (w'.alloc (.cells (ulf fun _ => 0).toArray 73)) := g.alloc _ _
      refine hK.out _ _ (sg _ g2) (fun _ => ?_)
      exact s0011 w'.heap.size q _ g2 g.size (Un.new w' _ _) hq (uq.alloc _ _) (Nat.ne_of_gt uq.lt)
    exact AllReadyH.nil
  have s0010 : ∀ p w', Gb w w' → w.heap.size ≤ p → Un w' p (fun _ => 0) → wpAnyH Tryd.prog .any ops19 Q S 5 #[true, true, false, true, true, false, true, false, false, false] ({ tmps := #[t0, t1, t2, t3, t4, t5, t6, t7, t8, t9, t10, t11, (.pointer (some ⟨A, 0, none⟩)), (.pointer (some ⟨B, 0, none⟩)), (.pointer (some ⟨C, 0, none⟩)), (.pointer (some ⟨p, 0, none⟩)), t16, t17, t18, t19, t20, t21, t22, t23, t24, t25, t26, t27, t28, t29, t30, t31, t32, t33, t34, t35, t36, t37, t38, t39, t40, t41, t42, t43, t44, t45, t46, t47, t48, t49, t50, t51, t52, t53, t54, t55, t56, t57, t58, t59, t60, t61, t62, t63, t64, t65, t66, t67, t68, t69, t70, t71, t72, t73, t74, t75, t76, t77, t78, t79, t80, t81, VZ, VX, t84, VY, VZ, t87, t88, t89, t90, t91, t92, t93, t94, t95, t96, t97, t98, t99, t100, t101, t102, t103, t104, t105, t106, t107, t108, t109, t110], defers := [] } : Act) w' := by
    intro p w' g hp up
    refine wpAnyH_ready (rs := [2, 7]) (by kernel_rfl) (by simp) ?_
    refine AllReadyH.cons (o := op19_2) rfl (fun K hK => ?_) ?_
    · rw [if_pos (by rfl)]
      refine wp19_call rfl rfl rfl rfl (cD _) ?_
      intro w2 g2
      refine hK.out _ _ (sg _ (g.trans g2)) (fun _ => ?_)
      exact s1010 p w2 (g.trans g2) hp (up.gb g2)
    refine AllReadyH.cons (o := op19_7) rfl (fun K hK => ?_) ?_
    · rw [if_pos (by rfl)]
      refine wp19_alloc rfl ?_
      have g2 : Gb w (w'.alloc (.cells (ulf fun _ => 0).toArray 73)) := g.alloc _ _
      refine hK.out _ _ (sg _ g2) (fun _ => ?_)
      exact s0011 p w'.heap.size _ g2 hp (up.alloc _ _) g.size (Un.new w' _ _) (Nat.ne_of_lt up.lt)
    exact AllReadyH.nil
  have s1000 : ∀  w', Gb w w' → wpAnyH Tryd.prog .any ops19 Q S 5 #[true, true, true, true, true, false, false, false, false, false] ({ tmps := #[t0, t1, t2, t3, t4, t5, t6, t7, t8, t9, t10, t11, (.pointer (some ⟨A, 0, none⟩)), (.pointer (some ⟨B, 0, none⟩)), (.pointer (some ⟨C, 0, none⟩)), t15, t16, t17, t18, t19, t20, t21, t22, t23, t24, t25, t26, t27, t28, t29, t30, t31, t32, t33, t34, t35, t36, t37, t38, t39, t40, t41, t42, t43, t44, t45, t46, t47, t48, t49, t50, t51, t52, t53, t54, t55, t56, t57, t58, t59, t60, t61, t62, t63, t64, t65, t66, t67, t68, t69, t70, t71, t72, t73, t74, t75, t76, t77, t78, t79, t80, t81, VZ, VX, VD, VY, VZ, t87, t88, t89, t90, t91, t92, t93, t94, t95, t96, t97, t98, t99, t100, t101, t102, t103, t104, t105, t106, t107, t108, t109, t110], defers := [] } : Act) w' := by
    intro  w' g 
    refine wpAnyH_ready (rs := [5, 6, 7]) (by kernel_rfl) (by simp) ?_
    refine AllReadyH.cons (o := op19_5) rfl (fun K hK => ?_) ?_
    · rw [if_pos (by rfl)]
      refine wp19_call rfl rfl rfl rfl (cE _) ?_
      intro w2 g2
      refine hK.out _ _ (sg _ (g.trans g2)) (fun _ => ?_)
      exact s1100  w2 (g.trans g2) 
    refine AllReadyH.cons (o := op19_6) rfl (fun K hK => ?_) ?_
    · rw [if_pos (by rfl)]
      refine wp19_alloc rfl ?_
      have g2 : Gb w (w'.alloc (.cells (ulf fun _ => 0).toArray 73)) := g.alloc _ _
      refine hK.out _ _ (sg _ g2) (fun _ => ?_)
      exact s1010 w'.heap.size _ g2 g.size (Un.new w' _ _)
    refine AllReadyH.cons (o := op19_7) rfl (fun K hK => ?_) ?_
    · rw [if_pos (by rfl)]
      refine wp19_alloc rfl ?_
      have g2 : Gb w (w'.alloc (.cells (ulf fun _ => 0).toArray 73)) := g.alloc _ _
      refine hK.out _ _ (sg _ g2) (fun _ => ?_)
      exact s1001 w'.heap.size _ g2 g.size (Un.new w' _ _)
    exact AllReadyH.nil
  have s0000 : ∀  w', Gb w w' → wpAnyH Tryd.prog .any ops19 Q S 6 #[true, true, false, true, true, false, false, false, false, false] ({ tmps := #[t0, t1, t2, t3, t4, t5, t6, t7, t8, t9, t10, t11, (.pointer (some ⟨A, 0, none⟩)), (.pointer (some ⟨B, 0, none⟩)), (.pointer (some ⟨C, 0, none⟩)), t15, t16, t17, t18, t19, t20, t21, t22, t23, t24, t25, t26, t27, t28, t29, t30, t31, t32, t33, t34, t35, t36, t37, t38, t39, t40, t41, t42, t43, t44, t45, t46, t47, t48, t49, t50, t51, t52, t53, t54, t55, t56, t57, t58, t59, t60, t61, t62, t63, t64, t65, t66, t67, t68, t69, t70, t71, t72, t73, t74, t75, t76, t77, t78, t79, t80, t81, VZ, VX, t84, VY, VZ, t87, t88, t89, t90, t91, t92, t93, t94, t95, t96, t97, t98, t99, t100, t101, t102, t103, t104, t105, t106, t107, t108, t109, t110], defers := [] } : Act) w' := by
    intro  w' g 
    refine wpAnyH_ready (rs := [2, 6, 7]) (by kernel_rfl) (by simp) ?_
    refine AllReadyH.cons (o := op19_2) rfl (fun K hK => ?_) ?_
    · rw [if_pos (by rfl)]
      refine wp19_call rfl rfl rfl rfl (cD _) ?_
      intro w2 g2
      refine hK.out _ _ (sg _ (g.trans g2)) (fun _ => ?_)
      exact s1000  w2 (g.trans g2) 
    refine AllReadyH.cons (o := op19_6) rfl (fun K hK => ?_) ?_
    · rw [if_pos (by rfl)]
      refine wp19_alloc rfl ?_
      have g2 : Gb w (w'.alloc (.cells (ulf fun _ => 0).toArray 73)) := g.alloc _ _
      refine hK.out _ _ (sg _ g2) (fun _ => ?_)
      exact s0010 w'.heap.size _ g2 g.size (Un.new w' _ _)
    refine AllReadyH.cons (o := op19_7) rfl (fun K hK => ?_) ?_
    · rw [if_pos (by rfl)]
      refine wp19_alloc rfl ?_
      have g2 : Gb w (w'.alloc (.cells (ulf fun _ => 0).toArray 73)) := g.alloc _ _
      refine hK.out _ _ (sg _ g2) (fun _ => ?_)
      exact s0001 w'.heap.size _ g2 g.size (Un.new w' _ _)
    exact AllReadyH.nil
  refine wp_region_held_drew (S := S) (by kernel_rfl) (sg _ (Gb.refl w).drew) (fun h0 => ?_)
  refine wpAnyH_take (i := 0) (oi := op19_0) (v := .agg (ul Z)) rfl (by kernel_rfl) (by kernel_rfl) (by kernel_rfl) (fun _ _ _ h => hP _ _ _ _ _ h) (yieldsIf_load_mid (by rfl) _ _ rfl C 0 rfl (ulf (wd Z)) _ zr Tryd.underlying73 rfl (by rw [ulf_len]; exact info34)) h0 ?_
  rw [hVZ]
  change wpAnyH Tryd.prog .any ops19 Q S 9 #[true, false, false, false, false, false, false, false, false, false] ({ tmps := #[t0, t1, t2, t3, t4, t5, t6, t7, t8, t9, t10, t11, (.pointer (some ⟨A, 0, none⟩)), (.pointer (some ⟨B, 0, none⟩)), (.pointer (some ⟨C, 0, none⟩)), t15, t16, t17, t18, t19, t20, t21, t22, t23, t24, t25, t26, t27, t28, t29, t30, t31, t32, t33, t34, t35, t36, t37, t38, t39, t40, t41, t42, t43, t44, t45, t46, t47, t48, t49, t50, t51, t52, t53, t54, t55, t56, t57, t58, t59, t60, t61, t62, t63, t64, t65, t66, t67, t68, t69, t70, t71, t72, t73, t74, t75, t76, t77, t78, t79, t80, t81, VZ, t83, t84, t85, t86, t87, t88, t89, t90, t91, t92, t93, t94, t95, t96, t97, t98, t99, t100, t101, t102, t103, t104, t105, t106, t107, t108, t109, t110], defers := [] } : Act) w.drew
  refine wpAnyH_take (i := 1) (oi := op19_1) (v := .agg (ul X)) rfl (by kernel_rfl) (by kernel_rfl) (by kernel_rfl) (fun _ _ _ h => hP _ _ _ _ _ h) (yieldsIf_load_mid (by rfl) _ _ rfl A 0 rfl (ulf (wd X)) _ xr Tryd.underlying73 rfl (by rw [ulf_len]; exact info34)) h0 ?_
  rw [hVX]
  change wpAnyH Tryd.prog .any ops19 Q S 8 #[true, true, false, false, false, false, false, false, false, false] ({ tmps := #[t0, t1, t2, t3, t4, t5, t6, t7, t8, t9, t10, t11, (.pointer (some ⟨A, 0, none⟩)), (.pointer (some ⟨B, 0, none⟩)), (.pointer (some ⟨C, 0, none⟩)), t15, t16, t17, t18, t19, t20, t21, t22, t23, t24, t25, t26, t27, t28, t29, t30, t31, t32, t33, t34, t35, t36, t37, t38, t39, t40, t41, t42, t43, t44, t45, t46, t47, t48, t49, t50, t51, t52, t53, t54, t55, t56, t57, t58, t59, t60, t61, t62, t63, t64, t65, t66, t67, t68, t69, t70, t71, t72, t73, t74, t75, t76, t77, t78, t79, t80, t81, VZ, VX, t84, t85, t86, t87, t88, t89, t90, t91, t92, t93, t94, t95, t96, t97, t98, t99, t100, t101, t102, t103, t104, t105, t106, t107, t108, t109, t110], defers := [] } : Act) w.drew
  refine wpAnyH_take (i := 3) (oi := op19_3) (v := .agg (ul Y)) rfl (by kernel_rfl) (by kernel_rfl) (by kernel_rfl) (fun _ _ _ h => hP _ _ _ _ _ h) (yieldsIf_load_mid (by rfl) _ _ rfl B 0 rfl (ulf (wd Y)) _ yr Tryd.underlying73 rfl (by rw [ulf_len]; exact info34)) h0 ?_
  rw [hVY]
  change wpAnyH Tryd.prog .any ops19 Q S 7 #[true, true, false, true, false, false, false, false, false, false] ({ tmps := #[t0, t1, t2, t3, t4, t5, t6, t7, t8, t9, t10, t11, (.pointer (some ⟨A, 0, none⟩)), (.pointer (some ⟨B, 0, none⟩)), (.pointer (some ⟨C, 0, none⟩)), t15, t16, t17, t18, t19, t20, t21, t22, t23, t24, t25, t26, t27, t28, t29, t30, t31, t32, t33, t34, t35, t36, t37, t38, t39, t40, t41, t42, t43, t44, t45, t46, t47, t48, t49, t50, t51, t52, t53, t54, t55, t56, t57, t58, t59, t60, t61, t62, t63, t64, t65, t66, t67, t68, t69, t70, t71, t72, t73, t74, t75, t76, t77, t78, t79, t80, t81, VZ, VX, t84, VY, t86, t87, t88, t89, t90, t91, t92, t93, t94, t95, t96, t97, t98, t99, t100, t101, t102, t103, t104, t105, t106, t107, t108, t109, t110], defers := [] } : Act) w.drew
  refine wpAnyH_take (i := 4) (oi := op19_4) (v := .agg (ul Z)) rfl (by kernel_rfl) (by kernel_rfl) (by kernel_rfl) (fun _ _ _ h => hP _ _ _ _ _ h) (yieldsIf_load_mid (by rfl) _ _ rfl C 0 rfl (ulf (wd Z)) _ zr Tryd.underlying73 rfl (by rw [ulf_len]; exact info34)) h0 ?_
  rw [hVZ]
  change wpAnyH Tryd.prog .any ops19 Q S 6 #[true, true, false, true, true, false, false, false, false, false] ({ tmps := #[t0, t1, t2, t3, t4, t5, t6, t7, t8, t9, t10, t11, (.pointer (some ⟨A, 0, none⟩)), (.pointer (some ⟨B, 0, none⟩)), (.pointer (some ⟨C, 0, none⟩)), t15, t16, t17, t18, t19, t20, t21, t22, t23, t24, t25, t26, t27, t28, t29, t30, t31, t32, t33, t34, t35, t36, t37, t38, t39, t40, t41, t42, t43, t44, t45, t46, t47, t48, t49, t50, t51, t52, t53, t54, t55, t56, t57, t58, t59, t60, t61, t62, t63, t64, t65, t66, t67, t68, t69, t70, t71, t72, t73, t74, t75, t76, t77, t78, t79, t80, t81, VZ, VX, t84, VY, VZ, t87, t88, t89, t90, t91, t92, t93, t94, t95, t96, t97, t98, t99, t100, t101, t102, t103, t104, t105, t106, t107, t108, t109, t110], defers := [] } : Act) w.drew
  exact s0000 w.drew (Gb.refl w).drew
end Go.Proofs.YtnhekkahiphlgaaDoor.rl
