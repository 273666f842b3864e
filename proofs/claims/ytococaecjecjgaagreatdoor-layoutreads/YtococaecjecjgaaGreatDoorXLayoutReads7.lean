/- Texts laid together: Ex8, ExQ, ExR, LayB, Bld. -/
import Derived.Test.YtococaecjecjgaaGreatDoorXLayoutReads6
import Derived.Test.YtococaecjecjgaaGreatDoorXLayoutReads4
import Derived.Test.YtococaecjecjgaaGreatDoorChecked
import Derived.Shelf.Strings.BuilderK
import Derived.Test.YtococaecjecjgaaGreatDoorXLayoutReads2
namespace Go.Proofs.YtococaecjecjgaaGreatDoor.ex
set_option linter.unusedVariables false
open Go.ChangeShapes Go.WideShapes Go.ChangeAt Go.RowKit
open mem lx

theorem ecatch_idle (p q : Addr) (w : World) :
    CallsD Tryz.prog 170 #[.pointer (some p), .pointer (some q)] .returning w fun e u' w' => e = .returned (.tuple #[]) ∧ u' = .returning ∧ w' = w := by
  have hta : ∀ w : World, (Instr.typeAssert Value.nilIface 20 113 true).run Tryz.prog w = .ok (.tuple #[.pointer none, .bool false]) w := fun _ => by kernel_rfl
  refine callsD_of_wpS Tryz.func170 rfl fun c₀ cs hu => ?_
  apply wpS_seq
  apply wpS_region
  simp [wpOpsS, go_sem, recoverD, hu, Tryz.ntmps170, Exit.thenS, hta]
  apply wpS_seq
  apply wpS_region
  simp [wpOpsS, go_sem, Exit.thenS]
  refine wpS_cond (t := false) (by simp [Act.eval, Array.replicate]) ?_
  simp only [Bool.false_eq_true, if_false]
  refine wpS_of_wp (wp_skip ?_)
  cases c₀
  simp_all [bodyPostS, results, Tryz.results170]
theorem ecatch_thrown (p q : Addr) (B : Nat) (x y : Value) (w : World) (hp : w.cell? p = some x) (hpz : w.frozen? p = false) (hq : w.cell? q = some y) (hqz : w.frozen? q = false) (hne : p ≠ q) :
    CallsD Tryz.prog 170 #[.pointer (some p), .pointer (some q)] (.panicking [{ v := .iface 113 (.pointer (some ⟨B, 0, none⟩)), recovered := false }]) w fun e u' w' =>
      e = .returned (.tuple #[]) ∧ u' = .panicking [{ v := .iface 113 (.pointer (some ⟨B, 0, none⟩)), recovered := true }] ∧ w' = (w.setCell p (.int .i64 0)).setCell q (.iface 113 (.pointer (some ⟨B, 0, none⟩))) := by
  have hta : ∀ w : World, (Instr.typeAssert (.iface 113 (.pointer (some ⟨B, 0, none⟩))) 20 113 true).run Tryz.prog w = .ok (.tuple #[.pointer (some ⟨B, 0, none⟩), .bool true]) w := fun _ => by kernel_rfl
  refine callsD_of_wpS Tryz.func170 rfl fun c₀ cs hu => ?_
  apply wpS_seq
  apply wpS_region
  simp [wpOpsS, go_sem, recoverD, hu, Tryz.ntmps170, Exit.thenS, hta]
  apply wpS_seq
  apply wpS_region
  simp [wpOpsS, go_sem, Exit.thenS]
  refine wpS_cond (t := true) (by simp [Act.eval, Array.replicate]) ?_
  simp only [if_true]
  apply wpS_region
  have hq2 : (w.setCell p (.int .i64 0)).cell? q = some y := by rw [World.cell?_setCell_other w p q _ hne]; exact hq
  simp [wpOpsS, go_sem, hp, hpz, hq2, hqz, bodyPostS, results, Tryz.results170, Array.replicate]
def EAns (q : Except Nat Int) (w : World) (e : Ending) (w' : World) : Prop :=
  Bl w w' ∧ match q with
  | .ok n => e = .returned (.tuple #[.int .i64 n, .nilIface])
  | .error p => ∃ B : Nat, e = .returned (.tuple #[.int .i64 0, .iface 113 (.pointer (some ⟨B, 0, none⟩))]) ∧ w.heap.size ≤ B ∧ AtX w' B 5 (p : Int)
structure Ev (w wr : World) (N : Nat) (v e : Value) : Prop where
  v1 : Vr wr N v 3
  v2 : Vr wr (N + 1) e 34
  bl : Bl w wr
  n : N = w.heap.size
theorem Ev.step {w wr w' : World} {N : Nat} {v e : Value} (h : Ev w wr N v e) (hb : Bl wr w') : Ev w w' N v e := ⟨h.v1.step hb, h.v2.step hb, h.bl.trans hb, h.n⟩
theorem Ev.set1 {w wr : World} {N : Nat} {v e : Value} (h : Ev w wr N v e) (x : Value) : Ev w (wr.setCell ⟨N, 0, none⟩ x) N x e :=
  ⟨h.v1.set _, h.v2.set_other (by omega) _, h.bl.setCell (by show w.heap.size ≤ N; have := h.n; omega) _, h.n⟩
theorem Ev.set2 {w wr : World} {N : Nat} {v e : Value} (h : Ev w wr N v e) (x : Value) : Ev w (wr.setCell ⟨N + 1, 0, none⟩ x) N v x :=
  ⟨h.v1.set_other (by omega) _, h.v2.set _, h.bl.setCell (by show w.heap.size ≤ N + 1; have := h.n; omega) _, h.n⟩
theorem Ev.new (w : World) : Ev w ((w.alloc (.cells #[.int .i64 0] 3)).alloc (.cells #[.nilIface] 34)) w.heap.size (.int .i64 0) .nilIface := by
  refine ⟨(Vr.new w _ _).step ((Bl.refl _).alloc _), ?_, ((Bl.refl _).alloc _).alloc _, rfl⟩
  have := Vr.new (w.alloc (.cells #[.int .i64 0] 3)) .nilIface 34
  simpa using this
set_option maxRecDepth 10000 in
theorem reckoned_at (env : List UInt8 → Option Int) (m : Value) (x : Ex) (v : Value) (w : World) (hx : IsX w v x) (ho : Okb x) (hm : IsM w m env) :
    Calls Tryz.prog 150 #[v, m] w fun e w' => EAns (ev env x) w e w' := by
  have hmf : ∀ (fn : Fn) (first cap : Array Value) (w : World), (Instr.makeFunc fn first cap).run Tryz.prog w = .ok (.func fn first cap) w := fun _ _ _ _ => rfl
  have H0 : Hid _ := Ev.new w
  have cV := value_at env m x v _ (hx.keep (Kx.bl H0.out.bl)) ho (hm.step H0.out.bl)
  obtain ⟨N, hN⟩ : ∃ N, N = w.heap.size := ⟨_, rfl⟩
  rw [← hN] at H0
  obtain ⟨w2, hw2⟩ : ∃ w2, w2 = (w.alloc (.cells #[.int .i64 0] 3)).alloc (.cells #[.nilIface] 34) := ⟨_, rfl⟩
  rw [← hw2] at H0 cV
  clear hm hx
  go_enter_defers Tryz.func150, Tryz.ntmps150
  go_wp2_with fail
  rw [← hw2, ← hN]
  clear hw2 hN
  refine cV.mono ?_
  rintro e w4 ⟨hb4, hans⟩
  have H4 : Hid (Ev w w4 N (.int .i64 0) .nilIface) := H0.out.step hb4
  have hs4 := H0.out.v2.lt
  cases hev : ev env x with
  | error p =>
    rw [hev] at hans
    obtain ⟨B, rfl, hB1, hB2⟩ := hans
    have HX : Hid (ev env x = .error p) := hev
    have HA9 : Hid (AtX w4 B 5 (p : Int) ∧ N + 1 < B) := ⟨hB2, by omega⟩
    unfold thrown
    go_wp2
    have v1c := H4.out.v1.cell
    have v1f := H4.out.v1.frozen
    have v2c := H4.out.v2.cell
    have v2f := H4.out.v2.frozen
    have HZ := (H4.out.set1 (.int .i64 0)).set2 (.iface 113 (.pointer (some ⟨B, 0, none⟩)))
    have hAZ : AtX ((w4.setCell ⟨N, 0, none⟩ (.int .i64 0)).setCell ⟨N + 1, 0, none⟩ (.iface 113 (.pointer (some ⟨B, 0, none⟩)))) B 5 (p : Int) := (HA9.out.1.set (by have := HA9.out.2; omega)).set (by have := HA9.out.2; omega)
    refine leaves_cons (f := 170) (args := #[.pointer (some ⟨N, 0, none⟩), .pointer (some ⟨N + 1, 0, none⟩)]) (by simp) (by simp [go_sem]) ?_
    refine (ecatch_thrown ⟨N, 0, none⟩ ⟨N + 1, 0, none⟩ B _ _ w4 v1c v1f v2c v2f (by simp)).mono ?_
    rintro e u' w'' ⟨rfl, rfl, rfl⟩
    generalize (w4.setCell ⟨N, 0, none⟩ (.int .i64 0)).setCell ⟨N + 1, 0, none⟩ (.iface 113 (.pointer (some ⟨B, 0, none⟩))) = wz at HZ hAZ ⊢
    have c1' := HZ.v1.cell
    have c2' := HZ.v2.cell
    simp [Leaves, settle, results, Tryz.results150, go_sem, c1', c2']
    rw [HX.out]
    exact ⟨HZ.bl, B, rfl, by have := HZ.n; have := HA9.out.2; omega, hAZ⟩
  | ok n =>
    rw [hev] at hans
    dsimp only at hans
    subst hans
    have HX : Hid (ev env x = .ok n) := hev
    have d1 := H4.out.v1.cell
    have d2 := H4.out.v2.cell
    have e1 := H4.out.v1.frozen
    have e2 := H4.out.v2.frozen
    go_wp2
    have H9 := (H4.out.set1 (.int .i64 n)).set2 .nilIface
    generalize (w4.setCell ⟨N, 0, none⟩ (.int .i64 n)).setCell ⟨N + 1, 0, none⟩ .nilIface = w9 at H9 ⊢
    have c1' := H9.v1.cell
    have c2' := H9.v2.cell
    refine leaves_cons (f := 170) (args := #[.pointer (some ⟨N, 0, none⟩), .pointer (some ⟨N + 1, 0, none⟩)]) (by simp) (by simp [go_sem]) ?_
    refine (ecatch_idle _ _ _).mono ?_
    rintro e u' w'' ⟨rfl, rfl, rfl⟩
    simp [Leaves, settle, results, Tryz.results150, go_sem, c1', c2']
    rw [HX.out]
    exact ⟨H9.bl, rfl⟩
theorem Eval_at (env : List UInt8 → Option Int) (m : Value) (x : Ex) (v : Value) (w : World) (hx : IsX w v x) (ho : Okb x) (hm : IsM w m env) :
    Calls Tryz.prog 119 #[v, m] w fun e w' => EAns (ev env x) w e w' := by
  have c := reckoned_at env m x v w hx ho hm
  clear hm hx
  go_enter Tryz.func119, Tryz.ntmps119
  go_wp2_with fail
  refine c.mono ?_
  rintro e w4 ⟨hb4, hans⟩
  cases hev : ev env x with
  | error p =>
    rw [hev] at hans
    obtain ⟨B, rfl, hB1, hB2⟩ := hans
    go_wp2
    go_ret2
    rw [hev]
    exact ⟨hb4, B, rfl, hB1, hB2⟩
  | ok n =>
    rw [hev] at hans
    dsimp only at hans
    subst hans
    go_wp2
    go_ret2
    rw [hev]
    exact ⟨hb4, rfl⟩
end Go.Proofs.YtococaecjecjgaaGreatDoor.ex
namespace Go.Proofs.YtococaecjecjgaaGreatDoor.ex
set_option linter.unusedVariables false
open lx
section
variable {nb : List UInt8 → Int × Int} {en : Nat}
def top (x : Ex) : Nat := match x with | .bin _ o _ _ => bd o | _ => 4
variable (dec : Int → List UInt8)
def tk : Ex → List (List UInt8)
  | .num _ n => [dec n]
  | .nam _ t => [t]
  | .bin _ o l r => (if top l < bd o then [40] :: tk l ++ [[41]] else tk l) ++ o :: (if top r < bd o + 1 then [40] :: tk r ++ [[41]] else tk r)
def dp : Ex → Nat
  | .num _ _ => 0
  | .nam _ _ => 0
  | .bin _ o l r => max (if top l < bd o then dp l + 1 else dp l) (if top r < bd o + 1 then dp r + 1 else dp r)
def sd (x : Ex) (m : Nat) : Nat := if top x < m then dp x + 1 else dp x
theorem dp_bin (a : Nat) (o : List UInt8) (l r : Ex) : dp (.bin a o l r) = max (sd l (bd o)) (sd r (bd o + 1)) := by rw [dp]; rfl
theorem sd_mono (x : Ex) (m k : Nat) (h : m ≤ k) : sd x m ≤ sd x k := by
  unfold sd
  split <;> split <;> omega
def Wf : Ex → Prop
  | .num _ n => isN (dec n) = false ∧ isU (dec n) = true ∧ nb (dec n) = (n, 0)
  | .nam _ t => isN t = true ∧ t.length ≤ 12
  | .bin _ o l r => 0 < bd o ∧ Wf l ∧ Wf r
variable {dec}
end
end Go.Proofs.YtococaecjecjgaaGreatDoor.ex
namespace Go.Proofs.YtococaecjecjgaaGreatDoor.ex
set_option linter.unusedVariables false
open lx
section
variable {nb : List UInt8 → Int × Int} {en : Nat} {dec : Int → List UInt8}
theorem told_all (hdec : ∀ t, isU t = true → (nb t).2 = 0 → isN (dec (nb t).1) = false ∧ isU (dec (nb t).1) = true ∧ nb (dec (nb t).1) = ((nb t).1, 0)) (f : Nat) :
    (∀ m d ts x r, 1 ≤ m → m ≤ 4 → d ≤ 8 → row nb en f m d ts = some (.ok (x, r)) → Wf (nb := nb) dec x ∧ sd x m + d ≤ 8) ∧
    (∀ m d y ts x r, 1 ≤ m → m ≤ 3 → d ≤ 8 → Wf (nb := nb) dec y → sd y m + d ≤ 8 → lp nb en f m d y ts = some (.ok (x, r)) → Wf (nb := nb) dec x ∧ sd x m + d ≤ 8) ∧
    (∀ d ts x r, d ≤ 8 → one nb en f d ts = some (.ok (x, r)) → Wf (nb := nb) dec x ∧ sd x 4 + d ≤ 8) := by
  induction f with
  | zero => exact ⟨fun _ _ _ _ _ _ _ _ h => by simp [row] at h, fun _ _ _ _ _ _ _ _ _ _ _ h => by simp [lp] at h, fun _ _ _ _ _ h => by simp [one] at h⟩
  | succ f ih =>
    obtain ⟨i1, i2, i3⟩ := ih
    refine ⟨?_, ?_, ?_⟩
    · intro m d ts x r h0 h4 h8 h
      by_cases hm : 3 < m
      · obtain rfl : m = 4 := by omega
        rw [row_top _ _ _ _ hm] at h
        exact i3 _ _ _ _ h8 h
      · rw [row_low _ _ _ _ hm] at h
        split at h
        · cases h
        · cases h
        · rename_i y r' hr
          obtain ⟨g1, g2⟩ := i1 _ _ _ _ _ (by omega) (by omega) h8 hr
          have := sd_mono y m (m + 1) (by omega)
          exact i2 _ _ _ _ _ _ h0 (by omega) h8 g1 (by omega) h
    · intro m d y ts x r h0 h3 h8 hy hsy h
      cases ts with
      | nil =>
        simp only [lp, Option.some.injEq, Except.ok.injEq, Prod.mk.injEq] at h
        rw [← h.1]
        exact ⟨hy, hsy⟩
      | cons t ts =>
        rw [lp] at h
        split at h
        · rename_i hb'
          split at h
          · cases h
          · cases h
          · rename_i z r' hr
            obtain ⟨g1, g2⟩ := i1 _ _ _ _ _ (by omega) (by omega) h8 hr
            refine i2 m d (.bin t.a t.t y z) _ _ _ h0 h3 h8 (show 0 < bd t.t ∧ Wf (nb := nb) dec y ∧ Wf (nb := nb) dec z from ⟨by omega, hy, g1⟩) ?_ h
            unfold sd
            rw [if_neg (by show ¬ bd t.t < m; omega), dp_bin, hb']
            omega
        · simp only [Option.some.injEq, Except.ok.injEq, Prod.mk.injEq] at h
          rw [← h.1]
          exact ⟨hy, hsy⟩
    · intro d ts x r h8 h
      cases ts with
      | nil => simp [one] at h
      | cons t ts =>
        rw [one] at h
        split at h
        · rename_i hN
          split at h
          · simp at h
          · simp at h; rw [← h.1]
            exact ⟨⟨hN, by omega⟩, by unfold sd; rw [if_neg (by show ¬ 4 < 4; omega), dp]; omega⟩
        · split at h
          · rename_i hU
            split at h
            · rename_i h0
              simp at h; rw [← h.1]
              exact ⟨hdec _ hU h0, by unfold sd; rw [if_neg (by show ¬ 4 < 4; omega), dp]; omega⟩
            · simp at h
          · split at h
            · split at h
              · simp at h
              · rename_i hd8
                split at h
                · cases h
                · cases h
                · rename_i z r' hr
                  obtain ⟨g1, g2⟩ := i1 _ _ _ _ _ (by omega) (by omega) (by omega) hr
                  split at h
                  · simp at h; rw [← h.1]
                    refine ⟨g1, ?_⟩
                    unfold sd at g2 ⊢
                    split at g2 <;> split <;> omega
                  · simp at h
            · simp at h
end
end Go.Proofs.YtococaecjecjgaaGreatDoor.ex

namespace Go.Proofs.YtococaecjecjgaaGreatDoor.bld
set_option linter.unusedVariables false
open Go.ChangeShapes Go.WideShapes Go.ChangeAt Go.RowKit Go.Shelf
open mem lx

theorem lt_of_some {w : World} {g : Nat} {o : Obj} (h : w.heap[g]? = some o) : g < w.heap.size := lt_of_heap h
structure Kb (b : Nat) (w w' : World) : Prop where
  size : w.heap.size ≤ w'.heap.size
  same : ∀ (k : Nat) (o : Obj), w.heap[k]? = some o → k ≠ b → (∀ c fz, o ≠ .cells c 5 fz) → w'.heap[k]? = some o
theorem Kb.refl (b : Nat) (w : World) : Kb b w w := ⟨Nat.le_refl _, fun _ _ h _ _ => h⟩
theorem Kb.trans {b : Nat} {x y z : World} (h : Kb b x y) (k : Kb b y z) : Kb b x z := ⟨Nat.le_trans h.size k.size, fun i o h1 h2 h3 => k.same i o (h.same i o h1 h2 h3) h2 h3⟩
theorem Kb.bl {b : Nat} {w w' : World} (h : Bl w w') : Kb b w w' := ⟨h.size, fun k o hk _ _ => by rw [Below.block h k (lt_of_some hk)]; exact hk⟩
end Go.Proofs.YtococaecjecjgaaGreatDoor.bld
