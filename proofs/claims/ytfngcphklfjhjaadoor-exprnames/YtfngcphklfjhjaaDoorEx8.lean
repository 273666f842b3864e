/- Eval of package expr. -/
import Derived.Test.YtfngcphklfjhjaaDoorEx7
namespace Go.Proofs.YtfngcphklfjhjaaDoor.ex
set_option linter.unusedVariables false
open Go.ChangeShapes Go.WideShapes Go.ChangeAt Go.RowKit
open mem lx

theorem ecatch_idle (p q : Addr) (w : World) :
    CallsD Tryd.prog 58 #[.pointer (some p), .pointer (some q)] .returning w fun e u' w' => e = .returned (.tuple #[]) ∧ u' = .returning ∧ w' = w := by
  have hta : ∀ w : World, (Instr.typeAssert Value.nilIface 20 62 true).run Tryd.prog w = .ok (.tuple #[.pointer none, .bool false]) w := fun _ => by kernel_rfl
  refine callsD_of_wpS Tryd.func58 rfl fun c₀ cs hu => ?_
  apply wpS_seq
  apply wpS_region
  simp [wpOpsS, go_sem, recoverD, hu, Tryd.ntmps58, Exit.thenS, hta]
  apply wpS_seq
  apply wpS_region
  simp [wpOpsS, go_sem, Exit.thenS]
  refine wpS_cond (t := false) (by simp [Act.eval, Array.replicate]) ?_
  simp only [Bool.false_eq_true, if_false]
  refine wpS_of_wp (wp_skip ?_)
  cases c₀
  simp_all [bodyPostS, results, Tryd.results58]
theorem ecatch_thrown (p q : Addr) (B : Nat) (x y : Value) (w : World) (hp : w.cell? p = some x) (hpz : w.frozen? p = false) (hq : w.cell? q = some y) (hqz : w.frozen? q = false) (hne : p ≠ q) :
    CallsD Tryd.prog 58 #[.pointer (some p), .pointer (some q)] (.panicking [{ v := .iface 62 (.pointer (some ⟨B, 0, none⟩)), recovered := false }]) w fun e u' w' =>
      e = .returned (.tuple #[]) ∧ u' = .panicking [{ v := .iface 62 (.pointer (some ⟨B, 0, none⟩)), recovered := true }] ∧ w' = (w.setCell p (.int .i64 0)).setCell q (.iface 62 (.pointer (some ⟨B, 0, none⟩))) := by
  have hta : ∀ w : World, (Instr.typeAssert (.iface 62 (.pointer (some ⟨B, 0, none⟩))) 20 62 true).run Tryd.prog w = .ok (.tuple #[.pointer (some ⟨B, 0, none⟩), .bool true]) w := fun _ => by kernel_rfl
  refine callsD_of_wpS Tryd.func58 rfl fun c₀ cs hu => ?_
  apply wpS_seq
  apply wpS_region
  simp [wpOpsS, go_sem, recoverD, hu, Tryd.ntmps58, Exit.thenS, hta]
  apply wpS_seq
  apply wpS_region
  simp [wpOpsS, go_sem, Exit.thenS]
  refine wpS_cond (t := true) (by simp [Act.eval, Array.replicate]) ?_
  simp only [if_true]
  apply wpS_region
  have hq2 : (w.setCell p (.int .i64 0)).cell? q = some y := by rw [World.cell?_setCell_other w p q _ hne]; exact hq
  simp [wpOpsS, go_sem, hp, hpz, hq2, hqz, bodyPostS, results, Tryd.results58, Array.replicate]
/-- What Eval answers. -/
def EAns (q : Except Nat Int) (w : World) (e : Ending) (w' : World) : Prop :=
  Bl w w' ∧ match q with
  | .ok n => e = .returned (.tuple #[.int .i64 n, .nilIface])
  | .error p => ∃ B : Nat, e = .returned (.tuple #[.int .i64 0, .iface 62 (.pointer (some ⟨B, 0, none⟩))]) ∧ w.heap.size ≤ B ∧ AtX w' B 5 (p : Int)
/-- Eval's variables. -/
structure Ev (w wr : World) (N : Nat) (v e : Value) : Prop where
  v1 : Vr wr N v 3
  v2 : Vr wr (N + 1) e 30
  bl : Bl w wr
  n : N = w.heap.size
theorem Ev.step {w wr w' : World} {N : Nat} {v e : Value} (h : Ev w wr N v e) (hb : Bl wr w') : Ev w w' N v e := ⟨h.v1.step hb, h.v2.step hb, h.bl.trans hb, h.n⟩
theorem Ev.set1 {w wr : World} {N : Nat} {v e : Value} (h : Ev w wr N v e) (x : Value) : Ev w (wr.setCell ⟨N, 0, none⟩ x) N x e :=
  ⟨h.v1.set _, h.v2.set_other (by omega) _, h.bl.setCell (by show w.heap.size ≤ N; have := h.n; omega) _, h.n⟩
theorem Ev.set2 {w wr : World} {N : Nat} {v e : Value} (h : Ev w wr N v e) (x : Value) : Ev w (wr.setCell ⟨N + 1, 0, none⟩ x) N v x :=
  ⟨h.v1.set_other (by omega) _, h.v2.set _, h.bl.setCell (by show w.heap.size ≤ N + 1; have := h.n; omega) _, h.n⟩
theorem Ev.new (w : World) : Ev w ((w.alloc (.cells #[.int .i64 0] 3)).alloc (.cells #[.nilIface] 30)) w.heap.size (.int .i64 0) .nilIface := by
  refine ⟨(Vr.new w _ _).step ((Bl.refl _).alloc _), ?_, ((Bl.refl _).alloc _).alloc _, rfl⟩
  have := Vr.new (w.alloc (.cells #[.int .i64 0] 3)) .nilIface 30
  simpa using this
set_option maxRecDepth 10000 in
theorem reckoned_at (env : List UInt8 → Option Int) (m : Value) (x : Ex) (v : Value) (w : World) (hx : IsX w v x) (ho : Okb x) (hm : IsM w m env) :
    Calls Tryd.prog 41 #[v, m] w fun e w' => EAns (ev env x) w e w' := by
  have hmf : ∀ (fn : Fn) (first cap : Array Value) (w : World), (Instr.makeFunc fn first cap).run Tryd.prog w = .ok (.func fn first cap) w := fun _ _ _ _ => rfl
  have H0 : Hid _ := Ev.new w
  have cV := value_at env m x v _ (hx.keep (Kx.bl H0.out.bl)) ho (hm.step H0.out.bl)
  obtain ⟨N, hN⟩ : ∃ N, N = w.heap.size := ⟨_, rfl⟩
  rw [← hN] at H0
  obtain ⟨w2, hw2⟩ : ∃ w2, w2 = (w.alloc (.cells #[.int .i64 0] 3)).alloc (.cells #[.nilIface] 30) := ⟨_, rfl⟩
  rw [← hw2] at H0 cV
  clear hm hx
  go_enter_defers Tryd.func41, Tryd.ntmps41
  go_wp2_with fail
  rw [← hw2, ← hN]
  clear hw2 hN
  refine cV.mono ?_
  rintro e w4 ⟨hb4, hans⟩
  have H4 : Hid (Ev w w4 N (.int .i64 0) .nilIface) := H0.out.step hb4
  have hs4 := H0.out.v2.lt
  cases hev : ev env x with
  | error p =>
    rw [hev] at hans
    obtain ⟨B, rfl, hB1, hB2⟩ := hans
    have HX : Hid (ev env x = .error p) := hev
    have HA9 : Hid (AtX w4 B 5 (p : Int) ∧ N + 1 < B) := ⟨hB2, by omega⟩
    unfold thrown
    go_wp2
    have v1c := H4.out.v1.cell
    have v1f := H4.out.v1.frozen
    have v2c := H4.out.v2.cell
    have v2f := H4.out.v2.frozen
    have HZ := (H4.out.set1 (.int .i64 0)).set2 (.iface 62 (.pointer (some ⟨B, 0, none⟩)))
    have hAZ : AtX ((w4.setCell ⟨N, 0, none⟩ (.int .i64 0)).setCell ⟨N + 1, 0, none⟩ (.iface 62 (.pointer (some ⟨B, 0, none⟩)))) B 5 (p : Int) := (HA9.out.1.set (by have := HA9.out.2; omega)).set (by have := HA9.out.2; omega)
    refine leaves_cons (f := 58) (args := #[.pointer (some ⟨N, 0, none⟩), .pointer (some ⟨N + 1, 0, none⟩)]) (by simp) (by simp [go_sem]) ?_
    refine (ecatch_thrown ⟨N, 0, none⟩ ⟨N + 1, 0, none⟩ B _ _ w4 v1c v1f v2c v2f (by simp)).mono ?_
    rintro e u' w'' ⟨rfl, rfl, rfl⟩
    generalize (w4.setCell ⟨N, 0, none⟩ (.int .i64 0)).setCell ⟨N + 1, 0, none⟩ (.iface 62 (.pointer (some ⟨B, 0, none⟩))) = wz at HZ hAZ ⊢
    have c1' := HZ.v1.cell
    have c2' := HZ.v2.cell
    simp [Leaves, settle, results, Tryd.results41, go_sem, c1', c2']
    rw [HX.out]
    exact ⟨HZ.bl, B, rfl, by have := HZ.n; have := HA9.out.2; omega, hAZ⟩
  | ok n =>
    rw [hev] at hans
    dsimp only at hans
    subst hans
    have HX : Hid (ev env x = .ok n) := hev
    have d1 := H4.out.v1.cell
    have d2 := H4.out.v2.cell
    have e1 := H4.out.v1.frozen
    have e2 := H4.out.v2.frozen
    go_wp2
    have H9 := (H4.out.set1 (.int .i64 n)).set2 .nilIface
    generalize (w4.setCell ⟨N, 0, none⟩ (.int .i64 n)).setCell ⟨N + 1, 0, none⟩ .nilIface = w9 at H9 ⊢
    have c1' := H9.v1.cell
    have c2' := H9.v2.cell
    refine leaves_cons (f := 58) (args := #[.pointer (some ⟨N, 0, none⟩), .pointer (some ⟨N + 1, 0, none⟩)]) (by simp) (by simp [go_sem]) ?_
    refine (ecatch_idle _ _ _).mono ?_
    rintro e u' w'' ⟨rfl, rfl, rfl⟩
    simp [Leaves, settle, results, Tryd.results41, go_sem, c1', c2']
    rw [HX.out]
    exact ⟨H9.bl, rfl⟩
theorem Eval_at (env : List UInt8 → Option Int) (m : Value) (x : Ex) (v : Value) (w : World) (hx : IsX w v x) (ho : Okb x) (hm : IsM w m env) :
    Calls Tryd.prog 22 #[v, m] w fun e w' => EAns (ev env x) w e w' := by
  have c := reckoned_at env m x v w hx ho hm
  clear hm hx
  go_enter Tryd.func22, Tryd.ntmps22
  go_wp2_with fail
  refine c.mono ?_
  rintro e w4 ⟨hb4, hans⟩
  cases hev : ev env x with
  | error p =>
    rw [hev] at hans
    obtain ⟨B, rfl, hB1, hB2⟩ := hans
    go_wp2
    go_ret2
    rw [hev]
    exact ⟨hb4, B, rfl, hB1, hB2⟩
  | ok n =>
    rw [hev] at hans
    dsimp only at hans
    subst hans
    go_wp2
    go_ret2
    rw [hev]
    exact ⟨hb4, rfl⟩
end Go.Proofs.YtfngcphklfjhjaaDoor.ex
