/- Texts laid together: Ex7, Ex8, LayB, Bld, LayT. -/
import Derived.Test.YtpanodaecjlgaaaGreatDoorXTypesFinds7
import Derived.Test.YtpanodaecjlgaaaGreatDoorChecked
import Derived.Shelf.Strings.BuilderK
import Derived.Test.YtpanodaecjlgaaaGreatDoorXTypesFinds3
import Derived.Shelf.Strconv.Itoa3
/- What expressions come to: joined, value and Eval of package expr. -/
namespace Go.Proofs.YtpanodaecjlgaaaGreatDoor.ex
set_option linter.unusedVariables false
open Go.ChangeShapes Go.WideShapes Go.ChangeAt Go.RowKit
open mem lx

theorem truth_at (b : Bool) (w : World) : Calls Tryz.prog 163 #[.bool b] w fun e w' => e = .returned (.int .i64 (if b then 1 else 0)) ∧ w' = w := by
  cases b
  · go_enter Tryz.func163, Tryz.ntmps163
    go_wp2
    go_ret
    exact ⟨rfl, rfl⟩
  · go_enter Tryz.func163, Tryz.ntmps163
    go_wp2
    go_ret
    exact ⟨rfl, rfl⟩
/-- What an op makes of two numbers. -/
def jn (o : List UInt8) (a b : Int) : Int :=
  if o = [61, 61] then (if a = b then 1 else 0) else if o = [33, 61] then (if a = b then 0 else 1) else if o = [60] then (if a < b then 1 else 0) else if o = [62] then (if b < a then 1 else 0) else if o = [43] then (wrap64 (a + b)) else if o = [45] then (wrap64 (a - b)) else if o = [124] then (bits .or .i64 a b) else if o = [42] then (wrap64 (a * b)) else if o = [38] then (bits .and .i64 a b) else 0
theorem joined_at (o : List UInt8) (a b : Int) (w : World) (ho : 0 < bd o) : Calls Tryz.prog 151 #[.string (tx o), .int .i64 a, .int .i64 b] w fun e w' => e = .returned (.int .i64 (jn o a b)) ∧ w' = w := by
  by_cases h0 : o = [61, 61]
  · subst h0
    show Calls Tryz.prog _ #[.string ⟨#[61, 61]⟩, .int .i64 a, .int .i64 b] w fun e w' => e = .returned (.int .i64 (if a = b then 1 else 0)) ∧ w' = w
    have cT := truth_at
    go_enter Tryz.func151, Tryz.ntmps151
    go_wp2_with fail
    refine (cT _ _).mono ?_
    rintro e w1 ⟨rfl, rfl⟩
    go_wp2
    all_goals (go_ret; first | exact ⟨rfl, rfl⟩ | (refine ⟨lx.ret_int ?_, rfl⟩; by_cases h : a = b <;> simp [h]))
  by_cases h1 : o = [33, 61]
  · subst h1
    show Calls Tryz.prog _ #[.string ⟨#[33, 61]⟩, .int .i64 a, .int .i64 b] w fun e w' => e = .returned (.int .i64 (if a = b then 0 else 1)) ∧ w' = w
    have cT := truth_at
    go_enter Tryz.func151, Tryz.ntmps151
    go_wp2_with fail
    refine (cT _ _).mono ?_
    rintro e w1 ⟨rfl, rfl⟩
    go_wp2
    all_goals (go_ret; first | exact ⟨rfl, rfl⟩ | (refine ⟨lx.ret_int ?_, rfl⟩; by_cases h : a = b <;> simp [h]))
  by_cases h2 : o = [60]
  · subst h2
    show Calls Tryz.prog _ #[.string ⟨#[60]⟩, .int .i64 a, .int .i64 b] w fun e w' => e = .returned (.int .i64 (if a < b then 1 else 0)) ∧ w' = w
    have cT := truth_at
    go_enter Tryz.func151, Tryz.ntmps151
    go_wp2_with fail
    refine (cT _ _).mono ?_
    rintro e w1 ⟨rfl, rfl⟩
    go_wp2
    all_goals (go_ret; first | exact ⟨rfl, rfl⟩ | (refine ⟨lx.ret_int ?_, rfl⟩; by_cases h : a < b <;> simp [h]))
  by_cases h3 : o = [62]
  · subst h3
    show Calls Tryz.prog _ #[.string ⟨#[62]⟩, .int .i64 a, .int .i64 b] w fun e w' => e = .returned (.int .i64 (if b < a then 1 else 0)) ∧ w' = w
    have cT := truth_at
    go_enter Tryz.func151, Tryz.ntmps151
    go_wp2_with fail
    refine (cT _ _).mono ?_
    rintro e w1 ⟨rfl, rfl⟩
    go_wp2
    all_goals (go_ret; first | exact ⟨rfl, rfl⟩ | (refine ⟨lx.ret_int ?_, rfl⟩; by_cases h : b < a <;> simp [h]))
  by_cases h4 : o = [43]
  · subst h4
    show Calls Tryz.prog _ #[.string ⟨#[43]⟩, .int .i64 a, .int .i64 b] w fun e w' => e = .returned (.int .i64 (wrap64 (a + b))) ∧ w' = w
    go_enter Tryz.func151, Tryz.ntmps151
    go_wp2
    go_ret
    exact ⟨rfl, rfl⟩
  by_cases h5 : o = [45]
  · subst h5
    show Calls Tryz.prog _ #[.string ⟨#[45]⟩, .int .i64 a, .int .i64 b] w fun e w' => e = .returned (.int .i64 (wrap64 (a - b))) ∧ w' = w
    go_enter Tryz.func151, Tryz.ntmps151
    go_wp2
    go_ret
    exact ⟨rfl, rfl⟩
  by_cases h6 : o = [124]
  · subst h6
    show Calls Tryz.prog _ #[.string ⟨#[124]⟩, .int .i64 a, .int .i64 b] w fun e w' => e = .returned (.int .i64 (bits .or .i64 a b)) ∧ w' = w
    go_enter Tryz.func151, Tryz.ntmps151
    go_wp2
    go_ret
    exact ⟨rfl, rfl⟩
  by_cases h7 : o = [42]
  · subst h7
    show Calls Tryz.prog _ #[.string ⟨#[42]⟩, .int .i64 a, .int .i64 b] w fun e w' => e = .returned (.int .i64 (wrap64 (a * b))) ∧ w' = w
    go_enter Tryz.func151, Tryz.ntmps151
    go_wp2
    go_ret
    exact ⟨rfl, rfl⟩
  by_cases h8 : o = [38]
  · subst h8
    show Calls Tryz.prog _ #[.string ⟨#[38]⟩, .int .i64 a, .int .i64 b] w fun e w' => e = .returned (.int .i64 (bits .and .i64 a b)) ∧ w' = w
    go_enter Tryz.func151, Tryz.ntmps151
    go_wp2
    go_ret
    exact ⟨rfl, rfl⟩
  exfalso
  have e0 : bd o = 0 := by unfold bd; rw [if_neg (by simp [h0, h1, h2, h3]), if_neg (by simp [h4, h5, h6]), if_neg (by simp [h7, h8])]
  omega
/-- What an expression comes to, or where a name is missing. -/
def ev (env : List UInt8 → Option Int) : Ex → Except Nat Int
  | .num _ n => .ok n
  | .nam a t => match env t with | some n => .ok n | none => .error a
  | .bin _ o l r => match ev env l with
    | .error p => .error p
    | .ok a => match ev env r with
      | .error p => .error p
      | .ok b => .ok (jn o a b)
/-- Ops that there are. -/
def Okb : Ex → Prop
  | .num _ _ => True
  | .nam _ t => t.length ≤ 3000
  | .bin _ o l r => 0 < bd o ∧ Okb l ∧ Okb r
/-- Names that are numbers. -/
structure IsM (w : World) (v : Value) (env : List UInt8 → Option Int) : Prop where
  lk : ∀ w', Bl w w' → ∀ t : List UInt8, t.length ≤ 3000 → (Instr.lookup 66 v (.string (tx t)) true).run Tryz.prog w' = .ok (match env t with | some n => .tuple #[.int .i64 n, .bool true] | none => .tuple #[.int .i64 0, .bool false]) w'
theorem IsM.step {w w' : World} {v : Value} {env : List UInt8 → Option Int} (h : IsM w v env) (hb : Bl w w') : IsM w' v env := ⟨fun w'' hb'' => h.lk w'' (hb.trans hb'')⟩
def VAns (q : Except Nat Int) (w : World) (e : Ending) (w' : World) : Prop :=
  Bl w w' ∧ match q with
  | .ok n => e = .returned (.int .i64 n)
  | .error p => ∃ B : Nat, e = thrown B ∧ w.heap.size ≤ B ∧ AtX w' B 5 (p : Int)
set_option maxRecDepth 10000 in
set_option maxHeartbeats 1000000 in
theorem value_at (env : List UInt8 → Option Int) (m : Value) (x : Ex) : ∀ (v : Value) (w : World), IsX w v x → Okb x → IsM w m env → Calls Tryz.prog 135 #[v, m] w fun e w' => VAns (ev env x) w e w' := by
  induction x with
  | num a n =>
    intro v w hx ho hm
    obtain ⟨xb, rfl, hc⟩ := hx
    have k0 : w.cell? ⟨xb, 0, none⟩ = some (.int .i64 1) := by rw [cell_of hc]; rfl
    have k2 : w.cell? ⟨xb, 2, none⟩ = some (.int .i64 n) := by rw [cell_of hc]; rfl
    clear hm
    go_enter Tryz.func135, Tryz.ntmps135
    go_wp2
    go_ret
    exact ⟨Bl.refl _, rfl⟩
  | nam a t =>
    intro v w hx ho hm
    obtain ⟨xb, rfl, hc⟩ := hx
    have k0 : w.cell? ⟨xb, 0, none⟩ = some (.int .i64 2) := by rw [cell_of hc]; rfl
    have k1 : w.cell? ⟨xb, 1, none⟩ = some (.int .i64 (a : Int)) := by rw [cell_of hc]; rfl
    have k3 : w.cell? ⟨xb, 3, none⟩ = some (.string (tx t)) := by rw [cell_of hc]; rfl
    have hlk := hm.lk w (Bl.refl _) t ho
    clear hm hc
    cases he : env t with
    | some n =>
      rw [he] at hlk
      dsimp only at hlk
      have HE : Hid (ev env (.nam a t) = .ok n) := by unfold Hid; rw [ev, he]
      go_enter Tryz.func135, Tryz.ntmps135
      go_wp2
      go_ret
      rw [HE.out]
      exact ⟨Bl.refl _, rfl⟩
    | none =>
      rw [he] at hlk
      dsimp only at hlk
      have HE : Hid (ev env (.nam a t) = .error a) := by unfold Hid; rw [ev, he]
      go_enter Tryz.func135, Tryz.ntmps135
      go_wp2
      refine ⟨rfl, ?_⟩
      rw [HE.out]
      exact ⟨(Bl.refl _).alloc _, _, rfl, Nat.le_refl _, new_at w _⟩
  | bin a o l r il ir =>
    intro v w hx ho hm
    obtain ⟨xb, vl, vr, rfl, hc, hxl, hxr⟩ := hx
    have k0 : w.cell? ⟨xb, 0, none⟩ = some (.int .i64 3) := by rw [cell_of hc]; rfl
    have k5 : w.cell? ⟨xb, 5, none⟩ = some vl := by rw [cell_of hc]; rfl
    have cl := il vl w hxl ho.2.1 hm
    have node : ∀ wx, Bl w wx → wx.cell? ⟨xb, 4, none⟩ = some (.string (tx o)) ∧ wx.cell? ⟨xb, 6, none⟩ = some vr := fun wx hb => ⟨at_bl hb (by rw [cell_of hc]; rfl), at_bl hb (by rw [cell_of hc]; rfl)⟩
    obtain ⟨vbl, rfl, _⟩ := hxl.ptr
    obtain ⟨vbr, rfl, _⟩ := hxr.ptr
    have cr := fun wx (hb : Bl w wx) => ir _ wx (hxr.keep (Kx.bl hb)) ho.2.2 (hm.step hb)
    have cj := fun a b w => joined_at o a b w ho.1
    have hev : ev env (.bin a o l r) = match ev env l with
      | .error p => .error p
      | .ok a => match ev env r with
        | .error p => .error p
        | .ok b => .ok (jn o a b) := by rw [ev]
    clear hm hc il ir
    go_enter Tryz.func135, Tryz.ntmps135
    go_wp2_with fail
    refine cl.mono ?_
    rintro e w1 ⟨hb1, h1⟩
    cases hl : ev env l with
    | error p =>
      rw [hl] at h1 hev
      obtain ⟨B, rfl, hB1, hB2⟩ := h1
      have HE : Hid (ev env (.bin a o l r) = .error p) := hev
      clear hev
      unfold thrown
      go_wp2
      refine ⟨rfl, ?_⟩
      rw [HE.out]
      exact ⟨hb1, B, rfl, hB1, hB2⟩
    | ok n1 =>
      rw [hl] at h1 hev
      dsimp only at h1 hev
      subst h1
      obtain ⟨q4, q6⟩ := node w1 hb1
      go_wp2_with fail
      refine (cr w1 hb1).mono ?_
      rintro e w2 ⟨hb2, h2⟩
      cases hr : ev env r with
      | error p =>
        rw [hr] at h2 hev
        obtain ⟨B, rfl, hB1, hB2⟩ := h2
        have HE : Hid (ev env (.bin a o l r) = .error p) := hev
        clear hev
        unfold thrown
        go_wp2
        refine ⟨rfl, ?_⟩
        rw [HE.out]
        exact ⟨hb1.trans hb2, B, rfl, Nat.le_trans hb1.size hB1, hB2⟩
      | ok n2 =>
        rw [hr] at h2 hev
        dsimp only at h2 hev
        subst h2
        have HE : Hid (ev env (.bin a o l r) = .ok (jn o n1 n2)) := hev
        obtain ⟨p4, p6⟩ := node w2 (hb1.trans hb2)
        clear hev
        go_wp2_with fail
        refine (cj _ _ _).mono ?_
        rintro e w3 ⟨rfl, rfl⟩
        go_wp2
        go_ret
        rw [HE.out]
        exact ⟨hb1.trans hb2, rfl⟩
end Go.Proofs.YtpanodaecjlgaaaGreatDoor.ex
/- Eval of package expr. -/
namespace Go.Proofs.YtpanodaecjlgaaaGreatDoor.ex
set_option linter.unusedVariables false
open Go.ChangeShapes Go.WideShapes Go.ChangeAt Go.RowKit
open mem lx

theorem ecatch_idle (p q : Addr) (w : World) :
    CallsD Tryz.prog 134 #[.pointer (some p), .pointer (some q)] .returning w fun e u' w' => e = .returned (.tuple #[]) ∧ u' = .returning ∧ w' = w := by
  have hta : ∀ w : World, (Instr.typeAssert Value.nilIface 20 110 true).run Tryz.prog w = .ok (.tuple #[.pointer none, .bool false]) w := fun _ => by kernel_rfl
  refine callsD_of_wpS Tryz.func134 rfl fun c₀ cs hu => ?_
  apply wpS_seq
  apply wpS_region
  simp [wpOpsS, go_sem, recoverD, hu, Tryz.ntmps134, Exit.thenS, hta]
  apply wpS_seq
  apply wpS_region
  simp [wpOpsS, go_sem, Exit.thenS]
  refine wpS_cond (t := false) (by simp [Act.eval, Array.replicate]) ?_
  simp only [Bool.false_eq_true, if_false]
  refine wpS_of_wp (wp_skip ?_)
  cases c₀
  simp_all [bodyPostS, results, Tryz.results134]
theorem ecatch_thrown (p q : Addr) (B : Nat) (x y : Value) (w : World) (hp : w.cell? p = some x) (hpz : w.frozen? p = false) (hq : w.cell? q = some y) (hqz : w.frozen? q = false) (hne : p ≠ q) :
    CallsD Tryz.prog 134 #[.pointer (some p), .pointer (some q)] (.panicking [{ v := .iface 110 (.pointer (some ⟨B, 0, none⟩)), recovered := false }]) w fun e u' w' =>
      e = .returned (.tuple #[]) ∧ u' = .panicking [{ v := .iface 110 (.pointer (some ⟨B, 0, none⟩)), recovered := true }] ∧ w' = (w.setCell p (.int .i64 0)).setCell q (.iface 110 (.pointer (some ⟨B, 0, none⟩))) := by
  have hta : ∀ w : World, (Instr.typeAssert (.iface 110 (.pointer (some ⟨B, 0, none⟩))) 20 110 true).run Tryz.prog w = .ok (.tuple #[.pointer (some ⟨B, 0, none⟩), .bool true]) w := fun _ => by kernel_rfl
  refine callsD_of_wpS Tryz.func134 rfl fun c₀ cs hu => ?_
  apply wpS_seq
  apply wpS_region
  simp [wpOpsS, go_sem, recoverD, hu, Tryz.ntmps134, Exit.thenS, hta]
  apply wpS_seq
  apply wpS_region
  simp [wpOpsS, go_sem, Exit.thenS]
  refine wpS_cond (t := true) (by simp [Act.eval, Array.replicate]) ?_
  simp only [if_true]
  apply wpS_region
  have hq2 : (w.setCell p (.int .i64 0)).cell? q = some y := by rw [World.cell?_setCell_other w p q _ hne]; exact hq
  simp [wpOpsS, go_sem, hp, hpz, hq2, hqz, bodyPostS, results, Tryz.results134, Array.replicate]
/-- What Eval answers. -/
def EAns (q : Except Nat Int) (w : World) (e : Ending) (w' : World) : Prop :=
  Bl w w' ∧ match q with
  | .ok n => e = .returned (.tuple #[.int .i64 n, .nilIface])
  | .error p => ∃ B : Nat, e = .returned (.tuple #[.int .i64 0, .iface 110 (.pointer (some ⟨B, 0, none⟩))]) ∧ w.heap.size ≤ B ∧ AtX w' B 5 (p : Int)
/-- Eval's variables. -/
structure Ev (w wr : World) (N : Nat) (v e : Value) : Prop where
  v1 : Vr wr N v 3
  v2 : Vr wr (N + 1) e 30
  bl : Bl w wr
  n : N = w.heap.size
theorem Ev.step {w wr w' : World} {N : Nat} {v e : Value} (h : Ev w wr N v e) (hb : Bl wr w') : Ev w w' N v e := ⟨h.v1.step hb, h.v2.step hb, h.bl.trans hb, h.n⟩
theorem Ev.set1 {w wr : World} {N : Nat} {v e : Value} (h : Ev w wr N v e) (x : Value) : Ev w (wr.setCell ⟨N, 0, none⟩ x) N x e :=
  ⟨h.v1.set _, h.v2.set_other (by omega) _, h.bl.setCell (by show w.heap.size ≤ N; have := h.n; omega) _, h.n⟩
theorem Ev.set2 {w wr : World} {N : Nat} {v e : Value} (h : Ev w wr N v e) (x : Value) : Ev w (wr.setCell ⟨N + 1, 0, none⟩ x) N v x :=
  ⟨h.v1.set_other (by omega) _, h.v2.set _, h.bl.setCell (by show w.heap.size ≤ N + 1; have := h.n; omega) _, h.n⟩
theorem Ev.new (w : World) : Ev w ((w.alloc (.cells #[.int .i64 0] 3)).alloc (.cells #[.nilIface] 30)) w.heap.size (.int .i64 0) .nilIface := by
  refine ⟨(Vr.new w _ _).step ((Bl.refl _).alloc _), ?_, ((Bl.refl _).alloc _).alloc _, rfl⟩
  have := Vr.new (w.alloc (.cells #[.int .i64 0] 3)) .nilIface 30
  simpa using this
set_option maxRecDepth 10000 in
theorem reckoned_at (env : List UInt8 → Option Int) (m : Value) (x : Ex) (v : Value) (w : World) (hx : IsX w v x) (ho : Okb x) (hm : IsM w m env) :
    Calls Tryz.prog 118 #[v, m] w fun e w' => EAns (ev env x) w e w' := by
  have hmf : ∀ (fn : Fn) (first cap : Array Value) (w : World), (Instr.makeFunc fn first cap).run Tryz.prog w = .ok (.func fn first cap) w := fun _ _ _ _ => rfl
  have H0 : Hid _ := Ev.new w
  have cV := value_at env m x v _ (hx.keep (Kx.bl H0.out.bl)) ho (hm.step H0.out.bl)
  obtain ⟨N, hN⟩ : ∃ N, N = w.heap.size := ⟨_, rfl⟩
  rw [← hN] at H0
  obtain ⟨w2, hw2⟩ : ∃ w2, w2 = (w.alloc (.cells #[.int .i64 0] 3)).alloc (.cells #[.nilIface] 30) := ⟨_, rfl⟩
  rw [← hw2] at H0 cV
  clear hm hx
  go_enter_defers Tryz.func118, Tryz.ntmps118
  go_wp2_with fail
  rw [← hw2, ← hN]
  clear hw2 hN
  refine cV.mono ?_
  rintro e w4 ⟨hb4, hans⟩
  have H4 : Hid (Ev w w4 N (.int .i64 0) .nilIface) := H0.out.step hb4
  have hs4 := H0.out.v2.lt
  cases hev : ev env x with
  | error p =>
    rw [hev] at hans
    obtain ⟨B, rfl, hB1, hB2⟩ := hans
    have HX : Hid (ev env x = .error p) := hev
    have HA9 : Hid (AtX w4 B 5 (p : Int) ∧ N + 1 < B) := ⟨hB2, by omega⟩
    unfold thrown
    go_wp2
    have v1c := H4.out.v1.cell
    have v1f := H4.out.v1.frozen
    have v2c := H4.out.v2.cell
    have v2f := H4.out.v2.frozen
    have HZ := (H4.out.set1 (.int .i64 0)).set2 (.iface 110 (.pointer (some ⟨B, 0, none⟩)))
    have hAZ : AtX ((w4.setCell ⟨N, 0, none⟩ (.int .i64 0)).setCell ⟨N + 1, 0, none⟩ (.iface 110 (.pointer (some ⟨B, 0, none⟩)))) B 5 (p : Int) := (HA9.out.1.set (by have := HA9.out.2; omega)).set (by have := HA9.out.2; omega)
    refine leaves_cons (f := 134) (args := #[.pointer (some ⟨N, 0, none⟩), .pointer (some ⟨N + 1, 0, none⟩)]) (by simp) (by simp [go_sem]) ?_
    refine (ecatch_thrown ⟨N, 0, none⟩ ⟨N + 1, 0, none⟩ B _ _ w4 v1c v1f v2c v2f (by simp)).mono ?_
    rintro e u' w'' ⟨rfl, rfl, rfl⟩
    generalize (w4.setCell ⟨N, 0, none⟩ (.int .i64 0)).setCell ⟨N + 1, 0, none⟩ (.iface 110 (.pointer (some ⟨B, 0, none⟩))) = wz at HZ hAZ ⊢
    have c1' := HZ.v1.cell
    have c2' := HZ.v2.cell
    simp [Leaves, settle, results, Tryz.results118, go_sem, c1', c2']
    rw [HX.out]
    exact ⟨HZ.bl, B, rfl, by have := HZ.n; have := HA9.out.2; omega, hAZ⟩
  | ok n =>
    rw [hev] at hans
    dsimp only at hans
    subst hans
    have HX : Hid (ev env x = .ok n) := hev
    have d1 := H4.out.v1.cell
    have d2 := H4.out.v2.cell
    have e1 := H4.out.v1.frozen
    have e2 := H4.out.v2.frozen
    go_wp2
    have H9 := (H4.out.set1 (.int .i64 n)).set2 .nilIface
    generalize (w4.setCell ⟨N, 0, none⟩ (.int .i64 n)).setCell ⟨N + 1, 0, none⟩ .nilIface = w9 at H9 ⊢
    have c1' := H9.v1.cell
    have c2' := H9.v2.cell
    refine leaves_cons (f := 134) (args := #[.pointer (some ⟨N, 0, none⟩), .pointer (some ⟨N + 1, 0, none⟩)]) (by simp) (by simp [go_sem]) ?_
    refine (ecatch_idle _ _ _).mono ?_
    rintro e u' w'' ⟨rfl, rfl, rfl⟩
    simp [Leaves, settle, results, Tryz.results118, go_sem, c1', c2']
    rw [HX.out]
    exact ⟨H9.bl, rfl⟩
theorem Eval_at (env : List UInt8 → Option Int) (m : Value) (x : Ex) (v : Value) (w : World) (hx : IsX w v x) (ho : Okb x) (hm : IsM w m env) :
    Calls Tryz.prog 97 #[v, m] w fun e w' => EAns (ev env x) w e w' := by
  have c := reckoned_at env m x v w hx ho hm
  clear hm hx
  go_enter Tryz.func97, Tryz.ntmps97
  go_wp2_with fail
  refine c.mono ?_
  rintro e w4 ⟨hb4, hans⟩
  cases hev : ev env x with
  | error p =>
    rw [hev] at hans
    obtain ⟨B, rfl, hB1, hB2⟩ := hans
    go_wp2
    go_ret2
    rw [hev]
    exact ⟨hb4, B, rfl, hB1, hB2⟩
  | ok n =>
    rw [hev] at hans
    dsimp only at hans
    subst hans
    go_wp2
    go_ret2
    rw [hev]
    exact ⟨hb4, rfl⟩
end Go.Proofs.YtpanodaecjlgaaaGreatDoor.ex
/- The library's own texts that a call comes to, as this program has them: laid on the shelf's. -/
namespace Go.Proofs.YtpanodaecjlgaaaGreatDoor.lay
open Go.Shelf
def rf : FuncId → FuncId
  | 166 => 38
  | 167 => 133
  | 169 => 40
  | 240 => 61
  | 276 => 92
  | x => x
def rt : TypeId → TypeId
  | 0 => 0
  | 3 => 3
  | 4 => 4
  | 5 => 5
  | 9 => 9
  | 20 => 20
  | 37 => 78
  | 70 => 77
  | 72 => 80
  | 75 => 30
  | 80 => 56
  | 127 => 121
  | 164 => 134
  | x => x
def rg : Nat → Nat

  | x => x
def ren : Ren := ⟨rf, rt, rg⟩
set_option maxRecDepth 100000 in
theorem extra : Builder.Extra Tryz.prog ren where
  sizeBuilder := by kernel_rfl
  liesBuilder := by kernel_rfl
  t5 := by kernel_rfl
  a5 := fun _ => by kernel_rfl
  z5 := fun _ => by kernel_rfl
  v5 := fun _ => by kernel_rfl
  infoByte := by kernel_rfl
  cellsByte := by kernel_rfl
  sizeByte := by kernel_rfl
  neB5 := by decide
end Go.Proofs.YtpanodaecjlgaaaGreatDoor.lay
/- A strings.Builder of the call's own: what is written into it, what it holds, and what stays as it was. -/
namespace Go.Proofs.YtpanodaecjlgaaaGreatDoor.bld
set_option linter.unusedVariables false
open Go.ChangeShapes Go.WideShapes Go.ChangeAt Go.RowKit Go.Shelf
open mem lx

/-- A builder that holds these bytes. -/
def Bd (B b : Nat) (l : List UInt8) (w : World) : Prop := Lib.IsBuilderF 80 5 B b (Lib.byteCells l) w
theorem lt_of_some {w : World} {g : Nat} {o : Obj} (h : w.heap[g]? = some o) : g < w.heap.size := lt_of_heap h
theorem atF_bl {T e : TypeId} {B b : Nat} {p : Value} {bs : List Value} {W W' : World} (h : Lib.BuilderAtF T e B b p bs W) (hg : Bl W W') : Lib.BuilderAtF T e B b p bs W' := by
  have key : ∀ k c t fz, W.heap[k]? = some (Obj.cells c t fz) → W'.heap[k]? = some (Obj.cells c t fz) := fun k c t fz hk => by
    rw [Below.block hg k (lt_of_heap hk)]
    exact hk
  obtain ⟨hB, v, hb, hown, hne⟩ := h
  refine ⟨hB, v, key _ _ _ _ hb, ⟨hown.1, ?_⟩, hne⟩
  rcases hown.2 with hn | ⟨g, cap, cur, fz, hv, hbg, hgg, rest⟩
  · exact .inl hn
  · exact .inr ⟨g, cap, cur, fz, hv, hbg, key _ _ _ _ hgg, rest⟩
theorem Bd.bl {B b : Nat} {l : List UInt8} {W W' : World} (h : Bd B b l W) (hb : Bl W W') : Bd B b l W' :=
  h.elim (fun x => .inl (atF_bl x hb)) (fun x => .inr (atF_bl x hb))
theorem Bd.cells {B b : Nat} {l : List UInt8} {W : World} (h : Bd B b l W) : ∃ c t fz, W.heap[b]? = some (Obj.cells c t fz) := by
  rcases h with h | h
  · obtain ⟨_, v, hc, _⟩ := h; exact ⟨_, _, _, hc⟩
  · obtain ⟨_, v, hc, _⟩ := h; exact ⟨_, _, _, hc⟩
theorem Bd.lt {B b : Nat} {l : List UInt8} {W : World} (h : Bd B b l W) : b < W.heap.size := by
  obtain ⟨c, t, fz, hc⟩ := h.cells
  exact lt_of_some hc
theorem Bd.base {B b : Nat} {l : List UInt8} {W : World} (h : Bd B b l W) : B ≤ b := by
  rcases h with h | h
  · exact h.1
  · exact h.1
theorem Bd.le {B b : Nat} {l : List UInt8} {W : World} (h : Bd B b l W) : B ≤ W.heap.size := Nat.le_trans h.base (Nat.le_of_lt h.lt)
theorem Bd.new (w : World) : Bd w.heap.size w.heap.size [] (w.alloc (.cells #[.pointer none, .slice none 0 0] 80)) := by
  refine .inl ⟨Nat.le_refl _, .slice none 0 0, ?_, ⟨rfl, .inl ⟨rfl, rfl⟩⟩, ?_⟩
  · show (w.heap.push _)[w.heap.size]? = _
    rw [Array.getElem?_push, if_pos rfl]
  · intro h; cases h
/-- What is no row of bytes and not the builder stays as it was. -/
structure Kb (b : Nat) (w w' : World) : Prop where
  size : w.heap.size ≤ w'.heap.size
  same : ∀ (k : Nat) (o : Obj), w.heap[k]? = some o → k ≠ b → (∀ c fz, o ≠ .cells c 5 fz) → w'.heap[k]? = some o
theorem Kb.refl (b : Nat) (w : World) : Kb b w w := ⟨Nat.le_refl _, fun _ _ h _ _ => h⟩
theorem Kb.trans {b : Nat} {x y z : World} (h : Kb b x y) (k : Kb b y z) : Kb b x z := ⟨Nat.le_trans h.size k.size, fun i o h1 h2 h3 => k.same i o (h.same i o h1 h2 h3) h2 h3⟩
theorem Kb.bl {b : Nat} {w w' : World} (h : Bl w w') : Kb b w w' := ⟨h.size, fun k o hk _ _ => by rw [Below.block h k (lt_of_some hk)]; exact hk⟩
end Go.Proofs.YtpanodaecjlgaaaGreatDoor.bld
/- The library's own texts that a call comes to, as this program has them: laid on the shelf's. -/
namespace Go.Proofs.YtpanodaecjlgaaaGreatDoor.layT
open Go.Shelf
def rf : FuncId → FuncId
  | 129 => 169
  | 171 => 114
  | 243 => 132
  | 246 => 150
  | 283 => 159
  | 284 => 160
  | 285 => 161
  | 286 => 162
  | 317 => 168
  | 318 => 170
  | 319 => 171
  | 320 => 172
  | 337 => 176
  | 338 => 177
  | x => x
def rt : TypeId → TypeId
  | 0 => 0
  | 2 => 2
  | 3 => 3
  | 4 => 4
  | 5 => 5
  | 9 => 9
  | 20 => 20
  | 37 => 78
  | 46 => 186
  | 51 => 200
  | 53 => 157
  | 171 => 220
  | 173 => 223
  | 212 => 227
  | 213 => 228
  | 232 => 240
  | 233 => 241
  | x => x
def rg : Nat → Nat
  | 17 => 5
  | 18 => 6
  | 19 => 7
  | x => x
def ren : Ren := ⟨rf, rt, rg⟩
set_option maxRecDepth 100000 in
theorem laid : LaysM.n171 Tryz.prog ren where
  mixed := by kernel_rfl
  f129 := by kernel_rfl
  f171 := by kernel_rfl
  f243 := by kernel_rfl
  f246 := by kernel_rfl
  f283 := by kernel_rfl
  f284 := by kernel_rfl
  f285 := by kernel_rfl
  f286 := by kernel_rfl
  f317 := by kernel_rfl
  f318 := by kernel_rfl
  f319 := by kernel_rfl
  f320 := by kernel_rfl
  f337 := by kernel_rfl
  f338 := by kernel_rfl
  t0 := by kernel_rfl
  a0 := fun _ => by kernel_rfl
  z0 := fun _ => by kernel_rfl
  v0 := fun _ => by kernel_rfl
  t2 := by kernel_rfl
  a2 := fun _ => by kernel_rfl
  z2 := fun _ => by kernel_rfl
  v2 := fun _ => by kernel_rfl
  t3 := by kernel_rfl
  a3 := fun _ => by kernel_rfl
  z3 := fun _ => by kernel_rfl
  v3 := fun _ => by kernel_rfl
  t4 := by kernel_rfl
  a4 := fun _ => by kernel_rfl
  z4 := fun _ => by kernel_rfl
  v4 := fun _ => by kernel_rfl
  t5 := by kernel_rfl
  a5 := fun _ => by kernel_rfl
  z5 := fun _ => by kernel_rfl
  v5 := fun _ => by kernel_rfl
  t9 := by kernel_rfl
  a9 := fun _ => by kernel_rfl
  z9 := fun _ => by kernel_rfl
  v9 := fun _ => by kernel_rfl
  t20 := by kernel_rfl
  a20 := fun _ => by kernel_rfl
  z20 := fun _ => by kernel_rfl
  v20 := fun _ => by kernel_rfl
  t37 := by kernel_rfl
  a37 := fun _ => by kernel_rfl
  z37 := fun _ => by kernel_rfl
  v37 := fun _ => by kernel_rfl
  t46 := by kernel_rfl
  a46 := fun _ => by kernel_rfl
  z46 := fun _ => by kernel_rfl
  v46 := fun _ => by kernel_rfl
  t51 := by kernel_rfl
  a51 := fun _ => by kernel_rfl
  z51 := fun _ => by kernel_rfl
  v51 := fun _ => by kernel_rfl
  t53 := by kernel_rfl
  a53 := fun _ => by kernel_rfl
  z53 := fun _ => by kernel_rfl
  v53 := fun _ => by kernel_rfl
  t171 := by kernel_rfl
  a171 := fun _ => by kernel_rfl
  z171 := fun _ => by kernel_rfl
  v171 := fun _ => by kernel_rfl
  t173 := by kernel_rfl
  a173 := fun _ => by kernel_rfl
  z173 := fun _ => by kernel_rfl
  v173 := fun _ => by kernel_rfl
  t212 := by kernel_rfl
  a212 := fun _ => by kernel_rfl
  z212 := fun _ => by kernel_rfl
  v212 := fun _ => by kernel_rfl
  t213 := by kernel_rfl
  a213 := fun _ => by kernel_rfl
  z213 := fun _ => by kernel_rfl
  t232 := by kernel_rfl
  a232 := fun _ => by kernel_rfl
  z232 := fun _ => by kernel_rfl
  v232 := fun _ => by kernel_rfl
  t233 := by kernel_rfl
  a233 := fun _ => by kernel_rfl
  z233 := fun _ => by kernel_rfl
  v233 := fun _ => by kernel_rfl
  g17 := by kernel_rfl
  g18 := by kernel_rfl
  g19 := by kernel_rfl
  i0 := by kernel_rfl
  i2 := by kernel_rfl
  i3 := by kernel_rfl
  i4 := by kernel_rfl
  i5 := by kernel_rfl
  i9 := by kernel_rfl
  i20 := by kernel_rfl
  i37 := by kernel_rfl
  i46 := by kernel_rfl
  i51 := by kernel_rfl
  i53 := by kernel_rfl
  i171 := by kernel_rfl
  i173 := by kernel_rfl
  i212 := by kernel_rfl
  i232 := by kernel_rfl
  i233 := by kernel_rfl
  m17 := by kernel_rfl
  m18 := by kernel_rfl
  m19 := by kernel_rfl
end Go.Proofs.YtpanodaecjlgaaaGreatDoor.layT
