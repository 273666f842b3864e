/- Texts laid together: Ex8, ExQ, ExR, LayB, Bld. -/
import Derived.Test.YtococaecjecjgaaGreatDoorXLayoutReads6
import Derived.Test.YtococaecjecjgaaGreatDoorXLayoutReads4
import Derived.Test.YtococaecjecjgaaGreatDoorChecked
import Derived.Shelf.Strings.BuilderK
import Derived.Test.YtococaecjecjgaaGreatDoorXLayoutReads2
/- Eval of package expr. -/
namespace Go.Proofs.YtococaecjecjgaaGreatDoor.ex
set_option linter.unusedVariables false
open Go.ChangeShapes Go.WideShapes Go.ChangeAt Go.RowKit
open mem lx

theorem ecatch_idle (p q : Addr) (w : World) :
    CallsD Tryz.prog 170 #[.pointer (some p), .pointer (some q)] .returning w fun e u' w' => e = .returned (.tuple #[]) ∧ u' = .returning ∧ w' = w := by
  have hta : ∀ w : World, (Instr.typeAssert Value.nilIface 20 113 true).run Tryz.prog w = .ok (.tuple #[.pointer none, .bool false]) w := fun _ => by kernel_rfl
  refine callsD_of_wpS Tryz.func170 rfl fun c₀ cs hu => ?_
  apply wpS_seq
  apply wpS_region
  simp [wpOpsS, go_sem, recoverD, hu, Tryz.ntmps170, Exit.thenS, hta]
  apply wpS_seq
  apply wpS_region
  simp [wpOpsS, go_sem, Exit.thenS]
  refine wpS_cond (t := false) (by simp [Act.eval, Array.replicate]) ?_
  simp only [Bool.false_eq_true, if_false]
  refine wpS_of_wp (wp_skip ?_)
  cases c₀
  simp_all [bodyPostS, results, Tryz.results170]
theorem ecatch_thrown (p q : Addr) (B : Nat) (x y : Value) (w : World) (hp : w.cell? p = some x) (hpz : w.frozen? p = false) (hq : w.cell? q = some y) (hqz : w.frozen? q = false) (hne : p ≠ q) :
    CallsD Tryz.prog 170 #[.pointer (some p), .pointer (some q)] (.panicking [{ v := .iface 113 (.pointer (some ⟨B, 0, none⟩)), recovered := false }]) w fun e u' w' =>
      e = .returned (.tuple #[]) ∧ u' = .panicking [{ v := .iface 113 (.pointer (some ⟨B, 0, none⟩)), recovered := true }] ∧ w' = (w.setCell p (.int .i64 0)).setCell q (.iface 113 (.pointer (some ⟨B, 0, none⟩))) := by
  have hta : ∀ w : World, (Instr.typeAssert (.iface 113 (.pointer (some ⟨B, 0, none⟩))) 20 113 true).run Tryz.prog w = .ok (.tuple #[.pointer (some ⟨B, 0, none⟩), .bool true]) w := fun _ => by kernel_rfl
  refine callsD_of_wpS Tryz.func170 rfl fun c₀ cs hu => ?_
  apply wpS_seq
  apply wpS_region
  simp [wpOpsS, go_sem, recoverD, hu, Tryz.ntmps170, Exit.thenS, hta]
  apply wpS_seq
  apply wpS_region
  simp [wpOpsS, go_sem, Exit.thenS]
  refine wpS_cond (t := true) (by simp [Act.eval, Array.replicate]) ?_
  simp only [if_true]
  apply wpS_region
  have hq2 : (w.setCell p (.int .i64 0)).cell? q = some y := by rw [World.cell?_setCell_other w p q _ hne]; exact hq
  simp [wpOpsS, go_sem, hp, hpz, hq2, hqz, bodyPostS, results, Tryz.results170, Array.replicate]
/-- What Eval answers. -/
def EAns (q : Except Nat Int) (w : World) (e : Ending) (w' : World) : Prop :=
  Bl w w' ∧ match q with
  | .ok n => e = .returned (.tuple #[.int .i64 n, .nilIface])
  | .error p => ∃ B : Nat, e = .returned (.tuple #[.int .i64 0, .iface 113 (.pointer (some ⟨B, 0, none⟩))]) ∧ w.heap.size ≤ B ∧ AtX w' B 5 (p : Int)
/-- Eval's variables. -/
structure Ev (w wr : World) (N : Nat) (v e : Value) : Prop where
  v1 : Vr wr N v 3
  v2 : Vr wr (N + 1) e 34
  bl : Bl w wr
  n : N = w.heap.size
theorem Ev.step {w wr w' : World} {N : Nat} {v e : Value} (h : Ev w wr N v e) (hb : Bl wr w') : Ev w w' N v e := ⟨h.v1.step hb, h.v2.step hb, h.bl.trans hb, h.n⟩
theorem Ev.set1 {w wr : World} {N : Nat} {v e : Value} (h : Ev w wr N v e) (x : Value) : Ev w (wr.setCell ⟨N, 0, none⟩ x) N x e :=
  ⟨h.v1.set _, h.v2.set_other (by omega) _, h.bl.setCell (by show w.heap.size ≤ N; have := h.n; omega) _, h.n⟩
theorem Ev.set2 {w wr : World} {N : Nat} {v e : Value} (h : Ev w wr N v e) (x : Value) : Ev w (wr.setCell ⟨N + 1, 0, none⟩ x) N v x :=
  ⟨h.v1.set_other (by omega) _, h.v2.set _, h.bl.setCell (by show w.heap.size ≤ N + 1; have := h.n; omega) _, h.n⟩
theorem Ev.new (w : World) : Ev w ((w.alloc (.cells #[.int .i64 0] 3)).alloc (.cells #[.nilIface] 34)) w.heap.size (.int .i64 0) .nilIface := by
  refine ⟨(Vr.new w _ _).step ((Bl.refl _).alloc _), ?_, ((Bl.refl _).alloc _).alloc _, rfl⟩
  have := Vr.new (w.alloc (.cells #[.int .i64 0] 3)) .nilIface 34
  simpa using this
set_option maxRecDepth 10000 in
theorem reckoned_at (env : List UInt8 → Option Int) (m : Value) (x : Ex) (v : Value) (w : World) (hx : IsX w v x) (ho : Okb x) (hm : IsM w m env) :
    Calls Tryz.prog 150 #[v, m] w fun e w' => EAns (ev env x) w e w' := by
  have hmf : ∀ (fn : Fn) (first cap : Array Value) (w : World), (Instr.makeFunc fn first cap).run Tryz.prog w = .ok (.func fn first cap) w := fun _ _ _ _ => rfl
  have H0 : Hid _ := Ev.new w
  have cV := value_at env m x v _ (hx.keep (Kx.bl H0.out.bl)) ho (hm.step H0.out.bl)
  obtain ⟨N, hN⟩ : ∃ N, N = w.heap.size := ⟨_, rfl⟩
  rw [← hN] at H0
  obtain ⟨w2, hw2⟩ : ∃ w2, w2 = (w.alloc (.cells #[.int .i64 0] 3)).alloc (.cells #[.nilIface] 34) := ⟨_, rfl⟩
  rw [← hw2] at H0 cV
  clear hm hx
  go_enter_defers Tryz.func150, Tryz.ntmps150
  go_wp2_with fail
  rw [← hw2, ← hN]
  clear hw2 hN
  refine cV.mono ?_
  rintro e w4 ⟨hb4, hans⟩
  have H4 : Hid (Ev w w4 N (.int .i64 0) .nilIface) := H0.out.step hb4
  have hs4 := H0.out.v2.lt
  cases hev : ev env x with
  | error p =>
    rw [hev] at hans
    obtain ⟨B, rfl, hB1, hB2⟩ := hans
    have HX : Hid (ev env x = .error p) := hev
    have HA9 : Hid (AtX w4 B 5 (p : Int) ∧ N + 1 < B) := ⟨hB2, by omega⟩
    unfold thrown
    go_wp2
    have v1c := H4.out.v1.cell
    have v1f := H4.out.v1.frozen
    have v2c := H4.out.v2.cell
    have v2f := H4.out.v2.frozen
    have HZ := (H4.out.set1 (.int .i64 0)).set2 (.iface 113 (.pointer (some ⟨B, 0, none⟩)))
    have hAZ : AtX ((w4.setCell ⟨N, 0, none⟩ (.int .i64 0)).setCell ⟨N + 1, 0, none⟩ (.iface 113 (.pointer (some ⟨B, 0, none⟩)))) B 5 (p : Int) := (HA9.out.1.set (by have := HA9.out.2; omega)).set (by have := HA9.out.2; omega)
    refine leaves_cons (f := 170) (args := #[.pointer (some ⟨N, 0, none⟩), .pointer (some ⟨N + 1, 0, none⟩)]) (by simp) (by simp [go_sem]) ?_
    refine (ecatch_thrown ⟨N, 0, none⟩ ⟨N + 1, 0, none⟩ B _ _ w4 v1c v1f v2c v2f (by simp)).mono ?_
    rintro e u' w'' ⟨rfl, rfl, rfl⟩
    generalize (w4.setCell ⟨N, 0, none⟩ (.int .i64 0)).setCell ⟨N + 1, 0, none⟩ (.iface 113 (.pointer (some ⟨B, 0, none⟩))) = wz at HZ hAZ ⊢
    have c1' := HZ.v1.cell
    have c2' := HZ.v2.cell
    simp [Leaves, settle, results, Tryz.results150, go_sem, c1', c2']
    rw [HX.out]
    exact ⟨HZ.bl, B, rfl, by have := HZ.n; have := HA9.out.2; omega, hAZ⟩
  | ok n =>
    rw [hev] at hans
    dsimp only at hans
    subst hans
    have HX : Hid (ev env x = .ok n) := hev
    have d1 := H4.out.v1.cell
    have d2 := H4.out.v2.cell
    have e1 := H4.out.v1.frozen
    have e2 := H4.out.v2.frozen
    go_wp2
    have H9 := (H4.out.set1 (.int .i64 n)).set2 .nilIface
    generalize (w4.setCell ⟨N, 0, none⟩ (.int .i64 n)).setCell ⟨N + 1, 0, none⟩ .nilIface = w9 at H9 ⊢
    have c1' := H9.v1.cell
    have c2' := H9.v2.cell
    refine leaves_cons (f := 170) (args := #[.pointer (some ⟨N, 0, none⟩), .pointer (some ⟨N + 1, 0, none⟩)]) (by simp) (by simp [go_sem]) ?_
    refine (ecatch_idle _ _ _).mono ?_
    rintro e u' w'' ⟨rfl, rfl, rfl⟩
    simp [Leaves, settle, results, Tryz.results150, go_sem, c1', c2']
    rw [HX.out]
    exact ⟨H9.bl, rfl⟩
theorem Eval_at (env : List UInt8 → Option Int) (m : Value) (x : Ex) (v : Value) (w : World) (hx : IsX w v x) (ho : Okb x) (hm : IsM w m env) :
    Calls Tryz.prog 119 #[v, m] w fun e w' => EAns (ev env x) w e w' := by
  have c := reckoned_at env m x v w hx ho hm
  clear hm hx
  go_enter Tryz.func119, Tryz.ntmps119
  go_wp2_with fail
  refine c.mono ?_
  rintro e w4 ⟨hb4, hans⟩
  cases hev : ev env x with
  | error p =>
    rw [hev] at hans
    obtain ⟨B, rfl, hB1, hB2⟩ := hans
    go_wp2
    go_ret2
    rw [hev]
    exact ⟨hb4, B, rfl, hB1, hB2⟩
  | ok n =>
    rw [hev] at hans
    dsimp only at hans
    subst hans
    go_wp2
    go_ret2
    rw [hev]
    exact ⟨hb4, rfl⟩
end Go.Proofs.YtococaecjecjgaaGreatDoor.ex
/- Expressions: as they are written, they are read (pure). -/
namespace Go.Proofs.YtococaecjecjgaaGreatDoor.ex
set_option linter.unusedVariables false
open lx
section
variable {nb : List UInt8 → Int × Int} {en : Nat}
theorem upr_all (f : Nat) : (∀ m d ts q, row nb en f m d ts = some q → row nb en (f + 1) m d ts = some q) ∧ (∀ m d y ts q, lp nb en f m d y ts = some q → lp nb en (f + 1) m d y ts = some q) ∧ (∀ d ts q, one nb en f d ts = some q → one nb en (f + 1) d ts = some q) := by
  induction f with
  | zero => exact ⟨fun _ _ _ _ h => by simp [row] at h, fun _ _ _ _ _ h => by simp [lp] at h, fun _ _ _ h => by simp [one] at h⟩
  | succ f ih =>
    obtain ⟨i1, i2, i3⟩ := ih
    refine ⟨?_, ?_, ?_⟩
    · intro m d ts q h
      by_cases hm : 3 < m
      · rw [row_top _ _ _ _ hm] at h ⊢
        exact i3 _ _ _ h
      · rw [row_low _ _ _ _ hm] at h
        rw [row_low _ _ _ _ hm]
        split at h
        · cases h
        · rename_i e hr
          rw [i1 _ _ _ _ hr]
          exact h
        · rename_i x r hr
          rw [i1 _ _ _ _ hr]
          exact i2 _ _ _ _ _ h
    · intro m d y ts q h
      cases ts with
      | nil => simpa [lp] using h
      | cons t ts =>
        rw [lp] at h ⊢
        split at h
        · rename_i hc
          rw [if_pos hc]
          split at h
          · cases h
          · rename_i e hr
            rw [i1 _ _ _ _ hr]
            exact h
          · rename_i x r hr
            rw [i1 _ _ _ _ hr]
            exact i2 _ _ _ _ _ h
        · rename_i hc
          rw [if_neg hc]
          exact h
    · intro d ts q h
      cases ts with
      | nil => simpa [one] using h
      | cons t ts =>
        rw [one] at h ⊢
        split at h
        · rename_i h1
          rw [if_pos h1]; exact h
        · rename_i h1
          rw [if_neg h1]
          split at h
          · rename_i h2
            rw [if_pos h2]; exact h
          · rename_i h2
            rw [if_neg h2]
            split at h
            · rename_i h3
              rw [if_pos h3]
              split at h
              · rename_i h4
                rw [if_pos h4]; exact h
              · rename_i h4
                rw [if_neg h4]
                split at h
                · cases h
                · rename_i e hr
                  rw [i1 _ _ _ _ hr]; exact h
                · rename_i x r hr
                  rw [i1 _ _ _ _ hr]; exact h
            · rename_i h3
              rw [if_neg h3]; exact h
theorem up_row {f g m d : Nat} {ts : List Tk} {q : Res} (h : row nb en f m d ts = some q) (hg : f ≤ g) : row nb en g m d ts = some q := by
  induction g with
  | zero => obtain rfl : f = 0 := by omega
            exact h
  | succ g ih =>
    rcases Nat.lt_or_ge g f with h1 | h1
    · obtain rfl : f = g + 1 := by omega
      exact h
    · exact (upr_all g).1 _ _ _ _ (ih h1)
theorem up_lp {f g m d : Nat} {y : Ex} {ts : List Tk} {q : Res} (h : lp nb en f m d y ts = some q) (hg : f ≤ g) : lp nb en g m d y ts = some q := by
  induction g with
  | zero => obtain rfl : f = 0 := by omega
            exact h
  | succ g ih =>
    rcases Nat.lt_or_ge g f with h1 | h1
    · obtain rfl : f = g + 1 := by omega
      exact h
    · exact (upr_all g).2.1 _ _ _ _ _ (ih h1)
theorem row_one {f g m d : Nat} {ts : List Tk} {p q : Res} (h : row nb en f m d ts = some p) (h' : row nb en g m d ts = some q) : p = q := by
  have h1 := up_row h (Nat.le_max_left f g)
  have h2 := up_row h' (Nat.le_max_right f g)
  rw [h1] at h2
  injection h2
/-- Nothing joins here. -/
theorem lp_stop (f m d : Nat) (x : Ex) (ts : List Tk) (h : hb ts < m) : lp nb en (f + 1) m d x ts = some (.ok (x, ts)) := by
  cases ts with
  | nil => rw [lp]
  | cons t r =>
    have : bd t.t < m := h
    rw [lp, if_neg (by omega)]
/-- What is one thing, as a row. -/
theorem climb (k : Nat) : ∀ (m d f g : Nat) (us ts : List Tk) (x : Ex) (q : Res), m + k = 4 → hb ts ≤ m → one nb en f d us = some (.ok (x, ts)) → lp nb en g m d x ts = some q → ∃ f', row nb en f' m d us = some q := by
  induction k with
  | zero =>
    intro m d f g us ts x q hm hh h1 h2
    obtain rfl : m = 4 := by omega
    refine ⟨f + 1, ?_⟩
    rw [row_top _ _ _ _ (by omega), h1]
    have h3 : hb ts < 4 := by
      cases ts with
      | nil => exact Nat.zero_lt_succ _
      | cons t r => have := bd_le t.t; show bd t.t < 4; omega
    cases g with
    | zero => simp [lp] at h2
    | succ g => rw [lp_stop _ _ _ _ _ h3] at h2; exact h2
  | succ k ih =>
    intro m d f g us ts x q hm hh h1 h2
    obtain ⟨f', hf⟩ := ih (m + 1) d f 1 us ts x (.ok (x, ts)) (by omega) (by omega) h1 (lp_stop _ _ _ _ _ (by omega))
    refine ⟨max f' g + 1, ?_⟩
    rw [row_low _ _ _ _ (by omega), up_row hf (Nat.le_max_left _ _)]
    exact up_lp h2 (Nat.le_max_right _ _)
inductive Sm : Ex → Ex → Prop
  | num (a b : Nat) (k : Int) : Sm (.num a k) (.num b k)
  | nam (a b : Nat) (t : List UInt8) : Sm (.nam a t) (.nam b t)
  | bin (a b : Nat) (o : List UInt8) (l l' r r' : Ex) : Sm l l' → Sm r r' → Sm (.bin a o l r) (.bin b o l' r')
/-- What is one, in brackets, or not: of an expression that must bind so much. -/
def top (x : Ex) : Nat := match x with | .bin _ o _ _ => bd o | _ => 4
variable (dec : Int → List UInt8)
def tk : Ex → List (List UInt8)
  | .num _ n => [dec n]
  | .nam _ t => [t]
  | .bin _ o l r => (if top l < bd o then [40] :: tk l ++ [[41]] else tk l) ++ o :: (if top r < bd o + 1 then [40] :: tk r ++ [[41]] else tk r)
def sk (x : Ex) (m : Nat) : List (List UInt8) := if top x < m then [40] :: tk dec x ++ [[41]] else tk dec x
theorem tk_bin (a : Nat) (o : List UInt8) (l r : Ex) : tk dec (.bin a o l r) = sk dec l (bd o) ++ o :: sk dec r (bd o + 1) := by rw [tk]; rfl
/-- How deep brackets lie. -/
def dp : Ex → Nat
  | .num _ _ => 0
  | .nam _ _ => 0
  | .bin _ o l r => max (if top l < bd o then dp l + 1 else dp l) (if top r < bd o + 1 then dp r + 1 else dp r)
def sd (x : Ex) (m : Nat) : Nat := if top x < m then dp x + 1 else dp x
theorem dp_bin (a : Nat) (o : List UInt8) (l r : Ex) : dp (.bin a o l r) = max (sd l (bd o)) (sd r (bd o + 1)) := by rw [dp]; rfl
theorem sd_mono (x : Ex) (m k : Nat) (h : m ≤ k) : sd x m ≤ sd x k := by
  unfold sd
  split <;> split <;> omega
/-- What reading tells. -/
def Wf : Ex → Prop
  | .num _ n => isN (dec n) = false ∧ isU (dec n) = true ∧ nb (dec n) = (n, 0)
  | .nam _ t => isN t = true ∧ t.length ≤ 12
  | .bin _ o l r => 0 < bd o ∧ Wf l ∧ Wf r
theorem hd_cons (t : Tk) (r : List Tk) : hd en (t :: r) = t := rfl
variable {dec}
/-- What is in brackets, as one. -/
theorem in_brackets {f d p q' : Nat} {us ts : List Tk} {x : Ex} (hd8 : d ≠ 8) (h : row nb en f 1 (d + 1) (us ++ ⟨[41], q'⟩ :: ts) = some (.ok (x, ⟨[41], q'⟩ :: ts))) :
    one nb en (f + 1) d (⟨[40], p⟩ :: (us ++ ⟨[41], q'⟩ :: ts)) = some (.ok (x, ts)) := by
  rw [one, if_neg (by show ¬ isN [40] = true; decide), if_neg (by show ¬ isU [40] = true; decide), if_pos rfl, if_neg hd8, h]
  dsimp only
  rw [hd_cons, if_pos rfl]
  rfl
theorem map_cut {us : List Tk} {a b : List (List UInt8)} (h : us.map Tk.t = a ++ b) : ∃ u v, us = u ++ v ∧ u.map Tk.t = a ∧ v.map Tk.t = b :=
  List.map_eq_append_iff.1 h
theorem map_cons {us : List Tk} {a : List UInt8} {b : List (List UInt8)} (h : us.map Tk.t = a :: b) : ∃ p v, us = ⟨a, p⟩ :: v ∧ v.map Tk.t = b := by
  obtain ⟨u, v, h1, h2, h3⟩ := List.map_eq_cons_iff.1 h
  obtain ⟨t, p⟩ := u
  exact ⟨p, v, by rw [h1]; simp at h2; rw [h2], h3⟩
theorem map_nil {us : List Tk} (h : us.map Tk.t = []) : us = [] := List.map_eq_nil_iff.1 h
/-- What brackets do: from within. -/
theorem brack (x : Ex) (m d : Nat) (us ts : List Tk) (h0 : 1 ≤ m) (h4 : m ≤ 4) (htop : top x < m) (hs : sd x m + d ≤ 8) (hu : us.map Tk.t = sk dec x m) (hh : hb ts ≤ m)
    (C1 : ∀ (d : Nat) (us ts : List Tk), dp x + d ≤ 8 → us.map Tk.t = tk dec x → hb ts ≤ 1 → ∃ x', Sm x x' ∧ ∀ g q, lp nb en g 1 d x' ts = some q → ∃ f, row nb en f 1 d (us ++ ts) = some q) :
    ∃ x', Sm x x' ∧ ∀ g q, lp nb en g m d x' ts = some q → ∃ f, row nb en f m d (us ++ ts) = some q := by
  unfold sk at hu
  rw [if_pos htop] at hu
  obtain ⟨p, v, rfl, hv⟩ := map_cons hu
  obtain ⟨v1, v2, rfl, h1, h2⟩ := map_cut hv
  obtain ⟨p', v3, rfl, h3⟩ := map_cons h2
  obtain rfl := map_nil h3
  unfold sd at hs
  rw [if_pos htop] at hs
  obtain ⟨x', hx, hr⟩ := C1 (d + 1) v1 (⟨[41], p'⟩ :: ts) (by omega) h1 (by show bd [41] ≤ 1; decide)
  obtain ⟨f, hf⟩ := hr 1 _ (lp_stop 0 1 (d + 1) x' (⟨[41], p'⟩ :: ts) (by show bd [41] < 1; decide))
  refine ⟨x', hx, fun g q hg => ?_⟩
  have e := in_brackets (p := p) (show d ≠ 8 by omega) hf
  have e2 : ⟨[40], p⟩ :: (v1 ++ [⟨[41], p'⟩]) ++ ts = (⟨[40], p⟩ : Tk) :: (v1 ++ ⟨[41], p'⟩ :: ts) := by simp
  rw [e2]
  exact climb (4 - m) m d _ g _ ts x' q (by omega) hh e hg
/-- AS IT IS WRITTEN IT IS READ. -/
theorem reads (x : Ex) : ∀ (_ : Wf (nb := nb) dec x) (k m d : Nat) (us ts : List Tk), 1 ≤ m → m + k = 4 → sd x m + d ≤ 8 → us.map Tk.t = sk dec x m → hb ts ≤ m →
    ∃ x', Sm x x' ∧ ∀ g q, lp nb en g m d x' ts = some q → ∃ f, row nb en f m d (us ++ ts) = some q := by
  induction x with
  | num a n =>
    intro hw k m d us ts h0 hk hs hu hh
    have e : sk dec (.num a n) m = [dec n] := by unfold sk; rw [if_neg (by show ¬ 4 < m; omega)]; rfl
    rw [e] at hu
    obtain ⟨p, v, rfl, hv⟩ := map_cons hu
    obtain rfl := map_nil hv
    obtain ⟨w1, w2, w3⟩ := hw
    refine ⟨.num p n, Sm.num _ _ _, fun g q hg => climb k m d 1 g _ ts _ q (by omega) hh ?_ hg⟩
    show one nb en 1 d (⟨dec n, p⟩ :: ts) = _
    rw [one, if_neg (by rw [w1]; decide), if_pos w2, w3, if_pos rfl]
  | nam a t =>
    intro hw k m d us ts h0 hk hs hu hh
    have e : sk dec (.nam a t) m = [t] := by unfold sk; rw [if_neg (by show ¬ 4 < m; omega)]; rfl
    rw [e] at hu
    obtain ⟨p, v, rfl, hv⟩ := map_cons hu
    obtain rfl := map_nil hv
    obtain ⟨w1, w2⟩ := hw
    refine ⟨.nam p t, Sm.nam _ _ _, fun g q hg => climb k m d 1 g _ ts _ q (by omega) hh ?_ hg⟩
    show one nb en 1 d (⟨t, p⟩ :: ts) = _
    rw [one, if_pos w1, if_neg (by show ¬ 12 < t.length; omega)]
  | bin a o l r il ir =>
    intro hw
    obtain ⟨hb0, wl', wr⟩ := hw
    have hb3 := bd_le o
    -- what binds as much, or more, first
    have low : ∀ (j m d : Nat) (us ts : List Tk), 1 ≤ m → m + j = bd o → dp (.bin a o l r) + d ≤ 8 → us.map Tk.t = tk dec (.bin a o l r) → hb ts ≤ m →
        ∃ x', Sm (.bin a o l r) x' ∧ ∀ g q, lp nb en g m d x' ts = some q → ∃ f, row nb en f m d (us ++ ts) = some q := by
      intro j
      induction j with
      | zero =>
        intro m d us ts h0 hj hd hu hh
        obtain rfl : m = bd o := by omega
        rw [dp_bin] at hd
        rw [tk_bin] at hu
        obtain ⟨u, v, rfl, hu1, hv⟩ := map_cut hu
        obtain ⟨p, v', rfl, hv1⟩ := map_cons hv
        obtain ⟨l', sl, cl'⟩ := il wl' (4 - bd o) (bd o) d u ((⟨o, p⟩ : Tk) :: (v' ++ ts)) h0 (by omega) (by omega) hu1 (by show bd o ≤ bd o; omega)
        obtain ⟨r', sr, cr⟩ := ir wr (4 - (bd o + 1)) (bd o + 1) d v' ts (by omega) (by omega) (by omega) hv1 (by omega)
        obtain ⟨f1, hf1⟩ := cr 1 _ (lp_stop 0 (bd o + 1) d r' ts (by omega))
        refine ⟨.bin p o l' r', Sm.bin _ _ _ _ _ _ _ sl sr, fun g q hg => ?_⟩
        have e : u ++ (⟨o, p⟩ :: v') ++ ts = u ++ (⟨o, p⟩ : Tk) :: (v' ++ ts) := by simp
        rw [e]
        refine cl' (max f1 g + 1) q ?_
        rw [lp, if_pos rfl, up_row hf1 (Nat.le_max_left _ _)]
        exact up_lp hg (Nat.le_max_right _ _)
      | succ j ih =>
        intro m d us ts h0 hj hd hu hh
        obtain ⟨x', hx, hc⟩ := ih (m + 1) d us ts (by omega) (by omega) hd hu (by omega)
        refine ⟨x', hx, fun g q hg => ?_⟩
        obtain ⟨f, hf⟩ := hc 1 _ (lp_stop 0 (m + 1) d x' ts (by omega))
        refine ⟨max f g + 1, ?_⟩
        rw [row_low _ _ _ _ (by omega), up_row hf (Nat.le_max_left _ _)]
        exact up_lp hg (Nat.le_max_right _ _)
    intro k m d us ts h0 hk hs hu hh
    by_cases ht : bd o < m
    · exact brack _ m d us ts h0 (by omega) ht hs hu hh (fun d us ts h1 h2 h3 => low (bd o - 1) 1 d us ts (by omega) (by omega) h1 h2 h3)
    · have e1 : sk dec (.bin a o l r) m = tk dec (.bin a o l r) := by unfold sk; rw [if_neg (show ¬ top (.bin a o l r) < m from ht)]
      have e2 : sd (.bin a o l r) m = dp (.bin a o l r) := by unfold sd; rw [if_neg (show ¬ top (.bin a o l r) < m from ht)]
      rw [e1] at hu
      rw [e2] at hs
      exact low (bd o - m) m d us ts h0 (by omega) hs hu hh
end
end Go.Proofs.YtococaecjecjgaaGreatDoor.ex
/- Expressions: what reading tells; brackets too deep; names as numbers; what they come to (pure). -/
namespace Go.Proofs.YtococaecjecjgaaGreatDoor.ex
set_option linter.unusedVariables false
open lx
section
variable {nb : List UInt8 → Int × Int} {en : Nat} {dec : Int → List UInt8}
/-- Brackets that lie too deep are told. -/
theorem deep_brack (x : Ex) (m d : Nat) (us ts : List Tk) (htop : top x < m) (h4 : m ≤ 4) (h1 : 1 ≤ m) (hs : 8 < sd x m + d) (hd : d ≤ 8) (hu : us.map Tk.t = sk dec x m)
    (C1 : ∀ (d : Nat) (us ts : List Tk), d ≤ 8 → 8 < dp x + d → us.map Tk.t = tk dec x → ∃ f p, row nb en f 1 d (us ++ ts) = some (.error (4, p))) : ∃ f p, row nb en f m d (us ++ ts) = some (.error (4, p)) := by
  have up : ∀ (k m : Nat) (us : List Tk) (f p : Nat), m + k = 4 → one nb en f d us = some (.error (4, p)) → ∃ f, row nb en f m d us = some (.error (4, p)) := by
    intro k
    induction k with
    | zero =>
      intro m us f p hm h
      exact ⟨f + 1, by rw [row_top _ _ _ _ (by omega)]; exact h⟩
    | succ k ih =>
      intro m us f p hm h
      obtain ⟨f', hf⟩ := ih (m + 1) us f p (by omega) h
      exact ⟨f' + 1, by rw [row_low _ _ _ _ (by omega), hf]⟩
  unfold sk at hu
  rw [if_pos htop] at hu
  obtain ⟨p, v, rfl, hv⟩ := map_cons hu
  obtain ⟨v1, v2, rfl, g1, g2⟩ := map_cut hv
  unfold sd at hs
  rw [if_pos htop] at hs
  have e2 : ⟨[40], p⟩ :: (v1 ++ v2) ++ ts = (⟨[40], p⟩ : Tk) :: (v1 ++ (v2 ++ ts)) := by simp
  rw [e2]
  by_cases h8 : d = 8
  · obtain ⟨f, hf⟩ := up (4 - m) m ((⟨[40], p⟩ : Tk) :: (v1 ++ (v2 ++ ts))) 1 p (by omega) (by rw [one, if_neg (by show ¬ isN [40] = true; decide), if_neg (by show ¬ isU [40] = true; decide), if_pos rfl, if_pos h8])
    exact ⟨f, p, hf⟩
  · obtain ⟨f, p', hf⟩ := C1 (d + 1) v1 (v2 ++ ts) (by omega) (by omega) g1
    obtain ⟨f', hf'⟩ := up (4 - m) m ((⟨[40], p⟩ : Tk) :: (v1 ++ (v2 ++ ts))) (f + 1) p' (by omega) (by rw [one, if_neg (by show ¬ isN [40] = true; decide), if_neg (by show ¬ isU [40] = true; decide), if_pos rfl, if_neg h8, hf])
    exact ⟨f', p', hf'⟩
theorem too_deep (x : Ex) : ∀ (_ : Wf (nb := nb) dec x) (k m d : Nat) (us ts : List Tk), 1 ≤ m → m + k = 4 → d ≤ 8 → 8 < sd x m + d → us.map Tk.t = sk dec x m → ∃ f p, row nb en f m d (us ++ ts) = some (.error (4, p)) := by
  induction x with
  | num a n =>
    intro hw k m d us ts h0 hk h8 hs hu
    exfalso
    unfold sd at hs
    rw [if_neg (by show ¬ 4 < m; omega)] at hs
    have : dp (.num a n) = 0 := by rw [dp]
    omega
  | nam a t =>
    intro hw k m d us ts h0 hk h8 hs hu
    exfalso
    unfold sd at hs
    rw [if_neg (by show ¬ 4 < m; omega)] at hs
    have : dp (.nam a t) = 0 := by rw [dp]
    omega
  | bin a o l r il ir =>
    intro hw
    obtain ⟨hb0, wl', wr⟩ := hw
    have hb3 := bd_le o
    have low : ∀ (j m d : Nat) (us ts : List Tk), 1 ≤ m → m + j = bd o → d ≤ 8 → 8 < dp (.bin a o l r) + d → us.map Tk.t = tk dec (.bin a o l r) → ∃ f p, row nb en f m d (us ++ ts) = some (.error (4, p)) := by
      intro j
      induction j with
      | zero =>
        intro m d us ts h0 hj h8 hd hu
        obtain rfl : m = bd o := by omega
        rw [dp_bin] at hd
        rw [tk_bin] at hu
        obtain ⟨u, v, rfl, hu1, hv⟩ := map_cut hu
        obtain ⟨p, v', rfl, hv1⟩ := map_cons hv
        have e : u ++ (⟨o, p⟩ :: v') ++ ts = u ++ (⟨o, p⟩ : Tk) :: (v' ++ ts) := by simp
        rw [e]
        by_cases hl : 8 < sd l (bd o) + d
        · exact il wl' (4 - bd o) (bd o) d u _ h0 (by omega) h8 hl hu1
        · obtain ⟨l', sl, cl'⟩ := reads l wl' (4 - bd o) (bd o) d u ((⟨o, p⟩ : Tk) :: (v' ++ ts)) h0 (by omega) (by omega) hu1 (by show bd o ≤ bd o; omega)
          obtain ⟨f1, p', hf1⟩ := ir wr (4 - (bd o + 1)) (bd o + 1) d v' ts (by omega) (by omega) h8 (by omega) hv1
          obtain ⟨f, hf⟩ := cl' (f1 + 1) (.error (4, p')) (by rw [lp, if_pos rfl, hf1])
          exact ⟨f, p', hf⟩
      | succ j ih =>
        intro m d us ts h0 hj h8 hd hu
        obtain ⟨f, p, hf⟩ := ih (m + 1) d us ts (by omega) (by omega) h8 hd hu
        exact ⟨f + 1, p, by rw [row_low _ _ _ _ (by omega), hf]⟩
    intro k m d us ts h0 hk h8 hs hu
    by_cases ht : bd o < m
    · exact deep_brack (.bin a o l r) m d us ts (show top (.bin a o l r) < m from ht) (by omega) h0 hs h8 hu (fun d us ts h1 h2 h3 => low (bd o - 1) 1 d us ts (by omega) (by omega) h1 h2 h3)
    · have e1 : sk dec (.bin a o l r) m = tk dec (.bin a o l r) := by unfold sk; rw [if_neg (show ¬ top (.bin a o l r) < m from ht)]
      have e2 : sd (.bin a o l r) m = dp (.bin a o l r) := by unfold sd; rw [if_neg (show ¬ top (.bin a o l r) < m from ht)]
      rw [e1] at hu
      rw [e2] at hs
      exact low (bd o - m) m d us ts h0 (by omega) h8 hs hu
/-- What reading tells. -/
theorem told_all (hdec : ∀ t, isU t = true → (nb t).2 = 0 → isN (dec (nb t).1) = false ∧ isU (dec (nb t).1) = true ∧ nb (dec (nb t).1) = ((nb t).1, 0)) (f : Nat) :
    (∀ m d ts x r, 1 ≤ m → m ≤ 4 → d ≤ 8 → row nb en f m d ts = some (.ok (x, r)) → Wf (nb := nb) dec x ∧ sd x m + d ≤ 8) ∧
    (∀ m d y ts x r, 1 ≤ m → m ≤ 3 → d ≤ 8 → Wf (nb := nb) dec y → sd y m + d ≤ 8 → lp nb en f m d y ts = some (.ok (x, r)) → Wf (nb := nb) dec x ∧ sd x m + d ≤ 8) ∧
    (∀ d ts x r, d ≤ 8 → one nb en f d ts = some (.ok (x, r)) → Wf (nb := nb) dec x ∧ sd x 4 + d ≤ 8) := by
  induction f with
  | zero => exact ⟨fun _ _ _ _ _ _ _ _ h => by simp [row] at h, fun _ _ _ _ _ _ _ _ _ _ _ h => by simp [lp] at h, fun _ _ _ _ _ h => by simp [one] at h⟩
  | succ f ih =>
    obtain ⟨i1, i2, i3⟩ := ih
    refine ⟨?_, ?_, ?_⟩
    · intro m d ts x r h0 h4 h8 h
      by_cases hm : 3 < m
      · obtain rfl : m = 4 := by omega
        rw [row_top _ _ _ _ hm] at h
        exact i3 _ _ _ _ h8 h
      · rw [row_low _ _ _ _ hm] at h
        split at h
        · cases h
        · cases h
        · rename_i y r' hr
          obtain ⟨g1, g2⟩ := i1 _ _ _ _ _ (by omega) (by omega) h8 hr
          have := sd_mono y m (m + 1) (by omega)
          exact i2 _ _ _ _ _ _ h0 (by omega) h8 g1 (by omega) h
    · intro m d y ts x r h0 h3 h8 hy hsy h
      cases ts with
      | nil =>
        simp only [lp, Option.some.injEq, Except.ok.injEq, Prod.mk.injEq] at h
        rw [← h.1]
        exact ⟨hy, hsy⟩
      | cons t ts =>
        rw [lp] at h
        split at h
        · rename_i hb'
          split at h
          · cases h
          · cases h
          · rename_i z r' hr
            obtain ⟨g1, g2⟩ := i1 _ _ _ _ _ (by omega) (by omega) h8 hr
            refine i2 m d (.bin t.a t.t y z) _ _ _ h0 h3 h8 (show 0 < bd t.t ∧ Wf (nb := nb) dec y ∧ Wf (nb := nb) dec z from ⟨by omega, hy, g1⟩) ?_ h
            unfold sd
            rw [if_neg (by show ¬ bd t.t < m; omega), dp_bin, hb']
            omega
        · simp only [Option.some.injEq, Except.ok.injEq, Prod.mk.injEq] at h
          rw [← h.1]
          exact ⟨hy, hsy⟩
    · intro d ts x r h8 h
      cases ts with
      | nil => simp [one] at h
      | cons t ts =>
        rw [one] at h
        split at h
        · rename_i hN
          split at h
          · simp at h
          · simp at h; rw [← h.1]
            exact ⟨⟨hN, by omega⟩, by unfold sd; rw [if_neg (by show ¬ 4 < 4; omega), dp]; omega⟩
        · split at h
          · rename_i hU
            split at h
            · rename_i h0
              simp at h; rw [← h.1]
              exact ⟨hdec _ hU h0, by unfold sd; rw [if_neg (by show ¬ 4 < 4; omega), dp]; omega⟩
            · simp at h
          · split at h
            · split at h
              · simp at h
              · rename_i hd8
                split at h
                · cases h
                · cases h
                · rename_i z r' hr
                  obtain ⟨g1, g2⟩ := i1 _ _ _ _ _ (by omega) (by omega) (by omega) hr
                  split at h
                  · simp at h; rw [← h.1]
                    refine ⟨g1, ?_⟩
                    unfold sd at g2 ⊢
                    split at g2 <;> split <;> omega
                  · simp at h
            · simp at h
end
end Go.Proofs.YtococaecjecjgaaGreatDoor.ex
/- The library's own texts that a call comes to, as this program has them: laid on the shelf's. -/
namespace Go.Proofs.YtococaecjecjgaaGreatDoor.lay
open Go.Shelf
def rf : FuncId → FuncId
  | 166 => 93
  | 167 => 190
  | 169 => 66
  | 240 => 125
  | 276 => 154
  | x => x
def rt : TypeId → TypeId
  | 0 => 0
  | 3 => 3
  | 4 => 4
  | 5 => 5
  | 9 => 9
  | 20 => 20
  | 37 => 79
  | 70 => 78
  | 72 => 81
  | 75 => 34
  | 80 => 73
  | 127 => 190
  | 164 => 204
  | x => x
def rg : Nat → Nat

  | x => x
def ren : Ren := ⟨rf, rt, rg⟩
set_option maxRecDepth 100000 in
theorem extra : Builder.Extra Tryz.prog ren where
  sizeBuilder := by kernel_rfl
  liesBuilder := by kernel_rfl
  t5 := by kernel_rfl
  a5 := fun _ => by kernel_rfl
  z5 := fun _ => by kernel_rfl
  v5 := fun _ => by kernel_rfl
  infoByte := by kernel_rfl
  cellsByte := by kernel_rfl
  sizeByte := by kernel_rfl
  neB5 := by decide
end Go.Proofs.YtococaecjecjgaaGreatDoor.lay
/- A strings.Builder of the call's own: what is written into it, what it holds, and what stays as it was. -/
namespace Go.Proofs.YtococaecjecjgaaGreatDoor.bld
set_option linter.unusedVariables false
open Go.ChangeShapes Go.WideShapes Go.ChangeAt Go.RowKit Go.Shelf
open mem lx

/-- A builder that holds these bytes. -/
def Bd (B b : Nat) (l : List UInt8) (w : World) : Prop := Lib.IsBuilderF 81 5 B b (Lib.byteCells l) w
theorem lt_of_some {w : World} {g : Nat} {o : Obj} (h : w.heap[g]? = some o) : g < w.heap.size := lt_of_heap h
theorem atF_bl {T e : TypeId} {B b : Nat} {p : Value} {bs : List Value} {W W' : World} (h : Lib.BuilderAtF T e B b p bs W) (hg : Bl W W') : Lib.BuilderAtF T e B b p bs W' := by
  have key : ∀ k c t fz, W.heap[k]? = some (Obj.cells c t fz) → W'.heap[k]? = some (Obj.cells c t fz) := fun k c t fz hk => by
    rw [Below.block hg k (lt_of_heap hk)]
    exact hk
  obtain ⟨hB, v, hb, hown, hne⟩ := h
  refine ⟨hB, v, key _ _ _ _ hb, ⟨hown.1, ?_⟩, hne⟩
  rcases hown.2 with hn | ⟨g, cap, cur, fz, hv, hbg, hgg, rest⟩
  · exact .inl hn
  · exact .inr ⟨g, cap, cur, fz, hv, hbg, key _ _ _ _ hgg, rest⟩
theorem Bd.bl {B b : Nat} {l : List UInt8} {W W' : World} (h : Bd B b l W) (hb : Bl W W') : Bd B b l W' :=
  h.elim (fun x => .inl (atF_bl x hb)) (fun x => .inr (atF_bl x hb))
theorem Bd.cells {B b : Nat} {l : List UInt8} {W : World} (h : Bd B b l W) : ∃ c t fz, W.heap[b]? = some (Obj.cells c t fz) := by
  rcases h with h | h
  · obtain ⟨_, v, hc, _⟩ := h; exact ⟨_, _, _, hc⟩
  · obtain ⟨_, v, hc, _⟩ := h; exact ⟨_, _, _, hc⟩
theorem Bd.lt {B b : Nat} {l : List UInt8} {W : World} (h : Bd B b l W) : b < W.heap.size := by
  obtain ⟨c, t, fz, hc⟩ := h.cells
  exact lt_of_some hc
theorem Bd.base {B b : Nat} {l : List UInt8} {W : World} (h : Bd B b l W) : B ≤ b := by
  rcases h with h | h
  · exact h.1
  · exact h.1
theorem Bd.le {B b : Nat} {l : List UInt8} {W : World} (h : Bd B b l W) : B ≤ W.heap.size := Nat.le_trans h.base (Nat.le_of_lt h.lt)
theorem Bd.new (w : World) : Bd w.heap.size w.heap.size [] (w.alloc (.cells #[.pointer none, .slice none 0 0] 81)) := by
  refine .inl ⟨Nat.le_refl _, .slice none 0 0, ?_, ⟨rfl, .inl ⟨rfl, rfl⟩⟩, ?_⟩
  · show (w.heap.push _)[w.heap.size]? = _
    rw [Array.getElem?_push, if_pos rfl]
  · intro h; cases h
/-- What is no row of bytes and not the builder stays as it was. -/
structure Kb (b : Nat) (w w' : World) : Prop where
  size : w.heap.size ≤ w'.heap.size
  same : ∀ (k : Nat) (o : Obj), w.heap[k]? = some o → k ≠ b → (∀ c fz, o ≠ .cells c 5 fz) → w'.heap[k]? = some o
theorem Kb.refl (b : Nat) (w : World) : Kb b w w := ⟨Nat.le_refl _, fun _ _ h _ _ => h⟩
theorem Kb.trans {b : Nat} {x y z : World} (h : Kb b x y) (k : Kb b y z) : Kb b x z := ⟨Nat.le_trans h.size k.size, fun i o h1 h2 h3 => k.same i o (h.same i o h1 h2 h3) h2 h3⟩
theorem Kb.bl {b : Nat} {w w' : World} (h : Bl w w') : Kb b w w' := ⟨h.size, fun k o hk _ _ => by rw [Below.block h k (lt_of_some hk)]; exact hk⟩
end Go.Proofs.YtococaecjecjgaaGreatDoor.bld
