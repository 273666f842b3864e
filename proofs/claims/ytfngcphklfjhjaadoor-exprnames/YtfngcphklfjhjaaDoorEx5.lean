/- Parse of package expr. -/
import Derived.Test.YtfngcphklfjhjaaDoorEx4
import Derived.Test.YtfngcphklfjhjaaDoorLxQ
namespace Go.Proofs.YtfngcphklfjhjaaDoor.ex
set_option linter.unusedVariables false
open Go.ChangeShapes Go.WideShapes Go.ChangeAt Go.RowKit
open mem lx

theorem catch_idle (p q : Addr) (w : World) :
    CallsD Tryd.prog 34 #[.pointer (some p), .pointer (some q)] .returning w fun e u' w' => e = .returned (.tuple #[]) ∧ u' = .returning ∧ w' = w := by
  have hta : ∀ w : World, (Instr.typeAssert Value.nilIface 20 62 true).run Tryd.prog w = .ok (.tuple #[.pointer none, .bool false]) w := fun _ => by kernel_rfl
  refine callsD_of_wpS Tryd.func34 rfl fun c₀ cs hu => ?_
  apply wpS_seq
  apply wpS_region
  simp [wpOpsS, go_sem, recoverD, hu, Tryd.ntmps34, Exit.thenS, hta]
  apply wpS_seq
  apply wpS_region
  simp [wpOpsS, go_sem, Exit.thenS]
  refine wpS_cond (t := false) (by simp [Act.eval, Array.replicate]) ?_
  simp only [Bool.false_eq_true, if_false]
  refine wpS_of_wp (wp_skip ?_)
  cases c₀
  simp_all [bodyPostS, results, Tryd.results34]
theorem catch_thrown (p q : Addr) (B : Nat) (x y : Value) (w : World) (hp : w.cell? p = some x) (hpz : w.frozen? p = false) (hq : w.cell? q = some y) (hqz : w.frozen? q = false) (hne : p ≠ q) :
    CallsD Tryd.prog 34 #[.pointer (some p), .pointer (some q)] (.panicking [{ v := .iface 62 (.pointer (some ⟨B, 0, none⟩)), recovered := false }]) w fun e u' w' =>
      e = .returned (.tuple #[]) ∧ u' = .panicking [{ v := .iface 62 (.pointer (some ⟨B, 0, none⟩)), recovered := true }] ∧ w' = (w.setCell p (.pointer none)).setCell q (.iface 62 (.pointer (some ⟨B, 0, none⟩))) := by
  have hta : ∀ w : World, (Instr.typeAssert (.iface 62 (.pointer (some ⟨B, 0, none⟩))) 20 62 true).run Tryd.prog w = .ok (.tuple #[.pointer (some ⟨B, 0, none⟩), .bool true]) w := fun _ => by kernel_rfl
  refine callsD_of_wpS Tryd.func34 rfl fun c₀ cs hu => ?_
  apply wpS_seq
  apply wpS_region
  simp [wpOpsS, go_sem, recoverD, hu, Tryd.ntmps34, Exit.thenS, hta]
  apply wpS_seq
  apply wpS_region
  simp [wpOpsS, go_sem, Exit.thenS]
  refine wpS_cond (t := true) (by simp [Act.eval, Array.replicate]) ?_
  simp only [if_true]
  apply wpS_region
  have hq2 : (w.setCell p (.pointer none)).cell? q = some y := by rw [World.cell?_setCell_other w p q _ hne]; exact hq
  simp [wpOpsS, go_sem, hp, hpz, hq2, hqz, bodyPostS, results, Tryd.results34, Array.replicate]
/-- A text's expression, or what is told, and where. -/
noncomputable def prs (l : List UInt8) : Except (Int × Nat) Ex :=
  match (lx l 0).2 with
  | some p => .error (3, p)
  | none => match row nb l.length (10 * (lx l 0).1.length + 10) 1 0 (lx l 0).1 with
    | some (.ok (x, [])) => .ok x
    | some (.ok (x, t :: _)) => .error (3, t.a)
    | some (.error e) => .error e
    | none => .error (0, 0)
/-- What reading all comes to. -/
def whole (q : Res) : Except (Int × Nat) Ex :=
  match q with
  | .ok (x, []) => .ok x
  | .ok (x, t :: _) => .error (3, t.a)
  | .error e => .error e
theorem prs_is {l : List UInt8} {ts : List Tk} {q : Res} (h1 : (lx l 0).2 = none) (h2 : ts = (lx l 0).1) (h3 : row nb l.length (10 * ts.length + 10) 1 0 ts = some q) : prs l = whole q := by
  unfold prs
  rw [h1]
  dsimp only
  rw [← h2, h3]
  cases q with
  | error e => rfl
  | ok xr =>
    obtain ⟨x, r⟩ := xr
    cases r <;> rfl
/-- What Parse answers. -/
def PAns (s : ByteArray) (w : World) (e : Ending) (w' : World) : Prop :=
  Bl w w' ∧ match prs (L s) with
  | .ok x => ∃ v, e = .returned (.tuple #[v, .nilIface]) ∧ IsX w' v x
  | .error (c, p) => ∃ B : Nat, e = .returned (.tuple #[.pointer none, .iface 62 (.pointer (some ⟨B, 0, none⟩))]) ∧ w.heap.size ≤ B ∧ AtX w' B c (p : Int)
/-- Parse's variables. -/
structure Pv (w wr : World) (N : Nat) (v e : Value) : Prop where
  v1 : Vr wr N v 43
  v2 : Vr wr (N + 1) e 30
  bl : Bl w wr
  n : N = w.heap.size
theorem Pv.step {w wr w' : World} {N : Nat} {v e : Value} (h : Pv w wr N v e) (hb : Bl wr w') : Pv w w' N v e := ⟨h.v1.step hb, h.v2.step hb, h.bl.trans hb, h.n⟩
theorem Vr.gp {P b : Nat} {w w' : World} {v : Value} {t : TypeId} (h : Vr w b v t) (hg : Gp P w w') (hne : b ≠ P) : Vr w' b v t := by
  have := h.lt
  unfold Vr at h ⊢
  rw [hg.block b this hne]
  exact h
theorem Pv.gp {P : Nat} {w wr w' : World} {N : Nat} {v e : Value} (h : Pv w wr N v e) (hg : Gp P wr w') (hP : N + 1 < P) : Pv w w' N v e :=
  ⟨Vr.gp h.v1 hg (by omega), Vr.gp h.v2 hg (by omega), hg.below h.bl (by have := h.n; omega), h.n⟩
theorem Pv.set1 {w wr : World} {N : Nat} {v e : Value} (h : Pv w wr N v e) (x : Value) : Pv w (wr.setCell ⟨N, 0, none⟩ x) N x e :=
  ⟨h.v1.set _, h.v2.set_other (by omega) _, h.bl.setCell (by show w.heap.size ≤ N; have := h.n; omega) _, h.n⟩
theorem Pv.set2 {w wr : World} {N : Nat} {v e : Value} (h : Pv w wr N v e) (x : Value) : Pv w (wr.setCell ⟨N + 1, 0, none⟩ x) N v x :=
  ⟨h.v1.set_other (by omega) _, h.v2.set _, h.bl.setCell (by show w.heap.size ≤ N + 1; have := h.n; omega) _, h.n⟩
theorem Pv.new (w : World) : Pv w ((w.alloc (.cells #[.pointer none] 43)).alloc (.cells #[.nilIface] 30)) w.heap.size (.pointer none) .nilIface := by
  refine ⟨(Vr.new w _ _).step ((Bl.refl _).alloc _), ?_, ((Bl.refl _).alloc _).alloc _, rfl⟩
  have := Vr.new (w.alloc (.cells #[.pointer none] 43)) .nilIface 30
  simpa using this
/-- Parts of expressions, and errors, stay when a variable is set. -/
theorem Kx.set {w : World} {b : Nat} {v x : Value} {t : TypeId} (h : Vr w b v t) (ht : t ≠ 89) : Kx w (w.setCell ⟨b, 0, none⟩ x) := fun k cs hk => by
  rw [(grown_set w b 0 x).block k (lt_of_heap hk) (fun e => by
    injection e with e
    rw [e] at hk
    unfold Vr at h
    rw [h] at hk
    simp at hk
    exact ht hk.2)]
  exact hk
theorem AtX.set {w : World} {B b : Nat} {c p : Int} {x : Value} (h : AtX w B c p) (hne : B ≠ b) : AtX (w.setCell ⟨b, 0, none⟩ x) B c p := by
  unfold AtX at h ⊢
  rw [(grown_set w b 0 x).block B (lt_of_heap h) (fun e => by injection e with e; exact hne e)]
  exact h
theorem Rd.setv {w : World} {P N : Nat} {t : Tk} {r : List Tk} {d en : Nat} {pv : Option Addr} {ty : TypeId} (h : Rd w P (t :: r) d en) (hv : Vr w N (.pointer pv) ty) (hne : N ≠ P) (x : Value) : Rd (w.setCell ⟨N, 0, none⟩ x) P (t :: r) d en := by
  obtain ⟨p, c, h1, h2, h3, h4⟩ := h.ex
  have hs : (w.setCell ⟨N, 0, none⟩ x).heap.size = w.heap.size := by simp [World.setCell]
  have hN : ∀ y, p = some y → y.block ≠ N := by
    intro y hy e
    obtain ⟨z, hz, q1, _⟩ := h3.at 0 (by simp)
    rw [hy] at hz
    injection hz with hz
    subst hz
    rw [Nat.zero_mul, Addr.add_zero'] at q1
    unfold Vr at hv
    unfold World.cell? at q1
    rw [e, hv] at q1
    revert q1
    rcases y with ⟨yb, yo, yk⟩
    cases yk with
    | none =>
      rcases yo with _ | yo
      · simp
      · simp
    | some k => simp
  refine ⟨p, c, ?_, h2, In.gp h3 (Gp.set _) (fun y hy => ⟨(h4 y hy).1, hN y hy⟩), fun y hy => by rw [hs]; exact h4 y hy⟩
  rw [(grown_set w N 0 x).block P (lt_of_heap h1) (fun e => by injection e with e; exact hne e.symm)]
  exact h1
theorem Parse_long (s : ByteArray) (w : World) (hs : 3000 < s.size) :
    Calls Tryd.prog 19 #[.string s] w fun e w' => e = .returned (.tuple #[.pointer none, .iface 24 (.int .i64 4)]) ∧ Bl w w' := by
  have hmf : ∀ (fn : Fn) (first cap : Array Value) (w : World), (Instr.makeFunc fn first cap).run Tryd.prog w = .ok (.func fn first cap) w := fun _ _ _ _ => rfl
  have cL := fun w => Lex_long s w hs
  have H0 : Hid _ := Pv.new w
  obtain ⟨N, hN⟩ : ∃ N, N = w.heap.size := ⟨_, rfl⟩
  rw [← hN] at H0
  go_enter_defers Tryd.func19, Tryd.ntmps19
  go_wp2_with fail
  refine (cL _).mono ?_
  rintro e w2 ⟨rfl, rfl⟩
  rw [← hN]
  generalize (w.alloc (.cells #[.pointer none] 43)).alloc (.cells #[.nilIface] 30) = w2 at *
  have c1 := H0.out.v1.cell
  have c2 := H0.out.v2.cell
  have f1 := H0.out.v1.frozen
  have f2 := H0.out.v2.frozen
  clear hN
  go_wp2
  have HW : Hid (Pv w (w2.setCell ⟨N + 1, 0, none⟩ (.iface 24 (.int .i64 4))) N (.pointer none) (.iface 24 (.int .i64 4))) := H0.out.set2 _
  generalize w2.setCell ⟨N + 1, 0, none⟩ (.iface 24 (.int .i64 4)) = W at HW ⊢
  clear c1 c2 f1 f2
  have c1 := HW.out.v1.cell
  have c2 := HW.out.v2.cell
  have f1 := HW.out.v1.frozen
  have f2 := HW.out.v2.frozen
  refine wp_calm ?_
  go_region
  all_goals
    refine Calm.in ?_
    have H9 : Hid (Pv w ((W.setCell ⟨N, 0, none⟩ (.pointer none)).setCell ⟨N + 1, 0, none⟩ (.iface 24 (.int .i64 4))).drew N (.pointer none) (.iface 24 (.int .i64 4))) := ((HW.out.set1 _).set2 _).step (Bl.refl _).drew
    generalize ((W.setCell ⟨N, 0, none⟩ (.pointer none)).setCell ⟨N + 1, 0, none⟩ (.iface 24 (.int .i64 4))).drew = W9 at H9 ⊢
    clear c1 c2 f1 f2
    have c1 := H9.out.v1.cell
    have c2 := H9.out.v2.cell
    go_simp
    go_wp2
    simp [bodyPostD, Leaves, results, Tryd.results19, go_sem, c1, c2]
    exact H9.out.bl
theorem tok_len {s : List UInt8} {l : List Tk} : ∀ {p : Nat}, Ch s p l → ∀ t ∈ l, t.t.length ≤ s.length := by
  induction l with
  | nil => intro p h t ht; cases ht
  | cons u r ih =>
    intro p h t ht
    obtain ⟨h1, h2, _, _, h5⟩ := (show p ≤ u.a ∧ u.a + u.t.length ≤ s.length ∧ _ ∧ _ ∧ Ch s (u.a + u.t.length) r from h)
    rw [List.mem_cons] at ht
    rcases ht with rfl | ht
    · omega
    · exact ih h5 t ht
set_option maxRecDepth 10000 in
set_option maxHeartbeats 2000000 in
theorem Parse_at (s : ByteArray) (w : World) (hs : s.size ≤ 3000) (hm : Mks w) (hL : errs.Laid w) :
    Calls Tryd.prog 19 #[.string s] w fun e w' => PAns s w e w' := by
  have hmf : ∀ (fn : Fn) (first cap : Array Value) (w : World), (Instr.makeFunc fn first cap).run Tryd.prog w = .ok (.func fn first cap) w := fun _ _ _ _ => rfl
  have cL := fun wx (hb : Bl w wx) => Lex_at s wx hs (hm.step hb)
  have H0 : Hid _ := Pv.new w
  obtain ⟨N, hN⟩ : ∃ N, N = w.heap.size := ⟨_, rfl⟩
  rw [← hN] at H0
  have HL : Hid (errs.Laid w) := hL
  have hcl := H0.out.bl
  go_enter_defers Tryd.func19, Tryd.ntmps19
  go_wp2_with fail
  refine (cL _ hcl).mono ?_
  rintro e w2 ⟨hb2, hans⟩
  rw [← hN]
  have H2 : Hid _ := H0.out.step hb2
  have c1 := H2.out.v1.cell
  have c2 := H2.out.v2.cell
  have f1 := H2.out.v1.frozen
  have f2 := H2.out.v2.frozen
  have hsz : (w.alloc (.cells #[.pointer none] 43)).heap.size ≤ ((w.alloc (.cells #[.pointer none] 43)).alloc (.cells #[.nilIface] 30)).heap.size := ((Bl.refl _).alloc _).size
  rcases hans with ⟨g1, v, rfl, g2⟩ | ⟨p, B, g1, rfl, g2, g3⟩
  · obtain ⟨ts, hts⟩ : ∃ ts, ts = (lx (L s) 0).1 := ⟨_, rfl⟩
    obtain ⟨q, hq⟩ : ∃ q, row nb (L s).length (10 * ts.length + 10) 1 0 ts = some q := by
      cases h : row nb (L s).length (10 * ts.length + 10) 1 0 ts with
      | none => exact absurd h ((some_all _).1 1 0 ts (by omega) (by omega))
      | some q => exact ⟨q, rfl⟩
    have hprs : prs (L s) = whole q := prs_is g1 hts hq
    have hch := lx_ch (L s) _ 0 (Nat.le_refl _) (Nat.zero_le _)
    rw [List.drop_zero, ← hts] at hch
    have htl : ∀ t ∈ ts, t.t.length ≤ 3000 := fun t ht => by have := tok_len hch t ht; rw [L_len] at this; omega
    have hlen : ts.length ≤ 3000 := by
      have := lx_len (L s) _ 0 (Nat.le_refl _)
      rw [← hts, L_len] at this
      omega
    rw [L_len] at hq
    rw [← hts] at g2
    obtain ⟨vp, vc, rfl, hvc, hin⟩ := g2.view
    have HX : Hid (prs (L s) = whole q) := hprs
    have HO : Hid (tr.Own w2 ((w.alloc (.cells #[.pointer none] 43)).alloc (.cells #[.nilIface] 30)).heap.size (.slice vp ts.length vc) ts ∧ N + 2 ≤ ((w.alloc (.cells #[.pointer none] 43)).alloc (.cells #[.nilIface] 30)).heap.size) := ⟨g2, by have := H0.out.v2.lt; omega⟩
    clear g1 g2 hprs hch hts cL hN hcl hsz hin H0
    obtain ⟨P, hP⟩ : ∃ P, P = w2.heap.size := ⟨_, rfl⟩
    obtain ⟨w3, hw3⟩ : ∃ w3, w3 = (w2.setCell ⟨N + 1, 0, none⟩ .nilIface).alloc (.cells #[.slice vp ts.length vc, .int .i64 (s.size : Int), .int .i64 0] 66) := ⟨_, rfl⟩
    have H3 : Pv w w3 N (.pointer none) .nilIface := by rw [hw3]; exact (H2.out.set2 _).step ((Bl.refl _).alloc _)
    have hNP : N + 1 < P := by have := H2.out.v2.lt; omega
    have hR3 : Rd w3 P ts 0 s.size := by
      have ho : tr.Own (w2.setCell ⟨N + 1, 0, none⟩ .nilIface) (N + 2) (.slice vp ts.length vc) ts := by
        refine (HO.out.1.low HO.out.2).kept (grown_set _ _ _ _) ?_
        intro x hx e
        injection e with e
        have := ((HO.out.1.low HO.out.2).block x hx).1
        omega
      have hs3 : (w2.setCell ⟨N + 1, 0, none⟩ .nilIface).heap.size = P := by rw [hP]; simp [World.setCell]
      have hn := new_at (w2.setCell ⟨N + 1, 0, none⟩ .nilIface) (.cells #[.slice vp ts.length vc, .int .i64 (s.size : Int), .int .i64 0] 66)
      rw [← hw3, hs3] at hn
      have ho3 := ho.step (w' := w3) (by rw [hw3]; exact (Bl.refl _).alloc _)
      obtain ⟨vp', vc', hv', hvc', hin'⟩ := ho3.view
      have e1 : vp' = vp := by injection hv' with h1 _ _; exact h1.symm
      have e2 : vc' = vc := by injection hv' with _ _ h3; exact h3.symm
      subst e1 e2
      refine ⟨vp', vc', hn, hvc, hin', fun x hx => ?_⟩
      have hlt3 : P < w3.heap.size := lt_of_heap hn
      rcases ho.shape with ⟨h1, _⟩ | ⟨g, cap, h1, h2, h3, _⟩
      · injection h1 with h1 _ _
        rw [hx] at h1; cases h1
      · injection h1 with h1 _ _
        rw [hx] at h1
        injection h1 with h1
        rw [hs3] at h3
        rw [h1]
        exact ⟨by show g < _; omega, by show g ≠ P; omega⟩
    have hL3 : errs.Laid w3 := HL.out.bl H3.bl
    have hGP : 0 < P := by have := HL.out.pos; have := H2.out.bl.size; omega
    have cR := row_at P s.size hGP _ 1 0 ts q w3 (by omega) (by omega) (by omega) hR3 hL3 hlen htl hq
    have HQ : Hid (∀ x r, q = .ok (x, r) → r.length ≤ 3000) := fun x r h => by
      rw [h] at hq
      have := (len_all _).1 _ _ _ _ _ hq
      omega
    have H3' : Hid (Pv w w3 N (.pointer none) .nilIface ∧ P < w3.heap.size) := ⟨H3, hR3.lt⟩
    go_wp2_with fail
    rw [← hP, ← hw3]
    clear hw3 hP H3 hR3 hL3 hq htl HO H2 c1 c2 f1 f2 hvc hb2
    refine cR.mono ?_
    rintro e w4 ⟨hg4, hans⟩
    have H4 : Hid (Pv w w4 N (.pointer none) .nilIface) := H3'.out.1.gp hg4 hNP
    cases q with
    | error cp =>
      obtain ⟨c, p⟩ := cp
      obtain ⟨B, rfl, hB1, hB2⟩ := hans
      have HXE : Hid (prs (L s) = .error (c, p)) := HX.out
      have HA9 : Hid (AtX w4 B c (p : Int) ∧ N + 1 < B) := ⟨hB2, by have := H3'.out.2; omega⟩
      unfold thrown
      go_wp2
      have H9 : Hid (Pv w w4 N (.pointer none) .nilIface) := H4
      generalize w4 = w9 at *
      have v1c := H9.out.v1.cell
      have v1f := H9.out.v1.frozen
      have v2c := H9.out.v2.cell
      have v2f := H9.out.v2.frozen
      have HZ := (H9.out.set1 (.pointer none)).set2 (.iface 62 (.pointer (some ⟨B, 0, none⟩)))
      have hAZ : AtX ((w9.setCell ⟨N, 0, none⟩ (.pointer none)).setCell ⟨N + 1, 0, none⟩ (.iface 62 (.pointer (some ⟨B, 0, none⟩)))) B c (p : Int) := (HA9.out.1.set (by have := HA9.out.2; omega)).set (by have := HA9.out.2; omega)
      refine leaves_cons (f := 34) (args := #[.pointer (some ⟨N, 0, none⟩), .pointer (some ⟨N + 1, 0, none⟩)]) (by simp) (by simp [go_sem]) ?_
      refine (catch_thrown ⟨N, 0, none⟩ ⟨N + 1, 0, none⟩ B _ _ w9 v1c v1f v2c v2f (by simp)).mono ?_
      rintro e u' w'' ⟨rfl, rfl, rfl⟩
      generalize (w9.setCell ⟨N, 0, none⟩ (.pointer none)).setCell ⟨N + 1, 0, none⟩ (.iface 62 (.pointer (some ⟨B, 0, none⟩))) = wz at HZ hAZ ⊢
      have c1' := HZ.v1.cell
      have c2' := HZ.v2.cell
      simp [Leaves, settle, results, Tryd.results19, go_sem, c1', c2']
      refine ⟨HZ.bl, ?_⟩
      rw [HXE.out]
      exact ⟨B, rfl, by have := HZ.n; have := HA9.out.2; omega, hAZ⟩
    | ok xr =>
      obtain ⟨x, r⟩ := xr
      obtain ⟨v, rfl, hx4, hR4⟩ := hans
      obtain ⟨vb, rfl, hvb⟩ := hx4.ptr
      have hrl := HQ.out x r rfl
      obtain ⟨p', c', k1, k2, k3, k4⟩ := hR4.ex
      have d1 := H4.out.v1.cell
      have d2 := H4.out.v2.cell
      have e1 := H4.out.v1.frozen
      have e2 := H4.out.v2.frozen
      have hP0 : w4.cell? ⟨P, 0, none⟩ = some (.slice p' r.length c') := by rw [cell_of k1]; rfl
      have hNP' : ¬ N = P := by omega
      have H5 : Hid (Pv w (w4.setCell ⟨N, 0, none⟩ (.pointer (some ⟨vb, 0, none⟩))) N (.pointer (some ⟨vb, 0, none⟩)) .nilIface ∧ IsX (w4.setCell ⟨N, 0, none⟩ (.pointer (some ⟨vb, 0, none⟩))) (.pointer (some ⟨vb, 0, none⟩)) x) := ⟨H4.out.set1 _, hx4.keep (Kx.set H4.out.v1 (by decide))⟩
      cases r with
      | nil =>
        have HXO : Hid (prs (L s) = .ok x) := HX.out
        rw [show ([] : List Tk).length = 0 from rfl] at hP0
        clear k1 k2 k3 k4 hR4 hx4 cR
        go_wp2
        have H9 := (H5.out.1.set1 (.pointer (some ⟨vb, 0, none⟩))).set2 .nilIface
        have hx9 : IsX (((w4.setCell ⟨N, 0, none⟩ (.pointer (some ⟨vb, 0, none⟩))).setCell ⟨N, 0, none⟩ (.pointer (some ⟨vb, 0, none⟩))).setCell ⟨N + 1, 0, none⟩ .nilIface) (.pointer (some ⟨vb, 0, none⟩)) x := (H5.out.2.keep (Kx.set H5.out.1.v1 (by decide))).keep (Kx.set (H5.out.1.set1 (.pointer (some ⟨vb, 0, none⟩))).v2 (by decide))
        generalize ((w4.setCell ⟨N, 0, none⟩ (.pointer (some ⟨vb, 0, none⟩))).setCell ⟨N, 0, none⟩ (.pointer (some ⟨vb, 0, none⟩))).setCell ⟨N + 1, 0, none⟩ .nilIface = w9 at H9 hx9 ⊢
        have c1' := H9.v1.cell
        have c2' := H9.v2.cell
        refine leaves_cons (f := 34) (args := #[.pointer (some ⟨N, 0, none⟩), .pointer (some ⟨N + 1, 0, none⟩)]) (by simp) (by simp [go_sem]) ?_
        refine (catch_idle _ _ _).mono ?_
        rintro e u' w'' ⟨rfl, rfl, rfl⟩
        simp [Leaves, settle, results, Tryd.results19, go_sem, c1', c2']
        refine ⟨H9.bl, ?_⟩
        rw [HXO.out]
        exact ⟨_, rfl, hx9⟩
      | cons t r =>
        have HXE : Hid (prs (L s) = .error (3, t.a)) := HX.out
        have hR5 := hR4.setv H4.out.v1 (by omega) (.pointer (some ⟨vb, 0, none⟩))
        have cN := next_at _ P (t :: r) 0 s.size hR5 (by omega)
        have cA := at_at t 3
        rw [show hd s.size (t :: r) = t from rfl] at cN
        obtain ⟨n, hn⟩ : ∃ n, n = r.length := ⟨_, rfl⟩
        rw [show (t :: r).length = n + 1 by simp [hn]] at hP0
        have hpos : (0 : Int) < ((n + 1 : Nat) : Int) := by omega
        unfold tkV at cN cA
        clear k1 k2 k3 k4 hR4 hx4 cR hR5 hn
        go_wp2_with fail
        refine cN.mono ?_
        rintro e w6 ⟨rfl, hb6⟩
        go_wp2_with fail
        refine (cA _).mono ?_
        rintro e w9 ⟨B, rfl, hthr⟩
        obtain ⟨j1, j2, j3⟩ := AtX.of hthr
        have H9 : Hid (Pv w w9 N (.pointer (some ⟨vb, 0, none⟩)) .nilIface) := (H5.out.1.step hb6).step j3
        have HA9 : Hid (AtX w9 B 3 (t.a : Int) ∧ N + 1 < B) := ⟨j2, by have := (H5.out.1.step hb6).v2.lt; omega⟩
        go_wp2
        have v1c := H9.out.v1.cell
        have v1f := H9.out.v1.frozen
        have v2c := H9.out.v2.cell
        have v2f := H9.out.v2.frozen
        have HZ := (H9.out.set1 (.pointer none)).set2 (.iface 62 (.pointer (some ⟨B, 0, none⟩)))
        have hAZ : AtX ((w9.setCell ⟨N, 0, none⟩ (.pointer none)).setCell ⟨N + 1, 0, none⟩ (.iface 62 (.pointer (some ⟨B, 0, none⟩)))) B 3 (t.a : Int) := (HA9.out.1.set (by have := HA9.out.2; omega)).set (by have := HA9.out.2; omega)
        refine leaves_cons (f := 34) (args := #[.pointer (some ⟨N, 0, none⟩), .pointer (some ⟨N + 1, 0, none⟩)]) (by simp) (by simp [go_sem]) ?_
        refine (catch_thrown ⟨N, 0, none⟩ ⟨N + 1, 0, none⟩ B _ _ w9 v1c v1f v2c v2f (by simp)).mono ?_
        rintro e u' w'' ⟨rfl, rfl, rfl⟩
        generalize (w9.setCell ⟨N, 0, none⟩ (.pointer none)).setCell ⟨N + 1, 0, none⟩ (.iface 62 (.pointer (some ⟨B, 0, none⟩))) = wz at HZ hAZ ⊢
        have c1' := HZ.v1.cell
        have c2' := HZ.v2.cell
        simp [Leaves, settle, results, Tryd.results19, go_sem, c1', c2']
        refine ⟨HZ.bl, ?_⟩
        rw [HXE.out]
        exact ⟨B, rfl, by have := HZ.n; have := HA9.out.2; omega, hAZ⟩
  · have HB : Hid (prs (L s) = .error (3, p) ∧ AtX w2 B 3 (p : Int) ∧ N + 1 < B) := by
      refine ⟨by unfold prs; rw [g1], g3, ?_⟩
      have h1 := H0.out.v2.lt
      omega
    clear g1 g2 g3 cL hN H0 hcl hsz hb2
    go_wp2
    have HW : Hid (Pv w (w2.setCell ⟨N + 1, 0, none⟩ (.iface 62 (.pointer (some ⟨B, 0, none⟩)))) N (.pointer none) (.iface 62 (.pointer (some ⟨B, 0, none⟩))) ∧ AtX (w2.setCell ⟨N + 1, 0, none⟩ (.iface 62 (.pointer (some ⟨B, 0, none⟩)))) B 3 (p : Int)) := ⟨H2.out.set2 _, HB.out.2.1.set (by have := HB.out.2.2; omega)⟩
    generalize w2.setCell ⟨N + 1, 0, none⟩ (.iface 62 (.pointer (some ⟨B, 0, none⟩))) = W at HW ⊢
    clear c1 c2 f1 f2
    have c1 := HW.out.1.v1.cell
    have c2 := HW.out.1.v2.cell
    have f1 := HW.out.1.v1.frozen
    have f2 := HW.out.1.v2.frozen
    refine wp_calm ?_
    go_region
    all_goals
      refine Calm.in ?_
      have H9 : Hid (Pv w ((W.setCell ⟨N, 0, none⟩ (.pointer none)).setCell ⟨N + 1, 0, none⟩ (.iface 62 (.pointer (some ⟨B, 0, none⟩)))).drew N (.pointer none) (.iface 62 (.pointer (some ⟨B, 0, none⟩))) ∧ AtX ((W.setCell ⟨N, 0, none⟩ (.pointer none)).setCell ⟨N + 1, 0, none⟩ (.iface 62 (.pointer (some ⟨B, 0, none⟩)))).drew B 3 (p : Int)) := ⟨((HW.out.1.set1 _).set2 _).step (Bl.refl _).drew, (HW.out.2.set (x := .pointer none) (b := N) (by have := HB.out.2.2; omega)).set (b := N + 1) (by have := HB.out.2.2; omega)⟩
      generalize ((W.setCell ⟨N, 0, none⟩ (.pointer none)).setCell ⟨N + 1, 0, none⟩ (.iface 62 (.pointer (some ⟨B, 0, none⟩)))).drew = W9 at H9 ⊢
      clear c1 c2 f1 f2
      have c1 := H9.out.1.v1.cell
      have c2 := H9.out.1.v2.cell
      go_simp
      go_wp2
      simp [bodyPostD, Leaves, results, Tryd.results19, go_sem, c1, c2]
      refine ⟨H9.out.1.bl, ?_⟩
      rw [HB.out.1]
      exact ⟨B, rfl, by have := H2.out.n; have := HB.out.2.2; omega, H9.out.2⟩
end Go.Proofs.YtfngcphklfjhjaaDoor.ex
