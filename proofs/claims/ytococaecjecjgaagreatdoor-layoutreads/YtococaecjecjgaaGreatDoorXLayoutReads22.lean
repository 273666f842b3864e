/- Texts laid together: Wy6, Wy7, Ly15, Ly16, Wy8. -/
import Derived.Test.YtococaecjecjgaaGreatDoorXLayoutReads21
import Derived.Test.YtococaecjecjgaaGreatDoorXLayoutReads17
import Derived.Shelf.Strings.BuilderK
import Derived.Test.YtococaecjecjgaaGreatDoorXLayoutReads18
namespace Go.Proofs.YtococaecjecjgaaGreatDoor.ly
set_option linter.unusedVariables false
open Go.ChangeShapes Go.WideShapes Go.ChangeAt Go.RowKit
open mem lx ex tm num bld

theorem Fr.frozen {P g : Nat} {w w' : World} (h : Fr P w w') (hg : P ≤ g) (n : Nat) (hp : ∃ c fz, w'.heap[g]? = some (.cells c 5 fz)) : Fr P w (w'.freeze ⟨g, 0, none⟩ n) := by
  have h1 := Lib.below_freeze h.b (p := ⟨g, 0, none⟩) hg n
  have h2 := (Lib.OthersKept.refl 5 (some P) w').freeze ⟨g, 0, none⟩ n hp
  exact ⟨h1, ⟨h1.size, fun k o hk hne ho => h2 k o (h.k.same k o hk hne ho) (fun e => hne (by injection e)) ho⟩⟩
end Go.Proofs.YtococaecjecjgaaGreatDoor.ly

namespace Go.Proofs.YtococaecjecjgaaGreatDoor.ly
set_option linter.unusedVariables false
open Go.ChangeShapes Go.WideShapes Go.ChangeAt Go.RowKit
open mem lx ex tm num

theorem lcatch_idle (p : Addr) (w : World) :
    CallsD Tryz.prog 51 #[.pointer (some p)] .returning w fun e u' w' => e = .returned (.tuple #[]) ∧ u' = .returning ∧ Bl w w' := by
  have hta : ∀ w : World, (Instr.typeAssert Value.nilIface 20 109 true).run Tryz.prog w = .ok (.tuple #[.agg #[.nilIface], .bool false]) w := fun _ => by kernel_rfl
  refine callsD_of_wpS Tryz.func51 rfl fun c₀ cs hu => ?_
  apply wpS_seq
  apply wpS_region
  simp [wpOpsS, go_sem, recoverD, hu, Tryz.ntmps51, Exit.thenS, hta]
  apply wpS_seq
  apply wpS_region
  simp [wpOpsS, go_sem, Exit.thenS]
  refine wpS_cond (t := false) (by simp [Act.eval, Array.replicate]) ?_
  simp only [Bool.false_eq_true, if_false]
  refine wpS_of_wp (wp_skip ?_)
  cases c₀
  simp_all [bodyPostS, results, Tryz.results51]
  exact (Bl.refl _).alloc _
theorem lcatch_thrown (N : Nat) (w : World) (e0 : Value) (ty : TypeId) (u : Value) (h : Vr w N e0 34) :
    CallsD Tryz.prog 51 #[.pointer (some ⟨N, 0, none⟩)] (.panicking [{ v := .iface 109 (.agg #[.iface ty u]), recovered := false }]) w fun e u' w' =>
      e = .returned (.tuple #[]) ∧ u' = .panicking [{ v := .iface 109 (.agg #[.iface ty u]), recovered := true }] ∧ Gp N w w' ∧ Vr w' N (.iface ty u) 34 := by
  have hta : ∀ w : World, (Instr.typeAssert (.iface 109 (.agg #[.iface ty u])) 20 109 true).run Tryz.prog w = .ok (.tuple #[.agg #[.iface ty u], .bool true]) w := fun _ => by kernel_rfl
  refine callsD_of_wpS Tryz.func51 rfl fun c₀ cs hu => ?_
  apply wpS_seq
  apply wpS_region
  simp [wpOpsS, go_sem, recoverD, hu, Tryz.ntmps51, Exit.thenS, hta]
  apply wpS_seq
  apply wpS_region
  simp [wpOpsS, go_sem, Exit.thenS]
  refine wpS_cond (t := true) (by simp [Act.eval, Array.replicate]) ?_
  simp only [if_true]
  have hM := h.lt
  obtain ⟨M, hMe⟩ : ∃ M, M = w.heap.size := ⟨_, rfl⟩
  rw [← hMe] at hM ⊢
  obtain ⟨w1, hw1⟩ : ∃ w1, w1 = w.alloc (.cells #[.iface ty u] 109) := ⟨_, rfl⟩
  have hb1 : Bl w w1 := by rw [hw1]; exact (Bl.refl _).alloc _
  have hcM : w1.cell? ⟨M, 0, none⟩ = some (.iface ty u) := by
    have := new_at w (.cells #[.iface ty u] 109)
    rw [hMe, hw1, cell_of this]; rfl
  have H1 : Hid (Vr w1 N e0 34 ∧ Bl w w1) := ⟨h.step hb1, hb1⟩
  rw [← hw1]
  clear hw1 hb1 h hMe
  have c1 := H1.out.1.cell
  have f1 := H1.out.1.frozen
  have hMN : ¬ M = N := by omega
  apply wpS_region
  simp [wpOpsS, go_sem, hcM, c1, f1, bodyPostS, results, Tryz.results51, Array.replicate]
  exact ⟨(Gp.bl H1.out.2).trans (Gp.set _), H1.out.1.set _⟩
set_option maxRecDepth 10000 in
set_option maxHeartbeats 1000000 in
theorem caught_at (F : FuncId) (q1 q2 q3 : Value) (w : World) (A : World → Prop) (B : Value → World → Prop) (hF : ∀ args w, (callFunc F args).run Tryz.prog w = .ok (.enter F args) w)
    (hcall : ∀ w1, Bl w w1 → Vr w1 w.heap.size .nilIface 34 → Calls Tryz.prog F #[q1, q2, q3] w1 fun e w' => (e = .returned (.tuple #[]) ∧ A w') ∨ ∃ ty u, e = thrL (.iface ty u) ∧ B (.iface ty u) w')
    (hN : ∀ w', (A w' ∨ ∃ v, B v w') → Vr w' w.heap.size .nilIface 34) :
    Calls Tryz.prog 25 #[.func (.func F) #[] #[q1, q2, q3]] w fun e w'' => (e = .returned .nilIface ∧ ∃ w', A w' ∧ Gp w.heap.size w' w'') ∨ ∃ v, e = .returned v ∧ ∃ w', B v w' ∧ Gp w.heap.size w' w'' := by
  have hmf : ∀ (fn : Fn) (first cap : Array Value) (w : World), (Instr.makeFunc fn first cap).run Tryz.prog w = .ok (.func fn first cap) w := fun _ _ _ _ => rfl
  have hv0 := Vr.new w .nilIface 34
  have hb1 : Bl w (w.alloc (.cells #[.nilIface] 34)) := (Bl.refl _).alloc _
  obtain ⟨N, hNe⟩ : ∃ N, N = w.heap.size := ⟨_, rfl⟩
  have cC := hcall _ hb1 hv0
  rw [← hNe] at hv0 hN ⊢
  have HNH : Hid (∀ w', (A w' ∨ ∃ v, B v w') → Vr w' N .nilIface 34) := hN
  obtain ⟨w1, hw1⟩ : ∃ w1, w1 = w.alloc (.cells #[.nilIface] 34) := ⟨_, rfl⟩
  rw [← hw1] at cC
  clear hv0 hb1 hN hcall
  go_enter_defers Tryz.func25, Tryz.ntmps25
  go_wp2_with fail
  rw [← hw1, ← hNe]
  clear hw1 hNe
  refine cC.mono ?_
  rintro e w2 (⟨rfl, hA⟩ | ⟨ty, u, rfl, hB⟩)
  · have H2 : Hid (Vr w2 N .nilIface 34 ∧ A w2) := ⟨HNH.out w2 (Or.inl hA), hA⟩
    have d1 := H2.out.1.cell
    have e1 := H2.out.1.frozen
    have hN2 := H2.out.1.lt
    clear cC hA
    go_wp2
    have H3 : Hid (Vr (w2.setCell ⟨N, 0, none⟩ .nilIface) N .nilIface 34 ∧ Gp N w2 (w2.setCell ⟨N, 0, none⟩ .nilIface)) := ⟨H2.out.1.set _, Gp.set _⟩
    generalize w2.setCell ⟨N, 0, none⟩ .nilIface = w3 at H3 ⊢
    refine leaves_cons (f := 51) (args := #[.pointer (some ⟨N, 0, none⟩)]) (by simp) (by simp [go_sem]) ?_
    refine (lcatch_idle _ _).mono ?_
    rintro e u' w4 ⟨rfl, rfl, hb4⟩
    have c4 := (H3.out.1.step hb4).cell
    have hfin : Gp N w2 w4 := H3.out.2.trans (Gp.bl hb4)
    simp [Leaves, settle, results, Tryz.results25, go_sem, c4]
    exact Or.inl ⟨w2, H2.out.2, hfin⟩
  · have H2 : Hid (Vr w2 N .nilIface 34 ∧ B (.iface ty u) w2) := ⟨HNH.out w2 (Or.inr ⟨_, hB⟩), hB⟩
    clear cC hB
    unfold thrL
    go_wp2
    refine leaves_cons (f := 51) (args := #[.pointer (some ⟨N, 0, none⟩)]) (by simp) (by simp [go_sem]) ?_
    refine (lcatch_thrown N w2 .nilIface ty u H2.out.1).mono ?_
    rintro e u' w4 ⟨rfl, rfl, hg4, hv4⟩
    have c4 := hv4.cell
    simp [Leaves, settle, results, Tryz.results25, go_sem, c4]
    exact ⟨w2, H2.out.2, hg4⟩
end Go.Proofs.YtococaecjecjgaaGreatDoor.ly
namespace Go.Proofs.YtococaecjecjgaaGreatDoor.ly
set_option linter.unusedVariables false
open Go.ChangeShapes Go.WideShapes Go.ChangeAt Go.RowKit
open mem lx ex tm num

theorem ErV.gp {w0 w w' : World} {er : Er} {v : Value} {N : Nat} (h : ErV w0 w er v) (hg : Gp N w w') (hN : N < w0.heap.size) : ErV w0 w' er v := by
  rcases h with h | ⟨B, h1, h2, h3⟩
  · exact Or.inl h
  · exact Or.inr ⟨B, h1, h2, by unfold AtX at h3 ⊢; rw [hg.block B (lt_of_heap h3) (by omega)]; exact h3⟩
theorem ErV.iface {w0 w : World} {er : Er} {v : Value} (h : ErV w0 w er v) : ∃ ty u, v = .iface ty u := by
  rcases h with ⟨_, rfl⟩ | ⟨B, rfl, _⟩ <;> exact ⟨_, _, rfl⟩
structure Rv (w W : World) (T Q mb P V : Nat) (s x : List UInt8) (l : List Ty) : Prop where
  rt : Vr W T (.string (tx x)) 9
  qv : Nv W Q ⟨[], 0, 0, 0, 0, []⟩ none 0 0
  vv : Vr W V (.pointer (some ⟨P, 0, none⟩)) 62
  rd : RdL W P mb (tx s) l (0, 0)
  bl : Bl w W
  lt : w.heap.size ≤ T ∧ T < Q ∧ Q < P ∧ P < V ∧ V < W.heap.size
def RvA (W : World) (P Q : Nat) (q : Except Er (ND × Nds × St)) (w' : World) : Prop :=
  ∃ (nd : ND) (ks : Nds) (st : St) (p : Option Addr) (c : Nat) (w1 : World), q = .ok (nd, ks, st) ∧ Nv w' Q nd p ks.len c ∧ W.heap.size < w1.heap.size ∧ IsNs w' (fun g => w1.heap.size ≤ g) p ks.len c ks ∧ Gq P Q W w' ∧ Vr w' W.heap.size .nilIface 34
def RvB (W : World) (P Q : Nat) (q : Except Er (ND × Nds × St)) (v : Value) (w' : World) : Prop :=
  ∃ (er : Er) (w1 : World), q = .error er ∧ Nv w' Q ⟨[], 0, 0, 0, 0, []⟩ none 0 0 ∧ W.heap.size < w1.heap.size ∧ ErV w1 w' er v ∧ Gq P Q W w' ∧ Vr w' W.heap.size .nilIface 34
set_option maxRecDepth 10000 in
set_option maxHeartbeats 1000000 in
theorem do_at (w W : World) (T Q mb P V : Nat) (s x : List UInt8) (l : List Ty) (h : Rv w W T Q mb P V s x l) (hx : x.length ≤ maxLen) (hl : OKT l) (w1 : World) (hb : Bl W w1) (hv : Vr w1 W.heap.size .nilIface 34) :
    Calls Tryz.prog 26 #[.pointer (some ⟨V, 0, none⟩), .pointer (some ⟨T, 0, none⟩), .pointer (some ⟨Q, 0, none⟩)] w1 fun e w' => (e = .returned (.tuple #[]) ∧ RvA W P Q (wholeQ s (one s l (rdB s l 400) (topD x) .nil noE (0, 0))) w') ∨ ∃ ty u, e = thrL (.iface ty u) ∧ RvB W P Q (wholeQ s (one s l (rdB s l 400) (topD x) .nil noE (0, 0))) (.iface ty u) w' := by
  have cW := whole_at w1 P mb (tx s) l x (h.rd.bl hb) hx hl
  rw [L_tx] at cW
  obtain ⟨q, hq⟩ : ∃ q, q = wholeQ s (one s l (rdB s l 400) (topD x) .nil noE (0, 0)) := ⟨_, rfl⟩
  rw [← hq] at cW ⊢
  have H1 : Hid (Rv w W T Q mb P V s x l ∧ Bl W w1 ∧ Vr w1 W.heap.size .nilIface 34 ∧ Nv w1 Q ⟨[], 0, 0, 0, 0, []⟩ none 0 0) := ⟨h, hb, hv, h.qv.bl hb⟩
  have c1 := (h.vv.step hb).cell
  have c2 := (h.rt.step hb).cell
  have hs1 := (h.vv.step hb).lt
  have hs2 := (h.rt.step hb).lt
  clear hq h hb hv
  go_enter Tryz.func26, Tryz.ntmps26
  go_wp2_with fail
  refine cW.mono ?_
  rintro e w2 ⟨hg2, hans⟩
  have hlt := H1.out.1.lt
  have hQ2 : Nv w2 Q ⟨[], 0, 0, 0, 0, []⟩ none 0 0 := H1.out.2.2.2.gp hg2 (by omega)
  have hE2 : Vr w2 W.heap.size .nilIface 34 := ex.Vr.gp H1.out.2.2.1 hg2 (by omega)
  have hgq : Gq P Q W w2 := (Gq.gp (Gp.bl H1.out.2.1)).trans (Gq.gp hg2)
  have hw1 : W.heap.size < w1.heap.size := H1.out.2.2.1.lt
  cases q with
  | error er =>
    obtain ⟨v, rfl, hv⟩ := hans
    obtain ⟨ty, u, rfl⟩ := hv.iface
    have HF : Hid (RvB W P Q (.error er) (.iface ty u) w2) := ⟨er, w1, rfl, hQ2, hw1, hv, hgq, hE2⟩
    unfold thrL
    clear cW hQ2 hE2 hgq hv hg2
    go_wp2
    exact ⟨rfl, Or.inr ⟨ty, u, rfl, HF.out⟩⟩
  | ok r =>
    obtain ⟨nd, ks, st⟩ := r
    obtain ⟨p, pc, rfl, hks, hr2⟩ := hans
    have hst := hQ2.store nd p ks.len pc
    have hgs : Gq P Q w2 (st7 w2 Q nd p ks.len pc) := st7_gq P Q nd p ks.len pc
    have hgp : Gp Q w2 (st7 w2 Q nd p ks.len pc) := ⟨hgs.os, hgs.tape, hgs.output, hgs.size, fun j h1 h2 => (st7_gq (w := w2) Q Q nd p ks.len pc).block j h1 h2 h2⟩
    have HF : Hid (RvA W P Q (.ok (nd, ks, st)) (st7 w2 Q nd p ks.len pc)) := ⟨nd, ks, st, p, pc, w1, rfl, hst, hw1, hks.keep (fun g h1 h2 => hgp.block g h2 (by omega)) hgp.size, hgq.trans hgs, ex.Vr.gp hE2 hgp (by omega)⟩
    obtain ⟨m0, m1, m2, m3, m4, m5, m6⟩ := hQ2.cells
    obtain ⟨y0, y1, y2, y3, y4, y5, y6⟩ := hQ2.fz
    have hQs := hQ2.lt
    unfold ndV
    clear cW hQ2 hE2 hgq hks hr2 hst hgs hgp c1 c2 hs1 hs2 hg2
    go_wp2
    exact bodyPost_end (results_none rfl _ _ _) rfl (Or.inl ⟨rfl, HF.out⟩)
def RdA (w : World) (q : Except Er (ND × Nds)) (e : Ending) (w' : World) : Prop :=
  Bl w w' ∧ match q with
  | .ok (nd, ks) => ∃ p c, e = .returned (.tuple #[ndV nd p ks.len c, .nilIface]) ∧ IsNs w' (fun g => w.heap.size ≤ g) p ks.len c ks
  | .error er => ∃ v, e = .returned (.tuple #[ndV ⟨[], 0, 0, 0, 0, []⟩ none 0 0, v]) ∧ ErV w w' er v
theorem rd_whole (s : List UInt8) (l : List Ty) (x : List UInt8) : rd s l x = match wholeQ s (one s l (rdB s l 400) (topD x) .nil noE (0, 0)) with | .error er => .error er | .ok (nd, ks, st) => .ok (nd, ks) := by
  unfold rd wholeQ
  cases one s l (rdB s l 400) (topD x) .nil noE (0, 0) with
  | error er => rfl
  | ok r =>
    obtain ⟨nd, ks, st⟩ := r
    dsimp only
    by_cases h : st.1 < s.length
    · rw [if_pos h, if_pos h]
    · rw [if_neg h, if_neg h]
set_option maxRecDepth 10000 in
set_option maxHeartbeats 4000000 in
theorem Read_at (w : World) (ok : Nat → Prop) (v : Value) (l : List Ty) (x s : List UInt8) (h : IsTs w ok v l) (hl8 : l.length ≤ 8) (hnm : ∀ t ∈ l, t.nm.length ≤ maxLen) (hl : OKT l) (hx : x.length ≤ maxLen) (hs : s.length ≤ 5000) :
    Calls Tryz.prog 8 #[v, .string (tx x), .string (tx s)] w fun e w' => RdA w (rd s l x) e w' := by
  have hF : ∀ args w, (callFunc 26 args).run Tryz.prog w = .ok (.enter 26 args) w := fun _ _ => by kernel_rfl
  obtain ⟨q, hq⟩ : ∃ q, q = wholeQ s (one s l (rdB s l 400) (topD x) .nil noE (0, 0)) := ⟨_, rfl⟩
  have hdo := fun w0 W T Q mb P V h => do_at w0 W T Q mb P V s x l h hx hl
  obtain ⟨q2, hq2⟩ : ∃ q2, q2 = rd s l x := ⟨_, rfl⟩
  have hqa : ∀ nd ks st, q = .ok (nd, ks, st) → q2 = .ok (nd, ks) := fun nd ks st e => by rw [hq2, rd_whole, ← hq, e]
  have hqb : ∀ er, q = .error er → q2 = .error er := fun er e => by rw [hq2, rd_whole, ← hq, e]
  have HQ : Hid ((∀ nd ks st, q = .ok (nd, ks, st) → q2 = .ok (nd, ks)) ∧ ∀ er, q = .error er → q2 = .error er) := ⟨hqa, hqb⟩
  rw [← hq] at hdo
  rw [← hq2]
  clear hq2 hqa hqb
  -- the boxes
  have v1 := Vr.new w (.string (tx x)) 9
  obtain ⟨T, hT⟩ : ∃ T, T = w.heap.size := ⟨_, rfl⟩
  obtain ⟨w1, hw1⟩ : ∃ w1, w1 = w.alloc (.cells #[.string (tx x)] 9) := ⟨_, rfl⟩
  rw [← hw1, ← hT] at v1
  have e1 : w1.heap.size = T + 1 := by rw [hw1, hT]; simp
  have b1 : Bl w w1 := by rw [hw1]; exact (Bl.refl _).alloc _
  obtain ⟨w2, hw2⟩ : ∃ w2, w2 = w1.alloc (.cells #[.string ⟨#[]⟩, .int .i64 0, .int .i64 0, .int .i64 0, .int .i64 0, .string ⟨#[]⟩, .slice none 0 0] 27) := ⟨_, rfl⟩
  have v2 : Nv w2 (T + 1) ⟨[], 0, 0, 0, 0, []⟩ none 0 0 := by rw [hw2, ← e1]; exact new_at _ _
  have b2 : Bl w1 w2 := by rw [hw2]; exact (Bl.refl _).alloc _
  have cN := named_at w2 ok v l (h.bl (b1.trans b2)) hl8 hnm
  obtain ⟨vp, vn, vc, rfl⟩ : ∃ p n c, v = .slice p n c := by obtain ⟨p, c, cs, h1, _⟩ := h; exact ⟨_, _, _, h1⟩
  have H2 : Hid (Vr w2 T (.string (tx x)) 9 ∧ Nv w2 (T + 1) ⟨[], 0, 0, 0, 0, []⟩ none 0 0 ∧ Bl w w2 ∧ T = w.heap.size) := ⟨v1.step b2, v2, b1.trans b2, hT⟩
  have hss : (tx s).size ≤ 5000 := by rw [tx_size]; exact hs
  clear h v1 v2 b1 b2 hq hl hl8 hnm hx
  go_enter Tryz.func8, Tryz.ntmps8
  go_upto_region 1 with fail
  rw [← hw1, ← hT, ← hw2]
  clear hw1 hw2 hT
  go_wp2_with fail
  refine cN.mono ?_
  rintro e w3 ⟨rfl, hb3, hM3, hms⟩
  obtain ⟨mb, hmb⟩ : ∃ mb, mb = w2.heap.size := ⟨_, rfl⟩
  rw [← hmb] at hM3 hms ⊢
  obtain ⟨w4, hw4⟩ : ∃ w4, w4 = w3.alloc (.cells #[.map (some mb), .string (tx s), .int .i64 0, .int .i64 0] 67) := ⟨_, rfl⟩
  obtain ⟨P, hP⟩ : ∃ P, P = w3.heap.size := ⟨_, rfl⟩
  have b4 : Bl w3 w4 := by rw [hw4]; exact (Bl.refl _).alloc _
  have e4 : w4.heap.size = P + 1 := by rw [hw4, hP]; simp
  have r4 : RdL w4 P mb (tx s) l (0, 0) := ⟨by rw [hw4, hP]; exact new_at _ _, hM3.keep (fun g hg => Below.block b4 g (by omega)) b4.size (Kx.bl b4), by omega, Nat.zero_le _, Nat.zero_le _, hss⟩
  obtain ⟨W, hW⟩ : ∃ W, W = w4.alloc (.cells #[.pointer (some ⟨P, 0, none⟩)] 62) := ⟨_, rfl⟩
  have bW : Bl w4 W := by rw [hW]; exact (Bl.refl _).alloc _
  have vW : Vr W (P + 1) (.pointer (some ⟨P, 0, none⟩)) 62 := by rw [hW, ← e4]; exact Vr.new _ _ _
  have b24 : Bl w2 W := (hb3.trans b4).trans bW
  have HR : Rv w W T (T + 1) mb P (P + 1) s x l := ⟨H2.out.1.step b24, H2.out.2.1.bl b24, vW, r4.bl bW, H2.out.2.2.1.trans b24, by have := H2.out.2.2.2; omega, by omega, by have := H2.out.2.1.lt; omega, by omega, vW.lt⟩
  have HRH : Hid (Rv w W T (T + 1) mb P (P + 1) s x l) := HR
  have cC := caught_at 26 (.pointer (some ⟨P + 1, 0, none⟩)) (.pointer (some ⟨T, 0, none⟩)) (.pointer (some ⟨T + 1, 0, none⟩)) W (RvA W P (T + 1) q) (RvB W P (T + 1) q) hF (hdo w W T (T + 1) mb P (P + 1) HR) (fun w' h => by
    rcases h with ⟨_, _, _, _, _, _, _, _, _, _, _, h⟩ | ⟨_, _, _, _, _, _, _, _, h⟩
    · exact h
    · exact h)
  clear hmb hM3 hms b4 r4 bW vW b24 HR hdo cN hb3 hs
  dsimp only
  go_upto_region 2 with fail
  rw [← hP, ← hw4]
  try rw [← hW]
  clear hW hw4 hP e4 e1
  have hltQ : T + 1 < W.heap.size := by have := HRH.out.lt; omega
  go_wp2_with fail
  refine cC.mono ?_
  rintro e w5 (⟨rfl, w', ⟨nd, ks, st, p, c, wn, hq, hn, hwn, hks, hgq, _⟩, hg5⟩ | ⟨v, rfl, w', ⟨er, wn, hq, hn, hwn, hv, hgq, _⟩, hg5⟩)
  · have hn5 : Nv w5 (T + 1) nd p ks.len c := hn.gp hg5 (by omega)
    have hst := hn5.store nd p ks.len c
    have hgs : Gq P (T + 1) w5 (st7 w5 (T + 1) nd p ks.len c) := st7_gq P (T + 1) nd p ks.len c
    have hgp : Gp (T + 1) w5 (st7 w5 (T + 1) nd p ks.len c) := ⟨hgs.os, hgs.tape, hgs.output, hgs.size, fun j h1 h2 => (st7_gq (w := w5) (T + 1) (T + 1) nd p ks.len c).block j h1 h2 h2⟩
    have hsz : W.heap.size ≤ w'.heap.size := hgq.size
    have hbl : Bl w (st7 w5 (T + 1) nd p ks.len c) := by
      have hlt := HRH.out.lt
      have hbW := HRH.out.bl
      have hsW := hbW.size
      refine ⟨hgs.os.trans (hg5.os.trans (hgq.os.trans hbW.os)), hgs.tape.trans (hg5.tape.trans (hgq.tape.trans hbW.tape)), hgs.output.trans (hg5.output.trans (hgq.output.trans hbW.output)), ?_, fun k hk => ?_⟩
      · exact Nat.le_trans hsW (Nat.le_trans hsz (Nat.le_trans hg5.size hgs.size))
      · rw [hgp.block k (by have := hg5.size; omega) (by omega), hg5.block k (by omega) (by omega), hgq.block k (by omega) (by omega) (by omega), Below.block hbW k hk]
    have hIs : IsNs (st7 w5 (T + 1) nd p ks.len c) (fun g => w.heap.size ≤ g) p ks.len c ks :=
      ((hks.keep (fun g h1 h2 => hg5.block g h2 (by omega)) hg5.size).keep (fun g h1 h2 => hgp.block g h2 (by omega)) hgp.size).mono (fun g h1 _ => by have := HRH.out.bl.size; omega)
    have HF : Hid (Nv (st7 w5 (T + 1) nd p ks.len c) (T + 1) nd p ks.len c ∧ Bl w (st7 w5 (T + 1) nd p ks.len c) ∧ IsNs (st7 w5 (T + 1) nd p ks.len c) (fun g => w.heap.size ≤ g) p ks.len c ks ∧ q2 = .ok (nd, ks)) := ⟨hst, hbl, hIs, HQ.out.1 _ _ _ hq⟩
    obtain ⟨m0, m1, m2, m3, m4, m5, m6⟩ := hn5.cells
    obtain ⟨y0, y1, y2, y3, y4, y5, y6⟩ := hn5.fz
    have hQ5 := hn5.lt
    clear cC hq hn hwn hks hgq hg5 hn5 hst hgs hgp hsz hbl hIs
    go_wp2
    have r0 := (Nv.cells HF.out.1)
    unfold st7 at r0
    obtain ⟨r0, r1, r2, r3, r4, r5, r6⟩ := r0
    refine bodyPost_ret (v := .tuple #[ndV nd p ks.len c, .nilIface]) (by simp [results, Tryz.f8, go_sem, r0, r1, r2, r3, r4, r5, r6, ndV]) rfl ⟨HF.out.2.1, ?_⟩
    rw [HF.out.2.2.2]
    exact ⟨p, c, rfl, HF.out.2.2.1⟩
  · obtain ⟨z, hz⟩ : ∃ z : ND, z = ⟨[], 0, 0, 0, 0, []⟩ := ⟨_, rfl⟩
    rw [← hz] at hn
    have hn5 : Nv w5 (T + 1) z none 0 0 := hn.gp hg5 (by omega)
    have hst := hn5.store z none 0 0
    have hgs : Gq P (T + 1) w5 (st7 w5 (T + 1) z none 0 0) := st7_gq P (T + 1) _ _ _ _
    have hgp : Gp (T + 1) w5 (st7 w5 (T + 1) z none 0 0) := ⟨hgs.os, hgs.tape, hgs.output, hgs.size, fun j h1 h2 => (st7_gq (w := w5) (T + 1) (T + 1) _ _ _ _).block j h1 h2 h2⟩
    have hsz : W.heap.size ≤ w'.heap.size := hgq.size
    have hbl : Bl w (st7 w5 (T + 1) z none 0 0) := by
      have hlt := HRH.out.lt
      have hbW := HRH.out.bl
      have hsW := hbW.size
      refine ⟨hgs.os.trans (hg5.os.trans (hgq.os.trans hbW.os)), hgs.tape.trans (hg5.tape.trans (hgq.tape.trans hbW.tape)), hgs.output.trans (hg5.output.trans (hgq.output.trans hbW.output)), ?_, fun k hk => ?_⟩
      · exact Nat.le_trans hsW (Nat.le_trans hsz (Nat.le_trans hg5.size hgs.size))
      · rw [hgp.block k (by have := hg5.size; omega) (by omega), hg5.block k (by omega) (by omega), hgq.block k (by omega) (by omega) (by omega), Below.block hbW k hk]
    have hEr : ErV w (st7 w5 (T + 1) z none 0 0) er v := ((hv.gp hg5 hwn).gp hgp (by omega)).from (by have := HRH.out.bl.size; omega)
    have HF : Hid (Nv (st7 w5 (T + 1) z none 0 0) (T + 1) z none 0 0 ∧ Bl w (st7 w5 (T + 1) z none 0 0) ∧ ErV w (st7 w5 (T + 1) z none 0 0) er v ∧ q2 = .error er) := ⟨hst, hbl, hEr, HQ.out.2 _ hq⟩
    obtain ⟨m0, m1, m2, m3, m4, m5, m6⟩ := hn5.cells
    obtain ⟨y0, y1, y2, y3, y4, y5, y6⟩ := hn5.fz
    have hQ5 := hn5.lt
    have HZ : Hid (z = ⟨[], 0, 0, 0, 0, []⟩) := hz
    clear hz cC hq hn hwn hv hgq hg5 hn5 hst hgs hgp hsz hbl hEr
    go_wp2
    have r0 := (Nv.cells HF.out.1)
    unfold st7 at r0
    obtain ⟨r0, r1, r2, r3, r4, r5, r6⟩ := r0
    refine bodyPost_ret (v := .tuple #[ndV z none 0 0, v]) (by simp [results, Tryz.f8, go_sem, r0, r1, r2, r3, r4, r5, r6, ndV]) rfl ⟨HF.out.2.1, ?_⟩
    rw [HF.out.2.2.2]
    rw [← HZ.out]
    exact ⟨v, rfl, HF.out.2.2.1⟩
end Go.Proofs.YtococaecjecjgaaGreatDoor.ly
namespace Go.Proofs.YtococaecjecjgaaGreatDoor.ly
set_option linter.unusedVariables false
open Go.ChangeShapes Go.WideShapes Go.ChangeAt Go.RowKit
open mem lx ex tm num bld

theorem Fr.vr {P b : Nat} {v : Value} {t : TypeId} {w w' : World} (h : Fr P w w') (hv : Vr w b v t) (hne : b ≠ P) (ht : t ≠ 5) : Vr w' b v t := h.k.same b _ hv hne (fun c fz e => by injection e with _ e2 _; exact ht e2)
end Go.Proofs.YtococaecjecjgaaGreatDoor.ly
