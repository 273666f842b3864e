/- Texts laid together: Ly13, TmA, TmB, TmD, TmE. -/
import Derived.Test.YtococaecjecjgaaGreatDoorXLayoutReads16
import Derived.Test.YtococaecjecjgaaGreatDoorXLayoutReads13
namespace Go.Proofs.YtococaecjecjgaaGreatDoor.ly
set_option linter.unusedVariables false
open Go.ChangeShapes Go.WideShapes Go.ChangeAt Go.RowKit
open mem lx ex tm num

def cT (x : List UInt8) : C := ⟨topD x, none, none, 0, 0⟩
theorem infoI : (Tryz.prog.info? 60).map (·.size) = some 13 := by kernel_rfl
set_option maxRecDepth 10000 in
theorem top_at (x : List UInt8) (w : World) : Calls Tryz.prog 53 #[.string (tx x)] w fun e w' => e = .returned (itV (cT x)) ∧ Bl w w' := by
  go_enter Tryz.func53, Tryz.ntmps53
  go_wp2
  exact bodyPost_ret (v := itV (cT x)) (results_cell_row rfl _ _ w.heap.size 60 #[.int .i64 3, .int .i64 0, .string (tx x), .string (tx x), .int .i64 0, .int .i64 0, .bool false, .bool false, .pointer none, .int .i64 0, .string ⟨#[]⟩, .string ⟨#[]⟩, .slice none 0 0] (0, 0) _ rfl (new_at w _) Tryz.underlying60 rfl infoI) rfl ⟨rfl, (Bl.refl _).alloc _⟩
def wholeQ (s : List UInt8) (q : Except Er (ND × Nds × St)) : Except Er (ND × Nds × St) :=
  match q with
  | .error er => .error er
  | .ok (nd, ks, st) => if st.1 < s.length then .error (3, (st.1 : Int)) else .ok (nd, ks, st)
theorem topD_wk {x : List UInt8} (h : x.length ≤ maxLen) : WK (topD x) := Or.inr ⟨rfl, rfl, h⟩
set_option maxRecDepth 10000 in
set_option maxHeartbeats 2000000 in
theorem whole_at (w : World) (P mb : Nat) (s : ByteArray) (l : List Ty) (x : List UInt8) (h : RdL w P mb s l (0, 0)) (hx : x.length ≤ maxLen) (hl : OKT l) :
    Calls Tryz.prog 27 #[.pointer (some ⟨P, 0, none⟩), .string (tx x)] w fun e w' => NdA w P mb s l (wholeQ (L s) (one (L s) l (rdB (L s) l 400) (topD x) .nil noE (0, 0))) e w' := by
  obtain ⟨q0, hq0⟩ : ∃ q0, q0 = one (L s) l (rdB (L s) l 400) (topD x) .nil noE (0, 0) := ⟨_, rfl⟩
  rw [← hq0]
  obtain ⟨q, hq⟩ : ∃ q, q = wholeQ (L s) q0 := ⟨_, rfl⟩
  have hqe : ∀ er, q0 = .error er → q = .error er := fun er e => by rw [hq, e]; rfl
  have hq1 : ∀ nd ks st, q0 = .ok (nd, ks, st) → st.1 < s.size → q = .error (3, (st.1 : Int)) := fun nd ks st e hlt => by rw [hq, e]; unfold wholeQ; dsimp only; rw [if_pos (by rw [L_len]; exact hlt)]
  have hq2 : ∀ nd ks st, q0 = .ok (nd, ks, st) → ¬ st.1 < s.size → q = .ok (nd, ks, st) := fun nd ks st e hlt => by rw [hq, e]; unfold wholeQ; dsimp only; rw [if_neg (by rw [L_len]; exact hlt)]
  rw [← hq]
  obtain ⟨w1, hw1⟩ : ∃ w1, w1 = w.alloc (.cells #[.string ⟨#[]⟩, .int .i64 0, .int .i64 0, .int .i64 0, .int .i64 0, .string ⟨#[]⟩, .slice none 0 0] 27) := ⟨_, rfl⟩
  obtain ⟨R, hR⟩ : ∃ R, R = w.heap.size := ⟨_, rfl⟩
  have hb1 : Bl w w1 := by rw [hw1]; exact (Bl.refl _).alloc _
  have hR1 : Nv w1 R ⟨[], 0, 0, 0, 0, []⟩ none 0 0 := by rw [hw1, hR]; exact new_at _ _
  have H1 : Hid (Nv w1 R ⟨[], 0, 0, 0, 0, []⟩ none 0 0 ∧ RdL w1 P mb s l (0, 0) ∧ Bl w w1 ∧ R = w.heap.size ∧ P < R) := ⟨hR1, h.bl hb1, hb1, hR, by have := h.lt'; omega⟩
  have cT1 := top_at x w1
  have cO := fun w2 (hb : Bl w1 w2) => one_at 400 w2 P mb s l (0, 0) (cT x) .nil none noE (H1.out.2.1.bl hb) ⟨rfl, [], ⟨rfl, Nat.le_refl _, Or.inl rfl⟩, rfl⟩ (topD_wk hx) (fun e => absurd (show (3 : Nat) = 4 from e) (by decide)) (Or.inr (Or.inl rfl)) hl (blkC s l hl 400) (Nat.le_refl _)
  rw [show (cT x).d = topD x from rfl] at cO
  rw [← hq0] at cO
  obtain ⟨IV, hIV⟩ : ∃ IV, IV = itV (cT x) := ⟨_, rfl⟩
  rw [← hIV] at cT1 cO
  clear hq0 hq hb1 hR1 h hx hl
  go_enter Tryz.func27, Tryz.ntmps27
  go_upto_region 1 with fail
  rw [← hw1, ← hR]
  clear hw1 hR hIV
  go_wp2_with fail
  refine cT1.mono ?_
  rintro e w2 ⟨rfl, hb2⟩
  have cO' := cO w2 hb2
  clear cT1 cO
  go_wp2_with fail
  refine cO'.mono ?_
  rintro e w3 ⟨hg3, hans⟩
  have hgw : Gp P w w3 := ((Gp.bl H1.out.2.2.1).trans (Gp.bl hb2)).trans hg3
  cases q0 with
  | error er =>
    obtain ⟨v, rfl, hv⟩ := hans
    have HQ : Hid (q = .error er) := hqe er rfl
    unfold thrL
    clear hqe hq1 hq2 cO'
    go_wp2
    rw [HQ.out]
    exact ⟨rfl, hgw, v, rfl, hv.from (by have := H1.out.2.2.1.size; have := hb2.size; omega)⟩
  | ok r =>
    obtain ⟨nd, ks, st⟩ := r
    obtain ⟨p, pc, rfl, hks, hr3⟩ := hans
    have hq1' := hq1 nd ks st rfl
    have hq2' := hq2 nd ks st rfl
    obtain ⟨w4, hw4⟩ : ∃ w4, w4 = w3.alloc (.cells #[.string (tx nd.nm), .int .i64 (nd.kd : Int), .int .i64 (nd.at_ : Int), .int .i64 (nd.sz : Int), .int .i64 nd.n, .string (tx nd.tx), .slice p ks.len pc] 27) := ⟨_, rfl⟩
    obtain ⟨Nb, hNb⟩ : ∃ Nb, Nb = w3.heap.size := ⟨_, rfl⟩
    have hb4 : Bl w3 w4 := by rw [hw4]; exact (Bl.refl _).alloc _
    have hn4 : Nv w4 Nb nd p ks.len pc := by rw [hw4, hNb]; exact new_at _ _
    have hr4 : Nv w4 R ⟨[], 0, 0, 0, 0, []⟩ none 0 0 := ((H1.out.1.bl hb2).gp hg3 (by have := H1.out.2.2.2.2; omega)).bl hb4
    have H4 : Hid (Nv w4 Nb nd p ks.len pc ∧ Nv w4 R ⟨[], 0, 0, 0, 0, []⟩ none 0 0 ∧ RdL w4 P mb s l st ∧ Gp P w w4 ∧ IsNs w4 (fun g => w2.heap.size ≤ g) p ks.len pc ks ∧ R < w2.heap.size ∧ R = w.heap.size ∧ P < R) := ⟨hn4, hr4, hr3.bl hb4, hgw.trans (Gp.bl hb4), hks.bl hb4, by have := H1.out.1.lt; have := hb2.size; omega, H1.out.2.2.2⟩
    have cTh := fun wx (hb : Bl w4 wx) => throw_at wx P mb s l st 3 (H4.out.2.2.1.bl hb)
    have c1 := H4.out.2.2.1.cells.2.1
    have c2 := H4.out.2.2.1.cells.2.2.1
    have hP4 := H4.out.2.2.1.lt'
    obtain ⟨n0, n1, n2, n3, n4, n5, n6⟩ := hn4.cells
    have hN4 := hn4.lt
    have hR4 := hr4.lt
    have hz := H4.out.2.2.1.sz
    have ha := H4.out.2.2.1.a
    obtain ⟨a, k⟩ := st
    dsimp only at *
    unfold ndV
    clear hqe hq1 hq2 cO' hg3 hks hr3 hgw hb4 hn4 hr4
    by_cases hlt : a < s.size
    · have HQ : Hid (q = .error (3, (a : Int))) := hq1' hlt
      have hd : decide ((a : Int) < (s.size : Int)) = true := decide_eq_true (by omega)
      clear hq1' hq2'
      go_upto_region 2 with fail
      rw [← hw4, ← hNb]
      clear hw4 hNb
      go_quiet (fail)
      go_wp2_with fail
      refine (cTh _ ((Bl.refl _).drewN _)).mono ?_
      rintro e w5 ⟨v, rfl, hv, hb5⟩
      unfold thrL
      go_wp2
      rw [HQ.out]
      exact ⟨rfl, (H4.out.2.2.2.1.trans (Gp.bl ((Bl.refl _).drewN _))).trans (Gp.bl hb5), v, rfl, hv.from (by have := H4.out.2.2.2.1.size; exact this)⟩
    · have HQ : Hid (q = .ok (nd, ks, (a, k))) := hq2' hlt
      have hd : decide ((a : Int) < (s.size : Int)) = false := decide_eq_false (by omega)
      clear hq1' hq2' cTh
      go_upto_region 2 with fail
      rw [← hw4, ← hNb]
      clear hw4 hNb
      go_quiet (fail)
      have hbd : Bl w4 (w4.drewN nq) := (Bl.refl _).drewN _
      have H5 : Hid (Nv (w4.drewN nq) Nb nd p ks.len pc ∧ Nv (w4.drewN nq) R ⟨[], 0, 0, 0, 0, []⟩ none 0 0 ∧ RdL (w4.drewN nq) P mb s l (a, k) ∧ Gp P w (w4.drewN nq) ∧ IsNs (w4.drewN nq) (fun g => w2.heap.size ≤ g) p ks.len pc ks) := ⟨H4.out.1.bl hbd, H4.out.2.1.bl hbd, H4.out.2.2.1.bl hbd, H4.out.2.2.2.1.trans (Gp.bl hbd), H4.out.2.2.2.2.1.bl hbd⟩
      generalize w4.drewN nq = w5 at H5 ⊢
      clear hbd n0 n1 n2 n3 n4 n5 n6 c1 c2 hP4 hN4 hR4
      obtain ⟨n0, n1, n2, n3, n4, n5, n6⟩ := H5.out.1.cells
      obtain ⟨m0, m1, m2, m3, m4, m5, m6⟩ := H5.out.2.1.cells
      obtain ⟨y0, y1, y2, y3, y4, y5, y6⟩ := H5.out.2.1.fz
      have hN5 := H5.out.1.lt
      have hR5 := H5.out.2.1.lt
      have HF : Hid _ := fin_store (nd := nd) H5.out.2.1 H5.out.2.2.2.2 H5.out.2.2.1 H5.out.2.2.2.1 (by have := H4.out.2.2.2.2.2; omega) (by have := H4.out.2.2.2.2.2; omega) (by have := H4.out.2.2.2.2.2; omega)
      go_wp2
      rw [HQ.out]
      exact bodyPost_ret (v := ndV nd p ks.len pc) (results_cell_row rfl _ _ R 27 _ (0, 0) _ rfl HF.out.1 Tryz.underlying27 rfl infoN) rfl ⟨HF.out.2.1, p, pc, rfl, HF.out.2.2.1, HF.out.2.2.2⟩
end Go.Proofs.YtococaecjecjgaaGreatDoor.ly
namespace Go.Proofs.YtococaecjecjgaaGreatDoor.tm
set_option linter.unusedVariables false
open Go.ChangeShapes Go.WideShapes Go.ChangeAt Go.RowKit Go.Shelf
open mem lx ex

def Sub (w : World) (M : Nat) (c : C) (l : Its) : Prop := ∃ cs2, ir.Lie w (fun g => M ≤ g) c.p c.n c.c cs2 ∧ Rep w (fun g => M ≤ g) l cs2
theorem Sub.nil (w : World) (M : Nat) (c : C) (h : c.n = 0 ∧ c.c = 0) : Sub w M c .nil := ⟨[], ⟨by rw [h.1]; rfl, by rw [h.1]; exact Nat.zero_le _, Or.inl rfl⟩, rfl⟩
theorem Sub.keep {w w' : World} {M : Nat} {c : C} {l : Its} (h : Sub w M c l) (hk : ∀ g, M ≤ g → g < w.heap.size → w'.heap[g]? = w.heap[g]?) (hs : w.heap.size ≤ w'.heap.size) (hx : Kx w w') : Sub w' M c l := by
  obtain ⟨cs, h1, h2⟩ := h
  exact ⟨cs, h1.keep hk hs, h2.keep hk hs hx⟩
theorem Sub.low {w : World} {M M' : Nat} {c : C} {l : Its} (h : Sub w M c l) (hM : M' ≤ M) : Sub w M' c l := by
  obtain ⟨cs, h1, h2⟩ := h
  exact ⟨cs, h1.mono (fun g hg _ => Nat.le_trans hM hg), h2.mono (fun g hg _ => Nat.le_trans hM hg)⟩
theorem Sub.of {w : World} {M : Nat} {c c' : C} {l : Its} (h : Sub w M c l) (e : c'.p = c.p ∧ c'.n = c.n ∧ c'.c = c.c) : Sub w M c' l := by
  unfold Sub
  rw [e.1, e.2.1, e.2.2]
  exact h
def IV (M : Nat) (w : World) (v : Value) (x : D × Its) : Prop := ∃ c : C, v = itV c ∧ c.d = x.1 ∧ IsO w c.pc x.1.ct ∧ Sub w M c x.2
def LV (M : Nat) (w : World) (v : Value) (l : Its) : Prop := IsL w (fun g => M ≤ g) v l
theorem st_other (w : World) (X : Nat) (c : C) (k : Nat) (hk : k < w.heap.size) (hne : k ≠ X) : (st13 w X c).heap[k]? = w.heap[k]? := by
  have one : ∀ (w : World) (j : Nat) (u : Value), k < w.heap.size → k < (w.setCell ⟨X, j, none⟩ u).heap.size ∧ (w.setCell ⟨X, j, none⟩ u).heap[k]? = w.heap[k]? := fun w j u hk => by
    have hg := grown_set w X j u
    exact ⟨Nat.lt_of_lt_of_le hk hg.size, hg.block k hk (fun e => by injection e with e; omega)⟩
  have two : ∀ (w w1 : World) (j : Nat) (u : Value), (k < w1.heap.size ∧ w1.heap[k]? = w.heap[k]?) → (k < (w1.setCell ⟨X, j, none⟩ u).heap.size ∧ (w1.setCell ⟨X, j, none⟩ u).heap[k]? = w.heap[k]?) := fun w w1 j u h => ⟨(one w1 j u h.1).1, (one w1 j u h.1).2.trans h.2⟩
  unfold st13
  exact (two _ _ _ _ (two _ _ _ _ (two _ _ _ _ (two _ _ _ _ (two _ _ _ _ (two _ _ _ _ (two _ _ _ _ (two _ _ _ _ (two _ _ _ _ (two _ _ _ _ (two _ _ _ _ (two _ _ _ _ (one w 0 _ hk))))))))))))).2
theorem st_rest (w : World) (X : Nat) (c : C) : (st13 w X c).os = w.os ∧ (st13 w X c).tape = w.tape ∧ (st13 w X c).output = w.output ∧ w.heap.size ≤ (st13 w X c).heap.size := by
  simp [st13, World.setCell]
end Go.Proofs.YtococaecjecjgaaGreatDoor.tm

namespace Go.Proofs.YtococaecjecjgaaGreatDoor.tm
set_option linter.unusedVariables false
open Go.ChangeShapes Go.WideShapes Go.ChangeAt Go.RowKit Go.Shelf
open mem lx ex

theorem ir_where (w : World) (base : Nat) (v : Value) (l : List C) (z : C) (x : Addr) (hown : ir.Own w base v l) (hX : ∀ j u, (cl z)[j]? = some u → w.cell? (x.add j) = some u) (hn : l.length ≤ 20000) (v' : Value) (w' : World)
    (hr : (Builtin.append_ #[50, 50] 50 #[v, .slice (some x) 1 1]).run Tryz.prog w = .ok v' w') : v'.ownBlock = v.ownBlock ∨ v'.ownBlock = some w.heap.size := by
  obtain ⟨i, hi, hz, h1, h2⟩ := ir.infoE'
  have hlen : (cl z).length = 1 * i.size := by rw [h1]; rfl
  have hone : ∀ u ∈ cl z, u.oneCell' = true := fun u hu => ir.rowE_one [z] u (by rw [ir.rowE_cons]; simp [hu])
  rcases hown.2 with ⟨rfl, hl0⟩ | ⟨g, cap, cur, rfl, hbg, hg, hnc, hcm, hcs, htake⟩
  · have hr2 := run_append_nil (P := Tryz.prog) w 50 50 60 i (.agg #[.int .i64 0, .int .i64 0, .string ⟨#[]⟩, .string ⟨#[]⟩, .int .i64 0, .int .i64 0, .bool false, .bool false, .pointer none, .int .i64 0, .string ⟨#[]⟩, .string ⟨#[]⟩, .slice none 0 0]) Tryz.underlying50 hi hz x 1 1 (cl z) hlen hX (by omega) (by omega) (by rw [h2]; omega)
    rw [hr2] at hr
    injection hr with e1 _
    exact Or.inr (by rw [← e1]; rfl)
  · by_cases hroom : l.length + 1 ≤ cap
    · have hr2 := run_append_room (P := Tryz.prog) w 50 50 60 i Tryz.underlying50 hi g l.length cap cur hg x 1 1 (cl z) hlen hX hone hroom (by rw [h1, hcs, ir.cl_len]; omega)
      rw [hr2] at hr
      injection hr with e1 _
      exact Or.inl (by rw [← e1]; rfl)
    · have holds : ∀ j u, (ir.rowE l)[j]? = some u → w.cell? ((⟨g, 0, none⟩ : Addr).add j) = some u := World.ownsRow.cells hown (g := g) rfl
      have hr2 := run_append_grow (P := Tryz.prog) w 50 50 60 i (.agg #[.int .i64 0, .int .i64 0, .string ⟨#[]⟩, .string ⟨#[]⟩, .int .i64 0, .int .i64 0, .bool false, .bool false, .pointer none, .int .i64 0, .string ⟨#[]⟩, .string ⟨#[]⟩, .slice none 0 0]) Tryz.underlying50 hi hz ⟨g, 0, none⟩ l.length cap (ir.rowE l) (by rw [h1]; exact hown.1) holds x 1 1 (cl z) hlen hX (by omega) (by omega) (growslice_fits (by omega) (by rw [h2]; omega))
      rw [hr2] at hr
      injection hr with e1 _
      exact Or.inr (by rw [← e1]; rfl)
theorem sr_where (w : World) (base : Nat) (v : Value) (l : List CT) (z : CT) (x : Addr) (hown : sr.Own w base v l) (hX : ∀ j u, (clT z)[j]? = some u → w.cell? (x.add j) = some u) (hn : l.length ≤ 20000) (v' : Value) (w' : World)
    (hr : (Builtin.append_ #[22, 22] 22 #[v, .slice (some x) 1 1]).run Tryz.prog w = .ok v' w') : v'.ownBlock = v.ownBlock ∨ v'.ownBlock = some w.heap.size := by
  obtain ⟨i, hi, hz, h1, h2⟩ := sr.infoE'
  have hlen : (clT z).length = 1 * i.size := by rw [h1]; rfl
  have hone : ∀ u ∈ clT z, u.oneCell' = true := fun u hu => sr.rowE_one [z] u (by rw [sr.rowE_cons]; simp [hu])
  rcases hown.2 with ⟨rfl, hl0⟩ | ⟨g, cap, cur, rfl, hbg, hg, hnc, hcm, hcs, htake⟩
  · have hr2 := run_append_nil (P := Tryz.prog) w 22 22 96 i (.agg #[.string ⟨#[]⟩, .int .i64 0, .slice none 0 0]) Tryz.underlying22 hi hz x 1 1 (clT z) hlen hX (by omega) (by omega) (by rw [h2]; omega)
    rw [hr2] at hr
    injection hr with e1 _
    exact Or.inr (by rw [← e1]; rfl)
  · by_cases hroom : l.length + 1 ≤ cap
    · have hr2 := run_append_room (P := Tryz.prog) w 22 22 96 i Tryz.underlying22 hi g l.length cap cur hg x 1 1 (clT z) hlen hX hone hroom (by rw [h1, hcs, sr.cl_len]; omega)
      rw [hr2] at hr
      injection hr with e1 _
      exact Or.inl (by rw [← e1]; rfl)
    · have holds : ∀ j u, (sr.rowE l)[j]? = some u → w.cell? ((⟨g, 0, none⟩ : Addr).add j) = some u := World.ownsRow.cells hown (g := g) rfl
      have hr2 := run_append_grow (P := Tryz.prog) w 22 22 96 i (.agg #[.string ⟨#[]⟩, .int .i64 0, .slice none 0 0]) Tryz.underlying22 hi hz ⟨g, 0, none⟩ l.length cap (sr.rowE l) (by rw [h1]; exact hown.1) holds x 1 1 (clT z) hlen hX (by omega) (by omega) (growslice_fits (by omega) (by rw [h2]; omega))
      rw [hr2] at hr
      injection hr with e1 _
      exact Or.inr (by rw [← e1]; rfl)
def Its.cat : Its → Its → Its
  | .nil, m => m
  | .cons d s t, m => .cons d s (t.cat m)
theorem Its.cat_app (l : Its) (d : D) (s m : Its) : (l.app d s).cat m = l.cat (.cons d s m) := by
  induction l with
  | nil => rfl
  | cons e u t _ ih => show Its.cons e u ((t.app d s).cat m) = Its.cons e u (t.cat (.cons d s m)); rw [ih]
theorem Its.cat_nil (l : Its) : l.cat .nil = l := by
  induction l with
  | nil => rfl
  | cons e u t _ ih => show Its.cons e u (t.cat .nil) = _; rw [ih]
theorem Its.app_len (l : Its) (d : D) (s : Its) : (l.app d s).len = l.len + 1 := by
  induction l with
  | nil => rfl
  | cons e u t _ ih => show (t.app d s).len + 1 = t.len + 1 + 1; rw [ih]
def pre (l : Its) : Rs Its → Rs Its
  | .error e => .error e
  | .ok (m, r) => .ok (l.cat m, r)
theorem loop_is (en : Nat) (inner : List Tk → Rs Its) (n : Nat) (ts : List Tk) (l : Its) :
    ((hd en ts).t = [125] → pre l (loop nb en inner n ts) = .ok (l, ts.tail)) ∧ (¬ (hd en ts).t = [125] → n = 0 → pre l (loop nb en inner n ts) = .error (4, (hd en ts).a)) ∧
    (¬ (hd en ts).t = [125] → ∀ m, n = m + 1 → (∀ e, item nb en inner ts = .error e → pre l (loop nb en inner n ts) = .error e) ∧ ∀ d s r, item nb en inner ts = .ok ((d, s), r) → pre l (loop nb en inner n ts) = pre (l.app d s) (loop nb en inner m r)) := by
  cases n with
  | zero =>
    rw [loop]
    refine ⟨fun h => ?_, fun h _ => by rw [if_neg h]; rfl, fun h m hm => by omega⟩
    rw [if_pos h]
    show Except.ok (l.cat .nil, ts.tail) = _
    rw [Its.cat_nil]
  | succ n =>
    rw [loop]
    refine ⟨fun h => ?_, fun h h0 => by omega, fun h m hm => ?_⟩
    · rw [if_pos h]
      show Except.ok (l.cat .nil, ts.tail) = _
      rw [Its.cat_nil]
    · obtain rfl : n = m := by omega
      rw [if_neg h]
      refine ⟨fun e he => by rw [he]; rfl, fun d s r hd => ?_⟩
      rw [hd]
      dsimp only
      cases loop nb en inner n r with
      | error e => rfl
      | ok lr =>
        obtain ⟨m, r'⟩ := lr
        show Except.ok (l.cat (.cons d s m), r') = Except.ok ((l.app d s).cat m, r')
        rw [Its.cat_app]
end Go.Proofs.YtococaecjecjgaaGreatDoor.tm

