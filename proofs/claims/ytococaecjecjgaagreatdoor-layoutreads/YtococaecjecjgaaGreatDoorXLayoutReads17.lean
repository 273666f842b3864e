/- Texts laid together: Ly13, TmA, TmB, TmD, TmE. -/
import Derived.Test.YtococaecjecjgaaGreatDoorXLayoutReads16
import Derived.Test.YtococaecjecjgaaGreatDoorXLayoutReads13
/- A reader of texts: the whole; structs by their names. -/
namespace Go.Proofs.YtococaecjecjgaaGreatDoor.ly
set_option linter.unusedVariables false
open Go.ChangeShapes Go.WideShapes Go.ChangeAt Go.RowKit
open mem lx ex tm num

/-- A struct as an item. -/
def cT (x : List UInt8) : C := ⟨topD x, none, none, 0, 0⟩
theorem infoI : (Tryz.prog.info? 60).map (·.size) = some 13 := by kernel_rfl
set_option maxRecDepth 10000 in
theorem top_at (x : List UInt8) (w : World) : Calls Tryz.prog 53 #[.string (tx x)] w fun e w' => e = .returned (itV (cT x)) ∧ Bl w w' := by
  go_enter Tryz.func53, Tryz.ntmps53
  go_wp2
  exact bodyPost_ret (v := itV (cT x)) (results_cell_row rfl _ _ w.heap.size 60 #[.int .i64 3, .int .i64 0, .string (tx x), .string (tx x), .int .i64 0, .int .i64 0, .bool false, .bool false, .pointer none, .int .i64 0, .string ⟨#[]⟩, .string ⟨#[]⟩, .slice none 0 0] (0, 0) _ rfl (new_at w _) Tryz.underlying60 rfl infoI) rfl ⟨rfl, (Bl.refl _).alloc _⟩
/-- What all of a text is. -/
def wholeQ (s : List UInt8) (q : Except Er (ND × Nds × St)) : Except Er (ND × Nds × St) :=
  match q with
  | .error er => .error er
  | .ok (nd, ks, st) => if st.1 < s.length then .error (3, (st.1 : Int)) else .ok (nd, ks, st)
theorem topD_wk {x : List UInt8} (h : x.length ≤ maxLen) : WK (topD x) := Or.inr ⟨rfl, rfl, h⟩
set_option maxRecDepth 10000 in
set_option maxHeartbeats 2000000 in
theorem whole_at (w : World) (P mb : Nat) (s : ByteArray) (l : List Ty) (x : List UInt8) (h : RdL w P mb s l (0, 0)) (hx : x.length ≤ maxLen) (hl : OKT l) :
    Calls Tryz.prog 27 #[.pointer (some ⟨P, 0, none⟩), .string (tx x)] w fun e w' => NdA w P mb s l (wholeQ (L s) (one (L s) l (rdB (L s) l 400) (topD x) .nil noE (0, 0))) e w' := by
  obtain ⟨q0, hq0⟩ : ∃ q0, q0 = one (L s) l (rdB (L s) l 400) (topD x) .nil noE (0, 0) := ⟨_, rfl⟩
  rw [← hq0]
  obtain ⟨q, hq⟩ : ∃ q, q = wholeQ (L s) q0 := ⟨_, rfl⟩
  have hqe : ∀ er, q0 = .error er → q = .error er := fun er e => by rw [hq, e]; rfl
  have hq1 : ∀ nd ks st, q0 = .ok (nd, ks, st) → st.1 < s.size → q = .error (3, (st.1 : Int)) := fun nd ks st e hlt => by rw [hq, e]; unfold wholeQ; dsimp only; rw [if_pos (by rw [L_len]; exact hlt)]
  have hq2 : ∀ nd ks st, q0 = .ok (nd, ks, st) → ¬ st.1 < s.size → q = .ok (nd, ks, st) := fun nd ks st e hlt => by rw [hq, e]; unfold wholeQ; dsimp only; rw [if_neg (by rw [L_len]; exact hlt)]
  rw [← hq]
  obtain ⟨w1, hw1⟩ : ∃ w1, w1 = w.alloc (.cells #[.string ⟨#[]⟩, .int .i64 0, .int .i64 0, .int .i64 0, .int .i64 0, .string ⟨#[]⟩, .slice none 0 0] 27) := ⟨_, rfl⟩
  obtain ⟨R, hR⟩ : ∃ R, R = w.heap.size := ⟨_, rfl⟩
  have hb1 : Bl w w1 := by rw [hw1]; exact (Bl.refl _).alloc _
  have hR1 : Nv w1 R ⟨[], 0, 0, 0, 0, []⟩ none 0 0 := by rw [hw1, hR]; exact new_at _ _
  have H1 : Hid (Nv w1 R ⟨[], 0, 0, 0, 0, []⟩ none 0 0 ∧ RdL w1 P mb s l (0, 0) ∧ Bl w w1 ∧ R = w.heap.size ∧ P < R) := ⟨hR1, h.bl hb1, hb1, hR, by have := h.lt'; omega⟩
  have cT1 := top_at x w1
  have cO := fun w2 (hb : Bl w1 w2) => one_at 400 w2 P mb s l (0, 0) (cT x) .nil none noE (H1.out.2.1.bl hb) ⟨rfl, [], ⟨rfl, Nat.le_refl _, Or.inl rfl⟩, rfl⟩ (topD_wk hx) (fun e => absurd (show (3 : Nat) = 4 from e) (by decide)) (Or.inr (Or.inl rfl)) hl (blkC s l hl 400) (Nat.le_refl _)
  rw [show (cT x).d = topD x from rfl] at cO
  rw [← hq0] at cO
  obtain ⟨IV, hIV⟩ : ∃ IV, IV = itV (cT x) := ⟨_, rfl⟩
  rw [← hIV] at cT1 cO
  clear hq0 hq hb1 hR1 h hx hl
  go_enter Tryz.func27, Tryz.ntmps27
  go_upto_region 1 with fail
  rw [← hw1, ← hR]
  clear hw1 hR hIV
  go_wp2_with fail
  refine cT1.mono ?_
  rintro e w2 ⟨rfl, hb2⟩
  have cO' := cO w2 hb2
  clear cT1 cO
  go_wp2_with fail
  refine cO'.mono ?_
  rintro e w3 ⟨hg3, hans⟩
  have hgw : Gp P w w3 := ((Gp.bl H1.out.2.2.1).trans (Gp.bl hb2)).trans hg3
  cases q0 with
  | error er =>
    obtain ⟨v, rfl, hv⟩ := hans
    have HQ : Hid (q = .error er) := hqe er rfl
    unfold thrL
    clear hqe hq1 hq2 cO'
    go_wp2
    rw [HQ.out]
    exact ⟨rfl, hgw, v, rfl, hv.from (by have := H1.out.2.2.1.size; have := hb2.size; omega)⟩
  | ok r =>
    obtain ⟨nd, ks, st⟩ := r
    obtain ⟨p, pc, rfl, hks, hr3⟩ := hans
    have hq1' := hq1 nd ks st rfl
    have hq2' := hq2 nd ks st rfl
    obtain ⟨w4, hw4⟩ : ∃ w4, w4 = w3.alloc (.cells #[.string (tx nd.nm), .int .i64 (nd.kd : Int), .int .i64 (nd.at_ : Int), .int .i64 (nd.sz : Int), .int .i64 nd.n, .string (tx nd.tx), .slice p ks.len pc] 27) := ⟨_, rfl⟩
    obtain ⟨Nb, hNb⟩ : ∃ Nb, Nb = w3.heap.size := ⟨_, rfl⟩
    have hb4 : Bl w3 w4 := by rw [hw4]; exact (Bl.refl _).alloc _
    have hn4 : Nv w4 Nb nd p ks.len pc := by rw [hw4, hNb]; exact new_at _ _
    have hr4 : Nv w4 R ⟨[], 0, 0, 0, 0, []⟩ none 0 0 := ((H1.out.1.bl hb2).gp hg3 (by have := H1.out.2.2.2.2; omega)).bl hb4
    have H4 : Hid (Nv w4 Nb nd p ks.len pc ∧ Nv w4 R ⟨[], 0, 0, 0, 0, []⟩ none 0 0 ∧ RdL w4 P mb s l st ∧ Gp P w w4 ∧ IsNs w4 (fun g => w2.heap.size ≤ g) p ks.len pc ks ∧ R < w2.heap.size ∧ R = w.heap.size ∧ P < R) := ⟨hn4, hr4, hr3.bl hb4, hgw.trans (Gp.bl hb4), hks.bl hb4, by have := H1.out.1.lt; have := hb2.size; omega, H1.out.2.2.2⟩
    have cTh := fun wx (hb : Bl w4 wx) => throw_at wx P mb s l st 3 (H4.out.2.2.1.bl hb)
    have c1 := H4.out.2.2.1.cells.2.1
    have c2 := H4.out.2.2.1.cells.2.2.1
    have hP4 := H4.out.2.2.1.lt'
    obtain ⟨n0, n1, n2, n3, n4, n5, n6⟩ := hn4.cells
    have hN4 := hn4.lt
    have hR4 := hr4.lt
    have hz := H4.out.2.2.1.sz
    have ha := H4.out.2.2.1.a
    obtain ⟨a, k⟩ := st
    dsimp only at *
    unfold ndV
    clear hqe hq1 hq2 cO' hg3 hks hr3 hgw hb4 hn4 hr4
    by_cases hlt : a < s.size
    · have HQ : Hid (q = .error (3, (a : Int))) := hq1' hlt
      have hd : decide ((a : Int) < (s.size : Int)) = true := decide_eq_true (by omega)
      clear hq1' hq2'
      go_upto_region 2 with fail
      rw [← hw4, ← hNb]
      clear hw4 hNb
      go_quiet (fail)
      go_wp2_with fail
      refine (cTh _ ((Bl.refl _).drewN _)).mono ?_
      rintro e w5 ⟨v, rfl, hv, hb5⟩
      unfold thrL
      go_wp2
      rw [HQ.out]
      exact ⟨rfl, (H4.out.2.2.2.1.trans (Gp.bl ((Bl.refl _).drewN _))).trans (Gp.bl hb5), v, rfl, hv.from (by have := H4.out.2.2.2.1.size; exact this)⟩
    · have HQ : Hid (q = .ok (nd, ks, (a, k))) := hq2' hlt
      have hd : decide ((a : Int) < (s.size : Int)) = false := decide_eq_false (by omega)
      clear hq1' hq2' cTh
      go_upto_region 2 with fail
      rw [← hw4, ← hNb]
      clear hw4 hNb
      go_quiet (fail)
      have hbd : Bl w4 (w4.drewN nq) := (Bl.refl _).drewN _
      have H5 : Hid (Nv (w4.drewN nq) Nb nd p ks.len pc ∧ Nv (w4.drewN nq) R ⟨[], 0, 0, 0, 0, []⟩ none 0 0 ∧ RdL (w4.drewN nq) P mb s l (a, k) ∧ Gp P w (w4.drewN nq) ∧ IsNs (w4.drewN nq) (fun g => w2.heap.size ≤ g) p ks.len pc ks) := ⟨H4.out.1.bl hbd, H4.out.2.1.bl hbd, H4.out.2.2.1.bl hbd, H4.out.2.2.2.1.trans (Gp.bl hbd), H4.out.2.2.2.2.1.bl hbd⟩
      generalize w4.drewN nq = w5 at H5 ⊢
      clear hbd n0 n1 n2 n3 n4 n5 n6 c1 c2 hP4 hN4 hR4
      obtain ⟨n0, n1, n2, n3, n4, n5, n6⟩ := H5.out.1.cells
      obtain ⟨m0, m1, m2, m3, m4, m5, m6⟩ := H5.out.2.1.cells
      obtain ⟨y0, y1, y2, y3, y4, y5, y6⟩ := H5.out.2.1.fz
      have hN5 := H5.out.1.lt
      have hR5 := H5.out.2.1.lt
      have HF : Hid _ := fin_store (nd := nd) H5.out.2.1 H5.out.2.2.2.2 H5.out.2.2.1 H5.out.2.2.2.1 (by have := H4.out.2.2.2.2.2; omega) (by have := H4.out.2.2.2.2.2; omega) (by have := H4.out.2.2.2.2.2; omega)
      go_wp2
      rw [HQ.out]
      exact bodyPost_ret (v := ndV nd p ks.len pc) (results_cell_row rfl _ _ R 27 _ (0, 0) _ rfl HF.out.1 Tryz.underlying27 rfl infoN) rfl ⟨HF.out.2.1, p, pc, rfl, HF.out.2.2.1, HF.out.2.2.2⟩
end Go.Proofs.YtococaecjecjgaaGreatDoor.ly
/- A reader of a template's tokens: item. -/
namespace Go.Proofs.YtococaecjecjgaaGreatDoor.tm
set_option linter.unusedVariables false
open Go.ChangeShapes Go.WideShapes Go.ChangeAt Go.RowKit Go.Shelf
open mem lx ex

/-- The parts within. -/
def Sub (w : World) (M : Nat) (c : C) (l : Its) : Prop := ∃ cs2, ir.Lie w (fun g => M ≤ g) c.p c.n c.c cs2 ∧ Rep w (fun g => M ≤ g) l cs2
theorem Sub.nil (w : World) (M : Nat) (c : C) (h : c.n = 0 ∧ c.c = 0) : Sub w M c .nil := ⟨[], ⟨by rw [h.1]; rfl, by rw [h.1]; exact Nat.zero_le _, Or.inl rfl⟩, rfl⟩
theorem Sub.keep {w w' : World} {M : Nat} {c : C} {l : Its} (h : Sub w M c l) (hk : ∀ g, M ≤ g → g < w.heap.size → w'.heap[g]? = w.heap[g]?) (hs : w.heap.size ≤ w'.heap.size) (hx : Kx w w') : Sub w' M c l := by
  obtain ⟨cs, h1, h2⟩ := h
  exact ⟨cs, h1.keep hk hs, h2.keep hk hs hx⟩
theorem Sub.low {w : World} {M M' : Nat} {c : C} {l : Its} (h : Sub w M c l) (hM : M' ≤ M) : Sub w M' c l := by
  obtain ⟨cs, h1, h2⟩ := h
  exact ⟨cs, h1.mono (fun g hg _ => Nat.le_trans hM hg), h2.mono (fun g hg _ => Nat.le_trans hM hg)⟩
theorem Sub.of {w : World} {M : Nat} {c c' : C} {l : Its} (h : Sub w M c l) (e : c'.p = c.p ∧ c'.n = c.n ∧ c'.c = c.c) : Sub w M c' l := by
  unfold Sub
  rw [e.1, e.2.1, e.2.2]
  exact h
/-- What an item's reading tells. -/
def IV (M : Nat) (w : World) (v : Value) (x : D × Its) : Prop := ∃ c : C, v = itV c ∧ c.d = x.1 ∧ IsO w c.pc x.1.ct ∧ Sub w M c x.2
/-- What a block's reading tells. -/
def LV (M : Nat) (w : World) (v : Value) (l : Its) : Prop := IsL w (fun g => M ≤ g) v l
def BlkC (k : Nat) : Prop := ∀ (w : World) (P d mb : Nat) (s : ByteArray) (ts : List Tk), d + k = 8 → RdT w P s ts d mb → Gt w → 6 ≤ P →
  Calls Tryz.prog 99 #[.pointer (some ⟨P, 0, none⟩)] w fun e w' => Ans (LV w.heap.size) P s d mb w (blk nb s.size k ts) e w'
theorem item_is (en : Nat) (inner : List Tk → Rs Its) (ts : List Tk) :
    ((hd en ts).t = wWhen → (∀ e, rx nb en [123] ts.tail = .error e → item nb en inner ts = .error e) ∧ ∀ x r, rx nb en [123] ts.tail = .ok (x, r) →
      (∀ e, inner r = .error e → item nb en inner ts = .error e) ∧ ∀ l r', inner r = .ok (l, r') → item nb en inner ts = .ok (({ D0 with kd := 4, at_ := (hd en ts).a, ct := some x }, l), r')) ∧
    (¬ (hd en ts).t = wWhen → ((hd en ts).t = wBytes → (∀ e, byts nb en ts.tail = .error e → item nb en inner ts = .error e) ∧ ∀ d r, byts nb en ts.tail = .ok (d, r) → item nb en inner ts = .ok (({ d with at_ := (hd en ts).a }, .nil), r)) ∧
      (¬ (hd en ts).t = wBytes → (∀ e, part nb en ts = .error e → item nb en inner ts = .error e) ∧ ∀ d r, part nb en ts = .ok (d, r) → item nb en inner ts = .ok (({ d with at_ := (hd en ts).a }, .nil), r))) := by
  unfold item
  refine ⟨fun h => ?_, fun h => ⟨fun h2 => ?_, fun h2 => ?_⟩⟩
  · rw [if_pos h]
    refine ⟨fun e he => by rw [he], fun x r hx => ?_⟩
    rw [hx]
    exact ⟨fun e he => by dsimp only; rw [he], fun l r' hl => by dsimp only; rw [hl]⟩
  · rw [if_neg h, if_pos h2]
    exact ⟨fun e he => by rw [he], fun d r hd => by rw [hd]⟩
  · rw [if_neg h, if_neg h2]
    exact ⟨fun e he => by rw [he], fun d r hd => by rw [hd]⟩
theorem byts_is (en : Nat) (ts : List Tk) : (∀ e, name en ts = .error e → byts nb en ts = .error e) ∧ ∀ t r1, name en ts = .ok (t, r1) →
    (∀ e, many nb en r1 = .error e → byts nb en ts = .error e) ∧ ∀ x r2, many nb en r1 = .ok (x, r2) →
    ((hd en r2).t = [59] → byts nb en ts = .ok ({ D0 with kd := 2, nm := t, ct := some x }, r2.tail)) ∧ (¬ (hd en r2).t = [59] → byts nb en ts = .error (3, (hd en r2).a)) := by
  unfold byts
  refine ⟨fun e h => by rw [h], fun t r1 h1 => ?_⟩
  rw [h1]
  dsimp only
  refine ⟨fun e h => by rw [h], fun x r2 h2 => ?_⟩
  rw [h2]
  dsimp only
  unfold want
  exact ⟨fun h => by rw [if_pos h], fun h => by rw [if_neg h]⟩
/-- The item under way, and the one that is answered. -/
structure Si (w0 w : World) (P X N : Nat) (s : ByteArray) (ts : List Tk) (d mb : Nat) (c : C) (M : Nat) (l : Its) : Prop where
  sq : Sq w0 w P X s ts d mb c
  n : Iv w N ⟨D0, none, none, 0, 0⟩
  sub : Sub w M c l
  gt : Gt w
theorem Si.bl {w0 w w' : World} {P X N : Nat} {s : ByteArray} {ts : List Tk} {d mb : Nat} {c : C} {M : Nat} {l : Its} (h : Si w0 w P X N s ts d mb c M l) (hb : Bl w w') : Si w0 w' P X N s ts d mb c M l :=
  ⟨h.sq.bl hb, h.n.bl hb, h.sub.keep (fun g _ hg => Below.block hb g hg) hb.size (Kx.bl hb), h.gt.bl hb⟩
theorem Si.go {w0 w w' : World} {P X N : Nat} {s : ByteArray} {ts ts' : List Tk} {d mb : Nat} {c : C} {M : Nat} {l : Its} (h : Si w0 w P X N s ts d mb c M l) (hg : Gp P w w') (hr : RdT w' P s ts' d mb) (hPX : P < X) (hPN : P < N) (hPM : P < M) (hGP : 6 ≤ P) : Si w0 w' P X N s ts' d mb c M l :=
  ⟨h.sq.go hg hr hPX, h.n.gp hg (by omega), h.sub.keep (fun g h1 hg' => hg.block g hg' (by omega)) hg.size (kx_gp h.sq.ss.rd hg), h.gt.gp hg hGP h.sq.ss.rd.lt⟩
theorem Si.put {w0 w : World} {P X N j : Nat} {s : ByteArray} {ts : List Tk} {d mb : Nat} {c c' : C} {M : Nat} {l : Its} {u : Value} (h : Si w0 w P X N s ts d mb c M l) (hX : w0.heap.size ≤ X) (hPX : P < X) (hNX : N ≠ X) (hXM : X < M) (hGP : 6 ≤ P) (he : (cl c).toArray.setIfInBounds j u = (cl c').toArray) (hp : c'.pc = c.pc ∧ c'.d.ct = c.d.ct) (hq : c'.p = c.p ∧ c'.n = c.n ∧ c'.c = c.c) : Si w0 (w.setCell ⟨X, j, none⟩ u) P X N s ts d mb c' M l := by
  have hg := grown_set w X j u
  refine ⟨h.sq.put hX hPX he hp, ⟨?_⟩, Sub.of (h.sub.keep (fun g h1 hg' => hg.block g hg' (fun e => by injection e with e; omega)) hg.size (kx_item h.sq.ss.iv hg)) hq, ?_⟩
  · rw [hg.block N h.n.lt (fun e => hNX (by injection e))]; exact h.n.h
  · have := h.sq.ss.iv.lt
    exact h.gt.below ⟨rfl, rfl, rfl, hg.size, fun k hk => hg.block k (by omega) (fun e => by injection e with e; omega)⟩
theorem st_other (w : World) (X : Nat) (c : C) (k : Nat) (hk : k < w.heap.size) (hne : k ≠ X) : (st13 w X c).heap[k]? = w.heap[k]? := by
  have one : ∀ (w : World) (j : Nat) (u : Value), k < w.heap.size → k < (w.setCell ⟨X, j, none⟩ u).heap.size ∧ (w.setCell ⟨X, j, none⟩ u).heap[k]? = w.heap[k]? := fun w j u hk => by
    have hg := grown_set w X j u
    exact ⟨Nat.lt_of_lt_of_le hk hg.size, hg.block k hk (fun e => by injection e with e; omega)⟩
  have two : ∀ (w w1 : World) (j : Nat) (u : Value), (k < w1.heap.size ∧ w1.heap[k]? = w.heap[k]?) → (k < (w1.setCell ⟨X, j, none⟩ u).heap.size ∧ (w1.setCell ⟨X, j, none⟩ u).heap[k]? = w.heap[k]?) := fun w w1 j u h => ⟨(one w1 j u h.1).1, (one w1 j u h.1).2.trans h.2⟩
  unfold st13
  exact (two _ _ _ _ (two _ _ _ _ (two _ _ _ _ (two _ _ _ _ (two _ _ _ _ (two _ _ _ _ (two _ _ _ _ (two _ _ _ _ (two _ _ _ _ (two _ _ _ _ (two _ _ _ _ (two _ _ _ _ (one w 0 _ hk))))))))))))).2
theorem st_rest (w : World) (X : Nat) (c : C) : (st13 w X c).os = w.os ∧ (st13 w X c).tape = w.tape ∧ (st13 w X c).output = w.output ∧ w.heap.size ≤ (st13 w X c).heap.size := by
  simp [st13, World.setCell]
/-- All cells of the item under way, anew. -/
theorem Si.store {w0 w : World} {P X N : Nat} {s : ByteArray} {ts : List Tk} {d mb : Nat} {c c' : C} {M : Nat} {l : Its} (h : Si w0 w P X N s ts d mb c M l) (hX : w0.heap.size ≤ X) (hPX : P < X) (hNX : N ≠ X) (hGP : 6 ≤ P) (ho : IsO w c'.pc c'.d.ct) (hn : c'.n = 0 ∧ c'.c = 0) : Si w0 (st13 w X c') P X N s ts d mb c' M .nil := by
  have other := st_other w X c'
  have hgp := st_gp (c := c') h.sq.ss.gp hX
  refine ⟨⟨⟨hgp, st_rd h.sq.ss.rd hPX, h.sq.ss.iv.store c'⟩, ho.keep (kx_st (c' := c') h.sq.ss.iv)⟩, ⟨?_⟩, Sub.nil _ _ _ hn, ?_⟩
  · rw [other N h.n.lt hNX]; exact h.n.h
  · have h1 := h.sq.ss.iv.lt
    obtain ⟨r1, r2, r3, r4⟩ := st_rest w X c'
    exact h.gt.below ⟨r1, r2, r3, r4, fun k hk => other k (by omega) (by omega)⟩
end Go.Proofs.YtococaecjecjgaaGreatDoor.tm
/- A reader of a template's tokens: item, walked. -/
namespace Go.Proofs.YtococaecjecjgaaGreatDoor.tm
set_option linter.unusedVariables false
open Go.ChangeShapes Go.WideShapes Go.ChangeAt Go.RowKit Go.Shelf
open mem lx ex

theorem blk_end {en : Nat} {k : Nat} : blk nb en k [] = .error (3, en) := by
  cases k with
  | zero => rw [blk, if_neg (show ¬ (hd en ([] : List Tk)).t = [123] by show ¬ ([] : List UInt8) = [123]; decide)]; rfl
  | succ k => rw [blk, if_neg (show ¬ (hd en ([] : List Tk)).t = [123] by show ¬ ([] : List UInt8) = [123]; decide)]; rfl
set_option maxRecDepth 10000 in
set_option maxHeartbeats 4000000 in
theorem item_at (k : Nat) (cB : BlkC k) (w : World) (P d mb : Nat) (s : ByteArray) (ts : List Tk) (hk : d + k = 8) (h : RdT w P s ts d mb) (hG : Gt w) (hGP : 6 ≤ P) :
    Calls Tryz.prog 134 #[.pointer (some ⟨P, 0, none⟩)] w fun e w' => Ans (IV w.heap.size) P s d mb w (item nb s.size (blk nb s.size k) ts) e w' := by
  have hPw := h.lt
  have hb1 : Bl w (w.alloc (.cells z13 60)) := (Bl.refl _).alloc _
  obtain ⟨N, hN⟩ : ∃ N, N = w.heap.size := ⟨_, rfl⟩
  obtain ⟨w1, hw1⟩ : ∃ w1, w1 = w.alloc (.cells z13 60) := ⟨_, rfl⟩
  have hv1 : Iv w1 N ⟨D0, none, none, 0, 0⟩ := ⟨by rw [hw1, hN]; exact new_at _ _⟩
  rw [← hw1] at hb1
  have cN1 := next_at w1 P d mb s ts (h.step hb1)
  obtain ⟨o1, o2⟩ := item_is s.size (blk nb s.size k) ts
  obtain ⟨q, hq⟩ : ∃ q, q = item nb s.size (blk nb s.size k) ts := ⟨_, rfl⟩
  rw [← hq] at o1 o2 ⊢
  obtain ⟨T, hT⟩ : ∃ T, T = hd s.size ts := ⟨_, rfl⟩
  rw [← hT] at cN1 o1 o2
  have htl := tl_tx T.t
  obtain ⟨A, hA⟩ : ∃ A, A = T.a := ⟨_, rfl⟩
  obtain ⟨S, hS⟩ : ∃ S, S = tx T.t := ⟨_, rfl⟩
  unfold tkV at cN1
  rw [← hA] at o1 o2
  rw [← hA, ← hS] at cN1
  rw [← hS] at htl
  have HR : Hid (RdT w P s ts d mb ∧ Gt w ∧ N = w.heap.size ∧ Bl w w1 ∧ Iv w1 N ⟨D0, none, none, 0, 0⟩ ∧ T = hd s.size ts ∧ S = tx T.t ∧ A = T.a) := ⟨h, hG, hN, hb1, hv1, hT, hS, hA⟩
  have HC : Hid (BlkC k) := cB
  have hf0 := run_text
  have hf1 : ∀ (S : ByteArray) (n : Int) (w : World), (Instr.field 145 (.agg #[.string S, .int .i64 n]) 1).run Tryz.prog w = .ok (.int .i64 n) w := fun _ _ _ => by kernel_rfl
  clear h hG hb1 hv1 hq hT hA hS cB
  go_enter Tryz.func134, Tryz.ntmps134
  go_upto_region 1 with fail
  change Code.wp _ _ _ _ (w.alloc (.cells z13 60))
  rw [← hw1, ← hN]
  clear hw1 hN
  go_wp2_with fail
  refine cN1.mono ?_
  rintro e w2 ⟨rfl, hb2⟩
  -- the item under way
  obtain ⟨X, hX⟩ : ∃ X, X = w2.heap.size := ⟨_, rfl⟩
  obtain ⟨w3, hw3⟩ : ∃ w3, w3 = w2.alloc (.cells z13 60) := ⟨_, rfl⟩
  have hb3 : Bl w2 w3 := by rw [hw3]; exact (Bl.refl _).alloc _
  have hv3 : Iv w3 X ⟨D0, none, none, 0, 0⟩ := ⟨by rw [hw3, hX]; exact new_at _ _⟩
  have hN2 := HR.out.2.2.2.2.1.bl hb2
  have hb03 := (HR.out.2.2.2.1.trans hb2).trans hb3
  obtain ⟨M, hM⟩ : ∃ M, M = w3.heap.size := ⟨_, rfl⟩
  have hXM : X < M := by rw [hM]; exact hv3.lt
  have hNX : N < X := by rw [hX]; exact hN2.lt
  have H3 : Hid (Si w w3 P X N s ts d mb ⟨D0, none, none, 0, 0⟩ M .nil) := ⟨⟨⟨Gp.bl hb03, HR.out.1.step hb03, hv3⟩, rfl⟩, hN2.bl hb3, Sub.nil _ _ _ ⟨rfl, rfl⟩, HR.out.2.1.bl hb03⟩
  have HX : Hid (N ≠ X ∧ w.heap.size ≤ X ∧ P < X ∧ N ≠ X ∧ N < X ∧ N = w.heap.size) := ⟨by omega, by have := HR.out.2.2.1; omega, by have := HR.out.2.2.1; omega, by omega, hNX, HR.out.2.2.1⟩
  have HM : Hid (X < M ∧ M = w3.heap.size) := ⟨hXM, hM⟩
  have hPXM : P < X ∧ P < N ∧ P < M := ⟨by have := HR.out.2.2.1; omega, by have := HR.out.2.2.1; omega, by have := HR.out.2.2.1; omega⟩
  have cN3 := next_at w3 P d mb s ts H3.out.sq.ss.rd
  rw [← HR.out.2.2.2.2.2.1] at cN3
  unfold tkV at cN3
  rw [← HR.out.2.2.2.2.2.2.1, ← HR.out.2.2.2.2.2.2.2] at cN3
  clear hb2 hb3 hv3 hN2 hb03 hM hXM hNX cN1
  go_upto_region 3 with fail
  change Code.wp _ _ _ _ (w2.alloc (.cells z13 60))
  rw [← hw3, ← hX]
  clear hw3 hX
  go_wp2_with fail
  refine cN3.mono ?_
  rintro e w4 ⟨rfl, hb4⟩
  have H4 : Hid (Si w w4 P X N s ts d mb ⟨D0, none, none, 0, 0⟩ M .nil) := H3.out.bl hb4
  have HW34 : Hid (w3.heap.size ≤ w4.heap.size) := hb4.size
  have hP4 : P < w4.heap.size := H4.out.sq.ss.rd.lt
  clear hb4 cN3
  by_cases h1 : T.t = wWhen
  · obtain ⟨o3, o4⟩ := o1 h1
    have htw : S.toList = [119, 104, 101, 110] := by rw [htl, h1]; rfl
    have cT := take_at w4 P d mb s ts H4.out.sq.ss.rd
    rw [← HR.out.2.2.2.2.2.1] at cT
    unfold tkV at cT
    rw [← HR.out.2.2.2.2.2.2.1, ← HR.out.2.2.2.2.2.2.2] at cT
    clear o1 o2 h1 htl
    go_wp2_with fail
    refine cT.mono ?_
    rintro e w5 ⟨rfl, hR5, hg5⟩
    have H5 : Hid (Si w w5 P X N s ts.tail d mb ⟨D0, none, none, 0, 0⟩ M .nil) := H4.out.go hg5 hR5 hPXM.1 hPXM.2.1 hPXM.2.2 hGP
    have cE := expr_at ⟨#[123]⟩ em_ob w5 P d mb s ts.tail H5.out.sq.ss.rd H5.out.gt.gd hGP
    rw [show L ⟨#[123]⟩ = [123] from rfl] at cE
    have HW45 : Hid (w3.heap.size ≤ w5.heap.size) := by have := HW34.out; have := hg5.size; show w3.heap.size ≤ w5.heap.size; omega
    clear hg5 hR5 cT
    go_wp2_with fail
    refine cE.mono ?_
    rintro e w6 ⟨hg6, hans⟩
    have hg06 := H5.out.sq.ss.gp.trans hg6
    have hs56 := H5.out.sq.ss.gp.size
    have tailA : ∀ (x : Ex) (vb : Nat) (r : List Tk), IsX w6 (.pointer (some ⟨vb, 0, none⟩)) x → RdT w6 P s r d mb → Si w w6 P X N s r d mb ⟨D0, none, none, 0, 0⟩ M .nil := fun x vb r _ hR => H5.out.go hg6 hR hPXM.1 hPXM.2.1 hPXM.2.2 hGP
    have HT : Hid (∀ (x : Ex) (vb : Nat) (r : List Tk), IsX w6 (.pointer (some ⟨vb, 0, none⟩)) x → RdT w6 P s r d mb → Si w w6 P X N s r d mb ⟨D0, none, none, 0, 0⟩ M .nil) := tailA
    clear tailA cE
    rcases hans with ⟨x, v, hx, rfl, hv, hR6⟩ | ⟨c, p, B, hx, rfl, hB, hA⟩ | ⟨hx, x, v, rfl, hv, hR6⟩
    · obtain ⟨vb, rfl, _⟩ := hv.ptr
      obtain ⟨o5, o6⟩ := o4 _ _ hx
      obtain ⟨r, hr⟩ : ∃ r, r = from_ [123] ts.tail := ⟨_, rfl⟩
      rw [← hr] at o5 o6 hR6
      have H6 := HT.out x vb r hv hR6
      obtain ⟨x0, x1, x2, x3, x4, x5, x6, x7, x8, x9, x10, x11, x12⟩ := H6.sq.ss.iv.facts
      obtain ⟨z0, z1, z2, z3, z4, z5, z6, z7, z8, z9, z10, z11, z12⟩ := H6.sq.ss.iv.fzs
      have hXs := H6.sq.ss.iv.lt
      obtain ⟨w8, hw8⟩ : ∃ w8, w8 = st13 w6 X ⟨{ D0 with kd := 4, ct := some x }, some ⟨vb, 0, none⟩, none, 0, 0⟩ := ⟨_, rfl⟩
      have H8 : Hid (Si w w8 P X N s r d mb ⟨{ D0 with kd := 4, ct := some x }, some ⟨vb, 0, none⟩, none, 0, 0⟩ M .nil) := by
        rw [hw8]
        exact H6.store HX.out.2.1 hPXM.1 (fun e => HX.out.1 e) hGP hv ⟨rfl, rfl⟩
      have HS : Hid (w3.heap.size ≤ w8.heap.size) := by
        have h1 := (st_rest w6 X ⟨{ D0 with kd := 4, ct := some x }, some ⟨vb, 0, none⟩, none, 0, 0⟩).2.2.2
        rw [← hw8] at h1
        have h2 := hg6.size
        have h3 := HW45.out
        show w3.heap.size ≤ w8.heap.size
        omega
      have cB := HC.out w8 P d mb s r hk H8.out.sq.ss.rd H8.out.gt hGP
      clear hR6 hv hx H6 hg6
      go_upto_region 8 with fail
      change Code.wp _ _ _ _ (st13 w6 X ⟨{ D0 with kd := 4, ct := some x }, some ⟨vb, 0, none⟩, none, 0, 0⟩)
      rw [← hw8]
      clear hw8 x0 x1 x2 x3 x4 x5 x6 x7 x8 x9 x10 x11 x12 z0 z1 z2 z3 z4 z5 z6 z7 z8 z9 z10 z11 z12 hXs
      go_wp2_with fail
      refine cB.mono ?_
      rintro e w9 ⟨hg9, hans⟩
      clear cB
      cases hbk : blk nb s.size k r with
      | error kp =>
        obtain ⟨k1, p1⟩ := kp
        rw [hbk] at hans
        obtain ⟨B, rfl, hB, hA⟩ := hans
        have HQ : Hid (q = .error (k1, p1)) := o5 _ hbk
        unfold thrownT
        clear o3 o4 o5 o6 hbk
        go_wp2
        exact ⟨rfl, Ans.of_err HQ.out (H8.out.sq.ss.gp.trans hg9) (Nat.le_trans H8.out.sq.ss.gp.size hB) hA⟩
      | ok lr =>
        obtain ⟨l, r'⟩ := lr
        rw [hbk] at hans
        obtain ⟨v, rfl, hl, hR9⟩ := hans
        obtain ⟨lp, lc, cs, rfl, hl1, hl2⟩ := hl
        have HQ : Hid (q = .ok (({ D0 with kd := 4, at_ := A, ct := some x }, l), r')) := o6 _ _ hbk
        obtain ⟨ln, hln⟩ : ∃ ln, ln = l.len := ⟨_, rfl⟩
        rw [← hln] at hl1 ⊢
        have H9a := H8.out.go hg9 hR9 hPXM.1 hPXM.2.1 hPXM.2.2 hGP
        have x12 : w9.cell? ⟨X, 12, none⟩ = some (.slice none 0 0) := H9a.sq.ss.iv.cell 12
        have z12 := H9a.sq.ss.iv.fz 12
        have hXs := H9a.sq.ss.iv.lt
        obtain ⟨wz, hwz⟩ : ∃ wz, wz = w9.setCell ⟨X, 12, none⟩ (.slice lp ln lc) := ⟨_, rfl⟩
        obtain ⟨c9, hc9⟩ : ∃ c9 : C, c9 = ⟨{ D0 with kd := 4, ct := some x }, some ⟨vb, 0, none⟩, lp, ln, lc⟩ := ⟨_, rfl⟩
        have H9 : Hid (Si w wz P X N s r' d mb c9 M l) := by
          have hg := grown_set w9 X 12 (.slice lp ln lc)
          have hkx := kx_item H9a.sq.ss.iv hg
          have hM8 : M ≤ w8.heap.size := by have := HM.out.2; have := HS.out; omega
          rw [hwz, hc9]
          refine ⟨H9a.sq.put HX.out.2.1 hPXM.1 rfl ⟨rfl, rfl⟩, ⟨?_⟩, ⟨cs, ?_, ?_⟩, ?_⟩
          · rw [hg.block N H9a.n.lt (fun e => by injection e with e; have := HX.out.1; omega)]; exact H9a.n.h
          · exact (hl1.mono (fun g h1 _ => Nat.le_trans hM8 h1)).keep (fun g h1 h2 => hg.block g h2 (fun e => by injection e with e; have := HM.out.1; omega)) hg.size
          · exact (hl2.mono (fun g h1 _ => Nat.le_trans hM8 h1)).keep (fun g h1 h2 => hg.block g h2 (fun e => by injection e with e; have := HM.out.1; omega)) hg.size hkx
          · have := H9a.sq.ss.iv.lt
            exact H9a.gt.below ⟨rfl, rfl, rfl, hg.size, fun k hk => hg.block k (by omega) (fun e => by injection e with e; omega)⟩
        have HD9 : Hid (c9.d = { D0 with kd := 4, ct := some x }) := by show c9.d = _; rw [hc9]
        clear hc9 hl1 hl2 hg9 hR9 H9a hbk o3 o4 o5 o6 hln
        go_upto_region 13 with fail
        rw [← hwz]
        clear hwz x12 z12 hXs
        have x1 : wz.cell? ⟨X, 1, none⟩ = some (.int .i64 (c9.d.at_ : Int)) := H9.out.sq.ss.iv.cell 1
        have xz := H9.out.sq.ss.iv.fz 1
        have hXs := H9.out.sq.ss.iv.lt
        obtain ⟨wy, hwy⟩ : ∃ wy, wy = wz.setCell ⟨X, 1, none⟩ (.int .i64 (A : Int)) := ⟨_, rfl⟩
        have HY : Hid (Si w wy P X N s r' d mb (c9.at A) M l ∧ (c9.at A).d = { D0 with kd := 4, at_ := A, ct := some x } ∧ w.heap.size ≤ N ∧ P < N ∧ w.heap.size ≤ M ∧ N < M) := by
          rw [hwy]
          refine ⟨H9.out.put HX.out.2.1 HX.out.2.2.1 HX.out.2.2.2.1 (by have := HM.out; omega) hGP (set_at c9 A) ⟨rfl, rfl⟩ ⟨rfl, rfl, rfl⟩, ?_, ?_, ?_, ?_, ?_⟩
          · show ({ c9.d with at_ := A } : D) = _
            rw [HD9.out]
          · have := HX.out.2.2.2.2; omega
          · have := HX.out.2.2.2.2; omega
          · have := HM.out; have := HX.out.2.1; omega
          · have := HM.out; have := HX.out.2.2.2.2; omega
        obtain ⟨c10, hc10⟩ : ∃ c10, c10 = c9.at A := ⟨_, rfl⟩
        rw [← hc10] at HY
        go_upto_region 14 with fail
        rw [← hwy]
        clear hwy hc10 x1 xz hXs
        obtain ⟨q0, q1, q2, q3, q4, q5, q6, q7, q8, q9, q10, q11, q12⟩ := HY.out.1.n.facts
        obtain ⟨z0, z1, z2, z3, z4, z5, z6, z7, z8, z9, z10, z11, z12⟩ := HY.out.1.n.fzs
        obtain ⟨x0, x1, x2, x3, x4, x5, x6, x7, x8, x9, x10, x11, x12⟩ := HY.out.1.sq.ss.iv.facts
        have hNy := HY.out.1.n.lt
        have hXy := HY.out.1.sq.ss.iv.lt
        go_wp2
        have hst := HY.out.1.n.store c10
        have hgp := st_gp (c := c10) HY.out.1.sq.ss.gp HY.out.2.2.1
        have hrd := st_rd (c := c10) HY.out.1.sq.ss.rd HY.out.2.2.2.1
        have hox := HY.out.1.sq.o.keep (kx_st (c' := c10) HY.out.1.n)
        have hsub := (HY.out.1.sub.keep (w' := st13 wy N c10) (fun g h1 h2 => st_other wy N c10 g h2 (by have := HY.out.2.2.2.2.2; omega)) (st_rest wy N c10).2.2.2 (kx_st (c' := c10) HY.out.1.n)).low HY.out.2.2.2.2.1
        have e10 := HY.out.2.1
        rw [HQ.out]
        rw [e10] at hox
        exact bodyPost_ret (v := itV c10) (results_cell_row rfl _ _ N 60 (cl c10).toArray (0, 0) _ rfl hst.h Tryz.underlying60 rfl infoI) rfl ⟨hgp, _, rfl, ⟨c10, rfl, e10, hox, hsub⟩, hrd⟩
    · have HQ : Hid (q = .error (c, p)) := o3 _ hx
      unfold thrownT
      clear o3 o4 hx
      go_wp2
      exact ⟨rfl, Ans.of_err HQ.out hg06 (Nat.le_trans hs56 hB) hA⟩
    · obtain ⟨vb, rfl, _⟩ := hv.ptr
      have HQ : Hid (q = .error (3, s.size)) := o3 _ hx
      obtain ⟨r, hr⟩ : ∃ r : List Tk, r = [] := ⟨_, rfl⟩
      rw [← hr] at hR6
      have H6 := HT.out x vb r hv hR6
      obtain ⟨x0, x1, x2, x3, x4, x5, x6, x7, x8, x9, x10, x11, x12⟩ := H6.sq.ss.iv.facts
      obtain ⟨z0, z1, z2, z3, z4, z5, z6, z7, z8, z9, z10, z11, z12⟩ := H6.sq.ss.iv.fzs
      have hXs := H6.sq.ss.iv.lt
      obtain ⟨w8, hw8⟩ : ∃ w8, w8 = st13 w6 X ⟨{ D0 with kd := 4, ct := some x }, some ⟨vb, 0, none⟩, none, 0, 0⟩ := ⟨_, rfl⟩
      have H8 : Hid (Si w w8 P X N s r d mb ⟨{ D0 with kd := 4, ct := some x }, some ⟨vb, 0, none⟩, none, 0, 0⟩ M .nil) := by
        rw [hw8]
        exact H6.store HX.out.2.1 hPXM.1 (fun e => HX.out.1 e) hGP hv ⟨rfl, rfl⟩
      have HS : Hid (w3.heap.size ≤ w8.heap.size) := by
        have h1 := (st_rest w6 X ⟨{ D0 with kd := 4, ct := some x }, some ⟨vb, 0, none⟩, none, 0, 0⟩).2.2.2
        rw [← hw8] at h1
        have h2 := hg6.size
        have h3 := HW45.out
        show w3.heap.size ≤ w8.heap.size
        omega
      have cB := HC.out w8 P d mb s r hk H8.out.sq.ss.rd H8.out.gt hGP
      clear hR6 hv hx H6 hg6
      go_upto_region 8 with fail
      change Code.wp _ _ _ _ (st13 w6 X ⟨{ D0 with kd := 4, ct := some x }, some ⟨vb, 0, none⟩, none, 0, 0⟩)
      rw [← hw8]
      clear hw8 x0 x1 x2 x3 x4 x5 x6 x7 x8 x9 x10 x11 x12 z0 z1 z2 z3 z4 z5 z6 z7 z8 z9 z10 z11 z12 hXs
      go_wp2_with fail
      refine cB.mono ?_
      rintro e w9 ⟨hg9, hans⟩
      clear cB
      rw [hr, blk_end] at hans
      obtain ⟨B, rfl, hB, hA⟩ := hans
      unfold thrownT
      clear o3 o4
      go_wp2
      exact ⟨rfl, Ans.of_err HQ.out (H8.out.sq.ss.gp.trans hg9) (Nat.le_trans H8.out.sq.ss.gp.size hB) hA⟩
  · rcases o2 h1 with ⟨o3, o4⟩
    have htn : (S.toList == [119, 104, 101, 110]) = false := by rw [htl, beq_eq_false_iff_ne]; exact h1
    by_cases h2 : T.t = wBytes
    · -- bytes
      obtain ⟨o5, o6⟩ := o3 h2
      have htb : S.toList = [98, 121, 116, 101, 115] := by rw [htl, h2]; rfl
      have cT := take_at w4 P d mb s ts H4.out.sq.ss.rd
      rw [← HR.out.2.2.2.2.2.1] at cT
      unfold tkV at cT
      rw [← HR.out.2.2.2.2.2.2.1, ← HR.out.2.2.2.2.2.2.2] at cT
      obtain ⟨b1, b2⟩ := byts_is s.size ts.tail
      clear o1 o2 o3 o4 h1 h2 htl htn
      go_wp2_with fail
      refine cT.mono ?_
      rintro e w5 ⟨rfl, hR5, hg5⟩
      have H5 : Hid (Si w w5 P X N s ts.tail d mb ⟨D0, none, none, 0, 0⟩ M .nil) := H4.out.go hg5 hR5 hPXM.1 hPXM.2.1 hPXM.2.2 hGP
      have cA := name_at w5 P d mb s ts.tail H5.out.sq.ss.rd
      clear hg5 hR5 cT
      go_wp2_with fail
      refine cA.mono ?_
      rintro e w6 ⟨hg6, hans⟩
      cases hn : name s.size ts.tail with
      | error kp =>
        obtain ⟨k1, p1⟩ := kp
        rw [hn] at hans
        obtain ⟨B, rfl, hB, hA⟩ := hans
        have HQ : Hid (q = .error (k1, p1)) := o5 _ (b1 _ hn)
        unfold thrownT
        clear cA o5 o6 b1 b2 hn
        go_wp2
        exact ⟨rfl, Ans.of_err HQ.out (H5.out.sq.ss.gp.trans hg6) (Nat.le_trans H5.out.sq.ss.gp.size hB) hA⟩
      | ok tr =>
        obtain ⟨t, r1⟩ := tr
        rw [hn] at hans
        obtain ⟨v, rfl, rfl, hR6⟩ := hans
        obtain ⟨b3, b4⟩ := b2 _ _ hn
        have H6 : Hid (Si w w6 P X N s r1 d mb ⟨D0, none, none, 0, 0⟩ M .nil) := H5.out.go hg6 hR6 hPXM.1 hPXM.2.1 hPXM.2.2 hGP
        have cM := many_at w6 P d mb s r1 H6.out.sq.ss.rd H6.out.gt hGP
        unfold tkV
        clear hg6 hR6 cA hn b1 b2
        go_wp2_with fail
        refine cM.mono ?_
        rintro e w7 ⟨hg7, hans⟩
        cases hm : many nb s.size r1 with
        | error kp =>
          obtain ⟨k1, p1⟩ := kp
          rw [hm] at hans
          obtain ⟨B, rfl, hB, hA⟩ := hans
          have HQ : Hid (q = .error (k1, p1)) := o5 _ (b3 _ hm)
          unfold thrownT
          clear cM o5 o6 b3 b4 hm
          go_wp2
          exact ⟨rfl, Ans.of_err HQ.out (H6.out.sq.ss.gp.trans hg7) (Nat.le_trans H6.out.sq.ss.gp.size hB) hA⟩
        | ok xr =>
          obtain ⟨x, r2⟩ := xr
          rw [hm] at hans
          obtain ⟨v, rfl, hx, hR7⟩ := hans
          obtain ⟨vb, rfl, _⟩ := hx.ptr
          obtain ⟨b5, b6⟩ := b4 _ _ hm
          have H7 := H6.out.go hg7 hR7 hPXM.1 hPXM.2.1 hPXM.2.2 hGP
          obtain ⟨x0, x1, x2, x3, x4, x5, x6, x7, x8, x9, x10, x11, x12⟩ := H7.sq.ss.iv.facts
          obtain ⟨z0, z1, z2, z3, z4, z5, z6, z7, z8, z9, z10, z11, z12⟩ := H7.sq.ss.iv.fzs
          have hXs := H7.sq.ss.iv.lt
          obtain ⟨c9, hc9⟩ : ∃ c9 : C, c9 = ⟨{ D0 with kd := 2, nm := t, ct := some x }, some ⟨vb, 0, none⟩, none, 0, 0⟩ := ⟨_, rfl⟩
          obtain ⟨w8, hw8⟩ : ∃ w8, w8 = st13 w7 X ⟨{ D0 with kd := 2, nm := t, ct := some x }, some ⟨vb, 0, none⟩, none, 0, 0⟩ := ⟨_, rfl⟩
          have H8 : Hid (Si w w8 P X N s r2 d mb c9 M .nil) := by
            rw [hw8, hc9]
            exact H7.store HX.out.2.1 hPXM.1 (fun e => HX.out.1 e) hGP hx ⟨rfl, rfl⟩
          have HD9 : Hid (c9.d = { D0 with kd := 2, nm := t, ct := some x }) := by show c9.d = _; rw [hc9]
          have cW := want_at ⟨#[59]⟩ w8 P d mb s r2 H8.out.sq.ss.rd
          rw [show L ⟨#[59]⟩ = [59] from rfl] at cW
          clear hR7 hx H7 hg7 cM hc9 hm b3 b4
          go_upto_region 12 with fail
          change Code.wp _ _ _ _ (st13 w7 X ⟨{ D0 with kd := 2, nm := t, ct := some x }, some ⟨vb, 0, none⟩, none, 0, 0⟩)
          rw [← hw8]
          clear hw8 x0 x1 x2 x3 x4 x5 x6 x7 x8 x9 x10 x11 x12 z0 z1 z2 z3 z4 z5 z6 z7 z8 z9 z10 z11 z12 hXs
          by_cases h59 : (hd s.size r2).t = [59]
          · have HQ : Hid (q = .ok (({ D0 with kd := 2, at_ := A, nm := t, ct := some x }, .nil), r2.tail)) := o6 _ _ (b5 h59)
            rw [wantU_yes h59] at cW
            clear o5 o6 b5 b6 h59
            go_wp2_with fail
            refine cW.mono ?_
            rintro e wv ⟨hgv, vv, rfl, rfl, hRv⟩
            have H9 : Hid (Si w wv P X N s r2.tail d mb c9 M .nil) := H8.out.go hgv hRv hPXM.1 hPXM.2.1 hPXM.2.2 hGP
            unfold tkV
            clear cW hgv hRv
            have x1 : wv.cell? ⟨X, 1, none⟩ = some (.int .i64 (c9.d.at_ : Int)) := H9.out.sq.ss.iv.cell 1
            have xz := H9.out.sq.ss.iv.fz 1
            have hXs := H9.out.sq.ss.iv.lt
            obtain ⟨wy, hwy⟩ : ∃ wy, wy = wv.setCell ⟨X, 1, none⟩ (.int .i64 (A : Int)) := ⟨_, rfl⟩
            have HY : Hid (Si w wy P X N s r2.tail d mb (c9.at A) M .nil ∧ (c9.at A).d = { D0 with kd := 2, at_ := A, nm := t, ct := some x } ∧ w.heap.size ≤ N ∧ P < N ∧ w.heap.size ≤ M ∧ N < M) := by
              rw [hwy]
              refine ⟨H9.out.put HX.out.2.1 HX.out.2.2.1 HX.out.2.2.2.1 (by have := HM.out; omega) hGP (set_at c9 A) ⟨rfl, rfl⟩ ⟨rfl, rfl, rfl⟩, ?_, ?_, ?_, ?_, ?_⟩
              · show ({ c9.d with at_ := A } : D) = _
                rw [HD9.out]
              · have := HX.out.2.2.2.2; omega
              · have := HX.out.2.2.2.2; omega
              · have := HM.out; have := HX.out.2.1; omega
              · have := HM.out; have := HX.out.2.2.2.2; omega
            obtain ⟨c10, hc10⟩ : ∃ c10, c10 = c9.at A := ⟨_, rfl⟩
            rw [← hc10] at HY
            go_upto_region 14 with fail
            rw [← hwy]
            clear hwy hc10 x1 xz hXs
            obtain ⟨q0, q1, q2, q3, q4, q5, q6, q7, q8, q9, q10, q11, q12⟩ := HY.out.1.n.facts
            obtain ⟨z0, z1, z2, z3, z4, z5, z6, z7, z8, z9, z10, z11, z12⟩ := HY.out.1.n.fzs
            obtain ⟨x0, x1, x2, x3, x4, x5, x6, x7, x8, x9, x10, x11, x12⟩ := HY.out.1.sq.ss.iv.facts
            have hNy := HY.out.1.n.lt
            have hXy := HY.out.1.sq.ss.iv.lt
            go_wp2
            have hst := HY.out.1.n.store c10
            have hgp := st_gp (c := c10) HY.out.1.sq.ss.gp HY.out.2.2.1
            have hrd := st_rd (c := c10) HY.out.1.sq.ss.rd HY.out.2.2.2.1
            have hox := HY.out.1.sq.o.keep (kx_st (c' := c10) HY.out.1.n)
            have hsub := (HY.out.1.sub.keep (w' := st13 wy N c10) (fun g h1 h2 => st_other wy N c10 g h2 (by have := HY.out.2.2.2.2.2; omega)) (st_rest wy N c10).2.2.2 (kx_st (c' := c10) HY.out.1.n)).low HY.out.2.2.2.2.1
            have e10 := HY.out.2.1
            rw [HQ.out]
            rw [e10] at hox
            exact bodyPost_ret (v := itV c10) (results_cell_row rfl _ _ N 60 (cl c10).toArray (0, 0) _ rfl hst.h Tryz.underlying60 rfl infoI) rfl ⟨hgp, _, rfl, ⟨c10, rfl, e10, hox, hsub⟩, hrd⟩
          · have HQ : Hid (q = .error (3, (hd s.size r2).a)) := o5 _ (b6 h59)
            rw [wantU_no h59] at cW
            clear o5 o6 b5 b6 h59
            go_wp2_with fail
            refine cW.mono ?_
            rintro e wy ⟨hgy, B, rfl, hB, hA⟩
            unfold thrownT
            clear cW
            go_wp2
            exact ⟨rfl, Ans.of_err HQ.out (H8.out.sq.ss.gp.trans hgy) (Nat.le_trans H8.out.sq.ss.gp.size hB) hA⟩
    · -- a part
      obtain ⟨o5, o6⟩ := o4 h2
      have htb : (S.toList == [98, 121, 116, 101, 115]) = false := by rw [htl, beq_eq_false_iff_ne]; exact h2
      have cP := part_at w4 P d mb s ts H4.out.sq.ss.rd H4.out.gt hGP
      clear o1 o2 o3 o4 h1 h2 htl
      go_wp2_with fail
      refine cP.mono ?_
      rintro e w6 ⟨hg6, hans⟩
      cases hm : part nb s.size ts with
      | error kp =>
        obtain ⟨k1, p1⟩ := kp
        rw [hm] at hans
        obtain ⟨B, rfl, hB, hA⟩ := hans
        have HQ : Hid (q = .error (k1, p1)) := o5 _ hm
        unfold thrownT
        clear cP o5 o6 hm
        go_wp2
        exact ⟨rfl, Ans.of_err HQ.out (H4.out.sq.ss.gp.trans hg6) (Nat.le_trans H4.out.sq.ss.gp.size hB) hA⟩
      | ok dr =>
        obtain ⟨d1, r2⟩ := dr
        rw [hm] at hans
        obtain ⟨v, rfl, ⟨pc, rfl, ho⟩, hR6⟩ := hans
        have HQ : Hid (q = .ok (({ d1 with at_ := A }, .nil), r2)) := o6 _ _ hm
        have H7 := H4.out.go hg6 hR6 hPXM.1 hPXM.2.1 hPXM.2.2 hGP
        obtain ⟨x0, x1, x2, x3, x4, x5, x6, x7, x8, x9, x10, x11, x12⟩ := H7.sq.ss.iv.facts
        obtain ⟨z0, z1, z2, z3, z4, z5, z6, z7, z8, z9, z10, z11, z12⟩ := H7.sq.ss.iv.fzs
        have hXs := H7.sq.ss.iv.lt
        obtain ⟨c9, hc9⟩ : ∃ c9 : C, c9 = ⟨d1, pc, none, 0, 0⟩ := ⟨_, rfl⟩
        obtain ⟨w8, hw8⟩ : ∃ w8, w8 = st13 w6 X c9 := ⟨_, rfl⟩
        have H9 : Hid (Si w w8 P X N s r2 d mb c9 M .nil) := by
          rw [hw8, hc9]
          exact H7.store HX.out.2.1 hPXM.1 (fun e => HX.out.1 e) hGP ho ⟨rfl, rfl⟩
        have HD9 : Hid (c9.d = d1) := by show c9.d = _; rw [hc9]
        unfold itV
        rw [← hc9]
        have hcl : (cl c9).toArray = #[.int .i64 (c9.d.kd : Int), .int .i64 (c9.d.at_ : Int), .string (tx c9.d.nm), .string (tx c9.d.ty), .int .i64 (c9.d.wd : Int), .int .i64 (c9.d.od : Int), .bool c9.d.sg, .bool c9.d.mn, .pointer c9.pc, .int .i64 (c9.d.ru : Int), .string (tx c9.d.f1), .string (tx c9.d.l1), .slice c9.p c9.n c9.c] := rfl
        rw [hcl]
        clear hR6 ho H7 hg6 cP hc9 hm o5 o6 hcl
        go_upto_region 13 with fail
        change Code.wp _ _ _ _ (st13 w6 X c9)
        rw [← hw8]
        clear hw8 x0 x1 x2 x3 x4 x5 x6 x7 x8 x9 x10 x11 x12 z0 z1 z2 z3 z4 z5 z6 z7 z8 z9 z10 z11 z12 hXs
        have x1 : w8.cell? ⟨X, 1, none⟩ = some (.int .i64 (c9.d.at_ : Int)) := H9.out.sq.ss.iv.cell 1
        have xz := H9.out.sq.ss.iv.fz 1
        have hXs := H9.out.sq.ss.iv.lt
        obtain ⟨wy, hwy⟩ : ∃ wy, wy = w8.setCell ⟨X, 1, none⟩ (.int .i64 (A : Int)) := ⟨_, rfl⟩
        have HY : Hid (Si w wy P X N s r2 d mb (c9.at A) M .nil ∧ (c9.at A).d = { d1 with at_ := A } ∧ w.heap.size ≤ N ∧ P < N ∧ w.heap.size ≤ M ∧ N < M) := by
          rw [hwy]
          refine ⟨H9.out.put HX.out.2.1 HX.out.2.2.1 HX.out.2.2.2.1 (by have := HM.out; omega) hGP (set_at c9 A) ⟨rfl, rfl⟩ ⟨rfl, rfl, rfl⟩, ?_, ?_, ?_, ?_, ?_⟩
          · show ({ c9.d with at_ := A } : D) = _
            rw [HD9.out]
          · have := HX.out.2.2.2.2; omega
          · have := HX.out.2.2.2.2; omega
          · have := HM.out; have := HX.out.2.1; omega
          · have := HM.out; have := HX.out.2.2.2.2; omega
        obtain ⟨c10, hc10⟩ : ∃ c10, c10 = c9.at A := ⟨_, rfl⟩
        rw [← hc10] at HY
        go_upto_region 14 with fail
        rw [← hwy]
        clear hwy hc10 x1 xz hXs
        obtain ⟨q0, q1, q2, q3, q4, q5, q6, q7, q8, q9, q10, q11, q12⟩ := HY.out.1.n.facts
        obtain ⟨z0, z1, z2, z3, z4, z5, z6, z7, z8, z9, z10, z11, z12⟩ := HY.out.1.n.fzs
        obtain ⟨x0, x1, x2, x3, x4, x5, x6, x7, x8, x9, x10, x11, x12⟩ := HY.out.1.sq.ss.iv.facts
        have hNy := HY.out.1.n.lt
        have hXy := HY.out.1.sq.ss.iv.lt
        go_wp2
        have hst := HY.out.1.n.store c10
        have hgp := st_gp (c := c10) HY.out.1.sq.ss.gp HY.out.2.2.1
        have hrd := st_rd (c := c10) HY.out.1.sq.ss.rd HY.out.2.2.2.1
        have hox := HY.out.1.sq.o.keep (kx_st (c' := c10) HY.out.1.n)
        have hsub := (HY.out.1.sub.keep (w' := st13 wy N c10) (fun g h1 h2 => st_other wy N c10 g h2 (by have := HY.out.2.2.2.2.2; omega)) (st_rest wy N c10).2.2.2 (kx_st (c' := c10) HY.out.1.n)).low HY.out.2.2.2.2.1
        have e10 := HY.out.2.1
        rw [HQ.out]
        rw [e10] at hox
        exact bodyPost_ret (v := itV c10) (results_cell_row rfl _ _ N 60 (cl c10).toArray (0, 0) _ rfl hst.h Tryz.underlying60 rfl infoI) rfl ⟨hgp, _, rfl, ⟨c10, rfl, e10, hox, hsub⟩, hrd⟩
end Go.Proofs.YtococaecjecjgaaGreatDoor.tm
/- A reader of a template's tokens: rows of items grow. -/
namespace Go.Proofs.YtococaecjecjgaaGreatDoor.tm
set_option linter.unusedVariables false
open Go.ChangeShapes Go.WideShapes Go.ChangeAt Go.RowKit Go.Shelf
open mem lx ex

theorem ir_where (w : World) (base : Nat) (v : Value) (l : List C) (z : C) (x : Addr) (hown : ir.Own w base v l) (hX : ∀ j u, (cl z)[j]? = some u → w.cell? (x.add j) = some u) (hn : l.length ≤ 20000) (v' : Value) (w' : World)
    (hr : (Builtin.append_ #[50, 50] 50 #[v, .slice (some x) 1 1]).run Tryz.prog w = .ok v' w') : v'.ownBlock = v.ownBlock ∨ v'.ownBlock = some w.heap.size := by
  obtain ⟨i, hi, hz, h1, h2⟩ := ir.infoE'
  have hlen : (cl z).length = 1 * i.size := by rw [h1]; rfl
  have hone : ∀ u ∈ cl z, u.oneCell' = true := fun u hu => ir.rowE_one [z] u (by rw [ir.rowE_cons]; simp [hu])
  rcases hown.2 with ⟨rfl, hl0⟩ | ⟨g, cap, cur, rfl, hbg, hg, hnc, hcm, hcs, htake⟩
  · have hr2 := run_append_nil (P := Tryz.prog) w 50 50 60 i (.agg #[.int .i64 0, .int .i64 0, .string ⟨#[]⟩, .string ⟨#[]⟩, .int .i64 0, .int .i64 0, .bool false, .bool false, .pointer none, .int .i64 0, .string ⟨#[]⟩, .string ⟨#[]⟩, .slice none 0 0]) Tryz.underlying50 hi hz x 1 1 (cl z) hlen hX (by omega) (by omega) (by rw [h2]; omega)
    rw [hr2] at hr
    injection hr with e1 _
    exact Or.inr (by rw [← e1]; rfl)
  · by_cases hroom : l.length + 1 ≤ cap
    · have hr2 := run_append_room (P := Tryz.prog) w 50 50 60 i Tryz.underlying50 hi g l.length cap cur hg x 1 1 (cl z) hlen hX hone hroom (by rw [h1, hcs, ir.cl_len]; omega)
      rw [hr2] at hr
      injection hr with e1 _
      exact Or.inl (by rw [← e1]; rfl)
    · have holds : ∀ j u, (ir.rowE l)[j]? = some u → w.cell? ((⟨g, 0, none⟩ : Addr).add j) = some u := World.ownsRow.cells hown (g := g) rfl
      have hr2 := run_append_grow (P := Tryz.prog) w 50 50 60 i (.agg #[.int .i64 0, .int .i64 0, .string ⟨#[]⟩, .string ⟨#[]⟩, .int .i64 0, .int .i64 0, .bool false, .bool false, .pointer none, .int .i64 0, .string ⟨#[]⟩, .string ⟨#[]⟩, .slice none 0 0]) Tryz.underlying50 hi hz ⟨g, 0, none⟩ l.length cap (ir.rowE l) (by rw [h1]; exact hown.1) holds x 1 1 (cl z) hlen hX (by omega) (by omega) (growslice_fits (by omega) (by rw [h2]; omega))
      rw [hr2] at hr
      injection hr with e1 _
      exact Or.inr (by rw [← e1]; rfl)
theorem sr_where (w : World) (base : Nat) (v : Value) (l : List CT) (z : CT) (x : Addr) (hown : sr.Own w base v l) (hX : ∀ j u, (clT z)[j]? = some u → w.cell? (x.add j) = some u) (hn : l.length ≤ 20000) (v' : Value) (w' : World)
    (hr : (Builtin.append_ #[22, 22] 22 #[v, .slice (some x) 1 1]).run Tryz.prog w = .ok v' w') : v'.ownBlock = v.ownBlock ∨ v'.ownBlock = some w.heap.size := by
  obtain ⟨i, hi, hz, h1, h2⟩ := sr.infoE'
  have hlen : (clT z).length = 1 * i.size := by rw [h1]; rfl
  have hone : ∀ u ∈ clT z, u.oneCell' = true := fun u hu => sr.rowE_one [z] u (by rw [sr.rowE_cons]; simp [hu])
  rcases hown.2 with ⟨rfl, hl0⟩ | ⟨g, cap, cur, rfl, hbg, hg, hnc, hcm, hcs, htake⟩
  · have hr2 := run_append_nil (P := Tryz.prog) w 22 22 96 i (.agg #[.string ⟨#[]⟩, .int .i64 0, .slice none 0 0]) Tryz.underlying22 hi hz x 1 1 (clT z) hlen hX (by omega) (by omega) (by rw [h2]; omega)
    rw [hr2] at hr
    injection hr with e1 _
    exact Or.inr (by rw [← e1]; rfl)
  · by_cases hroom : l.length + 1 ≤ cap
    · have hr2 := run_append_room (P := Tryz.prog) w 22 22 96 i Tryz.underlying22 hi g l.length cap cur hg x 1 1 (clT z) hlen hX hone hroom (by rw [h1, hcs, sr.cl_len]; omega)
      rw [hr2] at hr
      injection hr with e1 _
      exact Or.inl (by rw [← e1]; rfl)
    · have holds : ∀ j u, (sr.rowE l)[j]? = some u → w.cell? ((⟨g, 0, none⟩ : Addr).add j) = some u := World.ownsRow.cells hown (g := g) rfl
      have hr2 := run_append_grow (P := Tryz.prog) w 22 22 96 i (.agg #[.string ⟨#[]⟩, .int .i64 0, .slice none 0 0]) Tryz.underlying22 hi hz ⟨g, 0, none⟩ l.length cap (sr.rowE l) (by rw [h1]; exact hown.1) holds x 1 1 (clT z) hlen hX (by omega) (by omega) (growslice_fits (by omega) (by rw [h2]; omega))
      rw [hr2] at hr
      injection hr with e1 _
      exact Or.inr (by rw [← e1]; rfl)
/-- One list behind another one. -/
def Its.cat : Its → Its → Its
  | .nil, m => m
  | .cons d s t, m => .cons d s (t.cat m)
theorem Its.cat_app (l : Its) (d : D) (s m : Its) : (l.app d s).cat m = l.cat (.cons d s m) := by
  induction l with
  | nil => rfl
  | cons e u t _ ih => show Its.cons e u ((t.app d s).cat m) = Its.cons e u (t.cat (.cons d s m)); rw [ih]
theorem Its.cat_nil (l : Its) : l.cat .nil = l := by
  induction l with
  | nil => rfl
  | cons e u t _ ih => show Its.cons e u (t.cat .nil) = _; rw [ih]
theorem Its.app_len (l : Its) (d : D) (s : Its) : (l.app d s).len = l.len + 1 := by
  induction l with
  | nil => rfl
  | cons e u t _ ih => show (t.app d s).len + 1 = t.len + 1 + 1; rw [ih]
/-- What comes behind what is read already. -/
def pre (l : Its) : Rs Its → Rs Its
  | .error e => .error e
  | .ok (m, r) => .ok (l.cat m, r)
theorem loop_is (en : Nat) (inner : List Tk → Rs Its) (n : Nat) (ts : List Tk) (l : Its) :
    ((hd en ts).t = [125] → pre l (loop nb en inner n ts) = .ok (l, ts.tail)) ∧ (¬ (hd en ts).t = [125] → n = 0 → pre l (loop nb en inner n ts) = .error (4, (hd en ts).a)) ∧
    (¬ (hd en ts).t = [125] → ∀ m, n = m + 1 → (∀ e, item nb en inner ts = .error e → pre l (loop nb en inner n ts) = .error e) ∧ ∀ d s r, item nb en inner ts = .ok ((d, s), r) → pre l (loop nb en inner n ts) = pre (l.app d s) (loop nb en inner m r)) := by
  cases n with
  | zero =>
    rw [loop]
    refine ⟨fun h => ?_, fun h _ => by rw [if_neg h]; rfl, fun h m hm => by omega⟩
    rw [if_pos h]
    show Except.ok (l.cat .nil, ts.tail) = _
    rw [Its.cat_nil]
  | succ n =>
    rw [loop]
    refine ⟨fun h => ?_, fun h h0 => by omega, fun h m hm => ?_⟩
    · rw [if_pos h]
      show Except.ok (l.cat .nil, ts.tail) = _
      rw [Its.cat_nil]
    · obtain rfl : n = m := by omega
      rw [if_neg h]
      refine ⟨fun e he => by rw [he]; rfl, fun d s r hd => ?_⟩
      rw [hd]
      dsimp only
      cases loop nb en inner n r with
      | error e => rfl
      | ok lr =>
        obtain ⟨m, r'⟩ := lr
        show Except.ok (l.cat (.cons d s m), r') = Except.ok ((l.app d s).cat m, r')
        rw [Its.cat_app]
/-- The row of a block, under way. -/
structure Br (w0 w : World) (P : Nat) (s : ByteArray) (ts : List Tk) (d mb base : Nat) (v : Value) (cs : List C) (l : Its) : Prop where
  gp : Gp P w0 w
  rd : RdT w P s ts d mb
  gt : Gt w
  own : ir.Own w base v cs
  rep : Rep w (fun g => w0.heap.size ≤ g ∧ v.ownBlock ≠ some g) l cs
theorem Br.bl {w0 w w' : World} {P : Nat} {s : ByteArray} {ts : List Tk} {d mb base : Nat} {v : Value} {cs : List C} {l : Its} (h : Br w0 w P s ts d mb base v cs l) (hb : Bl w w') : Br w0 w' P s ts d mb base v cs l :=
  ⟨h.gp.trans (Gp.bl hb), h.rd.step hb, h.gt.bl hb, h.own.bl hb, h.rep.keep (fun g _ hg => Below.block hb g hg) hb.size (Kx.bl hb)⟩
theorem Br.go {w0 w w' : World} {P : Nat} {s : ByteArray} {ts ts' : List Tk} {d mb base : Nat} {v : Value} {cs : List C} {l : Its} (h : Br w0 w P s ts d mb base v cs l) (hg : Gp P w w') (hr : RdT w' P s ts' d mb) (hP0 : P < w0.heap.size) (hPb : P < base) (hGP : 6 ≤ P) : Br w0 w' P s ts' d mb base v cs l :=
  ⟨h.gp.trans hg, hr, h.gt.gp hg hGP h.rd.lt, h.own.gp hg hPb, h.rep.keep (fun g h1 hg' => hg.block g hg' (by omega)) hg.size (kx_gp h.rd hg)⟩
/-- One item more. -/
theorem Br.app {w0 w w6 : World} {P : Nat} {s : ByteArray} {ts : List Tk} {d mb base : Nat} {v : Value} {cs : List C} {l : Its} {c : C} {it : Its} {v' : Value} {w' : World} {M : Nat}
    (h : Br w0 w P s ts d mb base v cs l) (ho : IsO w c.pc c.d.ct) (hs : Sub w M c it) (hM : w0.heap.size ≤ M) (hvM : ∀ k, v.ownBlock = some k → k < M) (hb6 : w6 = w.alloc (.cells (cl c).toArray 60))
    (ho' : ir.Own w' base v' (cs ++ [c])) (hg : w6.grownBy w' v.ownBlock) (hw : v'.ownBlock = v.ownBlock ∨ v'.ownBlock = some w6.heap.size) (hPb : P < base) (hbase : base ≤ w.heap.size) (hb0 : w0.heap.size ≤ base) (hNP : 6 ≤ P) : Br w0 w' P s ts d mb base v' (cs ++ [c]) (l.app c.d it) := by
  have hbl : Bl w w6 := by rw [hb6]; exact (Bl.refl _).alloc _
  have h6 := h.bl hbl
  have hbk : ∀ k, v.ownBlock = some k → base ≤ k ∧ k < w.heap.size := h.own.block
  have hgp : Gp P w6 w' ∨ True := Or.inr trivial
  have keep : ∀ k, k < w6.heap.size → v.ownBlock ≠ some k → w'.heap[k]? = w6.heap[k]? := fun k hk hne => hg.block k hk (fun e => hne e.symm)
  have hkx : Kx w6 w' := fun b cs' hb => by
    rw [keep b (lt_of_heap hb) (fun e => by
      obtain ⟨cap, hv⟩ : ∃ cap, v = .slice (some ⟨b, 0, none⟩) cs.length cap := by
        rcases h6.own.shape with ⟨rfl, _⟩ | ⟨g, cap, rfl, _⟩
        · cases e
        · have : g = b := by
            have : (Value.slice (some ⟨g, 0, none⟩) cs.length cap).ownBlock = some g := rfl
            rw [this] at e; injection e
          subst this; exact ⟨cap, rfl⟩
      have ho6 := h6.own
      rw [hv] at ho6
      obtain ⟨cur, hcur⟩ := ho6.kind
      rw [hb] at hcur
      simp at hcur)]
    exact hb
  refine ⟨?_, ?_, ?_, ho', ?_⟩
  · exact ⟨hg.os.trans h6.gp.os, hg.tape.trans h6.gp.tape, hg.output.trans h6.gp.output, Nat.le_trans h6.gp.size hg.size, fun k hk hne => (keep k (Nat.lt_of_lt_of_le hk h6.gp.size) (fun e => by have := (hbk k e).1; omega)).trans (h6.gp.block k hk hne)⟩
  · cases hv : v.ownBlock with
    | none =>
      rw [hv] at hg
      exact h6.rd.step ⟨hg.os, hg.tape, hg.output, hg.size, fun k hk => hg.block k hk (fun e => by cases e)⟩
    | some g =>
      rw [hv] at hg
      exact h6.rd.behind hg (by have := (hbk g hv).1; omega)
  · have := h6.rd.lt
    exact h6.gt.below ⟨hg.os, hg.tape, hg.output, hg.size, fun k hk => keep k (by omega) (fun e => by have := (hbk k e).1; omega)⟩
  · have hsz : w6.heap.size = w.heap.size + 1 := by rw [hb6]; simp
    have r6 : Rep w' (fun g => w0.heap.size ≤ g ∧ v.ownBlock ≠ some g) l cs := h6.rep.keep (fun g h1 hg' => keep g hg' h1.2) hg.size hkx
    have r7 : Rep w' (fun g => w0.heap.size ≤ g ∧ v'.ownBlock ≠ some g) l cs := by
      have r5 : Rep w (fun g => (w0.heap.size ≤ g ∧ v.ownBlock ≠ some g) ∧ g < w.heap.size) l cs := h.rep.mono (fun g h1 h2 => ⟨h1, h2⟩)
      have r5' : Rep w' (fun g => (w0.heap.size ≤ g ∧ v.ownBlock ≠ some g) ∧ g < w.heap.size) l cs := (r5.keep (fun g h1 hg' => Below.block hbl g hg') hbl.size (Kx.bl hbl)).keep (fun g h1 hg' => keep g hg' h1.1.2) hg.size hkx
      refine r5'.mono (fun g h1 _ => ⟨h1.1.1, fun e => ?_⟩)
      rcases hw with hw | hw
      · rw [hw] at e; exact h1.1.2 e
      · rw [hw] at e; injection e with e; have := h1.2; omega
    refine Rep.app ((ho.keep (Kx.bl hbl)).keep hkx) ?_ r7
    have hs' : Sub w' M c it := by
      refine (hs.keep (fun g h1 h2 => Below.block hbl g h2) hbl.size (Kx.bl hbl)).keep (fun g h1 h2 => keep g h2 (fun e => by have := hvM g e; omega)) hg.size hkx
    obtain ⟨cs2, k1, k2⟩ := hs
    have hlt : ∀ g, M ≤ g → g < w.heap.size → v'.ownBlock ≠ some g := fun g h1 h2 e => by
      rcases hw with hw | hw
      · rw [hw] at e; have := hvM g e; omega
      · rw [hw] at e; injection e with e; omega
    have k1' := k1.mono (ok' := fun g => M ≤ g ∧ g < w.heap.size) (fun g h1 h2 => ⟨h1, h2⟩)
    have k2' := k2.mono (ok' := fun g => M ≤ g ∧ g < w.heap.size) (fun g h1 h2 => ⟨h1, h2⟩)
    refine ⟨cs2, ?_, ?_⟩
    · exact ((k1'.keep (fun g _ hg' => Below.block hbl g hg') hbl.size).keep (fun g h1 hg' => keep g hg' (fun e => by have := hvM g e; omega)) hg.size).mono (fun g h1 _ => ⟨by omega, hlt g h1.1 h1.2⟩)
    · exact ((k2'.keep (fun g _ hg' => Below.block hbl g hg') hbl.size (Kx.bl hbl)).keep (fun g h1 hg' => keep g hg' (fun e => by have := hvM g e; omega)) hg.size hkx).mono (fun g h1 _ => ⟨by omega, hlt g h1.1 h1.2⟩)
end Go.Proofs.YtococaecjecjgaaGreatDoor.tm
/- A reader of a template's tokens: block. -/
namespace Go.Proofs.YtococaecjecjgaaGreatDoor.tm
set_option linter.unusedVariables false
open Go.ChangeShapes Go.WideShapes Go.ChangeAt Go.RowKit Go.Shelf
open mem lx ex

theorem RdT.deep {w : World} {P d mb : Nat} {s : ByteArray} {ts : List Tk} (h : RdT w P s ts d mb) (d' : Nat) : RdT (w.setCell ⟨P, 2, none⟩ (.int .i64 (d' : Int))) P s ts d' mb := by
  obtain ⟨p, c, h1, h2, h3, h4⟩ := h.ex
  obtain ⟨⟨n, hm⟩, hne⟩ := h.mp
  have hg : Gp P w (w.setCell ⟨P, 2, none⟩ (.int .i64 (d' : Int))) := Gp.set _
  have hP := lt_of_heap h1
  refine ⟨⟨p, c, ?_, h2, In.gp h3 hg (fun y hy => by have := h4 y hy; exact ⟨by omega, by omega⟩), h4⟩, ⟨⟨n, hm.step (gp_grown hg) (fun e => by injection e with e; omega)⟩, hne⟩, h.sx, h.sz⟩
  simp [World.setCell, Array.getElem?_modify, h1]
def lenV (v : Value) : Nat := match v with | .slice _ n _ => n | _ => 0
set_option maxRecDepth 10000 in
theorem block_zero : BlkC 0 := by
  intro w P d mb s ts hk h hG hGP
  obtain rfl : d = 8 := by omega
  have c1 := want_at ⟨#[123]⟩ w P 8 mb s ts h
  rw [show L ⟨#[123]⟩ = [123] from rfl] at c1
  have hthr := throw_at (hd s.size ts) 4
  obtain ⟨q, hq⟩ : ∃ q, q = blk nb s.size 0 ts := ⟨_, rfl⟩
  rw [← hq]
  by_cases h1 : (hd s.size ts).t = [123]
  · rw [wantU_yes h1] at c1
    have HQ : Hid (q = .error (4, (hd s.size ts).a)) := by rw [hq, blk, if_pos h1]; rfl
    clear hq h1
    unfold tkV at c1 hthr
    generalize tx (hd s.size ts).t = S at *
    go_enter Tryz.func99, Tryz.ntmps99
    go_wp2_with fail
    refine c1.mono ?_
    rintro e w1 ⟨hg1, v1, rfl, rfl, hR1⟩
    have hb2 : Bl w1 (w1.alloc (.cells #[.string S, .int .i64 ((hd s.size ts).a : Int)] 145)) := (Bl.refl _).alloc _
    obtain ⟨p, c, d0, d1, d2, d3, _⟩ := (hR1.step hb2).cells
    have d2' : w1.cell? ⟨P, 2, none⟩ = some (.int .i64 8) := by obtain ⟨_, _, _, _, h, _⟩ := hR1.cells; exact h
    have hPs := hR1.lt
    have hP2 := (hR1.step hb2).lt
    go_wp2_with fail
    refine (hthr _).mono ?_
    rintro e w4 ⟨B, rfl, k1, k2, k3⟩
    unfold thrownT
    go_wp2
    exact ⟨rfl, Ans.of_err HQ.out (hg1.trans (Gp.bl (hb2.trans k3))) (by have := hg1.size; have := hb2.size; omega) k2⟩
  · rw [wantU_no h1] at c1
    have HQ : Hid (q = .error (3, (hd s.size ts).a)) := by rw [hq, blk, if_neg h1]; rfl
    clear hq h1 hthr
    go_enter Tryz.func99, Tryz.ntmps99
    go_wp2_with fail
    refine c1.mono ?_
    rintro e w1 ⟨hg1, B, rfl, hB, hA⟩
    unfold thrownT
    go_wp2
    exact ⟨rfl, Ans.of_err HQ.out hg1 hB hA⟩
set_option maxRecDepth 10000 in
set_option maxHeartbeats 4000000 in
theorem block_succ (k : Nat) (cB : BlkC k) : BlkC (k + 1) := by
  intro w P d mb s ts hk h hG hGP
  have c1 := want_at ⟨#[123]⟩ w P d mb s ts h
  rw [show L ⟨#[123]⟩ = [123] from rfl] at c1
  have hPw := h.lt
  obtain ⟨q, hq⟩ : ∃ q, q = blk nb s.size (k + 1) ts := ⟨_, rfl⟩
  rw [← hq]
  by_cases h1 : (hd s.size ts).t = [123]
  · rw [wantU_yes h1] at c1
    have HQ : Hid (loop nb s.size (blk nb s.size k) 16 ts.tail = q) := by rw [hq, blk, if_pos h1]; rfl
    have HR : Hid (Gt w ∧ BlkC k) := ⟨hG, cB⟩
    have hd8 : ((d : Int) == 8) = false := by rw [beq_eq_false_iff_ne]; omega
    have hwr : IntKind.i64.wrap ((d : Int) + 1) = (d : Int) + 1 := by rw [IntKind.wrap_i64]; omega
    have hk' : d + 1 + k = 8 := by omega
    clear hq h1 cB hG h
    unfold tkV at c1
    generalize tx (hd s.size ts).t = S at *
    go_enter Tryz.func99, Tryz.ntmps99
    go_wp2_with fail
    refine c1.mono ?_
    rintro e w1 ⟨hg1, v1, rfl, rfl, hR1⟩
    obtain ⟨w2, hw2⟩ : ∃ w2, w2 = w1.alloc (.cells #[.string S, .int .i64 ((hd s.size ts).a : Int)] 145) := ⟨_, rfl⟩
    have hb2 : Bl w1 w2 := by rw [hw2]; exact (Bl.refl _).alloc _
    have hR2 := hR1.step hb2
    obtain ⟨p, c, d0, d1, d2, d3, dz, _⟩ := hR2.cells
    have dz2 := dz 2
    have hP2 := hR2.lt
    obtain ⟨w3, hw3⟩ : ∃ w3, w3 = w2.setCell ⟨P, 2, none⟩ (.int .i64 ((d : Int) + 1)) := ⟨_, rfl⟩
    have hR3 : RdT w3 P s ts.tail (d + 1) mb := by
      have := hR2.deep (d + 1)
      rw [show (((d + 1 : Nat) : Nat) : Int) = (d : Int) + 1 by omega, ← hw3] at this
      exact this
    have hg3 : Gp P w w3 := by rw [hw3]; exact (hg1.trans (Gp.bl hb2)).trans (Gp.set _)
    obtain ⟨base, hbase⟩ : ∃ base, base = w3.heap.size := ⟨_, rfl⟩
    have H3 : Hid (Br w w3 P s ts.tail (d + 1) mb base (.slice none 0 0) [] .nil ∧ P < base ∧ w.heap.size ≤ base ∧ base = w3.heap.size) := ⟨⟨hg3, hR3, HR.out.1.gp hg3 hGP hPw, ir.Own.nil _ _, rfl⟩, by rw [hbase]; exact hR3.lt, by rw [hbase]; exact hg3.size, hbase⟩
    obtain ⟨N, hN⟩ : ∃ N, N = w1.heap.size := ⟨_, rfl⟩
    clear hg1 hR1 hb2 hR2 hR3 hg3 hbase c1 d0 d1 d3 dz
    go_upto_region 2 with fail
    rw [← hw2, ← hN]
    clear hw2 hN
    go_upto_region 5 with fail
    rw [← hw3]
    clear hw3 d2 dz2 hP2
    go_wp2
    go_loopw [4] (fun v4 wr => ∃ (cs : List C) (l : Its) (n : Nat) (ts' : List Tk), n + cs.length = 16 ∧ Hid (Br w wr P s ts' (d + 1) mb base v4 cs l ∧ base ≤ wr.heap.size ∧ pre l (loop nb s.size (blk nb s.size k) n ts') = q)) (fun v4 _ => 16 - lenV v4)
    case atStart => 
      refine ⟨[], .nil, 16, ts.tail, rfl, H3.out.1, by rw [H3.out.2.2.2]; exact Nat.le_refl _, ?_⟩
      rw [← HQ.out]
      cases loop nb s.size (blk nb s.size k) 16 ts.tail with
      | error e => rfl
      | ok lr => rfl
    case round =>
      obtain ⟨cs, l, n, ts', hn, HB⟩ := hrel
      obtain ⟨lp, lc, rfl, hlie⟩ := HB.out.1.own.lie
      have hcl := (HB.out.1.rep.len).1
      obtain ⟨m, hm⟩ : ∃ m, m = cs.length := ⟨_, rfl⟩
      have cN := next_at wr P (d + 1) mb s ts' HB.out.1.rd
      obtain ⟨T, hT⟩ : ∃ T, T = hd s.size ts' := ⟨_, rfl⟩
      rw [← hT] at cN
      obtain ⟨o1, o2, o3⟩ := loop_is s.size (blk nb s.size k) n ts' l
      rw [HB.out.2.2, ← hT] at o1 o2 o3
      have HL : Hid (ir.Lie wr (fun g => base ≤ g) lp cs.length lc cs ∧ m = cs.length ∧ m = l.len ∧ T = hd s.size ts') := ⟨hlie, hm, by rw [hm]; exact hcl, hT⟩
      have htl := tl_tx T.t
      have hthr := throw_at T 4
      unfold tkV at cN hthr
      obtain ⟨S2, hS2⟩ : ∃ S2, S2 = tx T.t := ⟨_, rfl⟩
      rw [← hS2] at cN hthr htl
      have htl' : Hid (S2.toList = T.t) := htl
      have hf0 := run_text
      have hPr := HB.out.1.rd.lt
      rw [← hm] at hn HB ⊢
      clear hlie hcl hT hS2 hm
      by_cases h125 : T.t = [125]
      · have HQ2 : Hid (q = .ok (l, ts'.tail)) := o1 h125
        rw [h125] at htl
        clear o1 o2 o3 h125 hthr
        go_wp2_with fail
        refine cN.mono ?_
        rintro e w5 ⟨rfl, hb5⟩
        have H5 := HB.out.1.bl hb5
        have cT := take_at w5 P (d + 1) mb s ts' H5.rd
        rw [← HL.out.2.2.2] at cT
        unfold tkV at cT
        go_wp2_with fail
        refine cT.mono ?_
        rintro e w6 ⟨rfl, hR6, hg6⟩
        have H6 := H5.go hg6 hR6 hPw H3.out.2.1 hGP
        obtain ⟨p6, c6, e0, e1, e2, e3, ez, _⟩ := hR6.cells
        rw [show (((d + 1 : Nat) : Nat) : Int) = (d : Int) + 1 by omega] at e2
        have ez2 := ez 2
        have hP6 := hR6.lt
        have hwm : IntKind.i64.wrap ((d : Int) + 1 - 1) = (d : Int) := by rw [IntKind.wrap_i64]; omega
        have hws : (d : Int) + 1 - 1 = (d : Int) := by omega
        have HF : Hid (Gp P w (w6.setCell ⟨P, 2, none⟩ (.int .i64 (d : Int))) ∧ RdT (w6.setCell ⟨P, 2, none⟩ (.int .i64 (d : Int))) P s ts'.tail d mb ∧ LV w.heap.size (w6.setCell ⟨P, 2, none⟩ (.int .i64 (d : Int))) (.slice lp m lc) l) := by
          have hgs : Gp P w6 (w6.setCell ⟨P, 2, none⟩ (.int .i64 (d : Int))) := Gp.set _
          have hg5 : Gp P wr (w6.setCell ⟨P, 2, none⟩ (.int .i64 (d : Int))) := ((Gp.bl hb5).trans hg6).trans hgs
          refine ⟨H6.gp.trans hgs, H6.rd.deep d, lp, lc, cs, by rw [HL.out.2.2.1], ?_, ?_⟩
          · have h1 := HL.out.1.keep (w' := w6.setCell ⟨P, 2, none⟩ (.int .i64 (d : Int))) (fun g h1 h2 => hg5.block g h2 (by have := H3.out.2.1; omega)) hg5.size
            rw [← HL.out.2.1, HL.out.2.2.1] at h1
            exact h1.mono (fun g hg _ => Nat.le_trans H3.out.2.2.1 hg)
          · exact (H6.rep.keep (fun g h1 h2 => hgs.block g h2 (by omega)) hgs.size (kx_gp H6.rd hgs)).mono (fun g h1 _ => h1.1)
        clear hb5 H5 hg6 hR6 H6 cT cN ez e0 e1 e3
        go_wp2
        go_ret
        rw [HQ2.out]
        exact ⟨HF.out.1, _, rfl, HF.out.2.2, HF.out.2.1⟩
      · have hb125 : (S2.toList == [125]) = false := by rw [htl, beq_eq_false_iff_ne]; exact h125
        cases n with
        | zero =>
          have HQ2 : Hid (q = .error (4, T.a)) := o2 h125 rfl
          have hm16 : ((m : Int) == 16) = true := by rw [beq_iff_eq]; omega
          clear o1 o2 o3 h125 htl
          go_wp2_with fail
          refine cN.mono ?_
          rintro e w5 ⟨rfl, hb5⟩
          have cN2 := next_at w5 P (d + 1) mb s ts' (HB.out.1.rd.step hb5)
          rw [← HL.out.2.2.2] at cN2
          unfold tkV at cN2
          have HS2 : Hid (S2 = tx T.t ∧ Br w w5 P s ts' (d + 1) mb base (.slice lp m lc) cs l) := ⟨by rw [← tx_L S2]; show tx (S2.data.toList) = _; rw [← ByteArray.toList_eq, htl'.out], HB.out.1.bl hb5⟩
          rw [← HS2.out.1] at cN2
          clear hb5 cN
          go_wp2_with fail
          refine cN2.mono ?_
          rintro e w6 ⟨rfl, hb6⟩
          have H6 : Hid (Br w w6 P s ts' (d + 1) mb base (.slice lp m lc) cs l) := HS2.out.2.bl hb6
          clear hb6 cN2
          go_wp2_with fail
          refine (hthr _).mono ?_
          rintro e w7 ⟨B, rfl, k1, k2, k3⟩
          unfold thrownT
          go_wp2
          exact ⟨rfl, Ans.of_err HQ2.out (H6.out.gp.trans (Gp.bl k3)) (Nat.le_trans H6.out.gp.size k1) k2⟩
        | succ n =>
          obtain ⟨o4, o5⟩ := o3 h125 n rfl
          have hm16 : ((m : Int) == 16) = false := by rw [beq_eq_false_iff_ne]; omega
          clear o1 o2 o3 h125 htl hthr
          go_wp2_with fail
          refine cN.mono ?_
          rintro e w5 ⟨rfl, hb5⟩
          have H5 : Hid (Br w w5 P s ts' (d + 1) mb base (.slice lp m lc) cs l ∧ base ≤ w5.heap.size) := ⟨HB.out.1.bl hb5, Nat.le_trans HB.out.2.1 hb5.size⟩
          have cI := item_at k HR.out.2 w5 P (d + 1) mb s ts' hk' H5.out.1.rd H5.out.1.gt hGP
          clear hb5 cN
          go_wp2_with fail
          refine cI.mono ?_
          rintro e w6 ⟨hg6, hans⟩
          cases hi : item nb s.size (blk nb s.size k) ts' with
          | error kp =>
            obtain ⟨k1, p1⟩ := kp
            rw [hi] at hans
            obtain ⟨B, rfl, hB, hA⟩ := hans
            have HQ2 : Hid (q = .error (k1, p1)) := o4 _ hi
            unfold thrownT
            clear cI o4 o5 hi
            go_wp2
            exact ⟨rfl, Ans.of_err HQ2.out (H5.out.1.gp.trans hg6) (Nat.le_trans H5.out.1.gp.size hB) hA⟩
          | ok xr =>
            obtain ⟨⟨d1, it⟩, r⟩ := xr
            rw [hi] at hans
            obtain ⟨v, rfl, ⟨c6, rfl, hd6, ho6, hs6⟩, hR6⟩ := hans
            have hq6 := o5 _ _ _ hi
            have H6 := H5.out.1.go hg6 hR6 hPw H3.out.2.1 hGP
            obtain ⟨w7, hw7⟩ : ∃ w7, w7 = w6.alloc (.cells (cl c6).toArray 60) := ⟨_, rfl⟩
            have hb7 : Bl w6 w7 := by rw [hw7]; exact (Bl.refl _).alloc _
            obtain ⟨X, hX⟩ : ∃ X, X = w6.heap.size := ⟨_, rfl⟩
            have hX7 : Iv w7 X c6 := ⟨by rw [hw7, hX]; exact new_at _ _⟩
            have hown7 := H6.own.bl hb7
            have hcells : ∀ j u, (cl c6)[j]? = some u → w7.cell? ((⟨X, 0, none⟩ : Addr).add j) = some u := fun j u hu => by
              rw [Addr.add_lit, Nat.zero_add, hX7.cell j]; exact hu
            have hb67 : base ≤ w7.heap.size := by have := H5.out.2; have := hg6.size; have := hb7.size; omega
            obtain ⟨v', w8, hr, ho8, hg8⟩ := ir.app_one w7 base (.slice lp m lc) cs c6 ⟨X, 0, none⟩ hown7 hcells (by have := HL.out.2.1; omega) hb67
            have hwh := ir_where w7 base (.slice lp m lc) cs c6 ⟨X, 0, none⟩ hown7 hcells (by have := HL.out.2.1; omega) v' w8 hr
            rw [← hd6] at ho6
            have H8 : Hid (Br w w8 P s r (d + 1) mb base v' (cs ++ [c6]) (l.app d1 it) ∧ base ≤ w8.heap.size ∧ pre (l.app d1 it) (loop nb s.size (blk nb s.size k) n r) = q ∧ lenV v' = m + 1 ∧ m + 1 = (cs ++ [c6]).length) := by
              have h1 := H6.app (c := c6) (it := it) (M := w5.heap.size) ho6 hs6 H5.out.1.gp.size (fun x hx => (H5.out.1.own.block x hx).2) hw7 ho8 hg8 hwh H3.out.2.1 (by have := H5.out.2; have := hg6.size; omega) H3.out.2.2.1 hGP
              rw [hd6] at h1
              refine ⟨h1, Nat.le_trans hb67 hg8.size, hq6.symm, ?_, by rw [List.length_append, ← HL.out.2.1]; rfl⟩
              obtain ⟨p8, c8, hv8, _⟩ := ho8.lie
              rw [hv8]
              show (cs ++ [c6]).length = m + 1
              rw [List.length_append, ← HL.out.2.1]; rfl
            have HRn : Hid _ := hr
            unfold itV
            have hcl : (cl c6).toArray = #[.int .i64 (c6.d.kd : Int), .int .i64 (c6.d.at_ : Int), .string (tx c6.d.nm), .string (tx c6.d.ty), .int .i64 (c6.d.wd : Int), .int .i64 (c6.d.od : Int), .bool c6.d.sg, .bool c6.d.mn, .pointer c6.pc, .int .i64 (c6.d.ru : Int), .string (tx c6.d.f1), .string (tx c6.d.l1), .slice c6.p c6.n c6.c] := rfl
            rw [hcl] at hw7 ⊢
            have hw7' := hw7.symm
            have hX' : w6.heap.size = X := hX.symm
            clear hcl hw7 hX hb7 hX7 hown7 hcells hb67 hr ho8 hg8 hwh ho6 hs6 hg6 hR6 H6 hi o4 o5 cI hq6 hd6
            go_wp2_with (at_builtin; refine Lib.wpList_append_run _ rfl (.tmp 31) (.tmp 34) _ _ rfl _ _ rfl rfl _ _ HRn.out ?_)
            refine ⟨⟨cs ++ [c6], l.app d1 it, n, r, by rw [← H8.out.2.2.2.2]; omega, H8.out.1, H8.out.2.1, H8.out.2.2.1⟩, ?_⟩
            rw [H8.out.2.2.2.1]
            show 16 - (m + 1) < 16 - m
            omega
  · rw [wantU_no h1] at c1
    have HQ : Hid (q = .error (3, (hd s.size ts).a)) := by rw [hq, blk, if_neg h1]; rfl
    clear hq h1
    go_enter Tryz.func99, Tryz.ntmps99
    go_wp2_with fail
    refine c1.mono ?_
    rintro e w1 ⟨hg1, B, rfl, hB, hA⟩
    unfold thrownT
    go_wp2
    exact ⟨rfl, Ans.of_err HQ.out hg1 hB hA⟩
theorem block_at (k : Nat) : BlkC k := by
  induction k with
  | zero => exact block_zero
  | succ k ih => exact block_succ k ih
end Go.Proofs.YtococaecjecjgaaGreatDoor.tm
