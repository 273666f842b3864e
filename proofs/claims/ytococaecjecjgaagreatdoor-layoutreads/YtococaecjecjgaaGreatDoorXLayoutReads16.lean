/- Texts laid together: Ly9, LyA, Ly10, Ly11, Ly12. -/
import Derived.Test.YtococaecjecjgaaGreatDoorXLayoutReads15
namespace Go.Proofs.YtococaecjecjgaaGreatDoor.ly
set_option linter.unusedVariables false
open Go.ChangeShapes Go.WideShapes Go.ChangeAt Go.RowKit
open mem lx ex tm num

theorem body_sz {s : List UInt8} {l : List Ty} {rec : Its → Env → St → Except Er (Nds × St)} {d : D} {sub : Its} {e : Env} {a k : Nat} {nd : ND} {ks : Nds} {st' : St} (h : body s l rec d sub e a k = .ok (nd, ks, st')) : nd.at_ = a ∧ nd.sz = st'.1 - a := by
  unfold body at h
  split at h
  · split at h
    · injection h with h
      simp only [Prod.mk.injEq] at h
      obtain ⟨rfl, rfl, rfl⟩ := h
      exact ⟨rfl, by simp⟩
    · cases h
  · split at h
    · split at h
      · cases h
      · split at h
        · cases h
        · injection h with h
          simp only [Prod.mk.injEq] at h
          obtain ⟨rfl, rfl, rfl⟩ := h
          exact ⟨rfl, by simp⟩
    · split at h
      · split at h
        · cases h
        · split at h
          · cases h
          · injection h with h
            simp only [Prod.mk.injEq] at h
            obtain ⟨rfl, rfl, rfl⟩ := h
            exact ⟨rfl, rfl⟩
      · split at h
        · cases h
        · split at h
          · injection h with h
            simp only [Prod.mk.injEq] at h
            obtain ⟨rfl, rfl, rfl⟩ := h
            exact ⟨rfl, by simp⟩
          · split at h
            · cases h
            · injection h with h
              simp only [Prod.mk.injEq] at h
              obtain ⟨rfl, rfl, rfl⟩ := h
              exact ⟨rfl, rfl⟩
theorem clo_one (f : Nat) (w : World) (X R S N P mb : Nat) (s : ByteArray) (l : List Ty) (a k : Nat) (c : C) (sub : Its) (m : Value) (en : Env) (h : Cv w X R S N P mb s l (a, k) c sub m ⟨c.d.nm, c.d.kd, a, 0, 0, []⟩) (hd : WK c.d) (hs : c.d.kd = 4 → OKI sub) (hm : c.d.kd = 1 ∨ c.d.kd = 3 ∨ ∃ b k0, m = .map (some b) ∧ Om w b en k0 ∧ k0 ≤ k) (hl : OKT l) (hB : BlkC s l f) (hf : 401 ≤ k + f) :
    Calls Tryz.prog 85 #[.pointer (some ⟨N, 0, none⟩), .pointer (some ⟨X, 0, none⟩), .pointer (some ⟨R, 0, none⟩), .pointer (some ⟨S, 0, none⟩)] w fun e w' => CloA w N P mb s l (body (L s) l (rdB (L s) l f) c.d sub en a k) e w' := by
  have hk4 : c.d.kd = 1 ∨ c.d.kd = 2 ∨ c.d.kd = 3 ∨ c.d.kd = 4 := hd.kd4
  rcases hk4 with h1 | h1 | h1 | h1
  · exact clo_num w X R S N P mb s l a k c sub m _ en h (hd.wd (by omega)) h1
  · rcases hm with g | g | ⟨b, k0, rfl, g1, g2⟩
    · omega
    · omega
    · exact clo_bytes w X R S N P mb s l a k c sub _ _ en h (hd.wd (by omega)) h1 g1.isM
  · exact clo_struct f w X R S N P mb s l a k c sub m en h (hd.ty h1) h1 hl hB hf
  · rcases hm with g | g | ⟨b, k0, rfl, g1, g2⟩
    · omega
    · omega
    · exact clo_when f w X R S N P mb s l a k c sub b k0 en h (hd.wd (by omega)) h1 (hs h1) g1 g2 hB hf
structure Bx (w w1 : World) (R X S Q P mb : Nat) (s : ByteArray) (l : List Ty) (st : St) (c : C) (sub : Its) (m : Value) : Prop where
  rr : Vr w1 R (.pointer (some ⟨P, 0, none⟩)) 62
  iv : Iv w1 X c
  sv : Vr w1 S m 100
  qv : Nv w1 Q ⟨[], 0, 0, 0, 0, []⟩ none 0 0
  rd : RdL w1 P mb s l st
  it : ItL w1 (fun g => g < mb) c sub
  bl : Bl w w1
  lt : P < R ∧ R < X ∧ X < S ∧ S < Q ∧ Q < w1.heap.size ∧ w.heap.size ≤ R
theorem Bx.new {w : World} {P mb : Nat} {s : ByteArray} {l : List Ty} {st : St} {c : C} {sub : Its} (m : Value) (h : RdL w P mb s l st) (hi : ItL w (fun g => g < mb) c sub) :
    Bx w ((((w.alloc (.cells #[.pointer (some ⟨P, 0, none⟩)] 62)).alloc (.cells #[.int .i64 (c.d.kd : Int), .int .i64 (c.d.at_ : Int), .string (tx c.d.nm), .string (tx c.d.ty), .int .i64 (c.d.wd : Int), .int .i64 (c.d.od : Int), .bool c.d.sg, .bool c.d.mn, .pointer c.pc, .int .i64 (c.d.ru : Int), .string (tx c.d.f1), .string (tx c.d.l1), .slice c.p c.n c.c] 60)).alloc (.cells #[m] 100)).alloc (.cells #[.string ⟨#[]⟩, .int .i64 0, .int .i64 0, .int .i64 0, .int .i64 0, .string ⟨#[]⟩, .slice none 0 0] 27)) w.heap.size (w.heap.size + 1) (w.heap.size + 1 + 1) (w.heap.size + 1 + 1 + 1) P mb s l st c sub m := by
  have v1 := Vr.new w (.pointer (some ⟨P, 0, none⟩)) 62
  generalize hw1 : w.alloc (.cells #[.pointer (some ⟨P, 0, none⟩)] 62) = w1 at *
  have e1 : w1.heap.size = w.heap.size + 1 := by rw [← hw1]; simp
  have b1 : Bl w w1 := by rw [← hw1]; exact (Bl.refl _).alloc _
  have v2 := Iv.new w1 c
  generalize hw2 : w1.alloc (.cells #[.int .i64 (c.d.kd : Int), .int .i64 (c.d.at_ : Int), .string (tx c.d.nm), .string (tx c.d.ty), .int .i64 (c.d.wd : Int), .int .i64 (c.d.od : Int), .bool c.d.sg, .bool c.d.mn, .pointer c.pc, .int .i64 (c.d.ru : Int), .string (tx c.d.f1), .string (tx c.d.l1), .slice c.p c.n c.c] 60) = w2 at *
  have e2 : w2.heap.size = w.heap.size + 1 + 1 := by rw [← hw2]; simp [e1]
  have b2 : Bl w1 w2 := by rw [← hw2]; exact (Bl.refl _).alloc _
  have v3 := Vr.new w2 m 100
  generalize hw3 : w2.alloc (.cells #[m] 100) = w3 at *
  have e3 : w3.heap.size = w.heap.size + 1 + 1 + 1 := by rw [← hw3]; simp [e2]
  have b3 : Bl w2 w3 := by rw [← hw3]; exact (Bl.refl _).alloc _
  have v4 : Nv (w3.alloc (.cells #[.string ⟨#[]⟩, .int .i64 0, .int .i64 0, .int .i64 0, .int .i64 0, .string ⟨#[]⟩, .slice none 0 0] 27)) w3.heap.size ⟨[], 0, 0, 0, 0, []⟩ none 0 0 := new_at _ _
  generalize hw4 : w3.alloc (.cells #[.string ⟨#[]⟩, .int .i64 0, .int .i64 0, .int .i64 0, .int .i64 0, .string ⟨#[]⟩, .slice none 0 0] 27) = w4 at *
  have b4 : Bl w3 w4 := by rw [← hw4]; exact (Bl.refl _).alloc _
  have hP := h.lt'
  have hQ := v4.lt
  rw [e1] at v2
  rw [e2] at v3
  rw [e3] at v4 hQ
  exact ⟨((v1.step b2).step b3).step b4, (v2.bl b3).bl b4, v3.step b4, v4, h.bl (((b1.trans b2).trans b3).trans b4), hi.bl (((b1.trans b2).trans b3).trans b4), ((b1.trans b2).trans b3).trans b4, hP, by omega, by omega, by omega, hQ, Nat.le_refl _⟩
theorem fin_store {w w2 : World} {P mb Q M : Nat} {s : ByteArray} {l : List Ty} {st : St} {nd d0 : ND} {p p0 : Option Addr} {n0 c0 c : Nat} {ks : Nds} (hq : Nv w2 Q d0 p0 n0 c0) (hk : IsNs w2 (fun g => M ≤ g) p ks.len c ks) (hr : RdL w2 P mb s l st) (hg : Gp P w w2) (hQ : w.heap.size ≤ Q) (hP : P < Q) (hQM : Q < M) :
    Nv (st7 w2 Q nd p ks.len c) Q nd p ks.len c ∧ Gp P w (st7 w2 Q nd p ks.len c) ∧ IsNs (st7 w2 Q nd p ks.len c) (fun g => w.heap.size ≤ g) p ks.len c ks ∧ RdL (st7 w2 Q nd p ks.len c) P mb s l st := by
  have hgs : Gq P Q w2 (st7 w2 Q nd p ks.len c) := st7_gq P Q nd p ks.len c
  have hgp : Gp Q w2 (st7 w2 Q nd p ks.len c) := ⟨hgs.os, hgs.tape, hgs.output, hgs.size, fun j h1 h2 => (st7_gq (w := w2) Q Q nd p ks.len c).block j h1 h2 h2⟩
  have hkx : Kx w2 (st7 w2 Q nd p ks.len c) := fun b cs hb => by
    by_cases e : b = Q
    · subst e; unfold Nv at hq; rw [hb] at hq; simp at hq
    · exact (hgp.block b (lt_of_heap hb) e).trans hb
  exact ⟨hq.store nd p ks.len c, hgs.fresh hg hQ, (hk.keep (fun g h1 h2 => hgp.block g h2 (by omega)) hgs.size).mono (fun g h1 _ => by omega), hr.gq hgs hP (hgp.block P hr.lt' (by omega)) hkx⟩
set_option maxRecDepth 10000 in
set_option maxHeartbeats 4000000 in
theorem one_at (f : Nat) (w : World) (P mb : Nat) (s : ByteArray) (l : List Ty) (st : St) (c : C) (sub : Its) (mo : Option Nat) (en : Env) (h : RdL w P mb s l st) (hi : ItL w (fun g => g < mb) c sub) (hd : WK c.d) (hs : c.d.kd = 4 → OKI sub) (hm : c.d.kd = 1 ∨ c.d.kd = 3 ∨ ∃ b k0, mo = some b ∧ Om w b en k0 ∧ k0 ≤ st.2 ∧ P < b) (hl : OKT l) (hB : BlkC s l f) (hf : 400 ≤ st.2 + f) :
    Calls Tryz.prog 52 #[.pointer (some ⟨P, 0, none⟩), itV c, .map mo] w fun e w' => NdA w P mb s l (one (L s) l (rdB (L s) l f) c.d sub en st) e w' := by
  have hF : ∀ args w, (callFunc 85 args).run Tryz.prog w = .ok (.enter 85 args) w := fun _ _ => by kernel_rfl
  obtain ⟨R, hR⟩ : ∃ R, R = w.heap.size := ⟨_, rfl⟩
  have HB := Bx.new (.map mo) h hi
  rw [← hR] at HB
  rw [itV_eq]
  obtain ⟨w1, hw1⟩ : ∃ w1, w1 = ((((w.alloc (.cells #[.pointer (some ⟨P, 0, none⟩)] 62)).alloc (.cells #[.int .i64 (c.d.kd : Int), .int .i64 (c.d.at_ : Int), .string (tx c.d.nm), .string (tx c.d.ty), .int .i64 (c.d.wd : Int), .int .i64 (c.d.od : Int), .bool c.d.sg, .bool c.d.mn, .pointer c.pc, .int .i64 (c.d.ru : Int), .string (tx c.d.f1), .string (tx c.d.l1), .slice c.p c.n c.c] 60)).alloc (.cells #[.map mo] 100)).alloc (.cells #[.string ⟨#[]⟩, .int .i64 0, .int .i64 0, .int .i64 0, .int .i64 0, .string ⟨#[]⟩, .slice none 0 0] 27)) := ⟨_, rfl⟩
  rw [← hw1] at HB
  obtain ⟨q, hq⟩ : ∃ q, q = one (L s) l (rdB (L s) l f) c.d sub en st := ⟨_, rfl⟩
  rw [← hq]
  have cNd : Calls Tryz.prog 84 #[.pointer (some ⟨P, 0, none⟩), .string (tx c.d.nm), .int .i64 (c.d.kd : Int), .func (.func 85) #[] #[.pointer (some ⟨R + 1, 0, none⟩), .pointer (some ⟨R, 0, none⟩), .pointer (some ⟨R + 1 + 1, 0, none⟩)]] w1 fun e w' => NdA w1 P mb s l q e w' := by
    by_cases hk : st.2 = 400
    · have e : q = .error (4, (st.1 : Int)) := by rw [hq]; unfold one; rw [if_pos hk]
      rw [e]
      exact node_full _ w1 P mb s l st _ _ HB.rd hk
    · have e : q = body (L s) l (rdB (L s) l f) c.d sub en st.1 (st.2 + 1) := by rw [hq]; unfold one; rw [if_neg hk]
      have hk' : st.2 < 400 := by have := h.k; omega
      refine node_at _ _ _ _ w1 P mb s l st c.d.nm c.d.kd q HB.rd hk' hF (fun nd ks st' he => ?_) (fun wx N hg hN hr hn => ?_)
      · rw [e] at he
        obtain ⟨e1, e2⟩ := body_sz he
        have := (body_back hl (rdB_back (L s) l hl f) (wr_nil l f) hd hs (by rw [L_len]; exact h.a) (show st.2 + 1 ≤ 400 by omega) he).1.1
        exact ⟨e1, e2, this⟩
      · rw [e]
        have hlt := HB.lt
        refine clo_one f wx (R + 1) R (R + 1 + 1) N P mb s l st.1 (st.2 + 1) c sub (.map mo) en ⟨HB.iv.gp hg (by omega), ex.Vr.gp HB.rr hg (by omega), ex.Vr.gp HB.sv hg (by omega), hn, hr, HB.it.keep (fun g h1 h2 => hg.block g h2 (by have := h.lt; omega)) hg.size (HB.rd.kx hg), by omega, by omega, by omega, by omega, by omega, by omega⟩ hd hs ?_ hl hB (by omega)
        rcases hm with g | g | ⟨b, k0, g1, g2, g3, g4⟩
        · exact Or.inl g
        · exact Or.inr (Or.inl g)
        · exact Or.inr (Or.inr ⟨b, k0, by rw [g1], (g2.below HB.bl).step (gp_grown hg) (fun e => by injection e with e; omega), by omega⟩)
  have H1 : Hid (Bx w w1 R (R + 1) (R + 1 + 1) (R + 1 + 1 + 1) P mb s l st c sub (.map mo) ∧ R = w.heap.size) := ⟨HB, hR⟩
  have x2 : w1.cell? ⟨R + 1, 2, none⟩ = some (.string (tx c.d.nm)) := HB.iv.cell 2
  have x0 : w1.cell? ⟨R + 1, 0, none⟩ = some (.int .i64 (c.d.kd : Int)) := HB.iv.cell 0
  have r0 := HB.rr.cell
  have hs1 := HB.iv.lt
  have hs2 := HB.rr.lt
  clear HB hq h hi hd hs hm hl hB hf
  go_enter Tryz.func52, Tryz.ntmps52
  go_upto_region 1 with fail
  rw [← hw1, ← hR]
  clear hw1 hR
  go_wp2_with fail
  refine cNd.mono ?_
  rintro e w2 ⟨hg2, hans⟩
  cases q with
  | error er =>
    obtain ⟨v, rfl, hv⟩ := hans
    clear cNd
    unfold thrL
    go_wp2
    exact ⟨rfl, (Gp.bl H1.out.1.bl).trans hg2, v, rfl, hv.from H1.out.1.bl.size⟩
  | ok r =>
    obtain ⟨nd, ks, st'⟩ := r
    obtain ⟨p, pc, rfl, hks, hr2⟩ := hans
    have hqv : Nv w2 (R + 1 + 1 + 1) ⟨[], 0, 0, 0, 0, []⟩ none 0 0 := H1.out.1.qv.gp hg2 (by have := H1.out.1.lt; omega)
    have HF : Hid (Nv (st7 w2 (R + 1 + 1 + 1) nd p ks.len pc) (R + 1 + 1 + 1) nd p ks.len pc ∧ Gp P w (st7 w2 (R + 1 + 1 + 1) nd p ks.len pc) ∧ IsNs (st7 w2 (R + 1 + 1 + 1) nd p ks.len pc) (fun g => w.heap.size ≤ g) p ks.len pc ks ∧ RdL (st7 w2 (R + 1 + 1 + 1) nd p ks.len pc) P mb s l st') :=
      fin_store hqv hks hr2 ((Gp.bl H1.out.1.bl).trans hg2) (by have := H1.out.1.lt; omega) (by have := H1.out.1.lt; omega) (by have := H1.out.1.lt; omega)
    obtain ⟨m0, m1, m2, m3, m4, m5, m6⟩ := hqv.cells
    obtain ⟨y0, y1, y2, y3, y4, y5, y6⟩ := hqv.fz
    have hq2 := hqv.lt
    unfold ndV
    clear cNd hg2 hks hr2 hqv x2 x0 r0 hs1 hs2
    go_wp2
    exact bodyPost_ret (v := ndV nd p ks.len pc) (results_cell_row rfl _ _ (R + 1 + 1 + 1) 27 _ (0, 0) _ rfl HF.out.1 Tryz.underlying27 rfl infoN) rfl ⟨HF.out.2.1, p, pc, rfl, HF.out.2.2.1, HF.out.2.2.2⟩
end Go.Proofs.YtococaecjecjgaaGreatDoor.ly
namespace Go.Proofs.YtococaecjecjgaaGreatDoor.ly
set_option linter.unusedVariables false
open Go.ChangeShapes Go.WideShapes Go.ChangeAt Go.RowKit
open mem lx ex tm

theorem nr_where (w : World) (base : Nat) (v : Value) (l : List CN) (z : CN) (x : Addr) (hown : nr.Own w base v l) (hX : ∀ j u, (cl z)[j]? = some u → w.cell? (x.add j) = some u) (hn : l.length ≤ 20000) (v' : Value) (w' : World)
    (hr : (Builtin.append_ #[25, 25] 25 #[v, .slice (some x) 1 1]).run Tryz.prog w = .ok v' w') : v'.ownBlock = v.ownBlock ∨ v'.ownBlock = some w.heap.size := by
  obtain ⟨i, hi, hz, h1, h2⟩ := nr.infoE'
  have hlen : (cl z).length = 1 * i.size := by rw [h1]; rfl
  have hone : ∀ u ∈ cl z, u.oneCell' = true := fun u hu => nr.rowE_one [z] u (by rw [nr.rowE_cons]; simp [hu])
  rcases hown.2 with ⟨rfl, hl0⟩ | ⟨g, cap, cur, rfl, hbg, hg, hnc, hcm, hcs, htake⟩
  · have hr2 := run_append_nil (P := Tryz.prog) w 25 25 27 i (.agg #[.string ⟨#[]⟩, .int .i64 0, .int .i64 0, .int .i64 0, .int .i64 0, .string ⟨#[]⟩, .slice none 0 0]) Tryz.underlying25 hi hz x 1 1 (cl z) hlen hX (by omega) (by omega) (by rw [h2]; omega)
    rw [hr2] at hr
    injection hr with e1 _
    exact Or.inr (by rw [← e1]; rfl)
  · by_cases hroom : l.length + 1 ≤ cap
    · have hr2 := run_append_room (P := Tryz.prog) w 25 25 27 i Tryz.underlying25 hi g l.length cap cur hg x 1 1 (cl z) hlen hX hone hroom (by rw [h1, hcs, nr.cl_len]; omega)
      rw [hr2] at hr
      injection hr with e1 _
      exact Or.inl (by rw [← e1]; rfl)
    · have holds : ∀ j u, (nr.rowE l)[j]? = some u → w.cell? ((⟨g, 0, none⟩ : Addr).add j) = some u := World.ownsRow.cells hown (g := g) rfl
      have hr2 := run_append_grow (P := Tryz.prog) w 25 25 27 i (.agg #[.string ⟨#[]⟩, .int .i64 0, .int .i64 0, .int .i64 0, .int .i64 0, .string ⟨#[]⟩, .slice none 0 0]) Tryz.underlying25 hi hz ⟨g, 0, none⟩ l.length cap (nr.rowE l) (by rw [h1]; exact hown.1) holds x 1 1 (cl z) hlen hX (by omega) (by omega) (growslice_fits (by omega) (by rw [h2]; omega))
      rw [hr2] at hr
      injection hr with e1 _
      exact Or.inr (by rw [← e1]; rfl)
def sr7 (w : World) (g o : Nat) (c : CN) : World := ((((((w.setCell ⟨g, o, none⟩ (.string (tx c.d.nm))).setCell ⟨g, o + 1, none⟩ (.int .i64 (c.d.kd : Int))).setCell ⟨g, o + 2, none⟩ (.int .i64 (c.d.at_ : Int))).setCell ⟨g, o + 3, none⟩ (.int .i64 (c.d.sz : Int))).setCell ⟨g, o + 4, none⟩ (.int .i64 c.d.n)).setCell ⟨g, o + 5, none⟩ (.string (tx c.d.tx))).setCell ⟨g, o + 6, none⟩ (.slice c.p c.n c.c)
theorem sr7_gp (w : World) (g o : Nat) (c : CN) : Gp g w (sr7 w g o c) := ((((((Gp.set _).trans (Gp.set _)).trans (Gp.set _)).trans (Gp.set _)).trans (Gp.set _)).trans (Gp.set _)).trans (Gp.set _)
theorem list7 (A : List Value) (z0 z1 z2 z3 z4 z5 z6 a0 a1 a2 a3 a4 a5 a6 : Value) (o : Nat) (ho : A.length = o) : (((((((A ++ [z0, z1, z2, z3, z4, z5, z6]).set o a0).set (o + 1) a1).set (o + 2) a2).set (o + 3) a3).set (o + 4) a4).set (o + 5) a5).set (o + 6) a6 = A ++ [a0, a1, a2, a3, a4, a5, a6] := by
  subst ho
  rw [List.set_append_right _ _ (Nat.le_refl _), List.set_append_right _ _ (by omega), List.set_append_right _ _ (by omega), List.set_append_right _ _ (by omega), List.set_append_right _ _ (by omega), List.set_append_right _ _ (by omega), List.set_append_right _ _ (by omega)]
  simp only [Nat.sub_self, Nat.add_sub_cancel_left]
  rfl
theorem nr_put {w : World} {base g m cap : Nat} {cs : List CN} {z : CN} (c : CN) (h : nr.Own w base (.slice (some ⟨g, 0, none⟩) m cap) (cs ++ [z])) : nr.Own (sr7 w g (cs.length * 7) c) base (.slice (some ⟨g, 0, none⟩) m cap) (cs ++ [c]) := by
  obtain ⟨h1, h2⟩ := h
  refine ⟨nr.rowE_len _, ?_⟩
  rcases h2 with ⟨h3, _⟩ | ⟨g', cap', cur, h3, h4, h5, h6, h7, h8, h9⟩
  · cases h3
  · simp only [Value.slice.injEq, Option.some.injEq, Addr.mk.injEq] at h3
    obtain ⟨⟨rfl, _, _⟩, hm, rfl⟩ := h3
    have hm : m = (cs ++ [z]).length := hm
    have hl : (cs ++ [c]).length = (cs ++ [z]).length := by simp
    refine Or.inr ⟨g, cap, _, ?_, h4, heap_set (heap_set (heap_set (heap_set (heap_set (heap_set (heap_set h5)))))), by rw [hl]; exact h6, h7, by simp [h8], ?_⟩
    · rw [hm, hl]
    · simp only [Array.toList_setIfInBounds, List.take_set]
      rw [hl, h9, nr.rowE_append, nr.rowE_append]
      have e1 : nr.rowE [z] = cl z := by rw [nr.rowE_cons]; simp [nr.rowE]
      have e2 : nr.rowE [c] = cl c := by rw [nr.rowE_cons]; simp [nr.rowE]
      rw [e1, e2]
      exact list7 _ _ _ _ _ _ _ _ _ _ _ _ _ _ _ _ (nr.rowE_len cs)
structure Gx (M : Nat) (w w' : World) : Prop where
  os : w'.os = w.os
  tape : w'.tape = w.tape
  output : w'.output = w.output
  size : w.heap.size ≤ w'.heap.size
  block : ∀ k, k < w.heap.size → k < M → w'.heap[k]? = w.heap[k]?
theorem grow_node {w3 w4 : World} {M base K m lc : Nat} {lp : Option Addr} {cs : List CN} {ks : Nds} (c z : CN) {s : Nds} (X : Nat) (h : Gn w3 M base (.slice lp m lc) cs ks) (hs : IsNs w3 (fun g => K ≤ g) c.p c.n c.c s) (hK : ∀ k, (Value.slice lp m lc).ownBlock = some k → k < K) (hMK : M ≤ K) (hMb : M ≤ base) (hb : Bl w3 w4) (hz : ∀ j u, (cl z)[j]? = some u → w4.cell? ⟨X, j, none⟩ = some u) (hm : cs.length ≤ 5000) (hbase : base ≤ w3.heap.size) :
    ∃ g c' w5, (Builtin.append_ #[25, 25] 25 #[.slice lp m lc, .slice (some ⟨X, 0, none⟩) 1 1]).run Tryz.prog w4 = .ok (.slice (some ⟨g, 0, none⟩) (m + 1) c') w5 ∧ m = cs.length ∧ g < w5.heap.size ∧ base ≤ g ∧ (∀ j u, (cl z)[j]? = some u → w5.cell? ⟨g, m * 7 + j, none⟩ = some u) ∧ (∀ j, w5.frozen? ⟨g, j, none⟩ = false) ∧
      Gn (sr7 w5 g (m * 7) c) M base (.slice (some ⟨g, 0, none⟩) (m + 1) c') (cs ++ [c]) (ks.app c.d s) ∧ Gx base w4 w5 ∧ Gx base w4 (sr7 w5 g (m * 7) c) ∧ Kx w4 (sr7 w5 g (m * 7) c) := by
  have hl : m = cs.length := by
    rcases h.own.shape with ⟨e1, e2⟩ | ⟨g, cap, e1, _⟩
    · injection e1 with _ e _; rw [e, e2]; rfl
    · injection e1 with _ e _
  have hown : nr.Own w4 base (.slice lp m lc) cs := h.own.bl hb
  have hX : ∀ j u, (cl z)[j]? = some u → w4.cell? ((⟨X, 0, none⟩ : Addr).add j) = some u := fun j u hu => by rw [Addr.add_lit, Nat.zero_add]; exact hz j u hu
  have hb4 : base ≤ w4.heap.size := Nat.le_trans hbase hb.size
  obtain ⟨v', w5, hr, ho, hg⟩ := nr.app_one w4 base (.slice lp m lc) cs z ⟨X, 0, none⟩ hown hX (by omega) hb4
  have hwh := nr_where w4 base (.slice lp m lc) cs z ⟨X, 0, none⟩ hown hX (by omega) v' w5 hr
  rcases ho.shape with ⟨_, e2⟩ | ⟨g, c', e1, e2, e3, e4, e5, e6, e7⟩
  · simp at e2
  · have hlen : (cs ++ [z]).length = m + 1 := by rw [List.length_append, hl]; rfl
    rw [hlen] at e1
    subst e1
    have hput := nr_put c ho
    rw [← hl] at hput
    have hbk : ∀ k, k < base → (some k : Option Nat) ≠ (Value.slice lp m lc).ownBlock := fun k hk e => by have := (hown.block k e.symm).1; omega
    have hsg := sr7_gp w5 g (m * 7) c
    have hgg : w4.grownBy (sr7 w5 g (m * 7) c) (Value.slice lp m lc).ownBlock := by
      refine ⟨hsg.os.trans hg.os, hsg.tape.trans hg.tape, hsg.output.trans hg.output, Nat.le_trans hg.size hsg.size, fun k hk hne => ?_⟩
      have hkg : k ≠ g := fun e => by
        subst e
        rcases hwh with hwh | hwh
        · exact hne (by rw [← hwh]; rfl)
        · have : some k = some w4.heap.size := hwh
          injection this with this; omega
      exact (hsg.block k (Nat.lt_of_lt_of_le hk hg.size) hkg).trans (hg.block k hk hne)
    refine ⟨g, c', w5, hr, hl, e3, e2, fun j u hu => ?_, e6, h.app hs hK hMK hb hput hgg hwh, ⟨hg.os, hg.tape, hg.output, hg.size, fun k hk hkb => hg.block k hk (hbk k hkb)⟩, ⟨hgg.os, hgg.tape, hgg.output, hgg.size, fun k hk hkb => hgg.block k hk (hbk k hkb)⟩, fun b cs' hb => (hgg.block b (lt_of_heap hb) (fun e => ?_)).trans hb⟩
    rotate_left
    · rcases hown.2 with ⟨e8, _⟩ | ⟨g', cap', cur, e8, _, e9, _⟩
      · rw [e8] at e; cases e
      · rw [e8] at e
        have : b = g' := by injection e
        subst this
        rw [hb] at e9
        simp at e9
    have hj : j < 7 := by
      have := (List.getElem?_eq_some_iff.1 hu).1
      rw [nr.cl_len] at this
      exact this
    refine e7 (m * 7 + j) u ?_
    rw [nr.rowE_append, List.getElem?_append_right (by rw [nr.rowE_len, hl]; omega), nr.rowE_len, hl, Nat.add_sub_cancel_left, show nr.rowE [z] = cl z by rw [nr.rowE_cons]; simp [nr.rowE]]
    exact hu
theorem set_comm {w : World} {a b : Addr} (h : a.block ≠ b.block) (x y : Value) : (w.setCell a x).setCell b y = (w.setCell b y).setCell a x := by
  unfold World.setCell
  congr 1
  apply Array.ext_getElem?
  intro i
  simp only [Array.getElem?_modify]
  by_cases h1 : a.block = i <;> by_cases h2 : b.block = i
  · exact absurd (h1.trans h2.symm) h
  · simp [h1, h2]
  · simp [h1, h2]
  · simp [h1, h2]
theorem sr7_comm {w : World} {g o N j : Nat} {c : CN} (h : N ≠ g) (v : Value) : sr7 (w.setCell ⟨N, j, none⟩ v) g o c = (sr7 w g o c).setCell ⟨N, j, none⟩ v := by
  unfold sr7
  rw [set_comm (a := ⟨N, j, none⟩) (b := ⟨g, o, none⟩) h, set_comm (a := ⟨N, j, none⟩) (b := ⟨g, o + 1, none⟩) h, set_comm (a := ⟨N, j, none⟩) (b := ⟨g, o + 2, none⟩) h, set_comm (a := ⟨N, j, none⟩) (b := ⟨g, o + 3, none⟩) h, set_comm (a := ⟨N, j, none⟩) (b := ⟨g, o + 4, none⟩) h, set_comm (a := ⟨N, j, none⟩) (b := ⟨g, o + 5, none⟩) h, set_comm (a := ⟨N, j, none⟩) (b := ⟨g, o + 6, none⟩) h]
end Go.Proofs.YtococaecjecjgaaGreatDoor.ly
namespace Go.Proofs.YtococaecjecjgaaGreatDoor.ly
set_option linter.unusedVariables false
set_option linter.unusedSimpArgs false
open Go.ChangeShapes Go.WideShapes Go.ChangeAt Go.RowKit
open mem lx ex tm num

def Nds.cat : Nds → Nds → Nds
  | .nil, t => t
  | .cons d s r, t => .cons d s (r.cat t)
theorem Nds.cat_nil (ks : Nds) : ks.cat .nil = ks := by
  induction ks with
  | nil => rfl
  | cons d s r _ ih => rw [Nds.cat, ih]
theorem Nds.app_cat (ks : Nds) (d : ND) (s t : Nds) : (ks.app d s).cat t = ks.cat (.cons d s t) := by
  induction ks with
  | nil => rfl
  | cons e u r _ ih => rw [Nds.app, Nds.cat, Nds.cat, ih]
theorem Nds.app_len (ks : Nds) (d : ND) (s : Nds) : (ks.app d s).len = ks.len + 1 := by
  induction ks with
  | nil => rfl
  | cons e u r _ ih => rw [Nds.app, Nds.len, Nds.len, ih]
def preN (ks : Nds) : Except Er (Nds × St) → Except Er (Nds × St)
  | .error e => .error e
  | .ok (t, st) => .ok (ks.cat t, st)
theorem preN_nil (r : Except Er (Nds × St)) : preN .nil r = r := by
  rcases r with e | ⟨t, st⟩ <;> rfl
theorem reps_end (s : List UInt8) (l : List Ty) (rec : Its → Env → St → Except Er (Nds × St)) (d : D) (sub : Its) (e : Env) (ks : Nds) (st : St) : preN ks (reps s l rec d sub e 0 st) = .ok (ks, st) := by
  rw [reps, preN, Nds.cat_nil]
theorem reps_step (s : List UInt8) (l : List Ty) (rec : Its → Env → St → Except Er (Nds × St)) (d : D) (sub : Its) (e : Env) (n : Nat) (ks : Nds) (st : St) :
    (∀ er, one s l rec d sub e st = .error er → preN ks (reps s l rec d sub e (n + 1) st) = .error er) ∧ ∀ nd k' st', one s l rec d sub e st = .ok (nd, k', st') → preN ks (reps s l rec d sub e (n + 1) st) = preN (ks.app nd k') (reps s l rec d sub e n st') := by
  rw [reps]
  refine ⟨fun er h => by rw [h]; rfl, fun nd k' st' h => ?_⟩
  rw [h]
  dsimp only
  rcases reps s l rec d sub e n st' with er | ⟨t, st2⟩
  · rfl
  · show Except.ok _ = Except.ok _
    rw [Nds.app_cat]
structure Mn (w wr : World) (X R S N P mb M : Nat) (s : ByteArray) (l : List Ty) (st : St) (c : C) (sub : Its) (mo : Option Nat) (en : Env) (nd : ND) (p : Option Addr) (n lc : Nat) (cs : List CN) (ks : Nds) : Prop where
  gq : Gq P N w wr
  iv : Iv wr X c
  rr : Vr wr R (.pointer (some ⟨P, 0, none⟩)) 62
  sv : Vr wr S (.map mo) 100
  nv : Nv wr N nd p n lc
  rd : RdL wr P mb s l st
  it : ItL wr (fun g => g < mb) c sub
  gn : Gn wr M M (.slice p n lc) cs ks
  sm : c.d.kd = 1 ∨ c.d.kd = 3 ∨ ∃ b k0, mo = some b ∧ Om wr b en k0 ∧ k0 ≤ st.2 ∧ P < b ∧ b < N
  lt : P < X ∧ P < R ∧ P < S ∧ X < N ∧ R < N ∧ S < N ∧ N < M ∧ w.heap.size ≤ M ∧ M ≤ wr.heap.size
structure Gm (M P N : Nat) (w w' : World) : Prop where
  os : w'.os = w.os
  tape : w'.tape = w.tape
  output : w'.output = w.output
  size : w.heap.size ≤ w'.heap.size
  block : ∀ k, k < w.heap.size → k < M → k ≠ P → k ≠ N → w'.heap[k]? = w.heap[k]?
theorem Gm.gp {M P N : Nat} {w w' : World} (h : Gp P w w') : Gm M P N w w' := ⟨h.os, h.tape, h.output, h.size, fun k h1 _ h3 _ => h.block k h1 h3⟩
theorem Gm.gx {M P N : Nat} {w w' : World} (h : Gx M w w') : Gm M P N w w' := ⟨h.os, h.tape, h.output, h.size, fun k h1 h2 _ _ => h.block k h1 h2⟩
theorem Gm.setN {M P N j : Nat} {w : World} (v : Value) : Gm M P N w (w.setCell ⟨N, j, none⟩ v) := by
  have h := Gp.set (P := N) (j := j) (w := w) v
  exact ⟨h.os, h.tape, h.output, h.size, fun k h1 _ _ h4 => h.block k h1 h4⟩
theorem Gm.trans {M P N : Nat} {a b c : World} (h : Gm M P N a b) (k : Gm M P N b c) : Gm M P N a c :=
  ⟨k.os.trans h.os, k.tape.trans h.tape, k.output.trans h.output, Nat.le_trans h.size k.size, fun j h1 h2 h3 h4 => (k.block j (Nat.lt_of_lt_of_le h1 h.size) h2 h3 h4).trans (h.block j h1 h2 h3 h4)⟩
theorem Mn.go {w wr w' : World} {X R S N P mb M : Nat} {s : ByteArray} {l : List Ty} {st st' : St} {c : C} {sub : Its} {mo : Option Nat} {en : Env} {nd : ND} {p p' : Option Addr} {n lc n' lc' : Nat} {cs cs' : List CN} {ks ks' : Nds} (h : Mn w wr X R S N P mb M s l st c sub mo en nd p n lc cs ks) (hg : Gm M P N wr w') (hx : Kx wr w') (hr : RdL w' P mb s l st') (hk : st.2 ≤ st'.2) (hn : Nv w' N nd p' n' lc') (hG : Gn w' M M (.slice p' n' lc') cs' ks') : Mn w w' X R S N P mb M s l st' c sub mo en nd p' n' lc' cs' ks' := by
  obtain ⟨l1, l2, l3, l4, l5, l6, l7, l8, l9⟩ := h.lt
  have blk : ∀ b, b < N → b ≠ P → b < wr.heap.size → w'.heap[b]? = wr.heap[b]? := fun b h1 h2 h3 => hg.block b h3 (by omega) h2 (by omega)
  refine ⟨⟨hg.os.trans h.gq.os, hg.tape.trans h.gq.tape, hg.output.trans h.gq.output, Nat.le_trans h.gq.size hg.size, fun k h1 h2 h3 => (hg.block k (Nat.lt_of_lt_of_le h1 h.gq.size) (by omega) h2 h3).trans (h.gq.block k h1 h2 h3)⟩, ⟨(blk X l4 (by omega) h.iv.lt).trans h.iv.h⟩, (blk R l5 (by omega) h.rr.lt).trans h.rr, (blk S l6 (by omega) h.sv.lt).trans h.sv, hn, hr, ?_, hG, ?_, l1, l2, l3, l4, l5, l6, l7, l8, by have := hg.size; omega⟩
  · exact h.it.keep (fun g h1 h2 => blk g (by have := h.rd.lt; omega) (by have := h.rd.lt; omega) h2) hg.size hx
  · rcases h.sm with g | g | ⟨b, k0, g1, g2, g3, g4, g5⟩
    · exact Or.inl g
    · exact Or.inr (Or.inl g)
    · refine Or.inr (Or.inr ⟨b, k0, g1, ?_, by omega, g4, g5⟩)
      obtain ⟨D, ⟨es, clock, q1, q2, q3, q4⟩, q5⟩ := g2
      exact ⟨D, ⟨es, clock, by rw [blk b g5 (by omega) (lt_of_heap q1)]; exact q1, q2, q3, q4⟩, q5⟩
theorem Mn.bl {w wr w' : World} {X R S N P mb M : Nat} {s : ByteArray} {l : List Ty} {st : St} {c : C} {sub : Its} {mo : Option Nat} {en : Env} {nd : ND} {p : Option Addr} {n lc : Nat} {cs : List CN} {ks : Nds} (h : Mn w wr X R S N P mb M s l st c sub mo en nd p n lc cs ks) (hb : Bl wr w') : Mn w w' X R S N P mb M s l st c sub mo en nd p n lc cs ks :=
  h.go (Gm.gp (Gp.bl hb)) (Kx.bl hb) (h.rd.bl hb) (Nat.le_refl _) (h.nv.bl hb) (h.gn.bl hb (Nat.le_refl _))
theorem Mn.S {w wr : World} {X R S N P mb M : Nat} {s : ByteArray} {l : List Ty} {st : St} {c : C} {sub : Its} {mo : Option Nat} {en : Env} {nd : ND} {p : Option Addr} {n lc : Nat} {cs : List CN} {ks : Nds} (h : Mn w wr X R S N P mb M s l st c sub mo en nd p n lc cs ks) : CvS wr X R S P c (.map mo) := ⟨h.rr.cell, h.sv.cell, h.iv.facts⟩
theorem Mn.one {f : Nat} {w wr : World} {X R S N P mb M : Nat} {s : ByteArray} {l : List Ty} {st : St} {c : C} {sub : Its} {mo : Option Nat} {en : Env} {nd : ND} {p : Option Addr} {n lc : Nat} {cs : List CN} {ks : Nds} (h : Mn w wr X R S N P mb M s l st c sub mo en nd p n lc cs ks) (hd : WK c.d) (hs : c.d.kd = 4 → OKI sub) (hl : OKT l) (hB : BlkC s l f) (hf : 400 ≤ st.2 + f) :
    Calls Tryz.prog 52 #[.pointer (some ⟨P, 0, none⟩), itV c, .map mo] wr fun e w' => NdA wr P mb s l (one (L s) l (rdB (L s) l f) c.d sub en st) e w' := by
  refine one_at f wr P mb s l st c sub mo en h.rd h.it hd hs ?_ hl hB hf
  rcases h.sm with g | g | ⟨b, k0, g1, g2, g3, g4, g5⟩
  · exact Or.inl g
  · exact Or.inr (Or.inl g)
  · exact Or.inr (Or.inr ⟨b, k0, g1, g2, g3, g4⟩)
theorem one_le {s : List UInt8} {l : List Ty} {f : Nat} {d : D} {sub : Its} {e : Env} {st : St} {nd : ND} {ks : Nds} {st' : St} (hl : OKT l) (hd : WK d) (hs : d.kd = 4 → OKI sub) (ha : st.1 ≤ s.length) (hk : st.2 ≤ 400) (h : one s l (rdB s l f) d sub e st = .ok (nd, ks, st')) : Fw s st st' ∧ st.2 < st'.2 := by
  have h1 := (one_back hl (rdB_back s l hl f) (wr_nil l f) hd hs ha hk h).1
  refine ⟨h1, ?_⟩
  unfold ly.one at h
  split at h
  · cases h
  · have := (body_back hl (rdB_back s l hl f) (wr_nil l f) hd hs ha (show st.2 + 1 ≤ 400 by omega) h).1.2.2.1
    dsimp only at this
    omega
def manyQ (s : List UInt8) (l : List Ty) (rec : Its → Env → St → Except Er (Nds × St)) (d : D) (sub : Its) (e : Env) (a k : Nat) : Except Er (ND × Nds × St) :=
  match cnt d e a with
  | .error x => .error x
  | .ok n => match reps s l rec d sub e n (a, k) with
    | .error x => .error x
    | .ok (ks, st') => .ok (⟨d.nm, 9, a, st'.1 - a, 0, []⟩, ks, st')
def zN : CN := ⟨⟨[], 0, 0, 0, 0, []⟩, none, 0, 0⟩
def CvN (w : World) (X R S P N : Nat) (p : Option Addr) (j lc : Nat) (c : C) (mo : Option Nat) : Prop := w.cell? ⟨R, 0, none⟩ = some (.pointer (some ⟨P, 0, none⟩)) ∧ w.cell? ⟨S, 0, none⟩ = some (.map mo) ∧ w.cell? ⟨X, 0, none⟩ = some (.int .i64 (c.d.kd : Int)) ∧ w.cell? ⟨X, 1, none⟩ = some (.int .i64 (c.d.at_ : Int)) ∧ w.cell? ⟨X, 2, none⟩ = some (.string (tx c.d.nm)) ∧ w.cell? ⟨X, 3, none⟩ = some (.string (tx c.d.ty)) ∧ w.cell? ⟨X, 4, none⟩ = some (.int .i64 (c.d.wd : Int)) ∧ w.cell? ⟨X, 5, none⟩ = some (.int .i64 (c.d.od : Int)) ∧ w.cell? ⟨X, 6, none⟩ = some (.bool c.d.sg) ∧ w.cell? ⟨X, 7, none⟩ = some (.bool c.d.mn) ∧ w.cell? ⟨X, 8, none⟩ = some (.pointer c.pc) ∧ w.cell? ⟨X, 9, none⟩ = some (.int .i64 (c.d.ru : Int)) ∧ w.cell? ⟨X, 10, none⟩ = some (.string (tx c.d.f1)) ∧ w.cell? ⟨X, 11, none⟩ = some (.string (tx c.d.l1)) ∧ w.cell? ⟨X, 12, none⟩ = some (.slice c.p c.n c.c) ∧ w.cell? ⟨N, 6, none⟩ = some (.slice p j lc)
theorem CvN.of {w : World} {X R S P N j lc : Nat} {p : Option Addr} {c : C} {mo : Option Nat} (h : CvS w X R S P c (.map mo)) (hp : w.cell? ⟨N, 6, none⟩ = some (.slice p j lc)) : CvN w X R S P N p j lc c mo := ⟨h.1, h.2.1, h.2.2.1, h.2.2.2.1, h.2.2.2.2.1, h.2.2.2.2.2.1, h.2.2.2.2.2.2.1, h.2.2.2.2.2.2.2.1, h.2.2.2.2.2.2.2.2.1, h.2.2.2.2.2.2.2.2.2.1, h.2.2.2.2.2.2.2.2.2.2.1, h.2.2.2.2.2.2.2.2.2.2.2.1, h.2.2.2.2.2.2.2.2.2.2.2.2.1, h.2.2.2.2.2.2.2.2.2.2.2.2.2.1, h.2.2.2.2.2.2.2.2.2.2.2.2.2.2, hp⟩
theorem CvN.bl {w w' : World} {X R S P N j lc : Nat} {p : Option Addr} {c : C} {mo : Option Nat} (h : CvN w X R S P N p j lc c mo) (hb : Bl w w') : CvN w' X R S P N p j lc c mo := ⟨at_bl hb h.1, at_bl hb h.2.1, at_bl hb h.2.2.1, at_bl hb h.2.2.2.1, at_bl hb h.2.2.2.2.1, at_bl hb h.2.2.2.2.2.1, at_bl hb h.2.2.2.2.2.2.1, at_bl hb h.2.2.2.2.2.2.2.1, at_bl hb h.2.2.2.2.2.2.2.2.1, at_bl hb h.2.2.2.2.2.2.2.2.2.1, at_bl hb h.2.2.2.2.2.2.2.2.2.2.1, at_bl hb h.2.2.2.2.2.2.2.2.2.2.2.1, at_bl hb h.2.2.2.2.2.2.2.2.2.2.2.2.1, at_bl hb h.2.2.2.2.2.2.2.2.2.2.2.2.2.1, at_bl hb h.2.2.2.2.2.2.2.2.2.2.2.2.2.2.1, at_bl hb h.2.2.2.2.2.2.2.2.2.2.2.2.2.2.2⟩
theorem lit_cells (w : World) : ∀ j u, (cl zN)[j]? = some u → (w.alloc (.cells #[.string ⟨#[]⟩, .int .i64 0, .int .i64 0, .int .i64 0, .int .i64 0, .string ⟨#[]⟩, .slice none 0 0] 27)).cell? ⟨w.heap.size, j, none⟩ = some u := fun j u hu => by
  rw [cell_of (new_at _ _)]
  have e : tx ([] : List UInt8) = ⟨#[]⟩ := rfl
  simpa [cl, zN, e] using hu
theorem CvS.gp {w w' : World} {X R S P : Nat} {c : C} {m : Value} (h : CvS w X R S P c m) (hg : Gp P w w') (hl : P < X ∧ P < R ∧ P < S) : CvS w' X R S P c m := by
  have key : ∀ (b k : Nat) (u : Value), P < b → w.cell? ⟨b, k, none⟩ = some u → w'.cell? ⟨b, k, none⟩ = some u := fun b k u hb hc => by
    have hlt : b < w.heap.size := by
      unfold World.cell? at hc
      cases h0 : w.heap[b]? with
      | none => simp [h0] at hc
      | some o => exact lt_of_heap h0
    unfold World.cell? at hc ⊢
    dsimp only at hc ⊢
    rw [hg.block b hlt (by omega)]
    exact hc
  obtain ⟨h1, h2, h3, h4, h5, h6, h7, h8, h9, h10, h11, h12, h13, h14, h15⟩ := h
  obtain ⟨hX, hR, hS⟩ := hl
  exact ⟨key _ _ _ hR h1, key _ _ _ hS h2, key _ _ _ hX h3, key _ _ _ hX h4, key _ _ _ hX h5, key _ _ _ hX h6, key _ _ _ hX h7, key _ _ _ hX h8, key _ _ _ hX h9, key _ _ _ hX h10, key _ _ _ hX h11, key _ _ _ hX h12, key _ _ _ hX h13, key _ _ _ hX h14, key _ _ _ hX h15⟩
theorem Mn.grow {w wr w3 w4 : World} {X R S N P mb M K : Nat} {s : ByteArray} {l : List Ty} {st st' : St} {c : C} {sub : Its} {mo : Option Nat} {en : Env} {nd nd1 : ND} {p kp : Option Addr} {n lc kc : Nat} {cs : List CN} {ks k1 : Nds} (Y : Nat) (h : Mn w wr X R S N P mb M s l st c sub mo en nd p n lc cs ks) (hg3 : Gp P wr w3) (hr3 : RdL w3 P mb s l st') (hk : st.2 ≤ st'.2) (hs : IsNs w3 (fun g => K ≤ g) kp k1.len kc k1) (hK : wr.heap.size ≤ K) (hb : Bl w3 w4) (hz : ∀ j u, (cl zN)[j]? = some u → w4.cell? ⟨Y, j, none⟩ = some u) (hm : n ≤ 5000) :
    ∃ g c' w5, (Builtin.append_ #[25, 25] 25 #[.slice p n lc, .slice (some ⟨Y, 0, none⟩) 1 1]).run Tryz.prog w4 = .ok (.slice (some ⟨g, 0, none⟩) (n + 1) c') w5 ∧ g < w5.heap.size ∧ N ≠ g ∧ (∀ j u, (cl zN)[j]? = some u → w5.cell? ⟨g, n * 7 + j, none⟩ = some u) ∧ (∀ j, w5.frozen? ⟨g, j, none⟩ = false) ∧ w5.cell? ⟨N, 6, none⟩ = some (.slice p n lc) ∧ w5.frozen? ⟨N, 6, none⟩ = false ∧ N < w5.heap.size ∧
      Mn w ((sr7 w5 g (n * 7) ⟨nd1, kp, k1.len, kc⟩).setCell ⟨N, 6, none⟩ (.slice (some ⟨g, 0, none⟩) (n + 1) c')) X R S N P mb M s l st' c sub mo en nd (some ⟨g, 0, none⟩) (n + 1) c' (cs ++ [⟨nd1, kp, k1.len, kc⟩]) (ks.app nd1 k1) := by
  obtain ⟨l1, l2, l3, l4, l5, l6, l7, l8, l9⟩ := h.lt
  have hG3 : Gn w3 M M (.slice p n lc) cs ks := h.gn.keep (fun g h1 h2 => hg3.block g h2 (by omega)) hg3.size (Nat.le_refl _)
  have hown : ∀ k, (Value.slice p n lc).ownBlock = some k → k < K := fun k hk => by have := (h.gn.own.block k hk).2; omega
  have hn : n = cs.length := by
    rcases h.gn.own.shape with ⟨e1, e2⟩ | ⟨g, cap, e1, _⟩
    · injection e1 with _ e _; rw [e, e2]; rfl
    · injection e1 with _ e _
  obtain ⟨g, c', w5, q1, q2, q3, q4, q5, q6, q7, q8, q9, q10⟩ := grow_node (⟨nd1, kp, k1.len, kc⟩ : CN) zN Y hG3 hs hown (by omega) (Nat.le_refl _) hb hz (by omega) (by have := hg3.size; omega)
  have hn3 : Nv w4 N nd p n lc := (h.nv.gp hg3 (by omega)).bl hb
  have hn5 : Nv w5 N nd p n lc := (q8.block N hn3.lt l7).trans hn3
  have hn6 : Nv (sr7 w5 g (n * 7) ⟨nd1, kp, k1.len, kc⟩) N nd p n lc := (q9.block N hn3.lt l7).trans hn3
  have hr4 := hr3.bl hb
  have hr6 : RdL (sr7 w5 g (n * 7) ⟨nd1, kp, k1.len, kc⟩) P mb s l st' :=
    ⟨(q9.block P hr4.lt' (by omega)).trans hr4.at_, hr4.mp.keep (fun x hx => q9.block x (by have := hr4.lt; have := hr4.lt'; omega) (by have := hr4.lt; omega)) q9.size q10, hr4.lt, hr4.a, hr4.k, hr4.sz⟩
  refine ⟨g, c', w5, q1, q3, by omega, q5, q6, hn5.cells.2.2.2.2.2.2, hn5.fz.2.2.2.2.2.2, hn5.lt, ?_⟩
  have hsN := Gp.set (P := N) (j := 6) (w := sr7 w5 g (n * 7) ⟨nd1, kp, k1.len, kc⟩) (.slice (some ⟨g, 0, none⟩) (n + 1) c')
  refine h.go ((((Gm.gp hg3).trans (Gm.gp (Gp.bl hb))).trans (Gm.gx q9)).trans (Gm.setN _)) ((((h.rd.kx hg3).trans (Kx.bl hb)).trans q10).trans (kx_set hn6)) (hr6.setN hn6 (by omega)) hk (hn6.setK _ _ _) (q7.keep (fun x h1 h2 => hsN.block x h2 (by omega)) hsN.size (Nat.le_refl _))
set_option maxRecDepth 10000 in
set_option maxHeartbeats 8000000 in
theorem clo_many (f : Nat) (w : World) (X R S N P mb : Nat) (s : ByteArray) (l : List Ty) (a k : Nat) (c : C) (sub : Its) (mo : Option Nat) (en : Env) (h : Cv w X R S N P mb s l (a, k) c sub (.map mo) ⟨c.d.nm, 9, a, 0, 0, []⟩) (hd : WD c.d) (hs : c.d.kd = 4 → OKI sub) (hmn : c.d.mn = true) (hm : ∃ b k0, mo = some b ∧ Om w b en k0 ∧ k0 ≤ k ∧ P < b ∧ b < N) (hl : OKT l) (hB : BlkC s l f) (hf : 401 ≤ k + f) :
    Calls Tryz.prog 149 #[.pointer (some ⟨N, 0, none⟩), .pointer (some ⟨R, 0, none⟩), .pointer (some ⟨X, 0, none⟩), .pointer (some ⟨S, 0, none⟩)] w fun e w' => CloA w N P mb s l (manyQ (L s) l (rdB (L s) l f) c.d sub en a k) e w' := by
  obtain ⟨x, hct, hwx⟩ := wx_of hd (Or.inr (Or.inr hmn))
  have hX : IsX w (.pointer c.pc) x := by have := h.it.1; rw [hct] at this; exact this
  have hisM : IsM w (.map mo) en := by obtain ⟨b, k0, rfl, g, _⟩ := hm; exact g.isM
  have cC := count_at c (.map mo) en x w P mb s l (a, k) h.rd hct hX (wx_okb hwx) hisM
  dsimp only at cC
  rw [itV_eq] at cC
  obtain ⟨q, hq⟩ : ∃ q, q = manyQ (L s) l (rdB (L s) l f) c.d sub en a k := ⟨_, rfl⟩
  have hqe : ∀ er, cnt c.d en a = .error er → q = .error er := fun er he => by rw [hq]; unfold manyQ; rw [he]
  have hqo : ∀ n, cnt c.d en a = .ok n → (∀ er, reps (L s) l (rdB (L s) l f) c.d sub en n (a, k) = .error er → q = .error er) ∧ ∀ ks st', reps (L s) l (rdB (L s) l f) c.d sub en n (a, k) = .ok (ks, st') → q = .ok (⟨c.d.nm, 9, a, st'.1 - a, 0, []⟩, ks, st') := fun n he => by
    rw [hq]; unfold manyQ; rw [he]
    dsimp only
    exact ⟨fun er h => by rw [h], fun ks st h => by rw [h]⟩
  rw [← hq]
  obtain ⟨r, hr⟩ : ∃ r, r = cnt c.d en a := ⟨_, rfl⟩
  rw [← hr] at cC hqe hqo
  have HC : Hid (Cv w X R S N P mb s l (a, k) c sub (.map mo) ⟨c.d.nm, 9, a, 0, 0, []⟩ ∧ (∃ b k0, mo = some b ∧ Om w b en k0 ∧ k0 ≤ k ∧ P < b ∧ b < N)) := ⟨h, hm⟩
  have HBK : Hid (BlkC s l f ∧ 401 ≤ k + f ∧ WK c.d ∧ (c.d.kd = 4 → OKI sub) ∧ OKT l) := ⟨hB, hf, Or.inl hd, hs, hl⟩
  obtain ⟨s1, s2, x0, x1, x2, x3, x4, x5, x6, x7, x8, x9, x10, x11, x12⟩ := h.S
  have hXs := h.iv.lt
  have hRs := h.rr.lt
  have hSs := h.sv.lt
  clear hq h hd hct hwx hX hr hB hf hs hm hl hisM hmn
  go_enter Tryz.func149, Tryz.ntmps149
  go_wp2_with fail
  refine cC.mono ?_
  rintro e w2 ⟨hb2, hans⟩
  cases r with
  | error er =>
    obtain ⟨v, rfl, hv⟩ := hans
    have HQ : Hid (q = .error er) := hqe er rfl
    clear hqe hqo cC
    unfold thrL
    go_wp2
    rw [HQ.out]
    exact ⟨rfl, Gq.gp (Gp.bl hb2), v, rfl, hv⟩
  | ok n =>
    dsimp only at hans
    subst hans
    obtain ⟨hqa, hqb⟩ := hqo n rfl
    obtain ⟨Q, hQ⟩ : ∃ Q, Q = reps (L s) l (rdB (L s) l f) c.d sub en n (a, k) := ⟨_, rfl⟩
    rw [← hQ] at hqa hqb
    obtain ⟨M, hM⟩ : ∃ M, M = w2.heap.size := ⟨_, rfl⟩
    have HQQ : Hid ((∀ er, Q = .error er → q = .error er) ∧ ∀ ks st', Q = .ok (ks, st') → q = .ok (⟨c.d.nm, 9, a, st'.1 - a, 0, []⟩, ks, st')) := ⟨hqa, hqb⟩
    have H2 : Hid (Mn w w2 X R S N P mb M s l (a, k) c sub mo en ⟨c.d.nm, 9, a, 0, 0, []⟩ none 0 0 [] .nil ∧ preN .nil (reps (L s) l (rdB (L s) l f) c.d sub en n (a, k)) = Q) := by
      have hC := HC.out.1.bl hb2
      obtain ⟨l1, l2, l3, l4, l5, l6⟩ := hC.lt
      refine ⟨⟨Gq.gp (Gp.bl hb2), hC.iv, hC.rr, hC.sv, hC.nv, hC.rd, hC.it, Gn.nil _ _ _, ?_, l1, l2, l3, l4, l5, l6, by rw [hM]; exact hC.nv.lt, by rw [hM]; exact hb2.size, by rw [hM]; exact Nat.le_refl _⟩, by rw [preN_nil, hQ]⟩
      obtain ⟨b, k0, g1, g2, g3, g4, g5⟩ := HC.out.2
      exact Or.inr (Or.inr ⟨b, k0, g1, g2.below hb2, g3, g4, g5⟩)
    clear hqe hqo cC hqa hqb hQ hM s1 s2 x0 x1 x2 x3 x4 x5 x6 x7 x8 x9 x10 x11 x12 hXs hRs hSs hb2
    go_wp2
    go_loopw [9] (fun v9 wr => ∃ (j : Nat) (p : Option Addr) (lc : Nat) (cs : List CN) (ks : Nds) (st : St), v9 = .int .i64 (j : Int) ∧ j ≤ n ∧ Hid (Mn w wr X R S N P mb M s l st c sub mo en ⟨c.d.nm, 9, a, 0, 0, []⟩ p j lc cs ks ∧ preN ks (reps (L s) l (rdB (L s) l f) c.d sub en (n - j) st) = Q ∧ k + j ≤ st.2 ∧ ks.len = j)) (fun v9 _ => n - (intOf v9).toNat)
    case atStart => exact ⟨0, none, 0, [], .nil, (a, k), rfl, Nat.zero_le _, H2.out.1, H2.out.2, Nat.le_refl _, rfl⟩
    case round =>
      obtain ⟨j, p, lc, cs, ks, st, rfl, hj, HM⟩ := hrel
      by_cases hlt : j < n
      · have HLT : Hid (P < X ∧ P < R ∧ P < S) := by have := HM.out.1.lt; exact ⟨this.1, this.2.1, this.2.2.1⟩
        obtain ⟨t, ht⟩ : ∃ t, n - j = t + 1 := ⟨n - j - 1, by omega⟩
        have ht2 : t = n - (j + 1) := by omega
        have HST := reps_step (L s) l (rdB (L s) l f) c.d sub en t ks st
        rw [← ht, ht2] at HST
        have HST : Hid _ := HST
        have cO := fun wx (hb : Bl wr wx) => (HM.out.1.bl hb).one HBK.out.2.2.1 HBK.out.2.2.2.1 HBK.out.2.2.2.2 HBK.out.1 (by have h1 := HM.out.2.2.1; have h2 := HBK.out.2.1; omega)
        rw [itV_eq] at cO
        have HSD : Hid (CvN wr.drew X R S P N p j lc c mo ∧ Bl wr wr.drew) := ⟨CvN.of (HM.out.1.bl (Bl.refl _).drew).S (HM.out.1.bl (Bl.refl _).drew).nv.cells.2.2.2.2.2.2, (Bl.refl _).drew⟩
        have n6 := HM.out.1.nv.cells.2.2.2.2.2.2
        obtain ⟨s1, s2, x0, x1, x2, x3, x4, x5, x6, x7, x8, x9, x10, x11, x12⟩ := HM.out.1.S
        have hXs := HM.out.1.iv.lt
        have hRs := HM.out.1.rr.lt
        have hSs := HM.out.1.sv.lt
        have hNs := HM.out.1.nv.lt
        have hj4 : j ≤ 400 := by have h1 := HM.out.2.2.1; have h2 := HM.out.1.rd.k; omega
        have hj1 : (0 : Int) ≤ (j : Int) := by omega
        have hj2 : (j : Int) < (j : Int) + 1 := by omega
        clear ht ht2
        go_upto_region 2 with fail
        refine wp_region_Y 10 (fun wS => wS.cell? ⟨R, 0, none⟩ = some (.pointer (some ⟨P, 0, none⟩)) ∧ wS.cell? ⟨S, 0, none⟩ = some (.map mo) ∧ wS.cell? ⟨X, 0, none⟩ = some (.int .i64 (c.d.kd : Int)) ∧ wS.cell? ⟨X, 1, none⟩ = some (.int .i64 (c.d.at_ : Int)) ∧ wS.cell? ⟨X, 2, none⟩ = some (.string (tx c.d.nm)) ∧ wS.cell? ⟨X, 3, none⟩ = some (.string (tx c.d.ty)) ∧ wS.cell? ⟨X, 4, none⟩ = some (.int .i64 (c.d.wd : Int)) ∧ wS.cell? ⟨X, 5, none⟩ = some (.int .i64 (c.d.od : Int)) ∧ wS.cell? ⟨X, 6, none⟩ = some (.bool c.d.sg) ∧ wS.cell? ⟨X, 7, none⟩ = some (.bool c.d.mn) ∧ wS.cell? ⟨X, 8, none⟩ = some (.pointer c.pc) ∧ wS.cell? ⟨X, 9, none⟩ = some (.int .i64 (c.d.ru : Int)) ∧ wS.cell? ⟨X, 10, none⟩ = some (.string (tx c.d.f1)) ∧ wS.cell? ⟨X, 11, none⟩ = some (.string (tx c.d.l1)) ∧ wS.cell? ⟨X, 12, none⟩ = some (.slice c.p c.n c.c) ∧ wS.cell? ⟨N, 6, none⟩ = some (.slice p j lc)) (by kernel_rfl) ?_
        refine wpY_take (i := 0) (oi := _) (v := (.pointer (some ⟨N, 0, none⟩))) rfl (by kernel_rfl) (by kernel_rfl) (by kernel_rfl) (by kernel_rfl) (by kernel_rfl) (fun _ _ _ h => h) (HSD.out.1) (Or.inl ⟨by rfl, fun wS hW => ?_⟩) ?_
        · dsimp only at hW
          obtain ⟨hW0, hW1, hW2, hW3, hW4, hW5, hW6, hW7, hW8, hW9, hW10, hW11, hW12, hW13, hW14, hW15⟩ := hW
          go_simp
        try simp only [Act.put, List.setIfInBounds_toArray, List.set_cons_zero, List.set_cons_succ]
        refine wpY_take (i := 1) (oi := _) (v := (.pointer (some ⟨N, 0, none⟩))) rfl (by kernel_rfl) (by kernel_rfl) (by kernel_rfl) (by kernel_rfl) (by kernel_rfl) (fun _ _ _ h => h) (HSD.out.1) (Or.inl ⟨by rfl, fun wS hW => ?_⟩) ?_
        · dsimp only at hW
          obtain ⟨hW0, hW1, hW2, hW3, hW4, hW5, hW6, hW7, hW8, hW9, hW10, hW11, hW12, hW13, hW14, hW15⟩ := hW
          go_simp
        try simp only [Act.put, List.setIfInBounds_toArray, List.set_cons_zero, List.set_cons_succ]
        refine wpY_take (i := 2) (oi := _) (v := (.pointer (some ⟨N, 6, none⟩))) rfl (by kernel_rfl) (by kernel_rfl) (by kernel_rfl) (by kernel_rfl) (by kernel_rfl) (fun _ _ _ h => h) (HSD.out.1) (Or.inl ⟨by rfl, fun wS hW => ?_⟩) ?_
        · dsimp only at hW
          obtain ⟨hW0, hW1, hW2, hW3, hW4, hW5, hW6, hW7, hW8, hW9, hW10, hW11, hW12, hW13, hW14, hW15⟩ := hW
          go_simp
        try simp only [Act.put, List.setIfInBounds_toArray, List.set_cons_zero, List.set_cons_succ]
        refine wpY_take (i := 3) (oi := _) (v := (.slice p j lc)) rfl (by kernel_rfl) (by kernel_rfl) (by kernel_rfl) (by kernel_rfl) (by kernel_rfl) (fun _ _ _ h => h) (HSD.out.1) (Or.inl ⟨by rfl, fun wS hW => ?_⟩) ?_
        · dsimp only at hW
          obtain ⟨hW0, hW1, hW2, hW3, hW4, hW5, hW6, hW7, hW8, hW9, hW10, hW11, hW12, hW13, hW14, hW15⟩ := hW
          go_simp
        try simp only [Act.put, List.setIfInBounds_toArray, List.set_cons_zero, List.set_cons_succ]
        refine wpY_take (i := 4) (oi := _) (v := (.pointer (some ⟨P, 0, none⟩))) rfl (by kernel_rfl) (by kernel_rfl) (by kernel_rfl) (by kernel_rfl) (by kernel_rfl) (fun _ _ _ h => h) (HSD.out.1) (Or.inl ⟨by rfl, fun wS hW => ?_⟩) ?_
        · dsimp only at hW
          obtain ⟨hW0, hW1, hW2, hW3, hW4, hW5, hW6, hW7, hW8, hW9, hW10, hW11, hW12, hW13, hW14, hW15⟩ := hW
          go_simp
        try simp only [Act.put, List.setIfInBounds_toArray, List.set_cons_zero, List.set_cons_succ]
        refine wpY_take (i := 5) (oi := _) (v := (.agg #[.int .i64 (c.d.kd : Int), .int .i64 (c.d.at_ : Int), .string (tx c.d.nm), .string (tx c.d.ty), .int .i64 (c.d.wd : Int), .int .i64 (c.d.od : Int), .bool c.d.sg, .bool c.d.mn, .pointer c.pc, .int .i64 (c.d.ru : Int), .string (tx c.d.f1), .string (tx c.d.l1), .slice c.p c.n c.c])) rfl (by kernel_rfl) (by kernel_rfl) (by kernel_rfl) (by kernel_rfl) (by kernel_rfl) (fun _ _ _ h => h) (HSD.out.1) (Or.inl ⟨by rfl, fun wS hW => ?_⟩) ?_
        · dsimp only at hW
          obtain ⟨hW0, hW1, hW2, hW3, hW4, hW5, hW6, hW7, hW8, hW9, hW10, hW11, hW12, hW13, hW14, hW15⟩ := hW
          go_simp
        try simp only [Act.put, List.setIfInBounds_toArray, List.set_cons_zero, List.set_cons_succ]
        refine wpY_take (i := 6) (oi := _) (v := (.map mo)) rfl (by kernel_rfl) (by kernel_rfl) (by kernel_rfl) (by kernel_rfl) (by kernel_rfl) (fun _ _ _ h => h) (HSD.out.1) (Or.inl ⟨by rfl, fun wS hW => ?_⟩) ?_
        · dsimp only at hW
          obtain ⟨hW0, hW1, hW2, hW3, hW4, hW5, hW6, hW7, hW8, hW9, hW10, hW11, hW12, hW13, hW14, hW15⟩ := hW
          go_simp
        try simp only [Act.put, List.setIfInBounds_toArray, List.set_cons_zero, List.set_cons_succ]
        refine wpY_take (i := 8) (oi := _) (v := (.int .i64 (j : Int))) rfl (by kernel_rfl) (by kernel_rfl) (by kernel_rfl) (by kernel_rfl) (by kernel_rfl) (fun _ _ _ h => h) (HSD.out.1) (Or.inl ⟨by rfl, fun wS hW => ?_⟩) ?_
        · dsimp only at hW
          obtain ⟨hW0, hW1, hW2, hW3, hW4, hW5, hW6, hW7, hW8, hW9, hW10, hW11, hW12, hW13, hW14, hW15⟩ := hW
          go_simp
        try simp only [Act.put, List.setIfInBounds_toArray, List.set_cons_zero, List.set_cons_succ]
        refine wpY_two (i := 7) (j := 9) (o := _) (o' := _) (by kernel_rfl) rfl rfl (fun K hK => ?_) (fun K hK => ?_)
        · go_simp
          refine (cO _ HSD.out.2).mono ?_
          rintro e w3 ⟨hg3, hans⟩
          generalize hone : one (L s) l (rdB (L s) l f) c.d sub en st = r at hans
          cases r with
          | error er =>
            obtain ⟨v, rfl, hv⟩ := hans
            have hfin : CloA w N P mb s l q (thrL v) w3 := by
              rw [HQQ.out.1 er (by rw [← HST.out.1 er hone]; exact HM.out.2.1.symm)]
              exact ⟨(HM.out.1.gq.trans (Gq.gp (Gp.bl HSD.out.2))).trans (Gq.gp hg3), v, rfl, hv.from (by have := HM.out.1.gq.size; have := (HSD.out.2).size; omega)⟩
            unfold thrL at hfin ⊢
            dsimp only
            exact ⟨rfl, hfin⟩
          | ok r =>
            obtain ⟨nd1, k1, st'⟩ := r
            obtain ⟨kp, kc, rfl, hks, hr3⟩ := hans
            have hone' := one_le HBK.out.2.2.2.2 HBK.out.2.2.1 HBK.out.2.2.2.1 (by rw [L_len]; exact HM.out.1.rd.a) HM.out.1.rd.k hone
            have hpre := HST.out.2 _ _ _ hone
            rw [HM.out.2.1] at hpre
            unfold ndV
            dsimp only
            refine hK.out _ _ (fun _ => CvN.of (HM.out.1.S.gp ((Gp.bl HSD.out.2).trans hg3) HLT.out) ((HM.out.1.nv.gp ((Gp.bl HSD.out.2).trans hg3) (by have := HM.out.1.lt; omega)).cells.2.2.2.2.2.2)) ?_
            clear hK K
            try simp only [Act.put, List.setIfInBounds_toArray, List.set_cons_zero, List.set_cons_succ]
            refine wpY_one (i := 9) (o := _) (by kernel_rfl) rfl (fun K hK => ?_)
            go_simp
            obtain ⟨w4, hw4⟩ : ∃ w4, w4 = w3.alloc (.cells #[.string ⟨#[]⟩, .int .i64 0, .int .i64 0, .int .i64 0, .int .i64 0, .string ⟨#[]⟩, .slice none 0 0] 27) := ⟨_, rfl⟩
            have hb4 : Bl w3 w4 := by rw [hw4]; exact (Bl.refl _).alloc _
            have hz4 := lit_cells w3
            rw [← hw4] at hz4
            rw [← hw4]
            clear hw4
            have hS3 := CvN.of (HM.out.1.S.gp ((Gp.bl HSD.out.2).trans hg3) HLT.out) ((HM.out.1.nv.gp ((Gp.bl HSD.out.2).trans hg3) (by have := HM.out.1.lt; omega)).cells.2.2.2.2.2.2)
            refine hK.out _ _ (fun _ => hS3.bl hb4) ?_
            clear hK K
            try simp only [Act.put, List.setIfInBounds_toArray, List.set_cons_zero, List.set_cons_succ]
            obtain ⟨g, c', w5, t1, t2, t3, t4, t5, t6, t7, t8, t9⟩ := HM.out.1.grow (nd1 := nd1) (k1 := k1) w3.heap.size ((Gp.bl HSD.out.2).trans hg3) hr3 (by have := hone'.1.2.2.1; omega) hks (HSD.out.2.size) hb4 hz4 (by have h1 := HM.out.2.2.1; have h2 := HM.out.1.rd.k; omega)
            have HA : Hid _ := t1
            have HF : Hid (Mn w ((sr7 w5 g (j * 7) ⟨nd1, kp, k1.len, kc⟩).setCell ⟨N, 6, none⟩ (.slice (some ⟨g, 0, none⟩) (j + 1) c')) X R S N P mb M s l st' c sub mo en ⟨c.d.nm, 9, a, 0, 0, []⟩ (some ⟨g, 0, none⟩) (j + 1) c' (cs ++ [⟨nd1, kp, k1.len, kc⟩]) (ks.app nd1 k1) ∧ preN (ks.app nd1 k1) (reps (L s) l (rdB (L s) l f) c.d sub en (n - (j + 1)) st') = Q ∧ k + (j + 1) ≤ st'.2 ∧ (ks.app nd1 k1).len = j + 1) :=
              ⟨t9, hpre.symm, by have h1 := HM.out.2.2.1; have h2 := hone'.2; omega, by rw [Nds.app_len, HM.out.2.2.2]⟩
            have g0 : w5.cell? ⟨g, j * 7, none⟩ = some (.string (tx [])) := t4 0 _ rfl
            have g1 : w5.cell? ⟨g, j * 7 + 1, none⟩ = some (.int .i64 0) := t4 1 _ rfl
            have g2 : w5.cell? ⟨g, j * 7 + 2, none⟩ = some (.int .i64 0) := t4 2 _ rfl
            have g3 : w5.cell? ⟨g, j * 7 + 3, none⟩ = some (.int .i64 0) := t4 3 _ rfl
            have g4 : w5.cell? ⟨g, j * 7 + 4, none⟩ = some (.int .i64 0) := t4 4 _ rfl
            have g5 : w5.cell? ⟨g, j * 7 + 5, none⟩ = some (.string (tx [])) := t4 5 _ rfl
            have g6 : w5.cell? ⟨g, j * 7 + 6, none⟩ = some (.slice none 0 0) := t4 6 _ rfl
            have z0 := t5 (j * 7)
            have z1 := t5 (j * 7 + 1)
            have z2 := t5 (j * 7 + 2)
            have z3 := t5 (j * 7 + 3)
            have z4 := t5 (j * 7 + 4)
            have z5 := t5 (j * 7 + 5)
            have z6 := t5 (j * 7 + 6)
            have hNg : ¬ N = g := t3
            have hgN : ¬ g = N := fun e => t3 e.symm
            refine wpY_one (i := 10) (o := _) (by kernel_rfl) rfl (fun K hK => ?_)
            refine step_append_run rfl (.tmp 14) (.tmp 20) 25 25 rfl (.slice p j lc) (.slice (some ⟨w3.heap.size, 0, none⟩) 1 1) rfl rfl (.slice (some ⟨g, 0, none⟩) (j + 1) c') w5 ?hr ?_
            case hr => first | with_reducible exact HA.out | exact HA.out
            refine hK.out _ _ (fun h => absurd h (by decide)) ?_
            clear hK K
            try simp only [Act.put, List.setIfInBounds_toArray, List.set_cons_zero, List.set_cons_succ]
            refine wpY_of_wpAny _ _ _ _ (by kernel_rfl) ?_
            refine wpAny_take (i := 11) (v := ?_) rfl (by kernel_rfl) (by kernel_rfl) (by kernel_rfl) (fun _ _ _ h => h) (Or.inl ⟨by rfl, ?_⟩) ?_
            rotate_left
            · intro wS
              go_simp
              rfl
            try simp only [Act.put, List.setIfInBounds_toArray, List.set_cons_zero, List.set_cons_succ]
            refine wpAny_take (i := 13) (v := ?_) rfl (by kernel_rfl) (by kernel_rfl) (by kernel_rfl) (fun _ _ _ h => h) (Or.inl ⟨by rfl, ?_⟩) ?_
            rotate_left
            · intro wS
              go_simp
              rfl
            try simp only [Act.put, List.setIfInBounds_toArray, List.set_cons_zero, List.set_cons_succ]
            refine wpAny_take (i := 14) (v := ?_) rfl (by kernel_rfl) (by kernel_rfl) (by kernel_rfl) (fun _ _ _ h => h) (Or.inl ⟨by rfl, ?_⟩) ?_
            rotate_left
            · intro wS
              go_simp
              rfl
            try simp only [Act.put, List.setIfInBounds_toArray, List.set_cons_zero, List.set_cons_succ]
            refine wpAny_ready (rs := [12, 15]) (by kernel_rfl) (by simp) ?_
            refine AllReady.cons rfl (fun K hK => ?_) (AllReady.cons rfl (fun K hK => ?_) AllReady.nil)
            · go_simp
              refine hK _ _ ?_
              clear hK K
              refine wpAny_ready (rs := [15]) (by kernel_rfl) (by simp) ?_
              refine AllReady.cons rfl (fun K hK => ?_) AllReady.nil
              go_simp
              refine hK _ _ ?_
              clear hK K
              refine wpAny_done (by kernel_rfl) ?_ _
              change Exit.inBlock 1 _ _ _ ((sr7 w5 g (j * 7) ⟨nd1, kp, k1.len, kc⟩).setCell ⟨N, 6, none⟩ (.slice (some ⟨g, 0, none⟩) (j + 1) c'))
              generalize (sr7 w5 g (j * 7) ⟨nd1, kp, k1.len, kc⟩).setCell ⟨N, 6, none⟩ (.slice (some ⟨g, 0, none⟩) (j + 1) c') = W at HF ⊢
              clear cO HSD HST n6 s1 s2 x0 x1 x2 x3 x4 x5 x6 x7 x8 x9 x10 x11 x12 HA t1 t2 t3 t4 t5 t6 t7 t8 t9 g0 g1 g2 g3 g4 g5 g6 z0 z1 z2 z3 z4 z5 z6 hks hr3 hg3 hone hone' hpre HLT hXs hRs hSs hNs hNg hgN
              go_wp2
              go_roundw
              case rel => exact ⟨j + 1, some ⟨g, 0, none⟩, c', cs ++ [⟨nd1, kp, k1.len, kc⟩], ks.app nd1 k1, st', by go_num, by omega, HF⟩
              case measure => simp [intOf]; omega
            · go_simp
              refine hK _ _ ?_
              clear hK K
              refine wpAny_ready (rs := [12]) (by kernel_rfl) (by simp) ?_
              refine AllReady.cons rfl (fun K hK => ?_) AllReady.nil
              go_simp
              refine hK _ _ ?_
              clear hK K
              refine wpAny_done (by kernel_rfl) ?_ _
              change Exit.inBlock 1 _ _ _ (sr7 (w5.setCell ⟨N, 6, none⟩ (.slice (some ⟨g, 0, none⟩) (j + 1) c')) g (j * 7) ⟨nd1, kp, k1.len, kc⟩)
              rw [sr7_comm t3]
              generalize (sr7 w5 g (j * 7) ⟨nd1, kp, k1.len, kc⟩).setCell ⟨N, 6, none⟩ (.slice (some ⟨g, 0, none⟩) (j + 1) c') = W at HF ⊢
              clear cO HSD HST n6 s1 s2 x0 x1 x2 x3 x4 x5 x6 x7 x8 x9 x10 x11 x12 HA t1 t2 t3 t4 t5 t6 t7 t8 t9 g0 g1 g2 g3 g4 g5 g6 z0 z1 z2 z3 z4 z5 z6 hks hr3 hg3 hone hone' hpre HLT hXs hRs hSs hNs hNg hgN
              go_wp2
              go_roundw
              case rel => exact ⟨j + 1, some ⟨g, 0, none⟩, c', cs ++ [⟨nd1, kp, k1.len, kc⟩], ks.app nd1 k1, st', by go_num, by omega, HF⟩
              case measure => simp [intOf]; omega
        · go_simp
          obtain ⟨w2', hw2'⟩ : ∃ w2', w2' = (wr.alloc (.cells #[.string ⟨#[]⟩, .int .i64 0, .int .i64 0, .int .i64 0, .int .i64 0, .string ⟨#[]⟩, .slice none 0 0] 27)).drew := ⟨_, rfl⟩
          have hbd : Bl wr.drew w2' := by rw [hw2']; exact (show Bl wr.drew (wr.drew.alloc (.cells #[.string ⟨#[]⟩, .int .i64 0, .int .i64 0, .int .i64 0, .int .i64 0, .string ⟨#[]⟩, .slice none 0 0] 27)) from (Bl.refl _).alloc _)
          have hz2 := lit_cells wr
          have hz2 : ∀ j u, (cl zN)[j]? = some u → w2'.cell? ⟨wr.heap.size, j, none⟩ = some u := fun j u hu => by rw [hw2']; exact hz2 j u hu
          obtain ⟨Y, hY⟩ : ∃ Y, Y = wr.heap.size := ⟨_, rfl⟩
          rw [← hY] at hz2
          have hYs : Y < w2'.heap.size := by
            have h9 := hz2 0 _ rfl
            unfold World.cell? at h9
            cases h0 : w2'.heap[Y]? with
            | none => simp [h0] at h9
            | some o => exact lt_of_heap h0
          have HB2 : Hid (Bl wr w2' ∧ P < Y ∧ wr.heap.size ≤ w2'.heap.size) := ⟨HSD.out.2.trans hbd, by have := HM.out.1.rd.lt'; omega, (HSD.out.2.trans hbd).size⟩
          rw [← hw2', ← hY]
          clear hw2' hY
          refine hK.out _ _ (fun _ => HSD.out.1.bl hbd) ?_
          clear hK K
          try simp only [Act.put, List.setIfInBounds_toArray, List.set_cons_zero, List.set_cons_succ]
          refine wpY_one (i := 7) (o := _) (by kernel_rfl) rfl (fun K hK => ?_)
          go_simp
          refine (cO _ HB2.out.1).mono ?_
          rintro e w3 ⟨hg3, hans⟩
          generalize hone : one (L s) l (rdB (L s) l f) c.d sub en st = r at hans
          cases r with
          | error er =>
            obtain ⟨v, rfl, hv⟩ := hans
            have hfin : CloA w N P mb s l q (thrL v) w3 := by
              rw [HQQ.out.1 er (by rw [← HST.out.1 er hone]; exact HM.out.2.1.symm)]
              exact ⟨(HM.out.1.gq.trans (Gq.gp (Gp.bl HB2.out.1))).trans (Gq.gp hg3), v, rfl, hv.from (by have := HM.out.1.gq.size; have := (HB2.out.1).size; omega)⟩
            unfold thrL at hfin ⊢
            dsimp only
            exact ⟨rfl, hfin⟩
          | ok r =>
            obtain ⟨nd1, k1, st'⟩ := r
            obtain ⟨kp, kc, rfl, hks, hr3⟩ := hans
            have hone' := one_le HBK.out.2.2.2.2 HBK.out.2.2.1 HBK.out.2.2.2.1 (by rw [L_len]; exact HM.out.1.rd.a) HM.out.1.rd.k hone
            have hpre := HST.out.2 _ _ _ hone
            rw [HM.out.2.1] at hpre
            unfold ndV
            dsimp only
            have hS3 := CvN.of (HM.out.1.S.gp ((Gp.bl HB2.out.1).trans hg3) HLT.out) ((HM.out.1.nv.gp ((Gp.bl HB2.out.1).trans hg3) (by have := HM.out.1.lt; omega)).cells.2.2.2.2.2.2)
            have hz4 : ∀ j u, (cl zN)[j]? = some u → w3.cell? ⟨Y, j, none⟩ = some u := fun j u hu => by
              have h9 := hz2 j u hu
              unfold World.cell? at h9 ⊢
              dsimp only at h9 ⊢
              rw [hg3.block Y hYs (by have := HB2.out.2.1; omega)]
              exact h9
            refine hK.out _ _ (fun _ => hS3) ?_
            clear hK K
            try simp only [Act.put, List.setIfInBounds_toArray, List.set_cons_zero, List.set_cons_succ]
            obtain ⟨g, c', w5, t1, t2, t3, t4, t5, t6, t7, t8, t9⟩ := HM.out.1.grow (nd1 := nd1) (k1 := k1) Y ((Gp.bl HB2.out.1).trans hg3) hr3 (by have := hone'.1.2.2.1; omega) hks HB2.out.2.2 (Bl.refl w3) hz4 (by have h1 := HM.out.2.2.1; have h2 := HM.out.1.rd.k; omega)
            have HA : Hid _ := t1
            have HF : Hid (Mn w ((sr7 w5 g (j * 7) ⟨nd1, kp, k1.len, kc⟩).setCell ⟨N, 6, none⟩ (.slice (some ⟨g, 0, none⟩) (j + 1) c')) X R S N P mb M s l st' c sub mo en ⟨c.d.nm, 9, a, 0, 0, []⟩ (some ⟨g, 0, none⟩) (j + 1) c' (cs ++ [⟨nd1, kp, k1.len, kc⟩]) (ks.app nd1 k1) ∧ preN (ks.app nd1 k1) (reps (L s) l (rdB (L s) l f) c.d sub en (n - (j + 1)) st') = Q ∧ k + (j + 1) ≤ st'.2 ∧ (ks.app nd1 k1).len = j + 1) :=
              ⟨t9, hpre.symm, by have h1 := HM.out.2.2.1; have h2 := hone'.2; omega, by rw [Nds.app_len, HM.out.2.2.2]⟩
            have g0 : w5.cell? ⟨g, j * 7, none⟩ = some (.string (tx [])) := t4 0 _ rfl
            have g1 : w5.cell? ⟨g, j * 7 + 1, none⟩ = some (.int .i64 0) := t4 1 _ rfl
            have g2 : w5.cell? ⟨g, j * 7 + 2, none⟩ = some (.int .i64 0) := t4 2 _ rfl
            have g3 : w5.cell? ⟨g, j * 7 + 3, none⟩ = some (.int .i64 0) := t4 3 _ rfl
            have g4 : w5.cell? ⟨g, j * 7 + 4, none⟩ = some (.int .i64 0) := t4 4 _ rfl
            have g5 : w5.cell? ⟨g, j * 7 + 5, none⟩ = some (.string (tx [])) := t4 5 _ rfl
            have g6 : w5.cell? ⟨g, j * 7 + 6, none⟩ = some (.slice none 0 0) := t4 6 _ rfl
            have z0 := t5 (j * 7)
            have z1 := t5 (j * 7 + 1)
            have z2 := t5 (j * 7 + 2)
            have z3 := t5 (j * 7 + 3)
            have z4 := t5 (j * 7 + 4)
            have z5 := t5 (j * 7 + 5)
            have z6 := t5 (j * 7 + 6)
            have hNg : ¬ N = g := t3
            have hgN : ¬ g = N := fun e => t3 e.symm
            refine wpY_one (i := 10) (o := _) (by kernel_rfl) rfl (fun K hK => ?_)
            refine step_append_run rfl (.tmp 14) (.tmp 20) 25 25 rfl (.slice p j lc) (.slice (some ⟨Y, 0, none⟩) 1 1) rfl rfl (.slice (some ⟨g, 0, none⟩) (j + 1) c') w5 ?hr ?_
            case hr => first | with_reducible exact HA.out | exact HA.out
            refine hK.out _ _ (fun h => absurd h (by decide)) ?_
            clear hK K
            try simp only [Act.put, List.setIfInBounds_toArray, List.set_cons_zero, List.set_cons_succ]
            refine wpY_of_wpAny _ _ _ _ (by kernel_rfl) ?_
            refine wpAny_take (i := 11) (v := ?_) rfl (by kernel_rfl) (by kernel_rfl) (by kernel_rfl) (fun _ _ _ h => h) (Or.inl ⟨by rfl, ?_⟩) ?_
            rotate_left
            · intro wS
              go_simp
              rfl
            try simp only [Act.put, List.setIfInBounds_toArray, List.set_cons_zero, List.set_cons_succ]
            refine wpAny_take (i := 13) (v := ?_) rfl (by kernel_rfl) (by kernel_rfl) (by kernel_rfl) (fun _ _ _ h => h) (Or.inl ⟨by rfl, ?_⟩) ?_
            rotate_left
            · intro wS
              go_simp
              rfl
            try simp only [Act.put, List.setIfInBounds_toArray, List.set_cons_zero, List.set_cons_succ]
            refine wpAny_take (i := 14) (v := ?_) rfl (by kernel_rfl) (by kernel_rfl) (by kernel_rfl) (fun _ _ _ h => h) (Or.inl ⟨by rfl, ?_⟩) ?_
            rotate_left
            · intro wS
              go_simp
              rfl
            try simp only [Act.put, List.setIfInBounds_toArray, List.set_cons_zero, List.set_cons_succ]
            refine wpAny_ready (rs := [12, 15]) (by kernel_rfl) (by simp) ?_
            refine AllReady.cons rfl (fun K hK => ?_) (AllReady.cons rfl (fun K hK => ?_) AllReady.nil)
            · go_simp
              refine hK _ _ ?_
              clear hK K
              refine wpAny_ready (rs := [15]) (by kernel_rfl) (by simp) ?_
              refine AllReady.cons rfl (fun K hK => ?_) AllReady.nil
              go_simp
              refine hK _ _ ?_
              clear hK K
              refine wpAny_done (by kernel_rfl) ?_ _
              change Exit.inBlock 1 _ _ _ ((sr7 w5 g (j * 7) ⟨nd1, kp, k1.len, kc⟩).setCell ⟨N, 6, none⟩ (.slice (some ⟨g, 0, none⟩) (j + 1) c'))
              generalize (sr7 w5 g (j * 7) ⟨nd1, kp, k1.len, kc⟩).setCell ⟨N, 6, none⟩ (.slice (some ⟨g, 0, none⟩) (j + 1) c') = W at HF ⊢
              clear cO HSD HST n6 s1 s2 x0 x1 x2 x3 x4 x5 x6 x7 x8 x9 x10 x11 x12 HA t1 t2 t3 t4 t5 t6 t7 t8 t9 g0 g1 g2 g3 g4 g5 g6 z0 z1 z2 z3 z4 z5 z6 hks hr3 hg3 hone hone' hpre HLT hXs hRs hSs hNs hNg hgN
              go_wp2
              go_roundw
              case rel => exact ⟨j + 1, some ⟨g, 0, none⟩, c', cs ++ [⟨nd1, kp, k1.len, kc⟩], ks.app nd1 k1, st', by go_num, by omega, HF⟩
              case measure => simp [intOf]; omega
            · go_simp
              refine hK _ _ ?_
              clear hK K
              refine wpAny_ready (rs := [12]) (by kernel_rfl) (by simp) ?_
              refine AllReady.cons rfl (fun K hK => ?_) AllReady.nil
              go_simp
              refine hK _ _ ?_
              clear hK K
              refine wpAny_done (by kernel_rfl) ?_ _
              change Exit.inBlock 1 _ _ _ (sr7 (w5.setCell ⟨N, 6, none⟩ (.slice (some ⟨g, 0, none⟩) (j + 1) c')) g (j * 7) ⟨nd1, kp, k1.len, kc⟩)
              rw [sr7_comm t3]
              generalize (sr7 w5 g (j * 7) ⟨nd1, kp, k1.len, kc⟩).setCell ⟨N, 6, none⟩ (.slice (some ⟨g, 0, none⟩) (j + 1) c') = W at HF ⊢
              clear cO HSD HST n6 s1 s2 x0 x1 x2 x3 x4 x5 x6 x7 x8 x9 x10 x11 x12 HA t1 t2 t3 t4 t5 t6 t7 t8 t9 g0 g1 g2 g3 g4 g5 g6 z0 z1 z2 z3 z4 z5 z6 hks hr3 hg3 hone hone' hpre HLT hXs hRs hSs hNs hNg hgN
              go_wp2
              go_roundw
              case rel => exact ⟨j + 1, some ⟨g, 0, none⟩, c', cs ++ [⟨nd1, kp, k1.len, kc⟩], ks.app nd1 k1, st', by go_num, by omega, HF⟩
              case measure => simp [intOf]; omega
      · obtain rfl : j = n := by omega
        have HE : Hid (q = .ok (⟨c.d.nm, 9, a, st.1 - a, 0, []⟩, ks, st)) := by
          have := HM.out.2.1
          rw [Nat.sub_self, reps_end] at this
          exact HQQ.out.2 ks st this.symm
        go_wp2
        have hfin : CloA w N P mb s l q (.returned (.tuple #[])) wr := by
          rw [HE.out]
          have hM := HM.out.1
          refine ⟨hM.gq, rfl, p, lc, ?_, ?_, hM.rd⟩
          · rw [HM.out.2.2.2]; exact hM.nv
          · obtain ⟨p', c', e1, e2, e3⟩ := hM.gn.is (Nat.le_refl _)
            simp only [Value.slice.injEq] at e1
            obtain ⟨rfl, _, rfl⟩ := e1
            exact e2.mono (fun g h1 _ => by have := hM.lt; omega)
        exact bodyPost_end (results_none rfl _ _ _) rfl hfin

end Go.Proofs.YtococaecjecjgaaGreatDoor.ly
namespace Go.Proofs.YtococaecjecjgaaGreatDoor.ly
set_option linter.unusedVariables false
open Go.ChangeShapes Go.WideShapes Go.ChangeAt Go.RowKit
open mem lx ex tm num

theorem many_sz {s : List UInt8} {l : List Ty} {f : Nat} {d : D} {sub : Its} {e : Env} {a k : Nat} {nd : ND} {ks : Nds} {st' : St} (hl : OKT l) (hd : WD d) (hs : d.kd = 4 → OKI sub) (ha : a ≤ s.length) (hk : k ≤ 400) (h : manyQ s l (rdB s l f) d sub e a k = .ok (nd, ks, st')) : nd.at_ = a ∧ nd.sz = st'.1 - a ∧ a ≤ st'.1 := by
  unfold manyQ at h
  split at h
  · cases h
  · split at h
    · cases h
    · rename_i ks1 st1 h1
      injection h with h
      simp only [Prod.mk.injEq] at h
      obtain ⟨rfl, rfl, rfl⟩ := h
      exact ⟨rfl, rfl, (reps_back hl (rdB_back s l hl f) (wr_nil l f) (Or.inl hd) hs _ (st := (a, k)) ha hk h1).1.1⟩
theorem part_many (s : List UInt8) (l : List Ty) (rec : Its → Env → St → Except Er (Nds × St)) (d : D) (sub : Its) (e : Env) (st : St) (hm : d.mn = true) (hk : ¬ st.2 = 400) : part s l rec d sub e st = manyQ s l rec d sub e st.1 (st.2 + 1) := by
  unfold part manyQ
  rw [if_pos hm, if_neg hk]
  cases cnt d e st.1 with
  | error x => rfl
  | ok n =>
    dsimp only
    cases reps s l rec d sub e n (st.1, st.2 + 1) <;> rfl
theorem Om.blt {w : World} {b c : Nat} {f : List UInt8 → Option Int} (h : Om w b f c) : b < w.heap.size := by
  obtain ⟨D, h1, _⟩ := h
  exact h1.lt
set_option maxRecDepth 10000 in
set_option maxHeartbeats 4000000 in
theorem part_at (f : Nat) (w : World) (P mb : Nat) (s : ByteArray) (l : List Ty) (st : St) (c : C) (sub : Its) (b k0 : Nat) (en : Env) (h : RdL w P mb s l st) (hi : ItL w (fun g => g < mb) c sub) (hd : WD c.d) (hs : c.d.kd = 4 → OKI sub) (hom : Om w b en k0) (hk0 : k0 ≤ st.2) (hPb : P < b) (hl : OKT l) (hB : BlkC s l f) (hf : 400 ≤ st.2 + f) :
    Calls Tryz.prog 118 #[.pointer (some ⟨P, 0, none⟩), itV c, .map (some b)] w fun e w' => NdA w P mb s l (part (L s) l (rdB (L s) l f) c.d sub en st) e w' := by
  have hF : ∀ args w, (callFunc 149 args).run Tryz.prog w = .ok (.enter 149 args) w := fun _ _ => by kernel_rfl
  obtain ⟨R, hR⟩ : ∃ R, R = w.heap.size := ⟨_, rfl⟩
  have HB := Bx.new (.map (some b)) h hi
  rw [← hR] at HB
  obtain ⟨w1, hw1⟩ : ∃ w1, w1 = ((((w.alloc (.cells #[.pointer (some ⟨P, 0, none⟩)] 62)).alloc (.cells #[.int .i64 (c.d.kd : Int), .int .i64 (c.d.at_ : Int), .string (tx c.d.nm), .string (tx c.d.ty), .int .i64 (c.d.wd : Int), .int .i64 (c.d.od : Int), .bool c.d.sg, .bool c.d.mn, .pointer c.pc, .int .i64 (c.d.ru : Int), .string (tx c.d.f1), .string (tx c.d.l1), .slice c.p c.n c.c] 60)).alloc (.cells #[.map (some b)] 100)).alloc (.cells #[.string ⟨#[]⟩, .int .i64 0, .int .i64 0, .int .i64 0, .int .i64 0, .string ⟨#[]⟩, .slice none 0 0] 27)) := ⟨_, rfl⟩
  rw [← hw1] at HB
  obtain ⟨q, hq⟩ : ∃ q, q = part (L s) l (rdB (L s) l f) c.d sub en st := ⟨_, rfl⟩
  rw [← hq]
  have cNd : c.d.mn = true → Calls Tryz.prog 84 #[.pointer (some ⟨P, 0, none⟩), .string (tx c.d.nm), .int .i64 ((9 : Nat) : Int), .func (.func 149) #[] #[.pointer (some ⟨R, 0, none⟩), .pointer (some ⟨R + 1, 0, none⟩), .pointer (some ⟨R + 1 + 1, 0, none⟩)]] w1 fun e w' => NdA w1 P mb s l q e w' := by
    intro hmn
    by_cases hk : st.2 = 400
    · have e : q = .error (4, (st.1 : Int)) := by rw [hq]; unfold part; rw [if_pos hmn, if_pos hk]
      rw [e]
      exact node_full _ w1 P mb s l st _ _ HB.rd hk
    · have e : q = manyQ (L s) l (rdB (L s) l f) c.d sub en st.1 (st.2 + 1) := by rw [hq]; exact part_many _ _ _ _ _ _ _ hmn hk
      have hk' : st.2 < 400 := by have := h.k; omega
      refine node_at _ _ _ _ w1 P mb s l st c.d.nm 9 q HB.rd hk' hF (fun nd ks st' he => ?_) (fun wx N hg hN hr hn => ?_)
      · rw [e] at he
        exact many_sz hl hd hs (by rw [L_len]; exact h.a) (show st.2 + 1 ≤ 400 by omega) he
      · rw [e]
        have hlt := HB.lt
        have hbl := Om.blt (hom.below HB.bl)
        exact clo_many f wx (R + 1) R (R + 1 + 1) N P mb s l st.1 (st.2 + 1) c sub (some b) en ⟨HB.iv.gp hg (by omega), ex.Vr.gp HB.rr hg (by omega), ex.Vr.gp HB.sv hg (by omega), hn, hr, HB.it.keep (fun g h1 h2 => hg.block g h2 (by have := h.lt; omega)) hg.size (HB.rd.kx hg), by omega, by omega, by omega, by omega, by omega, by omega⟩ hd hs hmn ⟨b, k0, rfl, (hom.below HB.bl).step (gp_grown hg) (fun e => by injection e with e; omega), by omega, hPb, by omega⟩ hl hB (by omega)
  have cOne : c.d.mn = false → Calls Tryz.prog 52 #[.pointer (some ⟨P, 0, none⟩), itV c, .map (some b)] w1 fun e w' => NdA w1 P mb s l q e w' := by
    intro hmn
    have e : q = one (L s) l (rdB (L s) l f) c.d sub en st := by rw [hq]; unfold part; rw [if_neg (by rw [hmn]; decide)]
    rw [e]
    exact one_at f w1 P mb s l st c sub (some b) en HB.rd HB.it (Or.inl hd) hs (Or.inr (Or.inr ⟨b, k0, rfl, hom.below HB.bl, hk0, hPb⟩)) hl hB hf
  rw [itV_eq] at cOne ⊢
  have H1 : Hid (Bx w w1 R (R + 1) (R + 1 + 1) (R + 1 + 1 + 1) P mb s l st c sub (.map (some b)) ∧ R = w.heap.size) := ⟨HB, hR⟩
  obtain ⟨x0, x1, x2, x3, x4, x5, x6, x7, x8, x9, x10, x11, x12⟩ := HB.iv.facts
  have r0 := HB.rr.cell
  have s0 := HB.sv.cell
  have hs1 := HB.iv.lt
  have hs2 := HB.rr.lt
  have hs3 := HB.sv.lt
  clear HB hq h hi hd hs hom hk0 hPb hl hB hf
  have fin : ∀ w2 (nd : ND) (ks : Nds) (st' : St) (p : Option Addr) (pc : Nat), Gp P w1 w2 → IsNs w2 (fun g => w1.heap.size ≤ g) p ks.len pc ks → RdL w2 P mb s l st' → Hid (Nv (st7 w2 (R + 1 + 1 + 1) nd p ks.len pc) (R + 1 + 1 + 1) nd p ks.len pc ∧ Gp P w (st7 w2 (R + 1 + 1 + 1) nd p ks.len pc) ∧ IsNs (st7 w2 (R + 1 + 1 + 1) nd p ks.len pc) (fun g => w.heap.size ≤ g) p ks.len pc ks ∧ RdL (st7 w2 (R + 1 + 1 + 1) nd p ks.len pc) P mb s l st') := fun w2 nd ks st' p pc hg2 hks hr2 =>
    fin_store (H1.out.1.qv.gp hg2 (by have := H1.out.1.lt; omega)) hks hr2 ((Gp.bl H1.out.1.bl).trans hg2) (by have := H1.out.1.lt; omega) (by have := H1.out.1.lt; omega) (by have := H1.out.1.lt; omega)
  cases hmn : c.d.mn with
  | false =>
    rw [hmn] at x7
    have cO := cOne hmn
    rw [hmn] at cO hw1
    clear cNd cOne
    go_enter Tryz.func118, Tryz.ntmps118
    go_upto_region 1 with fail
    rw [← hw1, ← hR]
    clear hw1 hR hmn
    go_wp2_with fail
    refine cO.mono ?_
    rintro e w2 ⟨hg2, hans⟩
    cases q with
    | error er =>
      obtain ⟨v, rfl, hv⟩ := hans
      clear cO fin
      unfold thrL
      go_wp2
      exact ⟨rfl, (Gp.bl H1.out.1.bl).trans hg2, v, rfl, hv.from H1.out.1.bl.size⟩
    | ok r =>
      obtain ⟨nd, ks, st'⟩ := r
      obtain ⟨p, pc, rfl, hks, hr2⟩ := hans
      have hqv : Nv w2 (R + 1 + 1 + 1) ⟨[], 0, 0, 0, 0, []⟩ none 0 0 := H1.out.1.qv.gp hg2 (by have := H1.out.1.lt; omega)
      have HF := fin w2 nd ks st' p pc hg2 hks hr2
      obtain ⟨m0, m1, m2, m3, m4, m5, m6⟩ := hqv.cells
      obtain ⟨y0, y1, y2, y3, y4, y5, y6⟩ := hqv.fz
      have hq2 := hqv.lt
      unfold ndV
      clear cO fin hg2 hks hr2 hqv x0 x1 x2 x3 x4 x5 x6 x7 x8 x9 x10 x11 x12 r0 s0 hs1 hs2 hs3
      go_wp2
      exact bodyPost_ret (v := ndV nd p ks.len pc) (results_cell_row rfl _ _ (R + 1 + 1 + 1) 27 _ (0, 0) _ rfl HF.out.1 Tryz.underlying27 rfl infoN) rfl ⟨HF.out.2.1, p, pc, rfl, HF.out.2.2.1, HF.out.2.2.2⟩
  | true =>
    rw [hmn] at x7
    have cN := cNd hmn
    rw [hmn] at hw1
    clear cNd cOne
    go_enter Tryz.func118, Tryz.ntmps118
    go_upto_region 1 with fail
    rw [← hw1, ← hR]
    clear hw1 hR hmn
    go_wp2_with fail
    refine cN.mono ?_
    rintro e w2 ⟨hg2, hans⟩
    cases q with
    | error er =>
      obtain ⟨v, rfl, hv⟩ := hans
      clear cN fin
      unfold thrL
      go_wp2
      exact ⟨rfl, (Gp.bl H1.out.1.bl).trans hg2, v, rfl, hv.from H1.out.1.bl.size⟩
    | ok r =>
      obtain ⟨nd, ks, st'⟩ := r
      obtain ⟨p, pc, rfl, hks, hr2⟩ := hans
      have hqv : Nv w2 (R + 1 + 1 + 1) ⟨[], 0, 0, 0, 0, []⟩ none 0 0 := H1.out.1.qv.gp hg2 (by have := H1.out.1.lt; omega)
      have HF := fin w2 nd ks st' p pc hg2 hks hr2
      obtain ⟨m0, m1, m2, m3, m4, m5, m6⟩ := hqv.cells
      obtain ⟨y0, y1, y2, y3, y4, y5, y6⟩ := hqv.fz
      have hq2 := hqv.lt
      unfold ndV
      clear cN fin hg2 hks hr2 hqv x0 x1 x2 x3 x4 x5 x6 x7 x8 x9 x10 x11 x12 r0 s0 hs1 hs2 hs3
      go_wp2
      exact bodyPost_ret (v := ndV nd p ks.len pc) (results_cell_row rfl _ _ (R + 1 + 1 + 1) 27 _ (0, 0) _ rfl HF.out.1 Tryz.underlying27 rfl infoN) rfl ⟨HF.out.2.1, p, pc, rfl, HF.out.2.2.1, HF.out.2.2.2⟩
end Go.Proofs.YtococaecjecjgaaGreatDoor.ly
namespace Go.Proofs.YtococaecjecjgaaGreatDoor.ly
set_option linter.unusedVariables false
open Go.ChangeShapes Go.WideShapes Go.ChangeAt Go.RowKit
open mem lx ex tm num

theorem part_le {s : List UInt8} {l : List Ty} {f : Nat} {d : D} {sub : Its} {e : Env} {st : St} {nd : ND} {ks : Nds} {st' : St} (hl : OKT l) (hd : WD d) (hs : d.kd = 4 → OKI sub) (ha : st.1 ≤ s.length) (hk : st.2 ≤ 400) (h : part s l (rdB s l f) d sub e st = .ok (nd, ks, st')) : st.1 ≤ st'.1 ∧ st.2 < st'.2 ∧ st'.2 ≤ 400 := by
  by_cases hm : d.mn = true
  · by_cases hk4 : st.2 = 400
    · unfold part at h
      rw [if_pos hm, if_pos hk4] at h
      cases h
    · rw [part_many _ _ _ _ _ _ _ hm hk4] at h
      unfold manyQ at h
      split at h
      · cases h
      · split at h
        · cases h
        · rename_i ks1 st1 h1
          injection h with h
          simp only [Prod.mk.injEq] at h
          obtain ⟨rfl, rfl, rfl⟩ := h
          have := (reps_back hl (rdB_back s l hl f) (wr_nil l f) (Or.inl hd) hs _ (st := (st.1, st.2 + 1)) ha (show st.2 + 1 ≤ 400 by omega) h1).1
          obtain ⟨g1, g2, g3, g4⟩ := this
          dsimp only at g1 g3
          exact ⟨g1, by omega, g4⟩
  · unfold part at h
    rw [if_neg hm] at h
    obtain ⟨g1, g2⟩ := one_le hl (Or.inl hd) hs ha hk h
    exact ⟨g1.1, g2, g1.2.2.2⟩
theorem part_r64 {s : List UInt8} {l : List Ty} {rec : Its → Env → St → Except Er (Nds × St)} {d : D} {sub : Its} {e : Env} {st : St} {nd : ND} {ks : Nds} {st' : St} (hd : WD d) (h1 : d.kd = 1) (hm : d.mn = false) (h : part s l rec d sub e st = .ok (nd, ks, st')) : R64 nd.n := by
  unfold part at h
  rw [if_neg (by rw [hm]; decide)] at h
  unfold one at h
  split at h
  · cases h
  · unfold body at h
    rw [if_pos h1] at h
    split at h
    · injection h with h
      simp only [Prod.mk.injEq] at h
      obtain ⟨rfl, rfl, rfl⟩ := h
      exact num_r64 hd h1 _ _ _
    · cases h
theorem blk_end (s : List UInt8) (l : List Ty) (rec : Its → Env → St → Except Er (Nds × St)) (e : Env) (ks : Nds) (st : St) : preN ks (blk s l rec .nil e st) = .ok (ks, st) := by
  rw [blk, preN, Nds.cat_nil]
theorem blk_step (s : List UInt8) (l : List Ty) (rec : Its → Env → St → Except Er (Nds × St)) (d : D) (sub t : Its) (e : Env) (ks : Nds) (st : St) :
    (∀ er, part s l rec d sub e st = .error er → preN ks (blk s l rec (.cons d sub t) e st) = .error er) ∧ ∀ nd k' st', part s l rec d sub e st = .ok (nd, k', st') → preN ks (blk s l rec (.cons d sub t) e st) = preN (ks.app nd k') (blk s l rec t (nxt d e nd) st') := by
  rw [blk]
  refine ⟨fun er h => by rw [h]; rfl, fun nd k' st' h => ?_⟩
  rw [h]
  dsimp only
  rcases blk s l rec t (nxt d e nd) st' with er | ⟨t', st2⟩
  · rfl
  · show Except.ok _ = Except.ok _
    rw [Nds.app_cat]
theorem push_node {w3 w4 : World} {M base K m lc : Nat} {lp : Option Addr} {cs : List CN} {ks : Nds} (c : CN) {s : Nds} (X : Nat) (h : Gn w3 M base (.slice lp m lc) cs ks) (hs : IsNs w3 (fun g => K ≤ g) c.p c.n c.c s) (hK : ∀ k, (Value.slice lp m lc).ownBlock = some k → k < K) (hMK : M ≤ K) (hb : Bl w3 w4) (hz : ∀ j u, (cl c)[j]? = some u → w4.cell? ⟨X, j, none⟩ = some u) (hm : m ≤ 5000) (hbase : base ≤ w3.heap.size) :
    ∃ p' c' w5, (Builtin.append_ #[25, 25] 25 #[.slice lp m lc, .slice (some ⟨X, 0, none⟩) 1 1]).run Tryz.prog w4 = .ok (.slice p' (m + 1) c') w5 ∧ Gn w5 M base (.slice p' (m + 1) c') (cs ++ [c]) (ks.app c.d s) ∧ Gx base w4 w5 ∧ Kx w4 w5 := by
  have hl : m = cs.length := by
    rcases h.own.shape with ⟨e1, e2⟩ | ⟨g, cap, e1, _⟩
    · injection e1 with _ e _; rw [e, e2]; rfl
    · injection e1 with _ e _
  have hown : nr.Own w4 base (.slice lp m lc) cs := h.own.bl hb
  have hX : ∀ j u, (cl c)[j]? = some u → w4.cell? ((⟨X, 0, none⟩ : Addr).add j) = some u := fun j u hu => by rw [Addr.add_lit, Nat.zero_add]; exact hz j u hu
  have hb4 : base ≤ w4.heap.size := Nat.le_trans hbase hb.size
  obtain ⟨v', w5, hr, ho, hg⟩ := nr.app_one w4 base (.slice lp m lc) cs c ⟨X, 0, none⟩ hown hX (by omega) hb4
  have hwh := nr_where w4 base (.slice lp m lc) cs c ⟨X, 0, none⟩ hown hX (by omega) v' w5 hr
  have hbk : ∀ k, k < base → (some k : Option Nat) ≠ (Value.slice lp m lc).ownBlock := fun k hk e => by have := (hown.block k e.symm).1; omega
  have hG := h.app hs hK hMK hb ho hg hwh
  obtain ⟨p', c', rfl, _⟩ := ho.lie
  have hlen : (cs ++ [c]).length = m + 1 := by rw [List.length_append, hl]; rfl
  rw [hlen] at hr hG
  refine ⟨p', c', w5, hr, hG, ⟨hg.os, hg.tape, hg.output, hg.size, fun k hk hkb => hg.block k hk (hbk k hkb)⟩, fun b cs' hb => (hg.block b (lt_of_heap hb) (fun e => ?_)).trans hb⟩
  rcases hown.2 with ⟨e8, _⟩ | ⟨g', cap', cur, e8, _, e9, _⟩
  · rw [e8] at e; cases e
  · rw [e8] at e
    have : b = g' := by injection e
    subst this
    rw [hb] at e9
    simp at e9
structure Bk (w wr : World) (P m2 mb M : Nat) (s : ByteArray) (l : List Ty) (st : St) (pI : Option Addr) (nI cI : Nat) (csI : List C) (j : Nat) (rest : Its) (en : Env) (k1 : Nat) (p : Option Addr) (lc : Nat) (cs : List CN) (ks : Nds) : Prop where
  gq : Gq P m2 w wr
  rd : RdL wr P mb s l st
  om : Om wr m2 en k1
  k : k1 ≤ st.2
  li : ir.Lie wr (fun g => g < mb) pI nI cI csI
  re : Rep wr (fun g => g < mb) rest (csI.drop j)
  gn : Gn wr M M (.slice p j lc) cs ks
  ln : ks.len = j
  lt : P < m2 ∧ m2 < M ∧ M = w.heap.size ∧ M ≤ wr.heap.size
theorem Bk.keep {w wr w' : World} {P m2 mb M : Nat} {s : ByteArray} {l : List Ty} {st st' : St} {pI : Option Addr} {nI cI : Nat} {csI : List C} {j j' : Nat} {rest rest' : Its} {en en' : Env} {k1 k1' : Nat} {p p' : Option Addr} {lc lc' : Nat} {cs cs' : List CN} {ks ks' : Nds} (h : Bk w wr P m2 mb M s l st pI nI cI csI j rest en k1 p lc cs ks) (hg : Gm M P m2 wr w') (hx : Kx wr w') (hr : RdL w' P mb s l st') (ho : Om w' m2 en' k1') (hk : k1' ≤ st'.2) (hre : Rep wr (fun g => g < mb) rest' (csI.drop j')) (hG : Gn w' M M (.slice p' j' lc') cs' ks') (hln : ks'.len = j') : Bk w w' P m2 mb M s l st' pI nI cI csI j' rest' en' k1' p' lc' cs' ks' := by
  obtain ⟨l1, l2, l3, l4⟩ := h.lt
  have hmb := h.rd.lt
  refine ⟨⟨hg.os.trans h.gq.os, hg.tape.trans h.gq.tape, hg.output.trans h.gq.output, Nat.le_trans h.gq.size hg.size, fun k h1 h2 h3 => (hg.block k (Nat.lt_of_lt_of_le h1 h.gq.size) (by omega) h2 h3).trans (h.gq.block k h1 h2 h3)⟩, hr, ho, hk, ?_, ?_, hG, hln, l1, l2, l3, by have := hg.size; omega⟩
  · exact h.li.keep (fun g h1 h2 => hg.block g h2 (by omega) (by omega) (by omega)) hg.size
  · exact hre.keep (fun g h1 h2 => hg.block g h2 (by omega) (by omega) (by omega)) hg.size hx
theorem Bk.bl {w wr w' : World} {P m2 mb M : Nat} {s : ByteArray} {l : List Ty} {st : St} {pI : Option Addr} {nI cI : Nat} {csI : List C} {j : Nat} {rest : Its} {en : Env} {k1 : Nat} {p : Option Addr} {lc : Nat} {cs : List CN} {ks : Nds} (h : Bk w wr P m2 mb M s l st pI nI cI csI j rest en k1 p lc cs ks) (hb : Bl wr w') : Bk w w' P m2 mb M s l st pI nI cI csI j rest en k1 p lc cs ks :=
  h.keep (Gm.gp (Gp.bl hb)) (Kx.bl hb) (h.rd.bl hb) (h.om.below hb) h.k h.re (h.gn.bl hb (Nat.le_refl _)) h.ln
theorem lit_node (w : World) (c : CN) : ∀ j u, (cl c)[j]? = some u → (w.alloc (.cells #[.string (tx c.d.nm), .int .i64 (c.d.kd : Int), .int .i64 (c.d.at_ : Int), .int .i64 (c.d.sz : Int), .int .i64 c.d.n, .string (tx c.d.tx), .slice c.p c.n c.c] 27)).cell? ⟨w.heap.size, j, none⟩ = some u := fun j u hu => by
  rw [cell_of (new_at _ _)]
  simpa [cl] using hu
theorem Om.gx {M : Nat} {w w' : World} {b c : Nat} {f : List UInt8 → Option Int} (h : Om w b f c) (hg : Gx M w w') (hb : b < M) : Om w' b f c := by
  have hlt := Om.blt h
  obtain ⟨D, ⟨es, clock, q1, q2, q3, q4⟩, q5⟩ := h
  exact ⟨D, ⟨es, clock, by rw [hg.block b hlt hb]; exact q1, q2, q3, q4⟩, q5⟩
theorem Bk.push {w wr w6 : World} {P m2 mb M K : Nat} {s : ByteArray} {l : List Ty} {st st2 : St} {pI : Option Addr} {nI cI : Nat} {csI : List C} {j : Nat} {rest t : Its} {en en2 : Env} {k1 k2 : Nat} {p kp : Option Addr} {lc kc : Nat} {cs : List CN} {ks k' : Nds} {nd : ND} (h : Bk w wr P m2 mb M s l st pI nI cI csI j rest en k1 p lc cs ks) (hg6 : Gq P m2 wr w6) (hx6 : Kx wr w6) (hr6 : RdL w6 P mb s l st2) (ho6 : Om w6 m2 en2 k2) (hk2 : k2 ≤ st2.2) (hre : Rep wr (fun g => g < mb) t (csI.drop (j + 1))) (hs6 : IsNs w6 (fun g => K ≤ g) kp k'.len kc k') (hK : wr.heap.size ≤ K) (hj : j ≤ 16) :
    ∃ p2 c2 w8, (Builtin.append_ #[25, 25] 25 #[.slice p j lc, .slice (some ⟨w6.heap.size, 0, none⟩) 1 1]).run Tryz.prog (w6.alloc (.cells #[.string (tx nd.nm), .int .i64 (nd.kd : Int), .int .i64 (nd.at_ : Int), .int .i64 (nd.sz : Int), .int .i64 nd.n, .string (tx nd.tx), .slice kp k'.len kc] 27)) = .ok (.slice p2 (j + 1) c2) w8 ∧ Bk w w8 P m2 mb M s l st2 pI nI cI csI (j + 1) t en2 k2 p2 c2 (cs ++ [⟨nd, kp, k'.len, kc⟩]) (ks.app nd k') := by
  obtain ⟨l1, l2, l3, l4⟩ := h.lt
  have hG6 : Gn w6 M M (.slice p j lc) cs ks := h.gn.keep (fun g h1 h2 => hg6.block g h2 (by omega) (by omega)) hg6.size (Nat.le_refl _)
  have hown : ∀ k, (Value.slice p j lc).ownBlock = some k → k < K := fun k hk => by have := (h.gn.own.block k hk).2; omega
  have hb : Bl w6 (w6.alloc (.cells #[.string (tx nd.nm), .int .i64 (nd.kd : Int), .int .i64 (nd.at_ : Int), .int .i64 (nd.sz : Int), .int .i64 nd.n, .string (tx nd.tx), .slice kp k'.len kc] 27)) := (Bl.refl _).alloc _
  obtain ⟨p2, c2, w8, q1, q2, q3, q4⟩ := push_node (⟨nd, kp, k'.len, kc⟩ : CN) w6.heap.size hG6 hs6 hown (by omega) hb (lit_node w6 ⟨nd, kp, k'.len, kc⟩) (by omega) (by have := hg6.size; omega)
  generalize w6.alloc (.cells #[.string (tx nd.nm), .int .i64 (nd.kd : Int), .int .i64 (nd.at_ : Int), .int .i64 (nd.sz : Int), .int .i64 nd.n, .string (tx nd.tx), .slice kp k'.len kc] 27) = w7 at *
  have hr7 := hr6.bl hb
  have hr8 : RdL w8 P mb s l st2 := ⟨(q3.block P hr7.lt' (by omega)).trans hr7.at_, hr7.mp.keep (fun x hx => q3.block x (by have := hr7.lt; have := hr7.lt'; omega) (by have := hr7.lt; omega)) q3.size q4, hr7.lt, hr7.a, hr7.k, hr7.sz⟩
  have hgm : Gm M P m2 wr w8 := ⟨q3.os.trans (hb.os.trans hg6.os), q3.tape.trans (hb.tape.trans hg6.tape), q3.output.trans (hb.output.trans hg6.output), Nat.le_trans hg6.size (Nat.le_trans hb.size q3.size), fun k h1 h2 h3 h4 => (q3.block k (by have := hg6.size; have := hb.size; omega) h2).trans ((Below.block hb k (by have := hg6.size; omega)).trans (hg6.block k h1 h3 h4))⟩
  exact ⟨p2, c2, w8, q1, h.keep hgm ((hx6.trans (Kx.bl hb)).trans q4) hr8 (Om.gx (ho6.below hb) q3 l2) hk2 hre q2 (by rw [Nds.app_len, h.ln])⟩
theorem RdL.om {w w' : World} {P mb m2 k : Nat} {s : ByteArray} {l : List Ty} {st : St} {en : Env} (h : RdL w P mb s l st) (ho : Om w m2 en k) (hg : w.grownBy w' (some m2)) (hP : P < m2) : RdL w' P mb s l st ∧ Kx w w' ∧ Gq P m2 w w' := by
  have hne : ∀ k, k ≠ m2 → (some k : Option Nat) ≠ some m2 := fun k hk e => hk (by injection e)
  have hx : Kx w w' := fun b cs hb => (hg.block b (lt_of_heap hb) (hne b (fun e => by
    subst e
    obtain ⟨es, clock, h1⟩ := ho.block
    rw [hb] at h1
    cases h1))).trans hb
  refine ⟨⟨(hg.block P h.lt' (hne P (by omega))).trans h.at_, h.mp.keep (fun x hx => hg.block x (by have := h.lt; have := h.lt'; omega) (hne x (by have := h.lt; omega))) hg.size hx, h.lt, h.a, h.k, h.sz⟩, hx, ⟨hg.os, hg.tape, hg.output, hg.size, fun k h1 _ h3 => hg.block k h1 (hne k h3)⟩⟩
theorem blkC_zero (s : ByteArray) (l : List Ty) : BlkC s l 0 := by
  intro w P mb m2 st i p n c cs en k0 h _ _ _ _ _ _ hf
  have := h.k
  omega
set_option maxRecDepth 10000 in
set_option maxHeartbeats 8000000 in
theorem blkC_succ (s : ByteArray) (l : List Ty) (hl : OKT l) (f : Nat) (hB : BlkC s l f) : BlkC s l (f + 1) := by
  intro w P mb m2 st i p n c csI en k0 h hoki hli hre hom hk0 hPm hf
  obtain ⟨q, hq⟩ : ∃ q, q = rdB (L s) l (f + 1) i en st := ⟨_, rfl⟩
  rw [← hq]
  obtain ⟨M, hM⟩ : ∃ M, M = w.heap.size := ⟨_, rfl⟩
  have hn : n = csI.length := hli.1
  have hn16 : n ≤ 16 := by have := (hre.len).1; have := hoki.len; omega
  have H0 : Hid (Bk w w P m2 mb M s l st p n c csI 0 i en k0 none 0 [] .nil ∧ preN .nil (blk (L s) l (rdB (L s) l f) i en st) = q ∧ OKI i) := ⟨⟨Gq.refl _ _ _, h, hom, hk0, hli, by rw [List.drop_zero]; exact hre, Gn.nil _ _ _, rfl, hPm, by rw [hM]; exact Om.blt hom, hM, by rw [hM]; exact Nat.le_refl _⟩, by rw [preN_nil, hq]; rfl, hoki⟩
  have HB : Hid (BlkC s l f ∧ OKT l ∧ 400 ≤ st.2 + f ∧ n = csI.length) := ⟨hB, hl, by omega, hn⟩
  clear hq hM h hoki hli hre hom hk0 hPm hf hB hl hn
  go_enter Tryz.func89, Tryz.ntmps89
  go_wp2
  go_loopw [7, 13] (fun v7 v13 wr => ∃ (j : Nat) (p' : Option Addr) (lc : Nat) (cs : List CN) (ks : Nds) (st' : St) (rest : Its) (en' : Env) (k1 : Nat), v7 = .slice p' j lc ∧ v13 = .int .i64 (j : Int) ∧ j ≤ n ∧ Hid (Bk w wr P m2 mb M s l st' p n c csI j rest en' k1 p' lc cs ks ∧ preN ks (blk (L s) l (rdB (L s) l f) rest en' st') = q ∧ OKI rest ∧ st.2 ≤ st'.2)) (fun _ v13 _ => n - (intOf v13).toNat)
  case atStart => exact ⟨0, none, 0, [], .nil, st, i, en, k0, rfl, rfl, Nat.zero_le _, H0.out.1, H0.out.2.1, H0.out.2.2, Nat.le_refl _⟩
  case round =>
    obtain ⟨j, p', lc, cs, ks, st', rest, en', k1, rfl, rfl, hj, HM⟩ := hrel
    by_cases hlt : j < n
    · have h1 := HM.out.1.re
      obtain ⟨c1, hc1⟩ : ∃ c1, csI[j]? = some c1 := by
        have : j < csI.length := by have := HB.out.2.2.2; omega
        exact ⟨_, List.getElem?_eq_getElem this⟩
      have hdr : csI.drop j = c1 :: csI.drop (j + 1) := by
        obtain ⟨hjl, e⟩ := List.getElem?_eq_some_iff.1 hc1
        rw [List.drop_eq_getElem_cons hjl, e]
      rw [hdr] at h1
      cases rest with
      | nil => cases h1
      | cons d sub t =>
        obtain ⟨c1', r, e, hcd, hio, hsub, hrr⟩ := h1
        injection e with e1 e2
        subst e1 e2
        subst hcd
        obtain ⟨hwd, hokt, hoks⟩ := HM.out.2.2.1.hd
        obtain ⟨hnn, hnc, hlc⟩ := HM.out.1.li
        obtain ⟨g, rfl, hgm, hgs, hcell⟩ : ∃ g, p = some ⟨g, 0, none⟩ ∧ g < mb ∧ g < wr.heap.size ∧ ∀ j u, (ir.rowE csI)[j]? = some u → wr.cell? ⟨g, j, none⟩ = some u := by
          rcases hlc with hlc | hlc
          · rw [hlc] at hc1; cases hc1
          · exact hlc
        have hcj : ∀ i u, (tm.cl c1)[i]? = some u → wr.cell? ⟨g, j * 13 + i, none⟩ = some u := fun i u hu => by
          have hi : i < 13 := by
            have := (List.getElem?_eq_some_iff.1 hu).1
            rw [ir.cl_len] at this
            exact this
          obtain ⟨hjl, e⟩ := List.getElem?_eq_some_iff.1 hc1
          exact hcell _ _ (by rw [ir.rowE_get csI j hjl i hi, e]; exact hu)
        have f0 : wr.cell? ⟨g, j * 13, none⟩ = some (.int .i64 (c1.d.kd : Int)) := hcj 0 _ rfl
        have f1 : wr.cell? ⟨g, j * 13 + 1, none⟩ = some (.int .i64 (c1.d.at_ : Int)) := hcj 1 _ rfl
        have f2 : wr.cell? ⟨g, j * 13 + 2, none⟩ = some (.string (tx c1.d.nm)) := hcj 2 _ rfl
        have f3 : wr.cell? ⟨g, j * 13 + 3, none⟩ = some (.string (tx c1.d.ty)) := hcj 3 _ rfl
        have f4 : wr.cell? ⟨g, j * 13 + 4, none⟩ = some (.int .i64 (c1.d.wd : Int)) := hcj 4 _ rfl
        have f5 : wr.cell? ⟨g, j * 13 + 5, none⟩ = some (.int .i64 (c1.d.od : Int)) := hcj 5 _ rfl
        have f6 : wr.cell? ⟨g, j * 13 + 6, none⟩ = some (.bool c1.d.sg) := hcj 6 _ rfl
        have f7 : wr.cell? ⟨g, j * 13 + 7, none⟩ = some (.bool c1.d.mn) := hcj 7 _ rfl
        have f8 : wr.cell? ⟨g, j * 13 + 8, none⟩ = some (.pointer c1.pc) := hcj 8 _ rfl
        have f9 : wr.cell? ⟨g, j * 13 + 9, none⟩ = some (.int .i64 (c1.d.ru : Int)) := hcj 9 _ rfl
        have f10 : wr.cell? ⟨g, j * 13 + 10, none⟩ = some (.string (tx c1.d.f1)) := hcj 10 _ rfl
        have f11 : wr.cell? ⟨g, j * 13 + 11, none⟩ = some (.string (tx c1.d.l1)) := hcj 11 _ rfl
        have f12 : wr.cell? ⟨g, j * 13 + 12, none⟩ = some (.slice c1.p c1.n c1.c) := hcj 12 _ rfl
        have HST : Hid _ := blk_step (L s) l (rdB (L s) l f) c1.d sub t en' ks st'
        obtain ⟨w3, hw3⟩ : ∃ w3, w3 = wr.alloc (.cells #[.int .i64 (c1.d.kd : Int), .int .i64 (c1.d.at_ : Int), .string (tx c1.d.nm), .string (tx c1.d.ty), .int .i64 (c1.d.wd : Int), .int .i64 (c1.d.od : Int), .bool c1.d.sg, .bool c1.d.mn, .pointer c1.pc, .int .i64 (c1.d.ru : Int), .string (tx c1.d.f1), .string (tx c1.d.l1), .slice c1.p c1.n c1.c] 60) := ⟨_, rfl⟩
        obtain ⟨Xb, hXb⟩ : ∃ Xb, Xb = wr.heap.size := ⟨_, rfl⟩
        have hb3 : Bl wr w3 := by rw [hw3]; exact (Bl.refl _).alloc _
        have hI3 : Iv w3 Xb c1 := by rw [hw3, hXb]; exact Iv.new wr c1
        have H3 : Hid (Bk w w3 P m2 mb M s l st' (some ⟨g, 0, none⟩) n c csI j (.cons c1.d sub t) en' k1 p' lc cs ks ∧ Iv w3 Xb c1 ∧ Bl wr w3 ∧ Xb = wr.heap.size ∧ Rep wr (fun g => g < mb) t (csI.drop (j + 1)) ∧ OKI t ∧ WD c1.d) := ⟨HM.out.1.bl hb3, hI3, hb3, hXb, hrr, hokt, hwd⟩
        have cP := part_at f w3 P mb s l st' c1 sub m2 k1 en' H3.out.1.rd (ItL.bl ⟨hio, hsub⟩ hb3) hwd hoks H3.out.1.om H3.out.1.k H3.out.1.lt.1 HB.out.2.1 HB.out.1 (by have := HB.out.2.2.1; have := HM.out.2.2.2; omega)
        have HLE : Hid (∀ nd k' st2, part (L s) l (rdB (L s) l f) c1.d sub en' st' = .ok (nd, k', st2) → st'.1 ≤ st2.1 ∧ st'.2 < st2.2 ∧ st2.2 ≤ 400) := fun nd k' st2 he => part_le HB.out.2.1 hwd hoks (by rw [L_len]; exact HM.out.1.rd.a) HM.out.1.rd.k he
        rw [itV_eq] at cP
        have hj16 : j < 16 := by omega
        have hj1 : (0 : Int) ≤ (j : Int) := by omega
        have hj2 : (j : Int) < (n : Int) := by omega
        have hju : decide ((j : Int) < (n : Int)) = true := decide_eq_true hj2
        clear hnn hc1 hdr hio hsub hrr hwd hokt hoks hnc hlc hcell hcj hgm hb3 hI3
        go_wp2_with fail
        rw [← hw3, ← hXb]
        clear hw3 hXb f0 f1 f2 f3 f4 f5 f6 f7 f8 f9 f10 f11 f12
        refine cP.mono ?_
        rintro e w4 ⟨hg4, hans⟩
        clear cP
        generalize hpt : part (L s) l (rdB (L s) l f) c1.d sub en' st' = r at hans
        cases r with
        | error er =>
          obtain ⟨v, rfl, hv⟩ := hans
          have HQ : Hid (q = .error er) := by rw [← HM.out.2.1]; exact HST.out.1 er hpt
          unfold thrL
          clear HST HLE
          go_wp2
          rw [HQ.out]
          exact ⟨rfl, (HM.out.1.gq.trans (Gq.gp (Gp.bl H3.out.2.2.1))).trans (Gq.gp hg4), v, rfl, hv.from (by have := HM.out.1.gq.size; have := H3.out.2.2.1.size; omega)⟩
        | ok r =>
          obtain ⟨nd, k', st2⟩ := r
          obtain ⟨kp, kc, rfl, hks, hr4⟩ := hans
          have hle := HLE.out nd k' st2 hpt
          have hstep := HST.out.2 nd k' st2 hpt
          rw [HM.out.2.1] at hstep
          obtain ⟨w5, hw5⟩ : ∃ w5, w5 = w4.alloc (.cells #[.string (tx nd.nm), .int .i64 (nd.kd : Int), .int .i64 (nd.at_ : Int), .int .i64 (nd.sz : Int), .int .i64 nd.n, .string (tx nd.tx), .slice kp k'.len kc] 27) := ⟨_, rfl⟩
          obtain ⟨Nb, hNb⟩ : ∃ Nb, Nb = w4.heap.size := ⟨_, rfl⟩
          have hb5 : Bl w4 w5 := by rw [hw5]; exact (Bl.refl _).alloc _
          have hn5 : Nv w5 Nb nd kp k'.len kc := by rw [hw5, hNb]; exact new_at _ _
          have hI5 : Iv w5 Xb c1 := (H3.out.2.1.gp hg4 (by have := H3.out.2.2.2.1; have := HM.out.1.rd.lt'; omega)).bl hb5
          have hm2lt : m2 < wr.heap.size := Om.blt HM.out.1.om
          have hom5 : Om w5 m2 en' k1 := (H3.out.1.om.step (gp_grown hg4) (fun e => by injection e with e; have := HM.out.1.lt.1; omega)).below hb5
          have H5 : Hid (Iv w5 Xb c1 ∧ Nv w5 Nb nd kp k'.len kc ∧ RdL w5 P mb s l st2 ∧ Om w5 m2 en' k1 ∧ Gq P m2 wr w5 ∧ Kx wr w5 ∧ IsNs w5 (fun g => w3.heap.size ≤ g) kp k'.len kc k' ∧ Xb ≠ m2 ∧ Nb ≠ m2 ∧ k1 + 1 ≤ st2.2 ∧ w3.heap.size ≥ wr.heap.size ∧ q = preN (ks.app nd k') (blk (L s) l (rdB (L s) l f) t (nxt c1.d en' nd) st2) ∧ st.2 ≤ st2.2) :=
            ⟨hI5, hn5, hr4.bl hb5, hom5, ((Gq.gp (Gp.bl H3.out.2.2.1)).trans (Gq.gp hg4)).trans (Gq.gp (Gp.bl hb5)), ((Kx.bl H3.out.2.2.1).trans (H3.out.1.rd.kx hg4)).trans (Kx.bl hb5), hks.bl hb5, by have := H3.out.2.2.2.1; omega, by have := H3.out.2.2.1.size; have := hg4.size; omega, by have := HM.out.1.k; omega, H3.out.2.2.1.size, hstep, by have := HM.out.2.2.2; omega⟩
          have hR64 := fun (h1 : c1.d.kd = 1) (hm : c1.d.mn = false) => part_r64 H3.out.2.2.2.2.2.2 h1 hm hpt
          have i0 : w5.cell? ⟨Xb, 0, none⟩ = some (.int .i64 (c1.d.kd : Int)) := hI5.cell 0
          have i2 : w5.cell? ⟨Xb, 2, none⟩ = some (.string (tx c1.d.nm)) := hI5.cell 2
          have i7 : w5.cell? ⟨Xb, 7, none⟩ = some (.bool c1.d.mn) := hI5.cell 7
          obtain ⟨n0, n1, n2, n3, n4, n5, n6⟩ := hn5.cells
          have hXs := hI5.lt
          have hNs := hn5.lt
          have hkd4 : c1.d.kd ≤ 4 := by rcases H3.out.2.2.2.2.2.2 with g | g | g | g <;> omega
          unfold ndV
          clear hg4 hks hr4 hle hstep hpt hb5 hn5 hI5 hom5 hm2lt HST HLE
          by_cases hup : c1.d.kd = 1 ∧ c1.d.mn = false
          · obtain ⟨hu1, hu2⟩ := hup
            have hnm5 : (tx c1.d.nm).size ≤ 5000 := by
              rw [tx_size]
              rcases H3.out.2.2.2.2.2.2 with g | g | g | g
              · omega
              · omega
              · omega
              · have := g.2.2.2.1.2.2.1; omega
            obtain ⟨w6, hrun, hom6, hg6⟩ := H5.out.2.2.2.1.put (tx c1.d.nm) nd.n hnm5 (hR64 hu1 hu2) (by have h1 := H5.out.2.2.2.2.2.2.2.2.2.1; have h2 := H5.out.2.2.1.k; omega)
            obtain ⟨hr6, hx6, hq6⟩ := H5.out.2.2.1.om H5.out.2.2.2.1 hg6 HM.out.1.lt.1
            have hom6 : Om w6 m2 (nxt c1.d en' nd) (k1 + 1) := by
              have e : (tx c1.d.nm).data.toList = c1.d.nm := L_tx c1.d.nm
              rw [e] at hom6
              unfold nxt
              rw [if_pos ⟨hu1, hu2⟩]
              exact hom6
            have hks6 : IsNs w6 (fun g => w3.heap.size ≤ g) kp k'.len kc k' := H5.out.2.2.2.2.2.2.1.keep (fun g h1 h2 => hg6.block g h2 (fun e => by injection e with e; have := Om.blt HM.out.1.om; have := H5.out.2.2.2.2.2.2.2.2.2.2.1; omega)) hg6.size
            obtain ⟨p2, c2, w8, hap, hBk⟩ := HM.out.1.push (t := t) (nd := nd) (H5.out.2.2.2.2.1.trans hq6) (H5.out.2.2.2.2.2.1.trans hx6) hr6 hom6 H5.out.2.2.2.2.2.2.2.2.2.1 H3.out.2.2.2.2.1 hks6 H5.out.2.2.2.2.2.2.2.2.2.2.1 (by omega)
            have HA : Hid _ := hap
            have H8 : Hid (Bk w w8 P m2 mb M s l st2 (some ⟨g, 0, none⟩) n c csI (j + 1) t (nxt c1.d en' nd) (k1 + 1) p2 c2 (cs ++ [⟨nd, kp, k'.len, kc⟩]) (ks.app nd k')) := hBk
            have hn6 : Nv w6 Nb nd kp k'.len kc := (hg6.block Nb H5.out.2.1.lt (fun e => by injection e with e; exact H5.out.2.2.2.2.2.2.2.2.1 e)).trans H5.out.2.1
            obtain ⟨e0, e1, e2, e3, e4, e5, e6⟩ := hn6.cells
            have hk1 : ((c1.d.kd : Int) == 1) = true := by rw [hu1]; rfl
            rw [hu2] at i7
            clear hom6 hg6 hr6 hx6 hq6 hks6 hap hBk hn6 hR64 hu1 hu2 hnm5
            go_upto_region 6 with fail
            rw [← hw5, ← hNb]
            clear hw5 hNb
            go_wp2_with (at_builtin; refine Lib.wpList_append_run _ rfl (.tmp 34) (.tmp 36) _ _ rfl _ _ rfl rfl _ _ HA.out ?_)
            go_roundw
            case rel => exact ⟨j + 1, p2, c2, cs ++ [⟨nd, kp, k'.len, kc⟩], ks.app nd k', st2, t, nxt c1.d en' nd, k1 + 1, rfl, by go_num, by omega, H8.out, H5.out.2.2.2.2.2.2.2.2.2.2.2.1.symm, H3.out.2.2.2.2.2.1, H5.out.2.2.2.2.2.2.2.2.2.2.2.2⟩
            case measure => simp [intOf]; omega
          · have hnx : nxt c1.d en' nd = en' := by unfold nxt; rw [if_neg hup]
            obtain ⟨p2, c2, w8, hap, hBk⟩ := HM.out.1.push (t := t) (nd := nd) H5.out.2.2.2.2.1 H5.out.2.2.2.2.2.1 H5.out.2.2.1 H5.out.2.2.2.1 (by have := H5.out.2.2.2.2.2.2.2.2.2.1; omega) H3.out.2.2.2.2.1 H5.out.2.2.2.2.2.2.1 H5.out.2.2.2.2.2.2.2.2.2.2.1 (by omega)
            have HA : Hid _ := hap
            have H8 : Hid (Bk w w8 P m2 mb M s l st2 (some ⟨g, 0, none⟩) n c csI (j + 1) t (nxt c1.d en' nd) k1 p2 c2 (cs ++ [⟨nd, kp, k'.len, kc⟩]) (ks.app nd k')) := by rw [hnx]; exact hBk
            clear hR64 hap hBk hnx
            by_cases hk1 : c1.d.kd = 1
            · have hmn : c1.d.mn = true := by
                cases hm : c1.d.mn with
                | true => rfl
                | false => exact absurd ⟨hk1, hm⟩ hup
              have hk1' : ((c1.d.kd : Int) == 1) = true := by rw [hk1]; rfl
              rw [hmn] at i7
              clear hup hk1 hmn
              go_upto_region 6 with fail
              rw [← hw5, ← hNb]
              clear hw5 hNb
              go_wp2_with (at_builtin; refine Lib.wpList_append_run _ rfl (.tmp 34) (.tmp 36) _ _ rfl _ _ rfl rfl _ _ HA.out ?_)
              go_roundw
              case rel => exact ⟨j + 1, p2, c2, cs ++ [⟨nd, kp, k'.len, kc⟩], ks.app nd k', st2, t, nxt c1.d en' nd, k1, rfl, by go_num, by omega, H8.out, H5.out.2.2.2.2.2.2.2.2.2.2.2.1.symm, H3.out.2.2.2.2.2.1, H5.out.2.2.2.2.2.2.2.2.2.2.2.2⟩
              case measure => simp [intOf]; omega
            · have hk1' : ((c1.d.kd : Int) == 1) = false := by rw [beq_eq_false_iff_ne]; omega
              clear hup hk1
              go_upto_region 6 with fail
              rw [← hw5, ← hNb]
              clear hw5 hNb
              go_wp2_with (at_builtin; refine Lib.wpList_append_run _ rfl (.tmp 34) (.tmp 36) _ _ rfl _ _ rfl rfl _ _ HA.out ?_)
              go_roundw
              case rel => exact ⟨j + 1, p2, c2, cs ++ [⟨nd, kp, k'.len, kc⟩], ks.app nd k', st2, t, nxt c1.d en' nd, k1, rfl, by go_num, by omega, H8.out, H5.out.2.2.2.2.2.2.2.2.2.2.2.1.symm, H3.out.2.2.2.2.2.1, H5.out.2.2.2.2.2.2.2.2.2.2.2.2⟩
              case measure => simp [intOf]; omega
    · obtain rfl : j = n := by omega
      have HE : Hid (q = .ok (ks, st')) := by
        have h1 := HM.out.1.re
        rw [List.drop_eq_nil_of_le (by have := HB.out.2.2.2; omega)] at h1
        have h2 := HM.out.2.1
        cases rest with
        | nil => rw [blk_end] at h2; exact h2.symm
        | cons d sub t => obtain ⟨c', r, e, _⟩ := h1; cases e
      go_wp2
      go_ret
      rw [HE.out]
      have hK := HM.out.1
      obtain ⟨p'', c'', e1, e2, e3⟩ := hK.gn.is (Nat.le_refl _)
      simp only [Value.slice.injEq] at e1
      obtain ⟨rfl, e4, rfl⟩ := e1
      exact ⟨hK.gq, _, _, by rw [← e4]; rfl, e2.mono (fun g h1 _ => by have := hK.lt; omega), hK.rd⟩
theorem blkC (s : ByteArray) (l : List Ty) (hl : OKT l) (f : Nat) : BlkC s l f := by
  induction f with
  | zero => exact blkC_zero s l
  | succ f ih => exact blkC_succ s l hl f ih
end Go.Proofs.YtococaecjecjgaaGreatDoor.ly
