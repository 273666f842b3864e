/- Texts laid together: TmD, TmE, TmF, TmT, TmG. -/
import Derived.Test.YtococaecjecjgaaGreatDoorXLayoutBack13
import Derived.RegionCalls
/- A reader of a template's tokens: rows of items grow. -/
namespace Go.Proofs.YtococaecjecjgaaGreatDoor.tm
set_option linter.unusedVariables false
open Go.ChangeShapes Go.WideShapes Go.ChangeAt Go.RowKit Go.Shelf
open mem lx ex

theorem ir_where (w : World) (base : Nat) (v : Value) (l : List C) (z : C) (x : Addr) (hown : ir.Own w base v l) (hX : ∀ j u, (cl z)[j]? = some u → w.cell? (x.add j) = some u) (hn : l.length ≤ 20000) (v' : Value) (w' : World)
    (hr : (Builtin.append_ #[50, 50] 50 #[v, .slice (some x) 1 1]).run Tryz.prog w = .ok v' w') : v'.ownBlock = v.ownBlock ∨ v'.ownBlock = some w.heap.size := by
  obtain ⟨i, hi, hz, h1, h2⟩ := ir.infoE'
  have hlen : (cl z).length = 1 * i.size := by rw [h1]; rfl
  have hone : ∀ u ∈ cl z, u.oneCell' = true := fun u hu => ir.rowE_one [z] u (by rw [ir.rowE_cons]; simp [hu])
  rcases hown.2 with ⟨rfl, hl0⟩ | ⟨g, cap, cur, rfl, hbg, hg, hnc, hcm, hcs, htake⟩
  · have hr2 := run_append_nil (P := Tryz.prog) w 50 50 60 i (.agg #[.int .i64 0, .int .i64 0, .string ⟨#[]⟩, .string ⟨#[]⟩, .int .i64 0, .int .i64 0, .bool false, .bool false, .pointer none, .int .i64 0, .string ⟨#[]⟩, .string ⟨#[]⟩, .slice none 0 0]) Tryz.underlying50 hi hz x 1 1 (cl z) hlen hX (by omega) (by omega) (by rw [h2]; omega)
    rw [hr2] at hr
    injection hr with e1 _
    exact Or.inr (by rw [← e1]; rfl)
  · by_cases hroom : l.length + 1 ≤ cap
    · have hr2 := run_append_room (P := Tryz.prog) w 50 50 60 i Tryz.underlying50 hi g l.length cap cur hg x 1 1 (cl z) hlen hX hone hroom (by rw [h1, hcs, ir.cl_len]; omega)
      rw [hr2] at hr
      injection hr with e1 _
      exact Or.inl (by rw [← e1]; rfl)
    · have holds : ∀ j u, (ir.rowE l)[j]? = some u → w.cell? ((⟨g, 0, none⟩ : Addr).add j) = some u := World.ownsRow.cells hown (g := g) rfl
      have hr2 := run_append_grow (P := Tryz.prog) w 50 50 60 i (.agg #[.int .i64 0, .int .i64 0, .string ⟨#[]⟩, .string ⟨#[]⟩, .int .i64 0, .int .i64 0, .bool false, .bool false, .pointer none, .int .i64 0, .string ⟨#[]⟩, .string ⟨#[]⟩, .slice none 0 0]) Tryz.underlying50 hi hz ⟨g, 0, none⟩ l.length cap (ir.rowE l) (by rw [h1]; exact hown.1) holds x 1 1 (cl z) hlen hX (by omega) (by omega) (growslice_fits (by omega) (by rw [h2]; omega))
      rw [hr2] at hr
      injection hr with e1 _
      exact Or.inr (by rw [← e1]; rfl)
theorem sr_where (w : World) (base : Nat) (v : Value) (l : List CT) (z : CT) (x : Addr) (hown : sr.Own w base v l) (hX : ∀ j u, (clT z)[j]? = some u → w.cell? (x.add j) = some u) (hn : l.length ≤ 20000) (v' : Value) (w' : World)
    (hr : (Builtin.append_ #[22, 22] 22 #[v, .slice (some x) 1 1]).run Tryz.prog w = .ok v' w') : v'.ownBlock = v.ownBlock ∨ v'.ownBlock = some w.heap.size := by
  obtain ⟨i, hi, hz, h1, h2⟩ := sr.infoE'
  have hlen : (clT z).length = 1 * i.size := by rw [h1]; rfl
  have hone : ∀ u ∈ clT z, u.oneCell' = true := fun u hu => sr.rowE_one [z] u (by rw [sr.rowE_cons]; simp [hu])
  rcases hown.2 with ⟨rfl, hl0⟩ | ⟨g, cap, cur, rfl, hbg, hg, hnc, hcm, hcs, htake⟩
  · have hr2 := run_append_nil (P := Tryz.prog) w 22 22 96 i (.agg #[.string ⟨#[]⟩, .int .i64 0, .slice none 0 0]) Tryz.underlying22 hi hz x 1 1 (clT z) hlen hX (by omega) (by omega) (by rw [h2]; omega)
    rw [hr2] at hr
    injection hr with e1 _
    exact Or.inr (by rw [← e1]; rfl)
  · by_cases hroom : l.length + 1 ≤ cap
    · have hr2 := run_append_room (P := Tryz.prog) w 22 22 96 i Tryz.underlying22 hi g l.length cap cur hg x 1 1 (clT z) hlen hX hone hroom (by rw [h1, hcs, sr.cl_len]; omega)
      rw [hr2] at hr
      injection hr with e1 _
      exact Or.inl (by rw [← e1]; rfl)
    · have holds : ∀ j u, (sr.rowE l)[j]? = some u → w.cell? ((⟨g, 0, none⟩ : Addr).add j) = some u := World.ownsRow.cells hown (g := g) rfl
      have hr2 := run_append_grow (P := Tryz.prog) w 22 22 96 i (.agg #[.string ⟨#[]⟩, .int .i64 0, .slice none 0 0]) Tryz.underlying22 hi hz ⟨g, 0, none⟩ l.length cap (sr.rowE l) (by rw [h1]; exact hown.1) holds x 1 1 (clT z) hlen hX (by omega) (by omega) (growslice_fits (by omega) (by rw [h2]; omega))
      rw [hr2] at hr
      injection hr with e1 _
      exact Or.inr (by rw [← e1]; rfl)
/-- One list behind another one. -/
def Its.cat : Its → Its → Its
  | .nil, m => m
  | .cons d s t, m => .cons d s (t.cat m)
theorem Its.cat_app (l : Its) (d : D) (s m : Its) : (l.app d s).cat m = l.cat (.cons d s m) := by
  induction l with
  | nil => rfl
  | cons e u t _ ih => show Its.cons e u ((t.app d s).cat m) = Its.cons e u (t.cat (.cons d s m)); rw [ih]
theorem Its.cat_nil (l : Its) : l.cat .nil = l := by
  induction l with
  | nil => rfl
  | cons e u t _ ih => show Its.cons e u (t.cat .nil) = _; rw [ih]
theorem Its.app_len (l : Its) (d : D) (s : Its) : (l.app d s).len = l.len + 1 := by
  induction l with
  | nil => rfl
  | cons e u t _ ih => show (t.app d s).len + 1 = t.len + 1 + 1; rw [ih]
/-- What comes behind what is read already. -/
def pre (l : Its) : Rs Its → Rs Its
  | .error e => .error e
  | .ok (m, r) => .ok (l.cat m, r)
theorem loop_is (en : Nat) (inner : List Tk → Rs Its) (n : Nat) (ts : List Tk) (l : Its) :
    ((hd en ts).t = [125] → pre l (loop nb en inner n ts) = .ok (l, ts.tail)) ∧ (¬ (hd en ts).t = [125] → n = 0 → pre l (loop nb en inner n ts) = .error (4, (hd en ts).a)) ∧
    (¬ (hd en ts).t = [125] → ∀ m, n = m + 1 → (∀ e, item nb en inner ts = .error e → pre l (loop nb en inner n ts) = .error e) ∧ ∀ d s r, item nb en inner ts = .ok ((d, s), r) → pre l (loop nb en inner n ts) = pre (l.app d s) (loop nb en inner m r)) := by
  cases n with
  | zero =>
    rw [loop]
    refine ⟨fun h => ?_, fun h _ => by rw [if_neg h]; rfl, fun h m hm => by omega⟩
    rw [if_pos h]
    show Except.ok (l.cat .nil, ts.tail) = _
    rw [Its.cat_nil]
  | succ n =>
    rw [loop]
    refine ⟨fun h => ?_, fun h h0 => by omega, fun h m hm => ?_⟩
    · rw [if_pos h]
      show Except.ok (l.cat .nil, ts.tail) = _
      rw [Its.cat_nil]
    · obtain rfl : n = m := by omega
      rw [if_neg h]
      refine ⟨fun e he => by rw [he]; rfl, fun d s r hd => ?_⟩
      rw [hd]
      dsimp only
      cases loop nb en inner n r with
      | error e => rfl
      | ok lr =>
        obtain ⟨m, r'⟩ := lr
        show Except.ok (l.cat (.cons d s m), r') = Except.ok ((l.app d s).cat m, r')
        rw [Its.cat_app]
/-- The row of a block, under way. -/
structure Br (w0 w : World) (P : Nat) (s : ByteArray) (ts : List Tk) (d mb base : Nat) (v : Value) (cs : List C) (l : Its) : Prop where
  gp : Gp P w0 w
  rd : RdT w P s ts d mb
  gt : Gt w
  own : ir.Own w base v cs
  rep : Rep w (fun g => w0.heap.size ≤ g ∧ v.ownBlock ≠ some g) l cs
theorem Br.bl {w0 w w' : World} {P : Nat} {s : ByteArray} {ts : List Tk} {d mb base : Nat} {v : Value} {cs : List C} {l : Its} (h : Br w0 w P s ts d mb base v cs l) (hb : Bl w w') : Br w0 w' P s ts d mb base v cs l :=
  ⟨h.gp.trans (Gp.bl hb), h.rd.step hb, h.gt.bl hb, h.own.bl hb, h.rep.keep (fun g _ hg => Below.block hb g hg) hb.size (Kx.bl hb)⟩
theorem Br.go {w0 w w' : World} {P : Nat} {s : ByteArray} {ts ts' : List Tk} {d mb base : Nat} {v : Value} {cs : List C} {l : Its} (h : Br w0 w P s ts d mb base v cs l) (hg : Gp P w w') (hr : RdT w' P s ts' d mb) (hP0 : P < w0.heap.size) (hPb : P < base) (hGP : 6 ≤ P) : Br w0 w' P s ts' d mb base v cs l :=
  ⟨h.gp.trans hg, hr, h.gt.gp hg hGP h.rd.lt, h.own.gp hg hPb, h.rep.keep (fun g h1 hg' => hg.block g hg' (by omega)) hg.size (kx_gp h.rd hg)⟩
/-- One item more. -/
theorem Br.app {w0 w w6 : World} {P : Nat} {s : ByteArray} {ts : List Tk} {d mb base : Nat} {v : Value} {cs : List C} {l : Its} {c : C} {it : Its} {v' : Value} {w' : World} {M : Nat}
    (h : Br w0 w P s ts d mb base v cs l) (ho : IsO w c.pc c.d.ct) (hs : Sub w M c it) (hM : w0.heap.size ≤ M) (hvM : ∀ k, v.ownBlock = some k → k < M) (hb6 : w6 = w.alloc (.cells (cl c).toArray 60))
    (ho' : ir.Own w' base v' (cs ++ [c])) (hg : w6.grownBy w' v.ownBlock) (hw : v'.ownBlock = v.ownBlock ∨ v'.ownBlock = some w6.heap.size) (hPb : P < base) (hbase : base ≤ w.heap.size) (hb0 : w0.heap.size ≤ base) (hNP : 6 ≤ P) : Br w0 w' P s ts d mb base v' (cs ++ [c]) (l.app c.d it) := by
  have hbl : Bl w w6 := by rw [hb6]; exact (Bl.refl _).alloc _
  have h6 := h.bl hbl
  have hbk : ∀ k, v.ownBlock = some k → base ≤ k ∧ k < w.heap.size := h.own.block
  have hgp : Gp P w6 w' ∨ True := Or.inr trivial
  have keep : ∀ k, k < w6.heap.size → v.ownBlock ≠ some k → w'.heap[k]? = w6.heap[k]? := fun k hk hne => hg.block k hk (fun e => hne e.symm)
  have hkx : Kx w6 w' := fun b cs' hb => by
    rw [keep b (lt_of_heap hb) (fun e => by
      obtain ⟨cap, hv⟩ : ∃ cap, v = .slice (some ⟨b, 0, none⟩) cs.length cap := by
        rcases h6.own.shape with ⟨rfl, _⟩ | ⟨g, cap, rfl, _⟩
        · cases e
        · have : g = b := by
            have : (Value.slice (some ⟨g, 0, none⟩) cs.length cap).ownBlock = some g := rfl
            rw [this] at e; injection e
          subst this; exact ⟨cap, rfl⟩
      have ho6 := h6.own
      rw [hv] at ho6
      obtain ⟨cur, hcur⟩ := ho6.kind
      rw [hb] at hcur
      simp at hcur)]
    exact hb
  refine ⟨?_, ?_, ?_, ho', ?_⟩
  · exact ⟨hg.os.trans h6.gp.os, hg.tape.trans h6.gp.tape, hg.output.trans h6.gp.output, Nat.le_trans h6.gp.size hg.size, fun k hk hne => (keep k (Nat.lt_of_lt_of_le hk h6.gp.size) (fun e => by have := (hbk k e).1; omega)).trans (h6.gp.block k hk hne)⟩
  · cases hv : v.ownBlock with
    | none =>
      rw [hv] at hg
      exact h6.rd.step ⟨hg.os, hg.tape, hg.output, hg.size, fun k hk => hg.block k hk (fun e => by cases e)⟩
    | some g =>
      rw [hv] at hg
      exact h6.rd.behind hg (by have := (hbk g hv).1; omega)
  · have := h6.rd.lt
    exact h6.gt.below ⟨hg.os, hg.tape, hg.output, hg.size, fun k hk => keep k (by omega) (fun e => by have := (hbk k e).1; omega)⟩
  · have hsz : w6.heap.size = w.heap.size + 1 := by rw [hb6]; simp
    have r6 : Rep w' (fun g => w0.heap.size ≤ g ∧ v.ownBlock ≠ some g) l cs := h6.rep.keep (fun g h1 hg' => keep g hg' h1.2) hg.size hkx
    have r7 : Rep w' (fun g => w0.heap.size ≤ g ∧ v'.ownBlock ≠ some g) l cs := by
      have r5 : Rep w (fun g => (w0.heap.size ≤ g ∧ v.ownBlock ≠ some g) ∧ g < w.heap.size) l cs := h.rep.mono (fun g h1 h2 => ⟨h1, h2⟩)
      have r5' : Rep w' (fun g => (w0.heap.size ≤ g ∧ v.ownBlock ≠ some g) ∧ g < w.heap.size) l cs := (r5.keep (fun g h1 hg' => Below.block hbl g hg') hbl.size (Kx.bl hbl)).keep (fun g h1 hg' => keep g hg' h1.1.2) hg.size hkx
      refine r5'.mono (fun g h1 _ => ⟨h1.1.1, fun e => ?_⟩)
      rcases hw with hw | hw
      · rw [hw] at e; exact h1.1.2 e
      · rw [hw] at e; injection e with e; have := h1.2; omega
    refine Rep.app ((ho.keep (Kx.bl hbl)).keep hkx) ?_ r7
    have hs' : Sub w' M c it := by
      refine (hs.keep (fun g h1 h2 => Below.block hbl g h2) hbl.size (Kx.bl hbl)).keep (fun g h1 h2 => keep g h2 (fun e => by have := hvM g e; omega)) hg.size hkx
    obtain ⟨cs2, k1, k2⟩ := hs
    have hlt : ∀ g, M ≤ g → g < w.heap.size → v'.ownBlock ≠ some g := fun g h1 h2 e => by
      rcases hw with hw | hw
      · rw [hw] at e; have := hvM g e; omega
      · rw [hw] at e; injection e with e; omega
    have k1' := k1.mono (ok' := fun g => M ≤ g ∧ g < w.heap.size) (fun g h1 h2 => ⟨h1, h2⟩)
    have k2' := k2.mono (ok' := fun g => M ≤ g ∧ g < w.heap.size) (fun g h1 h2 => ⟨h1, h2⟩)
    refine ⟨cs2, ?_, ?_⟩
    · exact ((k1'.keep (fun g _ hg' => Below.block hbl g hg') hbl.size).keep (fun g h1 hg' => keep g hg' (fun e => by have := hvM g e; omega)) hg.size).mono (fun g h1 _ => ⟨by omega, hlt g h1.1 h1.2⟩)
    · exact ((k2'.keep (fun g _ hg' => Below.block hbl g hg') hbl.size (Kx.bl hbl)).keep (fun g h1 hg' => keep g hg' (fun e => by have := hvM g e; omega)) hg.size hkx).mono (fun g h1 _ => ⟨by omega, hlt g h1.1 h1.2⟩)
end Go.Proofs.YtococaecjecjgaaGreatDoor.tm
/- A reader of a template's tokens: block. -/
namespace Go.Proofs.YtococaecjecjgaaGreatDoor.tm
set_option linter.unusedVariables false
open Go.ChangeShapes Go.WideShapes Go.ChangeAt Go.RowKit Go.Shelf
open mem lx ex

theorem RdT.deep {w : World} {P d mb : Nat} {s : ByteArray} {ts : List Tk} (h : RdT w P s ts d mb) (d' : Nat) : RdT (w.setCell ⟨P, 2, none⟩ (.int .i64 (d' : Int))) P s ts d' mb := by
  obtain ⟨p, c, h1, h2, h3, h4⟩ := h.ex
  obtain ⟨⟨n, hm⟩, hne⟩ := h.mp
  have hg : Gp P w (w.setCell ⟨P, 2, none⟩ (.int .i64 (d' : Int))) := Gp.set _
  have hP := lt_of_heap h1
  refine ⟨⟨p, c, ?_, h2, In.gp h3 hg (fun y hy => by have := h4 y hy; exact ⟨by omega, by omega⟩), h4⟩, ⟨⟨n, hm.step (gp_grown hg) (fun e => by injection e with e; omega)⟩, hne⟩, h.sx, h.sz⟩
  simp [World.setCell, Array.getElem?_modify, h1]
def lenV (v : Value) : Nat := match v with | .slice _ n _ => n | _ => 0
set_option maxRecDepth 10000 in
theorem block_zero : BlkC 0 := by
  intro w P d mb s ts hk h hG hGP
  obtain rfl : d = 8 := by omega
  have c1 := want_at ⟨#[123]⟩ w P 8 mb s ts h
  rw [show L ⟨#[123]⟩ = [123] from rfl] at c1
  have hthr := throw_at (hd s.size ts) 4
  obtain ⟨q, hq⟩ : ∃ q, q = blk nb s.size 0 ts := ⟨_, rfl⟩
  rw [← hq]
  by_cases h1 : (hd s.size ts).t = [123]
  · rw [wantU_yes h1] at c1
    have HQ : Hid (q = .error (4, (hd s.size ts).a)) := by rw [hq, blk, if_pos h1]; rfl
    clear hq h1
    unfold tkV at c1 hthr
    generalize tx (hd s.size ts).t = S at *
    go_enter Tryz.func99, Tryz.ntmps99
    go_wp2_with fail
    refine c1.mono ?_
    rintro e w1 ⟨hg1, v1, rfl, rfl, hR1⟩
    have hb2 : Bl w1 (w1.alloc (.cells #[.string S, .int .i64 ((hd s.size ts).a : Int)] 145)) := (Bl.refl _).alloc _
    obtain ⟨p, c, d0, d1, d2, d3, _⟩ := (hR1.step hb2).cells
    have d2' : w1.cell? ⟨P, 2, none⟩ = some (.int .i64 8) := by obtain ⟨_, _, _, _, h, _⟩ := hR1.cells; exact h
    have hPs := hR1.lt
    have hP2 := (hR1.step hb2).lt
    go_wp2_with fail
    refine (hthr _).mono ?_
    rintro e w4 ⟨B, rfl, k1, k2, k3⟩
    unfold thrownT
    go_wp2
    exact ⟨rfl, Ans.of_err HQ.out (hg1.trans (Gp.bl (hb2.trans k3))) (by have := hg1.size; have := hb2.size; omega) k2⟩
  · rw [wantU_no h1] at c1
    have HQ : Hid (q = .error (3, (hd s.size ts).a)) := by rw [hq, blk, if_neg h1]; rfl
    clear hq h1 hthr
    go_enter Tryz.func99, Tryz.ntmps99
    go_wp2_with fail
    refine c1.mono ?_
    rintro e w1 ⟨hg1, B, rfl, hB, hA⟩
    unfold thrownT
    go_wp2
    exact ⟨rfl, Ans.of_err HQ.out hg1 hB hA⟩
set_option maxRecDepth 10000 in
set_option maxHeartbeats 4000000 in
theorem block_succ (k : Nat) (cB : BlkC k) : BlkC (k + 1) := by
  intro w P d mb s ts hk h hG hGP
  have c1 := want_at ⟨#[123]⟩ w P d mb s ts h
  rw [show L ⟨#[123]⟩ = [123] from rfl] at c1
  have hPw := h.lt
  obtain ⟨q, hq⟩ : ∃ q, q = blk nb s.size (k + 1) ts := ⟨_, rfl⟩
  rw [← hq]
  by_cases h1 : (hd s.size ts).t = [123]
  · rw [wantU_yes h1] at c1
    have HQ : Hid (loop nb s.size (blk nb s.size k) 16 ts.tail = q) := by rw [hq, blk, if_pos h1]; rfl
    have HR : Hid (Gt w ∧ BlkC k) := ⟨hG, cB⟩
    have hd8 : ((d : Int) == 8) = false := by rw [beq_eq_false_iff_ne]; omega
    have hwr : IntKind.i64.wrap ((d : Int) + 1) = (d : Int) + 1 := by rw [IntKind.wrap_i64]; omega
    have hk' : d + 1 + k = 8 := by omega
    clear hq h1 cB hG h
    unfold tkV at c1
    generalize tx (hd s.size ts).t = S at *
    go_enter Tryz.func99, Tryz.ntmps99
    go_wp2_with fail
    refine c1.mono ?_
    rintro e w1 ⟨hg1, v1, rfl, rfl, hR1⟩
    obtain ⟨w2, hw2⟩ : ∃ w2, w2 = w1.alloc (.cells #[.string S, .int .i64 ((hd s.size ts).a : Int)] 145) := ⟨_, rfl⟩
    have hb2 : Bl w1 w2 := by rw [hw2]; exact (Bl.refl _).alloc _
    have hR2 := hR1.step hb2
    obtain ⟨p, c, d0, d1, d2, d3, dz, _⟩ := hR2.cells
    have dz2 := dz 2
    have hP2 := hR2.lt
    obtain ⟨w3, hw3⟩ : ∃ w3, w3 = w2.setCell ⟨P, 2, none⟩ (.int .i64 ((d : Int) + 1)) := ⟨_, rfl⟩
    have hR3 : RdT w3 P s ts.tail (d + 1) mb := by
      have := hR2.deep (d + 1)
      rw [show (((d + 1 : Nat) : Nat) : Int) = (d : Int) + 1 by omega, ← hw3] at this
      exact this
    have hg3 : Gp P w w3 := by rw [hw3]; exact (hg1.trans (Gp.bl hb2)).trans (Gp.set _)
    obtain ⟨base, hbase⟩ : ∃ base, base = w3.heap.size := ⟨_, rfl⟩
    have H3 : Hid (Br w w3 P s ts.tail (d + 1) mb base (.slice none 0 0) [] .nil ∧ P < base ∧ w.heap.size ≤ base ∧ base = w3.heap.size) := ⟨⟨hg3, hR3, HR.out.1.gp hg3 hGP hPw, ir.Own.nil _ _, rfl⟩, by rw [hbase]; exact hR3.lt, by rw [hbase]; exact hg3.size, hbase⟩
    obtain ⟨N, hN⟩ : ∃ N, N = w1.heap.size := ⟨_, rfl⟩
    clear hg1 hR1 hb2 hR2 hR3 hg3 hbase c1 d0 d1 d3 dz
    go_upto_region 2 with fail
    rw [← hw2, ← hN]
    clear hw2 hN
    go_upto_region 5 with fail
    rw [← hw3]
    clear hw3 d2 dz2 hP2
    go_wp2
    go_loopw [4] (fun v4 wr => ∃ (cs : List C) (l : Its) (n : Nat) (ts' : List Tk), n + cs.length = 16 ∧ Hid (Br w wr P s ts' (d + 1) mb base v4 cs l ∧ base ≤ wr.heap.size ∧ pre l (loop nb s.size (blk nb s.size k) n ts') = q)) (fun v4 _ => 16 - lenV v4)
    case atStart => 
      refine ⟨[], .nil, 16, ts.tail, rfl, H3.out.1, by rw [H3.out.2.2.2]; exact Nat.le_refl _, ?_⟩
      rw [← HQ.out]
      cases loop nb s.size (blk nb s.size k) 16 ts.tail with
      | error e => rfl
      | ok lr => rfl
    case round =>
      obtain ⟨cs, l, n, ts', hn, HB⟩ := hrel
      obtain ⟨lp, lc, rfl, hlie⟩ := HB.out.1.own.lie
      have hcl := (HB.out.1.rep.len).1
      obtain ⟨m, hm⟩ : ∃ m, m = cs.length := ⟨_, rfl⟩
      have cN := next_at wr P (d + 1) mb s ts' HB.out.1.rd
      obtain ⟨T, hT⟩ : ∃ T, T = hd s.size ts' := ⟨_, rfl⟩
      rw [← hT] at cN
      obtain ⟨o1, o2, o3⟩ := loop_is s.size (blk nb s.size k) n ts' l
      rw [HB.out.2.2, ← hT] at o1 o2 o3
      have HL : Hid (ir.Lie wr (fun g => base ≤ g) lp cs.length lc cs ∧ m = cs.length ∧ m = l.len ∧ T = hd s.size ts') := ⟨hlie, hm, by rw [hm]; exact hcl, hT⟩
      have htl := tl_tx T.t
      have hthr := throw_at T 4
      unfold tkV at cN hthr
      obtain ⟨S2, hS2⟩ : ∃ S2, S2 = tx T.t := ⟨_, rfl⟩
      rw [← hS2] at cN hthr htl
      have htl' : Hid (S2.toList = T.t) := htl
      have hf0 := run_text
      have hPr := HB.out.1.rd.lt
      rw [← hm] at hn HB ⊢
      clear hlie hcl hT hS2 hm
      by_cases h125 : T.t = [125]
      · have HQ2 : Hid (q = .ok (l, ts'.tail)) := o1 h125
        rw [h125] at htl
        clear o1 o2 o3 h125 hthr
        go_wp2_with fail
        refine cN.mono ?_
        rintro e w5 ⟨rfl, hb5⟩
        have H5 := HB.out.1.bl hb5
        have cT := take_at w5 P (d + 1) mb s ts' H5.rd
        rw [← HL.out.2.2.2] at cT
        unfold tkV at cT
        go_wp2_with fail
        refine cT.mono ?_
        rintro e w6 ⟨rfl, hR6, hg6⟩
        have H6 := H5.go hg6 hR6 hPw H3.out.2.1 hGP
        obtain ⟨p6, c6, e0, e1, e2, e3, ez, _⟩ := hR6.cells
        rw [show (((d + 1 : Nat) : Nat) : Int) = (d : Int) + 1 by omega] at e2
        have ez2 := ez 2
        have hP6 := hR6.lt
        have hwm : IntKind.i64.wrap ((d : Int) + 1 - 1) = (d : Int) := by rw [IntKind.wrap_i64]; omega
        have hws : (d : Int) + 1 - 1 = (d : Int) := by omega
        have HF : Hid (Gp P w (w6.setCell ⟨P, 2, none⟩ (.int .i64 (d : Int))) ∧ RdT (w6.setCell ⟨P, 2, none⟩ (.int .i64 (d : Int))) P s ts'.tail d mb ∧ LV w.heap.size (w6.setCell ⟨P, 2, none⟩ (.int .i64 (d : Int))) (.slice lp m lc) l) := by
          have hgs : Gp P w6 (w6.setCell ⟨P, 2, none⟩ (.int .i64 (d : Int))) := Gp.set _
          have hg5 : Gp P wr (w6.setCell ⟨P, 2, none⟩ (.int .i64 (d : Int))) := ((Gp.bl hb5).trans hg6).trans hgs
          refine ⟨H6.gp.trans hgs, H6.rd.deep d, lp, lc, cs, by rw [HL.out.2.2.1], ?_, ?_⟩
          · have h1 := HL.out.1.keep (w' := w6.setCell ⟨P, 2, none⟩ (.int .i64 (d : Int))) (fun g h1 h2 => hg5.block g h2 (by have := H3.out.2.1; omega)) hg5.size
            rw [← HL.out.2.1, HL.out.2.2.1] at h1
            exact h1.mono (fun g hg _ => Nat.le_trans H3.out.2.2.1 hg)
          · exact (H6.rep.keep (fun g h1 h2 => hgs.block g h2 (by omega)) hgs.size (kx_gp H6.rd hgs)).mono (fun g h1 _ => h1.1)
        clear hb5 H5 hg6 hR6 H6 cT cN ez e0 e1 e3
        go_wp2
        go_ret
        rw [HQ2.out]
        exact ⟨HF.out.1, _, rfl, HF.out.2.2, HF.out.2.1⟩
      · have hb125 : (S2.toList == [125]) = false := by rw [htl, beq_eq_false_iff_ne]; exact h125
        cases n with
        | zero =>
          have HQ2 : Hid (q = .error (4, T.a)) := o2 h125 rfl
          have hm16 : ((m : Int) == 16) = true := by rw [beq_iff_eq]; omega
          clear o1 o2 o3 h125 htl
          go_wp2_with fail
          refine cN.mono ?_
          rintro e w5 ⟨rfl, hb5⟩
          have cN2 := next_at w5 P (d + 1) mb s ts' (HB.out.1.rd.step hb5)
          rw [← HL.out.2.2.2] at cN2
          unfold tkV at cN2
          have HS2 : Hid (S2 = tx T.t ∧ Br w w5 P s ts' (d + 1) mb base (.slice lp m lc) cs l) := ⟨by rw [← tx_L S2]; show tx (S2.data.toList) = _; rw [← ByteArray.toList_eq, htl'.out], HB.out.1.bl hb5⟩
          rw [← HS2.out.1] at cN2
          clear hb5 cN
          go_wp2_with fail
          refine cN2.mono ?_
          rintro e w6 ⟨rfl, hb6⟩
          have H6 : Hid (Br w w6 P s ts' (d + 1) mb base (.slice lp m lc) cs l) := HS2.out.2.bl hb6
          clear hb6 cN2
          go_wp2_with fail
          refine (hthr _).mono ?_
          rintro e w7 ⟨B, rfl, k1, k2, k3⟩
          unfold thrownT
          go_wp2
          exact ⟨rfl, Ans.of_err HQ2.out (H6.out.gp.trans (Gp.bl k3)) (Nat.le_trans H6.out.gp.size k1) k2⟩
        | succ n =>
          obtain ⟨o4, o5⟩ := o3 h125 n rfl
          have hm16 : ((m : Int) == 16) = false := by rw [beq_eq_false_iff_ne]; omega
          clear o1 o2 o3 h125 htl hthr
          go_wp2_with fail
          refine cN.mono ?_
          rintro e w5 ⟨rfl, hb5⟩
          have H5 : Hid (Br w w5 P s ts' (d + 1) mb base (.slice lp m lc) cs l ∧ base ≤ w5.heap.size) := ⟨HB.out.1.bl hb5, Nat.le_trans HB.out.2.1 hb5.size⟩
          have cI := item_at k HR.out.2 w5 P (d + 1) mb s ts' hk' H5.out.1.rd H5.out.1.gt hGP
          clear hb5 cN
          go_wp2_with fail
          refine cI.mono ?_
          rintro e w6 ⟨hg6, hans⟩
          cases hi : item nb s.size (blk nb s.size k) ts' with
          | error kp =>
            obtain ⟨k1, p1⟩ := kp
            rw [hi] at hans
            obtain ⟨B, rfl, hB, hA⟩ := hans
            have HQ2 : Hid (q = .error (k1, p1)) := o4 _ hi
            unfold thrownT
            clear cI o4 o5 hi
            go_wp2
            exact ⟨rfl, Ans.of_err HQ2.out (H5.out.1.gp.trans hg6) (Nat.le_trans H5.out.1.gp.size hB) hA⟩
          | ok xr =>
            obtain ⟨⟨d1, it⟩, r⟩ := xr
            rw [hi] at hans
            obtain ⟨v, rfl, ⟨c6, rfl, hd6, ho6, hs6⟩, hR6⟩ := hans
            have hq6 := o5 _ _ _ hi
            have H6 := H5.out.1.go hg6 hR6 hPw H3.out.2.1 hGP
            obtain ⟨w7, hw7⟩ : ∃ w7, w7 = w6.alloc (.cells (cl c6).toArray 60) := ⟨_, rfl⟩
            have hb7 : Bl w6 w7 := by rw [hw7]; exact (Bl.refl _).alloc _
            obtain ⟨X, hX⟩ : ∃ X, X = w6.heap.size := ⟨_, rfl⟩
            have hX7 : Iv w7 X c6 := ⟨by rw [hw7, hX]; exact new_at _ _⟩
            have hown7 := H6.own.bl hb7
            have hcells : ∀ j u, (cl c6)[j]? = some u → w7.cell? ((⟨X, 0, none⟩ : Addr).add j) = some u := fun j u hu => by
              rw [Addr.add_lit, Nat.zero_add, hX7.cell j]; exact hu
            have hb67 : base ≤ w7.heap.size := by have := H5.out.2; have := hg6.size; have := hb7.size; omega
            obtain ⟨v', w8, hr, ho8, hg8⟩ := ir.app_one w7 base (.slice lp m lc) cs c6 ⟨X, 0, none⟩ hown7 hcells (by have := HL.out.2.1; omega) hb67
            have hwh := ir_where w7 base (.slice lp m lc) cs c6 ⟨X, 0, none⟩ hown7 hcells (by have := HL.out.2.1; omega) v' w8 hr
            rw [← hd6] at ho6
            have H8 : Hid (Br w w8 P s r (d + 1) mb base v' (cs ++ [c6]) (l.app d1 it) ∧ base ≤ w8.heap.size ∧ pre (l.app d1 it) (loop nb s.size (blk nb s.size k) n r) = q ∧ lenV v' = m + 1 ∧ m + 1 = (cs ++ [c6]).length) := by
              have h1 := H6.app (c := c6) (it := it) (M := w5.heap.size) ho6 hs6 H5.out.1.gp.size (fun x hx => (H5.out.1.own.block x hx).2) hw7 ho8 hg8 hwh H3.out.2.1 (by have := H5.out.2; have := hg6.size; omega) H3.out.2.2.1 hGP
              rw [hd6] at h1
              refine ⟨h1, Nat.le_trans hb67 hg8.size, hq6.symm, ?_, by rw [List.length_append, ← HL.out.2.1]; rfl⟩
              obtain ⟨p8, c8, hv8, _⟩ := ho8.lie
              rw [hv8]
              show (cs ++ [c6]).length = m + 1
              rw [List.length_append, ← HL.out.2.1]; rfl
            have HRn : Hid _ := hr
            unfold itV
            have hcl : (cl c6).toArray = #[.int .i64 (c6.d.kd : Int), .int .i64 (c6.d.at_ : Int), .string (tx c6.d.nm), .string (tx c6.d.ty), .int .i64 (c6.d.wd : Int), .int .i64 (c6.d.od : Int), .bool c6.d.sg, .bool c6.d.mn, .pointer c6.pc, .int .i64 (c6.d.ru : Int), .string (tx c6.d.f1), .string (tx c6.d.l1), .slice c6.p c6.n c6.c] := rfl
            rw [hcl] at hw7 ⊢
            have hw7' := hw7.symm
            have hX' : w6.heap.size = X := hX.symm
            clear hcl hw7 hX hb7 hX7 hown7 hcells hb67 hr ho8 hg8 hwh ho6 hs6 hg6 hR6 H6 hi o4 o5 cI hq6 hd6
            go_wp2_with (at_builtin; refine Lib.wpList_append_run _ rfl (.tmp 31) (.tmp 34) _ _ rfl _ _ rfl rfl _ _ HRn.out ?_)
            refine ⟨⟨cs ++ [c6], l.app d1 it, n, r, by rw [← H8.out.2.2.2.2]; omega, H8.out.1, H8.out.2.1, H8.out.2.2.1⟩, ?_⟩
            rw [H8.out.2.2.2.1]
            show 16 - (m + 1) < 16 - m
            omega
  · rw [wantU_no h1] at c1
    have HQ : Hid (q = .error (3, (hd s.size ts).a)) := by rw [hq, blk, if_neg h1]; rfl
    clear hq h1
    go_enter Tryz.func99, Tryz.ntmps99
    go_wp2_with fail
    refine c1.mono ?_
    rintro e w1 ⟨hg1, B, rfl, hB, hA⟩
    unfold thrownT
    go_wp2
    exact ⟨rfl, Ans.of_err HQ.out hg1 hB hA⟩
theorem block_at (k : Nat) : BlkC k := by
  induction k with
  | zero => exact block_zero
  | succ k ih => exact block_succ k ih
end Go.Proofs.YtococaecjecjgaaGreatDoor.tm
/- A reader of a template's tokens: types. -/
namespace Go.Proofs.YtococaecjecjgaaGreatDoor.tm
set_option linter.unusedVariables false
open Go.ChangeShapes Go.WideShapes Go.ChangeAt Go.RowKit Go.Shelf
open mem lx ex

def preT (l : List Ty) : Except (Int × Nat) (List Ty) → Except (Int × Nat) (List Ty)
  | .error e => .error e
  | .ok m => .ok (l ++ m)
theorem typs_is (en n : Nat) (l : List Ty) (t : Tk) (r : List Tk) :
    (¬ t.t = wStruct → preT l (typs nb en n (t :: r)) = .error (3, t.a)) ∧ (t.t = wStruct → n = 0 → preT l (typs nb en n (t :: r)) = .error (4, t.a)) ∧
    (t.t = wStruct → ∀ m, n = m + 1 → (∀ e, name en r = .error e → preT l (typs nb en n (t :: r)) = .error e) ∧ ∀ x r1, name en r = .ok (x, r1) →
      (∀ e, blk nb en 8 r1 = .error e → preT l (typs nb en n (t :: r)) = .error e) ∧ ∀ it r2, blk nb en 8 r1 = .ok (it, r2) →
        preT l (typs nb en n (t :: r)) = preT (l ++ [⟨x, (hd en r).a, it⟩]) (typs nb en m r2)) := by
  cases n with
  | zero =>
    rw [typs]
    exact ⟨fun h => by rw [if_neg h]; rfl, fun h _ => by rw [if_pos h]; rfl, fun h m hm => by omega⟩
  | succ n =>
    rw [typs]
    refine ⟨fun h => by rw [if_neg h]; rfl, fun h h0 => by omega, fun h m hm => ?_⟩
    obtain rfl : n = m := by omega
    rw [if_pos h]
    refine ⟨fun e he => by rw [he]; rfl, fun x r1 hx => ?_⟩
    rw [hx]
    dsimp only
    refine ⟨fun e he => by rw [he]; rfl, fun it r2 hb => ?_⟩
    rw [hb]
    dsimp only
    cases typs nb en n r2 with
    | error e => rfl
    | ok q => show Except.ok (l ++ (⟨x, (hd en r).a, it⟩ :: q)) = Except.ok ((l ++ [⟨x, (hd en r).a, it⟩]) ++ q); simp
theorem typs_end (en n : Nat) (l : List Ty) : preT l (typs nb en n []) = .ok l := by
  cases n <;> (show Except.ok (l ++ []) = _; rw [List.append_nil])
/-- The row of structs, under way. -/
structure Bt (w0 w : World) (P : Nat) (s : ByteArray) (ts : List Tk) (d mb base : Nat) (v : Value) (cs : List CT) (l : List Ty) : Prop where
  gp : Gp P w0 w
  rd : RdT w P s ts d mb
  gt : Gt w
  own : sr.Own w base v cs
  rep : RepT w (fun g => w0.heap.size ≤ g ∧ v.ownBlock ≠ some g) l cs
theorem Bt.bl {w0 w w' : World} {P : Nat} {s : ByteArray} {ts : List Tk} {d mb base : Nat} {v : Value} {cs : List CT} {l : List Ty} (h : Bt w0 w P s ts d mb base v cs l) (hb : Bl w w') : Bt w0 w' P s ts d mb base v cs l :=
  ⟨h.gp.trans (Gp.bl hb), h.rd.step hb, h.gt.bl hb, h.own.bl hb, h.rep.keep (fun g _ hg => Below.block hb g hg) hb.size (Kx.bl hb)⟩
theorem Bt.go {w0 w w' : World} {P : Nat} {s : ByteArray} {ts ts' : List Tk} {d mb base : Nat} {v : Value} {cs : List CT} {l : List Ty} (h : Bt w0 w P s ts d mb base v cs l) (hg : Gp P w w') (hr : RdT w' P s ts' d mb) (hP0 : P < w0.heap.size) (hPb : P < base) (hGP : 6 ≤ P) : Bt w0 w' P s ts' d mb base v cs l :=
  ⟨h.gp.trans hg, hr, h.gt.gp hg hGP h.rd.lt, h.own.gp hg hPb, h.rep.keep (fun g h1 hg' => hg.block g hg' (by omega)) hg.size (kx_gp h.rd hg)⟩
/-- One struct more. -/
theorem Bt.app {w0 w w6 : World} {P : Nat} {s : ByteArray} {ts : List Tk} {d mb base : Nat} {v : Value} {cs : List CT} {l : List Ty} {c : CT} {it : Its} {v' : Value} {w' : World} {M : Nat}
    (h : Bt w0 w P s ts d mb base v cs l) (hs : ∃ cs2, ir.Lie w (fun g => M ≤ g) c.p c.n c.c cs2 ∧ Rep w (fun g => M ≤ g) it cs2) (hM : w0.heap.size ≤ M) (hvM : ∀ k, v.ownBlock = some k → k < M) (hb6 : w6 = w.alloc (.cells (clT c).toArray 96))
    (ho' : sr.Own w' base v' (cs ++ [c])) (hg : w6.grownBy w' v.ownBlock) (hw : v'.ownBlock = v.ownBlock ∨ v'.ownBlock = some w6.heap.size) (hPb : P < base) (hbase : base ≤ w.heap.size) (hb0 : w0.heap.size ≤ base) (hNP : 6 ≤ P) : Bt w0 w' P s ts d mb base v' (cs ++ [c]) (l ++ [⟨c.nm, c.a, it⟩]) := by
  have hbl : Bl w w6 := by rw [hb6]; exact (Bl.refl _).alloc _
  have h6 := h.bl hbl
  have hbk : ∀ k, v.ownBlock = some k → base ≤ k ∧ k < w.heap.size := h.own.block
  have keep : ∀ k, k < w6.heap.size → v.ownBlock ≠ some k → w'.heap[k]? = w6.heap[k]? := fun k hk hne => hg.block k hk (fun e => hne e.symm)
  have hkx : Kx w6 w' := fun b cs' hb => by
    rw [keep b (lt_of_heap hb) (fun e => by
      obtain ⟨cap, hv⟩ : ∃ cap, v = .slice (some ⟨b, 0, none⟩) cs.length cap := by
        rcases h6.own.shape with ⟨rfl, _⟩ | ⟨g, cap, rfl, _⟩
        · cases e
        · have : g = b := by
            have : (Value.slice (some ⟨g, 0, none⟩) cs.length cap).ownBlock = some g := rfl
            rw [this] at e; injection e
          subst this; exact ⟨cap, rfl⟩
      have ho6 := h6.own
      rw [hv] at ho6
      obtain ⟨cur, hcur⟩ := ho6.kind
      rw [hb] at hcur
      simp at hcur)]
    exact hb
  refine ⟨?_, ?_, ?_, ho', ?_⟩
  · exact ⟨hg.os.trans h6.gp.os, hg.tape.trans h6.gp.tape, hg.output.trans h6.gp.output, Nat.le_trans h6.gp.size hg.size, fun k hk hne => (keep k (Nat.lt_of_lt_of_le hk h6.gp.size) (fun e => by have := (hbk k e).1; omega)).trans (h6.gp.block k hk hne)⟩
  · cases hv : v.ownBlock with
    | none =>
      rw [hv] at hg
      exact h6.rd.step ⟨hg.os, hg.tape, hg.output, hg.size, fun k hk => hg.block k hk (fun e => by cases e)⟩
    | some g =>
      rw [hv] at hg
      exact h6.rd.behind hg (by have := (hbk g hv).1; omega)
  · have := h6.rd.lt
    exact h6.gt.below ⟨hg.os, hg.tape, hg.output, hg.size, fun k hk => keep k (by omega) (fun e => by have := (hbk k e).1; omega)⟩
  · have hsz : w6.heap.size = w.heap.size + 1 := by rw [hb6]; simp
    have r7 : RepT w' (fun g => w0.heap.size ≤ g ∧ v'.ownBlock ≠ some g) l cs := by
      have r5 : RepT w (fun g => (w0.heap.size ≤ g ∧ v.ownBlock ≠ some g) ∧ g < w.heap.size) l cs := h.rep.mono (fun g h1 h2 => ⟨h1, h2⟩)
      have r5' : RepT w' (fun g => (w0.heap.size ≤ g ∧ v.ownBlock ≠ some g) ∧ g < w.heap.size) l cs := (r5.keep (fun g h1 hg' => Below.block hbl g hg') hbl.size (Kx.bl hbl)).keep (fun g h1 hg' => keep g hg' h1.1.2) hg.size hkx
      refine r5'.mono (fun g h1 _ => ⟨h1.1.1, fun e => ?_⟩)
      rcases hw with hw | hw
      · rw [hw] at e; exact h1.1.2 e
      · rw [hw] at e; injection e with e; have := h1.2; omega
    refine RepT.app ?_ r7
    obtain ⟨cs2, k1, k2⟩ := hs
    have hlt : ∀ g, M ≤ g → g < w.heap.size → v'.ownBlock ≠ some g := fun g h1 h2 e => by
      rcases hw with hw | hw
      · rw [hw] at e; have := hvM g e; omega
      · rw [hw] at e; injection e with e; omega
    have k1' := k1.mono (ok' := fun g => M ≤ g ∧ g < w.heap.size) (fun g h1 h2 => ⟨h1, h2⟩)
    have k2' := k2.mono (ok' := fun g => M ≤ g ∧ g < w.heap.size) (fun g h1 h2 => ⟨h1, h2⟩)
    refine ⟨cs2, ?_, ?_⟩
    · exact ((k1'.keep (fun g _ hg' => Below.block hbl g hg') hbl.size).keep (fun g h1 hg' => keep g hg' (fun e => by have := hvM g e; omega)) hg.size).mono (fun g h1 _ => ⟨by omega, hlt g h1.1 h1.2⟩)
    · exact ((k2'.keep (fun g _ hg' => Below.block hbl g hg') hbl.size (Kx.bl hbl)).keep (fun g h1 hg' => keep g hg' (fun e => by have := hvM g e; omega)) hg.size hkx).mono (fun g h1 _ => ⟨by omega, hlt g h1.1 h1.2⟩)
/-- What all structs' reading answers. -/
def TsA (P : Nat) (w : World) (q : Except (Int × Nat) (List Ty)) (e : Ending) (w' : World) : Prop :=
  Gp P w w' ∧ match q with
  | .ok l => ∃ v, e = .returned v ∧ IsTs w' (fun g => w.heap.size ≤ g) v l
  | .error (c, p) => ∃ B : Nat, e = thrownT B ∧ w.heap.size ≤ B ∧ AtX w' B c (p : Int)
theorem TsA.of_err {P : Nat} {w w' : World} {q : Except (Int × Nat) (List Ty)} {c : Int} {p B : Nat} (hq : q = .error (c, p)) (hg : Gp P w w') (hB : w.heap.size ≤ B) (hA : AtX w' B c (p : Int)) : TsA P w q (thrownT B) w' := by rw [hq]; exact ⟨hg, B, rfl, hB, hA⟩
set_option maxRecDepth 10000 in
set_option maxHeartbeats 4000000 in
theorem types_at (w : World) (P mb : Nat) (s : ByteArray) (ts : List Tk) (h : RdT w P s ts 0 mb) (hG : Gt w) (hGP : 6 ≤ P) :
    Calls Tryz.prog 60 #[.pointer (some ⟨P, 0, none⟩)] w fun e w' => TsA P w (typs nb s.size 8 ts) e w' := by
  obtain ⟨q, hq⟩ : ∃ q, q = typs nb s.size 8 ts := ⟨_, rfl⟩
  rw [← hq]
  have hPw := h.lt
  obtain ⟨base, hbase⟩ : ∃ base, base = w.heap.size := ⟨_, rfl⟩
  have H0 : Hid (Bt w w P s ts 0 mb base (.slice none 0 0) [] [] ∧ preT [] (typs nb s.size 8 ts) = q ∧ base = w.heap.size) := by
    refine ⟨⟨Gp.refl _ _, h, hG, sr.Own.nil _ _, rfl⟩, ?_, hbase⟩
    rw [hq]
    cases typs nb s.size 8 ts with
    | error e => rfl
    | ok x => rfl
  have hf0 := run_text
  clear h hG hq hbase
  go_enter Tryz.func60, Tryz.ntmps60
  go_wp2
  go_loopw [3] (fun v3 wr => ∃ (cs : List CT) (l : List Ty) (n : Nat) (ts' : List Tk), n + cs.length = 8 ∧ Hid (Bt w wr P s ts' 0 mb base v3 cs l ∧ base ≤ wr.heap.size ∧ preT l (typs nb s.size n ts') = q)) (fun v3 _ => 8 - lenV v3)
  case atStart => exact ⟨[], [], 8, ts, rfl, H0.out.1, by rw [H0.out.2.2]; exact Nat.le_refl _, H0.out.2.1⟩
  case round =>
    obtain ⟨cs, l, n, ts', hn, HB⟩ := hrel
    obtain ⟨lp, lc, rfl, hlie⟩ := HB.out.1.own.lie
    have hcl := HB.out.1.rep.len
    obtain ⟨m, hm⟩ : ∃ m, m = cs.length := ⟨_, rfl⟩
    have HL : Hid (sr.Lie wr (fun g => base ≤ g) lp cs.length lc cs ∧ m = cs.length ∧ m = l.length) := ⟨hlie, hm, by rw [hm]; exact hcl⟩
    obtain ⟨p0, c0, e0, e1, e2, e3, ez, _⟩ := HB.out.1.rd.cells
    have hPr := HB.out.1.rd.lt
    rw [← hm] at hn HB ⊢
    clear hlie hcl hm ez e0 e2 e3
    cases ts' with
    | nil =>
      have HQ2 : Hid (q = .ok l) := by have := HB.out.2.2; rw [typs_end] at this; exact this.symm
      have e1' : wr.cell? ⟨P, 1, none⟩ = some (.slice p0 0 c0) := e1
      clear e1
      go_wp2
      go_ret
      rw [HQ2.out]
      refine ⟨HB.out.1.gp, _, rfl, lp, lc, cs, by rw [HL.out.2.2]; rfl, ?_, HB.out.1.rep.mono (fun g h1 _ => h1.1)⟩
      have h1 := HL.out.1
      rw [← HL.out.2.1, HL.out.2.2] at h1
      exact h1.mono (fun g hg _ => by rw [← H0.out.2.2]; exact hg)
    | cons t r =>
      obtain ⟨j, hj⟩ : ∃ j, j = r.length := ⟨_, rfl⟩
      rw [show (t :: r).length = j + 1 by rw [hj]; rfl] at e1
      have hpos : decide ((0 : Int) < ((j + 1 : Nat) : Int)) = true := decide_eq_true (by omega)
      have hpos' : (0 : Int) < ((j : Nat) : Int) + 1 := by omega
      obtain ⟨o1, o2, o3⟩ := typs_is s.size n l t r
      rw [HB.out.2.2] at o1 o2 o3
      have cW := want_at ⟨#[115, 116, 114, 117, 99, 116]⟩ wr P 0 mb s (t :: r) HB.out.1.rd
      rw [show L ⟨#[115, 116, 114, 117, 99, 116]⟩ = wStruct from rfl] at cW
      clear hj
      by_cases hst : t.t = wStruct
      · rw [wantU_yes (show (hd s.size (t :: r)).t = wStruct from hst)] at cW
        rw [show hd s.size (t :: r) = t from rfl] at cW
        have o2' := o2 hst
        have o3' := o3 hst
        have hthr := throw_at t 4
        unfold tkV at cW hthr
        obtain ⟨S2, hS2⟩ : ∃ S2, S2 = tx t.t := ⟨_, rfl⟩
        rw [← hS2] at cW hthr
        clear o1 o2 o3 hst hS2
        go_wp2_with fail
        refine cW.mono ?_
        rintro e w5 ⟨hg5, v5, rfl, rfl, hR5⟩
        have hR5' : RdT w5 P s r 0 mb := hR5
        have H5 := HB.out.1.go hg5 hR5' hPw (by have := H0.out.2.2; omega) hGP
        obtain ⟨w6, hw6⟩ : ∃ w6, w6 = w5.alloc (.cells #[.string S2, .int .i64 (t.a : Int)] 145) := ⟨_, rfl⟩
        have hb6 : Bl w5 w6 := by rw [hw6]; exact (Bl.refl _).alloc _
        have hv6 := Tv.new w5 S2 (t.a : Int)
        obtain ⟨N1, hN1⟩ : ∃ N1, N1 = w5.heap.size := ⟨_, rfl⟩
        rw [← hw6, ← hN1] at hv6
        have H6 : Hid (Bt w w6 P s r 0 mb base (.slice lp m lc) cs l ∧ base ≤ w6.heap.size ∧ Tv w6 N1 S2 (t.a : Int)) := ⟨H5.bl hb6, by have := HB.out.2.1; have := hg5.size; have := hb6.size; omega, hv6⟩
        obtain ⟨g0, g1, z0, z1, hNs⟩ := hv6.facts
        clear hR5 hR5' hg5 H5 hb6 hv6 cW e1
        cases n with
        | zero =>
          have HQ2 : Hid (q = .error (4, t.a)) := o2' rfl
          have hm8 : ((m : Int) == 8) = true := by rw [beq_iff_eq]; omega
          clear o2' o3'
          go_upto_region 4 with fail
          rw [← hw6, ← hN1]
          clear hw6 hN1
          go_wp2_with fail
          refine (hthr _).mono ?_
          rintro e w7 ⟨B, rfl, k1, k2, k3⟩
          unfold thrownT
          go_wp2
          exact ⟨rfl, TsA.of_err HQ2.out (H6.out.1.gp.trans (Gp.bl k3)) (Nat.le_trans H6.out.1.gp.size k1) k2⟩
        | succ n =>
          obtain ⟨o4, o5⟩ := o3' n rfl
          have hm8 : ((m : Int) == 8) = false := by rw [beq_eq_false_iff_ne]; omega
          clear o2' o3' hthr
          go_upto_region 4 with fail
          rw [← hw6, ← hN1]
          clear hw6 hN1 g0 g1 z0 z1 hNs
          have cA := name_at w6 P 0 mb s r H6.out.1.rd
          go_wp2_with fail
          refine cA.mono ?_
          rintro e w7 ⟨hg7, hans⟩
          cases hnm : name s.size r with
          | error kp =>
            obtain ⟨k1, p1⟩ := kp
            rw [hnm] at hans
            obtain ⟨B, rfl, hB, hA⟩ := hans
            have HQ2 : Hid (q = .error (k1, p1)) := o4 _ hnm
            unfold thrownT
            clear cA o4 o5 hnm
            go_wp2
            exact ⟨rfl, TsA.of_err HQ2.out (H6.out.1.gp.trans hg7) (Nat.le_trans H6.out.1.gp.size hB) hA⟩
          | ok xr =>
            obtain ⟨x, r1⟩ := xr
            rw [hnm] at hans
            obtain ⟨v7, rfl, rfl, hR7⟩ := hans
            obtain ⟨o6, o7⟩ := o5 _ _ hnm
            have H7 := H6.out.1.go hg7 hR7 hPw (by have := H0.out.2.2; omega) hGP
            obtain ⟨A, hA⟩ : ∃ A, A = (hd s.size r).a := ⟨_, rfl⟩
            obtain ⟨W, hW⟩ : ∃ W, W = w7.alloc (.cells #[.string (tx x), .int .i64 (A : Int)] 145) := ⟨_, rfl⟩
            have hbW : Bl w7 W := by rw [hW]; exact (Bl.refl _).alloc _
            have hvW := Tv.new w7 (tx x) (A : Int)
            obtain ⟨N2, hN2⟩ : ∃ N2, N2 = w7.heap.size := ⟨_, rfl⟩
            rw [← hW, ← hN2] at hvW
            have HW : Hid (Bt w W P s r1 0 mb base (.slice lp m lc) cs l ∧ base ≤ W.heap.size ∧ Tv W N2 (tx x) (A : Int) ∧ N2 ≠ P) := ⟨H7.bl hbW, by have := H6.out.2.1; have := hg7.size; have := hbW.size; omega, hvW, by have := hR7.lt; omega⟩
            obtain ⟨g0, g1, z0, z1, hNs⟩ := hvW.facts
            have cB := fun wx (hb : Bl W wx) => block_at 8 wx P 0 mb s r1 rfl (HW.out.1.rd.step hb) (HW.out.1.gt.bl hb) hGP
            rw [← hA] at o7
            have HD : Hid (Bl W W.drew ∧ ∀ k, (Value.slice lp m lc).ownBlock = some k → k < N2) := ⟨(Bl.refl _).drew, fun k hk => by have := (H7.own.block k hk).2; rw [hN2]; exact this⟩
            have g0d := at_bl (Bl.refl W).drew g0
            have g1d := at_bl (Bl.refl W).drew g1
            unfold tkV
            rw [← hA]
            clear hR7 hg7 H7 hbW hvW cA hnm o4 o5 hA
            go_upto_region 7 with fail
            rw [← hW, ← hN2]
            clear hW hN2
            -- the block
            cases hbk : blk nb s.size 8 r1 with
            | error kp =>
              obtain ⟨k1, p1⟩ := kp
              have HQ2 : Hid (q = .error (k1, p1)) := o6 _ hbk
              rw [hbk] at cB
              clear o6 o7 hbk
              refine wp_region_any (by kernel_rfl) ?_
              change wpAny _ _ _ _ _ _ _ (World.drew _)
              refine wpAny_take (i := 0) (v := ?_) rfl (by kernel_rfl) (by kernel_rfl) (by kernel_rfl) (fun _ _ _ h => h) (Or.inl ⟨by rfl, ?_⟩) ?_
              rotate_left
              · intro w
                go_simp
                rfl
              refine wpAny_take (i := 1) (v := ?_) rfl (by kernel_rfl) (by kernel_rfl) (by kernel_rfl) (fun _ _ _ h => h) (Or.inl ⟨by rfl, ?_⟩) ?_
              rotate_left
              · intro w
                go_simp
                rfl
              refine wpAny_take (i := 3) (v := ?_) rfl (by kernel_rfl) (by kernel_rfl) (by kernel_rfl) (fun _ _ _ h => h) (Or.inl ⟨by rfl, ?_⟩) ?_
              rotate_left
              · intro w
                go_simp
                rfl
              refine wpAny_take (i := 5) (v := ?_) rfl (by kernel_rfl) (by kernel_rfl) (by kernel_rfl) (fun _ _ _ h => h) (Or.inl ⟨by rfl, ?_⟩) ?_
              rotate_left
              · intro w
                go_simp
                rfl
              refine wpAny_ready (rs := [2, 4, 6]) (by kernel_rfl) (by simp) ?_
              refine AllReady.cons rfl (fun K hK => ?_) (AllReady.cons rfl (fun K hK => ?_) (AllReady.cons rfl (fun K hK => ?_) (AllReady.nil)))
              · go_simp
                refine hK _ _ ?_
                clear hK K
                refine wpAny_ready (rs := [4, 6]) (by kernel_rfl) (by simp) ?_
                refine AllReady.cons rfl (fun K hK => ?_) (AllReady.cons rfl (fun K hK => ?_) (AllReady.nil))
                · go_simp
                  refine hK _ _ ?_
                  clear hK K
                  refine wpAny_ready (rs := [6]) (by kernel_rfl) (by simp) ?_
                  refine AllReady.cons rfl (fun K hK => ?_) (AllReady.nil)
                  go_simp
                  refine (cB _ HD.out.1).mono ?_
                  rintro e w6 ⟨hg6, B, rfl, hs6, hat6⟩
                  clear hK
                  unfold thrownT
                  dsimp only
                  clear K
                  go_wp2
                  exact ⟨rfl, TsA.of_err HQ2.out ((HW.out.1.gp.trans (Gp.bl HD.out.1)).trans hg6) (Nat.le_trans (Nat.le_trans HW.out.1.gp.size HD.out.1.size) hs6) hat6⟩
                · go_simp
                  refine (cB _ HD.out.1).mono ?_
                  rintro e w6 ⟨hg6, B, rfl, hs6, hat6⟩
                  clear hK
                  unfold thrownT
                  dsimp only
                  clear K
                  go_wp2
                  exact ⟨rfl, TsA.of_err HQ2.out ((HW.out.1.gp.trans (Gp.bl HD.out.1)).trans hg6) (Nat.le_trans (Nat.le_trans HW.out.1.gp.size HD.out.1.size) hs6) hat6⟩
              · go_simp
                refine hK _ _ ?_
                clear hK K
                refine wpAny_ready (rs := [2, 6]) (by kernel_rfl) (by simp) ?_
                refine AllReady.cons rfl (fun K hK => ?_) (AllReady.cons rfl (fun K hK => ?_) (AllReady.nil))
                · go_simp
                  refine hK _ _ ?_
                  clear hK K
                  refine wpAny_ready (rs := [6]) (by kernel_rfl) (by simp) ?_
                  refine AllReady.cons rfl (fun K hK => ?_) (AllReady.nil)
                  go_simp
                  refine (cB _ HD.out.1).mono ?_
                  rintro e w6 ⟨hg6, B, rfl, hs6, hat6⟩
                  clear hK
                  unfold thrownT
                  dsimp only
                  clear K
                  go_wp2
                  exact ⟨rfl, TsA.of_err HQ2.out ((HW.out.1.gp.trans (Gp.bl HD.out.1)).trans hg6) (Nat.le_trans (Nat.le_trans HW.out.1.gp.size HD.out.1.size) hs6) hat6⟩
                · go_simp
                  refine (cB _ HD.out.1).mono ?_
                  rintro e w6 ⟨hg6, B, rfl, hs6, hat6⟩
                  clear hK
                  unfold thrownT
                  dsimp only
                  clear K
                  go_wp2
                  exact ⟨rfl, TsA.of_err HQ2.out ((HW.out.1.gp.trans (Gp.bl HD.out.1)).trans hg6) (Nat.le_trans (Nat.le_trans HW.out.1.gp.size HD.out.1.size) hs6) hat6⟩
              · go_simp
                refine (cB _ HD.out.1).mono ?_
                rintro e w6 ⟨hg6, B, rfl, hs6, hat6⟩
                clear hK
                unfold thrownT
                dsimp only
                clear K
                go_wp2
                exact ⟨rfl, TsA.of_err HQ2.out ((HW.out.1.gp.trans (Gp.bl HD.out.1)).trans hg6) (Nat.le_trans (Nat.le_trans HW.out.1.gp.size HD.out.1.size) hs6) hat6⟩
            | ok ir =>
              obtain ⟨it, r2⟩ := ir
              have hq8 := o7 _ _ hbk
              rw [hbk] at cB
              clear o6 o7 hbk
              go_region_held3 (fun w' => w'.cell? ⟨N2, 0, none⟩ = some (.string (tx x)) ∧ w'.cell? ⟨N2, 1, none⟩ = some (.int .i64 (A : Int))) (refine ⟨?_, ?_⟩ <;> first | assumption | exact at_bl ((Bl.refl _).drew) (by assumption) | exact at_bl ((Bl.refl _).alloc _) (by assumption))
                (first
                  | (go_at_call 99; (refine (cB _ HD.out.1).mono ?_); rintro e w8 ⟨hg8, v8, rfl, ⟨bp, bc, bcs, rfl, hl1, hl2⟩, hR8⟩
                     obtain ⟨ln, hln⟩ : ∃ ln, ln = it.len := ⟨_, rfl⟩
                     have H8 := (HW.out.1.bl HD.out.1).go hg8 hR8 hPw (by have := H0.out.2.2; omega) hGP
                     have hT8 := (HW.out.2.2.1.bl HD.out.1).gp hg8 HW.out.2.2.2
                     have q0 := hT8.facts.1
                     have q1 := hT8.facts.2.1
                     rw [← hln] at hl1
                     rw [← hln]
                     obtain ⟨c9, hc9⟩ : ∃ c9 : CT, c9 = ⟨x, A, bp, ln, bc⟩ := ⟨_, rfl⟩
                     obtain ⟨w9, hw9⟩ : ∃ w9, w9 = w8.alloc (.cells (clT c9).toArray 96) := ⟨_, rfl⟩
                     have hb9 : Bl w8 w9 := by rw [hw9]; exact (Bl.refl _).alloc _
                     obtain ⟨X, hX⟩ : ∃ X, X = w8.heap.size := ⟨_, rfl⟩
                     have hX9 : w9.heap[X]? = some (.cells (clT c9).toArray 96 (0, 0)) := by rw [hw9, hX]; exact new_at _ _
                     have hown9 := H8.own.bl hb9
                     have hcells : ∀ j u, (clT c9)[j]? = some u → w9.cell? ((⟨X, 0, none⟩ : Addr).add j) = some u := fun j u hu => by
                       rw [Addr.add_lit, Nat.zero_add, cell_of hX9]; simpa using hu
                     have hb89 : base ≤ w9.heap.size := by have := HW.out.2.1; have := HD.out.1.size; have := hg8.size; have := hb9.size; omega
                     obtain ⟨v', w10, hr, ho10, hg10⟩ := sr.app_one w9 base (.slice lp m lc) cs c9 ⟨X, 0, none⟩ hown9 hcells (by have := HL.out.2.1; omega) hb89
                     have hwh := sr_where w9 base (.slice lp m lc) cs c9 ⟨X, 0, none⟩ hown9 hcells (by have := HL.out.2.1; omega) v' w10 hr
                     have H10 : Hid (Bt w w10 P s r2 0 mb base v' (cs ++ [c9]) (l ++ [⟨x, A, it⟩]) ∧ base ≤ w10.heap.size ∧ lenV v' = m + 1 ∧ m + 1 = (cs ++ [c9]).length) := by
                       have h1 := H8.app (c := c9) (it := it) (M := W.heap.size) ⟨bcs, by rw [hc9]; exact hl1.mono (fun g hg _ => Nat.le_trans HD.out.1.size hg), hl2.mono (fun g hg _ => Nat.le_trans HD.out.1.size hg)⟩ HW.out.1.gp.size (fun x hx => (HW.out.1.own.block x hx).2) hw9 ho10 hg10 hwh (by have := H0.out.2.2; omega) (by have := HW.out.2.1; have := HD.out.1.size; have := hg8.size; omega) (by rw [H0.out.2.2]; exact Nat.le_refl _) hGP
                       rw [hc9] at h1
                       refine ⟨by rw [hc9]; exact h1, Nat.le_trans hb89 hg10.size, ?_, by rw [List.length_append, ← HL.out.2.1]; rfl⟩
                       obtain ⟨p8, c8, hv8, _⟩ := ho10.lie
                       rw [hv8]
                       show (cs ++ [c9]).length = m + 1
                       rw [List.length_append, ← HL.out.2.1]; rfl
                     have HRn : Hid _ := hr
                     have s10 : w10.cell? ⟨N2, 0, none⟩ = some (.string (tx x)) ∧ w10.cell? ⟨N2, 1, none⟩ = some (.int .i64 (A : Int)) := by
                       have h9 := hT8.bl hb9
                       have hh : w10.heap[N2]? = _ := (hg10.block N2 h9.facts.2.2.2.2 (fun e => by have := HD.out.2 _ e.symm; omega)).trans h9.h
                       exact ⟨by rw [cell_of hh]; rfl, by rw [cell_of hh]; rfl⟩
                     obtain ⟨t0, t1⟩ := s10
                     have q09 := (hT8.bl hb9).facts.1
                     have q19 := (hT8.bl hb9).facts.2.1
                     have hcl : (clT c9).toArray = #[.string (tx x), .int .i64 (A : Int), .slice bp ln bc] := by rw [hc9]; rfl
                     rw [hcl] at hw9
                     have hw9' := hw9.symm
                     have hX' : w8.heap.size = X := hX.symm
                     clear hcl hw9 hX hb9 hX9 hown9 hcells hb89 hr ho10 hg10 hwh hg8 hR8 H8 hl1 hl2 hln hc9 hT8)
                  | (refine step_append_run rfl (.tmp 21) (.tmp 29) 22 22 rfl _ _ rfl rfl _ _ HRn.out ?_))
              have HQ8 : Hid (preT (l ++ [⟨x, A, it⟩]) (typs nb s.size n r2) = q) := hq8.symm
              clear cB hq8 g0 g1 z0 z1 g0d g1d q0 q1 t0 t1 q09 q19 HRn
              go_wp2
              refine ⟨⟨cs ++ [c9], _, n, r2, by rw [← H10.out.2.2.2]; omega, H10.out.1, H10.out.2.1, HQ8.out⟩, ?_⟩
              rw [H10.out.2.2.1]
              show 8 - (m + 1) < 8 - m
              omega
      · have HQ2 : Hid (q = .error (3, t.a)) := o1 hst
        rw [wantU_no (show ¬ (hd s.size (t :: r)).t = wStruct from hst)] at cW
        clear o1 o2 o3 hst
        go_wp2_with fail
        refine cW.mono ?_
        rintro e w5 ⟨hg5, B, rfl, hB, hA⟩
        unfold thrownT
        go_wp2
        exact ⟨rfl, TsA.of_err HQ2.out (HB.out.1.gp.trans hg5) (Nat.le_trans HB.out.1.gp.size hB) hA⟩
end Go.Proofs.YtococaecjecjgaaGreatDoor.tm
/- The words that are no names: taken of package tmpl. -/
namespace Go.Proofs.YtococaecjecjgaaGreatDoor.tm
set_option linter.unusedVariables false
open Go.ChangeShapes Go.WideShapes Go.ChangeAt Go.RowKit Go.Shelf
open mem lx ex

/-- The words, with so many of those for numbers. -/
def mp : Nat → List UInt8 → Option Int
  | 0 => fun y => if y = wCheck then some (-1) else if y = wCount then some (-1) else if y = wSize then some (-1) else if y = wWhen then some (-1) else if y = wBytes then some (-1) else if y = wStruct then some (-1) else none
  | i + 1 => fun y => if y = (numW[i]?.map (·.1)).getD [] then some (i : Int) else mp i y
theorem mp_all : mp 12 = fun t => if resv t = true then some (wdV t) else none := by
  funext y
  by_cases h : y ∈ [wStruct, wBytes, wWhen, wSize, wCount, wCheck] ∨ y ∈ numW.map (·.1)
  · have key : ∀ y, y ∈ [wStruct, wBytes, wWhen, wSize, wCount, wCheck] ∨ y ∈ numW.map (·.1) → mp 12 y = if resv y = true then some (wdV y) else none := by
      intro y hy
      rcases hy with hy | hy
      · have k : ∀ y ∈ [wStruct, wBytes, wWhen, wSize, wCount, wCheck], mp 12 y = if resv y = true then some (wdV y) else none := by decide
        exact k y hy
      · have k : ∀ y ∈ numW.map (·.1), mp 12 y = if resv y = true then some (wdV y) else none := by decide
        exact k y hy
    exact key y h
  · have h1 : ∀ w ∈ [wStruct, wBytes, wWhen, wSize, wCount, wCheck], ¬ y = w := fun w hw e => h (Or.inl (by rw [e]; exact hw))
    have h2 : ∀ w ∈ numW.map (·.1), ¬ y = w := fun w hw e => h (Or.inr (by rw [e]; exact hw))
    have hr : resv y = false := by
      unfold resv
      rw [Bool.or_eq_false_iff]
      refine ⟨?_, ?_⟩
      · rw [Bool.eq_false_iff]
        intro hc
        rw [List.contains_iff_mem] at hc
        exact h1 y hc rfl
      · unfold numOf
        have : numW.find? (fun p => p.1 == y) = none := by
          rw [List.find?_eq_none]
          intro p hp
          have := h2 p.1 (List.mem_map_of_mem hp)
          simp
          exact fun e => this e.symm
        rw [this]; rfl
    rw [hr]
    have m0 : mp 0 y = none := by
      unfold mp
      rw [if_neg (h1 _ (by simp)), if_neg (h1 _ (by simp)), if_neg (h1 _ (by simp)), if_neg (h1 _ (by simp)), if_neg (h1 _ (by simp)), if_neg (h1 _ (by simp))]
    have step : ∀ i, i ≤ 12 → mp i y = none := by
      intro i
      induction i with
      | zero => intro _; exact m0
      | succ i ih =>
        intro hi
        show (if y = (numW[i]?.map (·.1)).getD [] then some (i : Int) else mp i y) = none
        rw [if_neg, ih (by omega)]
        have hlt : i < numW.length := by have : numW.length = 12 := rfl; omega
        rw [List.getElem?_eq_getElem hlt]
        exact h2 _ (List.mem_map_of_mem (List.getElem_mem hlt))
    rw [step 12 (by omega)]
    rfl
def kv6 (w w' : World) (t : ByteArray) (b : Nat) : Prop := (Instr.mapUpdate 100 (.map (some b)) (.string t) (.int .i64 (-1))).run Tryz.prog w = .ok () w'
/-- The map that is made. -/
theorem six (w : World) : ∃ w1 w2 w3 w4 w5 w6 : World, kv6 (w.alloc (.map #[] 0)) w1 ⟨#[115, 116, 114, 117, 99, 116]⟩ w.heap.size ∧ kv6 w1 w2 ⟨#[98, 121, 116, 101, 115]⟩ w.heap.size ∧ kv6 w2 w3 ⟨#[119, 104, 101, 110]⟩ w.heap.size ∧ kv6 w3 w4 ⟨#[115, 105, 122, 101]⟩ w.heap.size ∧ kv6 w4 w5 ⟨#[99, 111, 117, 110, 116]⟩ w.heap.size ∧ kv6 w5 w6 ⟨#[99, 104, 101, 99, 107]⟩ w.heap.size ∧
    Bl w w6 ∧ Om w6 w.heap.size (mp 0) 6 := by
  have hr : R64 (-1) := by unfold R64; omega
  obtain ⟨w1, r1, o1, g1⟩ := (Om.made w).put ⟨#[115, 116, 114, 117, 99, 116]⟩ (-1) (by decide) hr (by omega)
  obtain ⟨w2, r2, o2, g2⟩ := o1.put ⟨#[98, 121, 116, 101, 115]⟩ (-1) (by decide) hr (by omega)
  obtain ⟨w3, r3, o3, g3⟩ := o2.put ⟨#[119, 104, 101, 110]⟩ (-1) (by decide) hr (by omega)
  obtain ⟨w4, r4, o4, g4⟩ := o3.put ⟨#[115, 105, 122, 101]⟩ (-1) (by decide) hr (by omega)
  obtain ⟨w5, r5, o5, g5⟩ := o4.put ⟨#[99, 111, 117, 110, 116]⟩ (-1) (by decide) hr (by omega)
  obtain ⟨w6, r6, o6, g6⟩ := o5.put ⟨#[99, 104, 101, 99, 107]⟩ (-1) (by decide) hr (by omega)
  refine ⟨w1, w2, w3, w4, w5, w6, r1, r2, r3, r4, r5, r6, ?_, o6⟩
  have b0 : Bl w (w.alloc (.map #[] 0)) := (Bl.refl w).alloc _
  have ne : ∀ k, some w.heap.size = some k → w.heap.size ≤ k := fun k hk => by injection hk with hk; omega
  exact bl_grown (bl_grown (bl_grown (bl_grown (bl_grown (bl_grown b0 g1 ne) g2 ne) g3 ne) g4 ne) g5 ne) g6 ne
theorem info48 : (Tryz.prog.info? 177).map (·.size) = some nuL.length := by kernel_rfl
def numV (p : List UInt8 × Nat × Nat × Bool) : Value := .agg #[.string (tx p.1), .int .i64 (p.2.1 : Int), .int .i64 (p.2.2.1 : Int), .bool p.2.2.2]
theorem run_num (w : World) (j : Nat) (p : List UInt8 × Nat × Nat × Bool) (h : numW[j]? = some p) : (Instr.index 177 (.agg nuL.toArray) (.int .i64 (j : Int))).run Tryz.prog w = .ok (numV p) w := by
  rcases j with _ | _ | _ | _ | _ | _ | _ | _ | _ | _ | _ | _ | j
  all_goals first | (obtain rfl := Option.some.inj h; kernel_rfl) | exact absurd h (by simp [numW])
/-- What taken answers. -/
def TkA (w : World) (e : Ending) (w' : World) : Prop := ∃ b, e = .returned (.map (some b)) ∧ w.heap.size ≤ b ∧ b < w'.heap.size ∧ Wds w' b ∧ Bl w w'
theorem om_lt {w : World} {b c : Nat} {f : List UInt8 → Option Int} (h : Om w b f c) : b < w.heap.size := by
  obtain ⟨D, h1, _⟩ := h
  exact h1.lt
set_option maxRecDepth 10000 in
set_option maxHeartbeats 2000000 in
theorem taken_at (w : World) (hG : Gt w) : Calls Tryz.prog 59 #[] w fun e w' => TkA w e w' := by
  have hmm : ∀ w, (Instr.makeMap 100 none).run Tryz.prog w = .ok (.map (some w.heap.size)) (w.alloc (.map #[] 0)) := fun w => by kernel_rfl
  obtain ⟨w1, w2, w3, w4, w5, w6, r1, r2, r3, r4, r5, r6, hb6, o6⟩ := six w
  unfold kv6 at r1 r2 r3 r4 r5 r6
  have hR : Hid (w6.rangeAt 0 0 nuL) := (hG.bl hb6).nu
  obtain ⟨b, hb⟩ : ∃ b, b = w.heap.size := ⟨_, rfl⟩
  rw [← hb] at o6
  have H6 : Hid (Om w6 b (mp 0) 6 ∧ Bl w w6 ∧ b = w.heap.size) := ⟨o6, hb6, hb⟩
  clear o6 hb6 hb hG
  go_enter Tryz.func59, Tryz.ntmps59
  go_upto_region 2 with fail
  rw [← H6.out.2.2]
  clear r1 r2 r3 r4 r5 r6 hmm
  refine wp_region_lit ?_
  refine wpList_load_mid rfl 177 _ rfl 0 0 rfl nuL _ hR.out Tryz.underlying177 rfl info48 ?_
  generalize hAV : Value.agg nuL.toArray = AV
  have HAV : Hid (Value.agg nuL.toArray = AV) := hAV
  clear hAV hR
  go_wp2
  go_loopw [7] (fun i wr => ∃ j : Nat, j ≤ 12 ∧ i = .int .i64 (j : Int) ∧ Hid (Om wr b (mp j) (6 + j) ∧ Bl w wr)) (fun i _ => 12 - (intOf i).toNat)
  case atStart => exact ⟨0, by omega, rfl, H6.out.1, H6.out.2.1⟩
  case round =>
    obtain ⟨j, hj, rfl, HB⟩ := hrel
    by_cases h12 : j < 12
    · have d1 : decide ((j : Int) < 12) = true := decide_eq_true (by omega)
      obtain ⟨p, hp⟩ : ∃ p, numW[j]? = some p := ⟨_, List.getElem?_eq_getElem (show j < numW.length from h12)⟩
      have hix := fun w => run_num w j p hp
      rw [HAV.out] at hix
      obtain ⟨w7, hw7⟩ : ∃ w7, w7 = wr.alloc (.cells #[.string (tx p.1), .int .i64 (p.2.1 : Int), .int .i64 (p.2.2.1 : Int), .bool p.2.2.2] 176) := ⟨_, rfl⟩
      have hb7 : Bl wr w7 := by rw [hw7]; exact (Bl.refl _).alloc _
      obtain ⟨N, hN⟩ : ∃ N, N = wr.heap.size := ⟨_, rfl⟩
      have h7 : w7.heap[N]? = some (.cells #[.string (tx p.1), .int .i64 (p.2.1 : Int), .int .i64 (p.2.2.1 : Int), .bool p.2.2.2] 176 (0, 0)) := by rw [hw7, hN]; exact new_at _ _
      have g0 : w7.cell? ⟨N, 0, none⟩ = some (.string (tx p.1)) := by rw [cell_of h7]; rfl
      have hNs := lt_of_heap h7
      have o7 := HB.out.1.step (row := none) ⟨hb7.os, hb7.tape, hb7.output, hb7.size, fun k hk _ => Below.block hb7 k hk⟩ (by simp)
      have hlen : (tx p.1).size ≤ 5000 := by
        rw [tx_size]
        have key : ∀ p ∈ numW, p.1.length ≤ 5000 := by decide
        exact key p (List.mem_of_getElem? hp)
      obtain ⟨w8, r8, o8, g8⟩ := o7.put (tx p.1) (j : Int) hlen (by unfold R64; omega) (by omega)
      have H8 : Hid (Om w8 b (mp (j + 1)) (6 + (j + 1)) ∧ Bl w w8) := by
        refine ⟨?_, bl_grown (HB.out.2.trans hb7) g8 (fun k hk => by injection hk with hk; have := H6.out.2.2; omega)⟩
        have e1 : (tx p.1).data.toList = p.1 := L_tx _
        rw [e1] at o8
        have e2 : mp (j + 1) = fun y => if y = p.1 then some (j : Int) else mp j y := by
          show (fun y => if y = (numW[j]?.map (·.1)).getD [] then some (j : Int) else mp j y) = _
          rw [hp]; rfl
        rw [e2]
        exact o8
      unfold numV at hix
      clear hp h7 hb7 o7 hlen o8 g8
      generalize tx p.1 = S at *
      generalize p.2.1 = p1 at *
      generalize p.2.2.1 = p2 at *
      generalize p.2.2.2 = p3 at *
      go_upto_region 5 with fail
      rw [← hw7, ← hN]
      clear hw7 hN
      go_wp2
      go_roundw
      case rel => exact ⟨j + 1, by omega, by go_num, H8.out⟩
      case measure => simp [intOf]; omega
    · obtain rfl : j = 12 := by omega
      have HF := HB.out
      rw [mp_all] at HF
      have HF' : Hid (Om wr b (fun t => if resv t = true then some (wdV t) else none) (6 + 12) ∧ Bl w wr) := HF
      clear HF
      go_wp2
      go_ret
      exact ⟨b, rfl, by have := H6.out.2.2; omega, om_lt HF'.out.1, ⟨_, HF'.out.1⟩, HF'.out.2⟩
end Go.Proofs.YtococaecjecjgaaGreatDoor.tm
/- Parse of package tmpl. -/
namespace Go.Proofs.YtococaecjecjgaaGreatDoor.tm
set_option linter.unusedVariables false
open Go.ChangeShapes Go.WideShapes Go.ChangeAt Go.RowKit Go.Shelf
open mem lx ex

theorem tcatch_idle (p q : Addr) (w : World) :
    CallsD Tryz.prog 58 #[.pointer (some p), .pointer (some q)] .returning w fun e u' w' => e = .returned (.tuple #[]) ∧ u' = .returning ∧ Bl w w' := by
  have hta : ∀ w : World, (Instr.typeAssert Value.nilIface 20 124 true).run Tryz.prog w = .ok (.tuple #[.agg #[.nilIface], .bool false]) w := fun _ => by kernel_rfl
  refine callsD_of_wpS Tryz.func58 rfl fun c₀ cs hu => ?_
  apply wpS_seq
  apply wpS_region
  simp [wpOpsS, go_sem, recoverD, hu, Tryz.ntmps58, Exit.thenS, hta]
  apply wpS_seq
  apply wpS_region
  simp [wpOpsS, go_sem, Exit.thenS]
  refine wpS_cond (t := false) (by simp [Act.eval, Array.replicate]) ?_
  simp only [Bool.false_eq_true, if_false]
  refine wpS_of_wp (wp_skip ?_)
  cases c₀
  simp_all [bodyPostS, results, Tryz.results58]
  exact (Bl.refl _).alloc _
/-- Parse's variables. -/
structure PvT (w wr : World) (N : Nat) (v e : Value) : Prop where
  v1 : Vr wr N v 22
  v2 : Vr wr (N + 1) e 34
  bl : Bl w wr
  n : N = w.heap.size
theorem PvT.step {w wr w' : World} {N : Nat} {v e : Value} (h : PvT w wr N v e) (hb : Bl wr w') : PvT w w' N v e := ⟨h.v1.step hb, h.v2.step hb, h.bl.trans hb, h.n⟩
theorem PvT.gp {P : Nat} {w wr w' : World} {N : Nat} {v e : Value} (h : PvT w wr N v e) (hg : Gp P wr w') (hP : N + 1 < P) : PvT w w' N v e :=
  ⟨Vr.gp h.v1 hg (by omega), Vr.gp h.v2 hg (by omega), hg.below h.bl (by have := h.n; omega), h.n⟩
theorem PvT.set1 {w wr : World} {N : Nat} {v e : Value} (h : PvT w wr N v e) (x : Value) : PvT w (wr.setCell ⟨N, 0, none⟩ x) N x e :=
  ⟨h.v1.set _, h.v2.set_other (by omega) _, h.bl.setCell (by show w.heap.size ≤ N; have := h.n; omega) _, h.n⟩
theorem PvT.set2 {w wr : World} {N : Nat} {v e : Value} (h : PvT w wr N v e) (x : Value) : PvT w (wr.setCell ⟨N + 1, 0, none⟩ x) N v x :=
  ⟨h.v1.set_other (by omega) _, h.v2.set _, h.bl.setCell (by show w.heap.size ≤ N + 1; have := h.n; omega) _, h.n⟩
theorem PvT.new (w : World) : PvT w ((w.alloc (.cells #[.slice none 0 0] 22)).alloc (.cells #[.nilIface] 34)) w.heap.size (.slice none 0 0) .nilIface := by
  refine ⟨(Vr.new w _ _).step ((Bl.refl _).alloc _), ?_, ((Bl.refl _).alloc _).alloc _, rfl⟩
  have := Vr.new (w.alloc (.cells #[.slice none 0 0] 22)) .nilIface 34
  simpa using this
theorem AtX.bl {w w' : World} {B : Nat} {c p : Int} (h : AtX w B c p) (hb : Bl w w') : AtX w' B c p := by
  unfold AtX at h ⊢
  rw [Below.block hb B (lt_of_heap h)]
  exact h
def thrV (B : Nat) : Value := .iface 124 (.agg #[.iface 113 (.pointer (some ⟨B, 0, none⟩))])
def atV (B : Nat) : Value := .iface 113 (.pointer (some ⟨B, 0, none⟩))
theorem tcatch_thrown (N B : Nat) (w0 w : World) (v e0 : Value) (c p : Int) (h : PvT w0 w N v e0) (hA : AtX w B c p) (hB : N + 1 < B) :
    CallsD Tryz.prog 58 #[.pointer (some ⟨N, 0, none⟩), .pointer (some ⟨N + 1, 0, none⟩)] (.panicking [{ v := thrV B, recovered := false }]) w fun e u' w' =>
      e = .returned (.tuple #[]) ∧ u' = .panicking [{ v := thrV B, recovered := true }] ∧ PvT w0 w' N (.slice none 0 0) (atV B) ∧ AtX w' B c p := by
  have hta : ∀ w : World, (Instr.typeAssert (thrV B) 20 124 true).run Tryz.prog w = .ok (.tuple #[.agg #[.iface 113 (.pointer (some ⟨B, 0, none⟩))], .bool true]) w := fun _ => by kernel_rfl
  refine callsD_of_wpS Tryz.func58 rfl fun c₀ cs hu => ?_
  apply wpS_seq
  apply wpS_region
  simp [wpOpsS, go_sem, recoverD, hu, Tryz.ntmps58, Exit.thenS, hta]
  apply wpS_seq
  apply wpS_region
  simp [wpOpsS, go_sem, Exit.thenS]
  refine wpS_cond (t := true) (by simp [Act.eval, Array.replicate]) ?_
  simp only [if_true]
  have hM := h.v2.lt
  obtain ⟨M, hMe⟩ : ∃ M, M = w.heap.size := ⟨_, rfl⟩
  rw [← hMe] at hM ⊢
  obtain ⟨w1, hw1⟩ : ∃ w1, w1 = w.alloc (.cells #[.iface 113 (.pointer (some ⟨B, 0, none⟩))] 124) := ⟨_, rfl⟩
  have hb1 : Bl w w1 := by rw [hw1]; exact (Bl.refl _).alloc _
  have hcM : w1.cell? ⟨M, 0, none⟩ = some (.iface 113 (.pointer (some ⟨B, 0, none⟩))) := by
    have := new_at w (.cells #[.iface 113 (.pointer (some ⟨B, 0, none⟩))] 124)
    rw [hMe, hw1, cell_of this]; rfl
  have H1 : Hid (PvT w0 w1 N v e0 ∧ AtX w1 B c p) := ⟨h.step hb1, AtX.bl hA hb1⟩
  rw [← hw1]
  clear hw1 hb1 hA h hMe
  have c1 := H1.out.1.v1.cell
  have c2 := H1.out.1.v2.cell
  have f1 := H1.out.1.v1.frozen
  have f2 := H1.out.1.v2.frozen
  have hMN : ¬ M = N := by omega
  have hMN1 : ¬ M = N + 1 := by omega
  refine wpS_of_wp ?_
  refine wp_calm ?_
  go_region
  all_goals
    refine Calm.in ?_
    have H9 : PvT w0 ((w1.setCell ⟨N, 0, none⟩ (.slice none 0 0)).setCell ⟨N + 1, 0, none⟩ (atV B)).drew N (.slice none 0 0) (atV B) ∧ AtX ((w1.setCell ⟨N, 0, none⟩ (.slice none 0 0)).setCell ⟨N + 1, 0, none⟩ (atV B)).drew B c p :=
      ⟨((H1.out.1.set1 _).set2 _).step (Bl.refl _).drew, AtX.bl ((H1.out.2.set (by omega)).set (by omega)) (Bl.refl _).drew⟩
    unfold atV at H9
    generalize ((w1.setCell ⟨N, 0, none⟩ (.slice none 0 0)).setCell ⟨N + 1, 0, none⟩ (.iface 113 (.pointer (some ⟨B, 0, none⟩)))).drew = w9 at H9 ⊢
    cases c₀
    simp_all [bodyPostS, results, Tryz.results58, atV]
end Go.Proofs.YtococaecjecjgaaGreatDoor.tm
