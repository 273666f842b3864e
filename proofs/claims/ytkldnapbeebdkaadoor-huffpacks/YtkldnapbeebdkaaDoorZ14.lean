/- Texts laid together: Hf5, HfK. -/
import Derived.Test.YtkldnapbeebdkaaDoorZ13
/- What Lens answers. -/
namespace Go.Proofs.YtkldnapbeebdkaaDoor.hf
set_option linter.unusedVariables false
open Go.ChangeShapes Go.WideShapes Go.ChangeAt Go.RowKit
open mem rows hfp
theorem step_append_run {P : Program} {ops : Array Oper} {o : Oper} {a : Act} {w : World} {K : Act → World → Prop} {Q : Exit → Act → World → Prop} {E : Prop}
    (hg : o.guard = none) (s x : Operand) (t tx : TypeId) (hop : o.op = Op.call { callee := Callee.builtin Builtin.append, args := #[s, x], argTypes := #[t, tx] })
    (vs vx : Value) (hs : a.eval s = vs) (hx : a.eval x = vx) (v' : Value) (w' : World) (hr : (Builtin.append_ #[t, tx] o.type #[vs, vx]).run P w = .ok v' w') (hK : K (a.put o.dst v') w') :
    if Region.wanted o (yielded ops a.tmps) = true then Oper.wp P o a w K Q else E := by
  have hw : Region.wanted o (yielded ops a.tmps) = true := by simp [Region.wanted, hg]
  rw [if_pos hw]
  exact Lib.wp_append_run w s x t tx hop vs vx hs hx v' w' hr hK
def leL (x y : Gv × List Int) : Bool := leG x.1 y.1
theorem sort_bare (L : List (Gv × List Int)) : (bare L).mergeSort leG = bare (L.mergeSort leL) := (List.map_mergeSort (r := leL) (s := leG) (f := fun x : Gv × List Int => x.1) (l := L) fun a _ b _ => rfl).symm
theorem sort_num (L : List (Gv × List Int)) : (numbers L).mergeSort leP = numbers (L.mergeSort leL) := (List.map_mergeSort (r := leL) (s := leP) (f := fun x : Gv × List Int => (x.1.1, x.2)) (l := L) fun a _ b _ => rfl).symm
/-- How many bits things have. -/
def lensOf (l : List Int) : List Int :=
  match grp l l.length with
  | [g] => (List.replicate l.length 0).set (g.2.getD 0 0).toNat 1
  | gs => hloop gs.length gs (List.replicate l.length 0)
/-- What Lens answers: an error, or as many bits as are told, in a new block. -/
def LensP (l : List Int) (w : World) (e : Ending) (w' : World) : Prop :=
  Bl w w' ∧ ((256 < l.length ∧ e = .returned (.tuple #[.slice none 0 0, .iface 23 (.int .i64 4)])) ∨
    (l.length ≤ 256 ∧ ¬ okL l l.length ∧ e = .returned (.tuple #[.slice none 0 0, .iface 23 (.int .i64 1)])) ∨
    (l.length ≤ 256 ∧ okL l l.length ∧ ∃ B, e = .returned (.tuple #[.slice (some ⟨B, 0, none⟩) l.length l.length, .nilIface]) ∧ w.heap.size ≤ B ∧ RowI w' B (lensOf l)))
/-- What Lens has at hand while it joins groups. -/
structure Ln (w : World) (n base B : Nat) (tgt : List Int) (wr : World) (v : Value) (L : List (Gv × List Int)) (ls : List Int) : Prop where
  gr : Gr wr base v (bare L)
  th : Ths wr (fun b => bk v = some b ∨ b = B) L
  row : RowI wr B ls
  ne : bk v ≠ some B
  wb : w.heap.size ≤ B
  bl : Bl w wr
  pw : Pw n (numbers L) ls
  tgt : hloop L.length (numbers L) ls = tgt
theorem Ths.vw {w : World} {F : Nat → Prop} {L : List (Gv × List Int)} (h : Ths w F L) {x : Gv × List Int} (hx : x ∈ L) : Vw w x.1.2.1 x.1.2.2.1 x.1.2.2.2 x.2 ∧ 0 < x.2.length := by
  obtain ⟨b, cap, h1, _, _, h4, h5⟩ := h x hx
  rw [h1]
  exact ⟨⟨rfl, Or.inr ⟨_, rfl, fun k hk => by rw [Addr.add_lit, Nat.zero_add]; exact h5 k hk⟩, fun h => by cases h⟩, h4⟩
theorem grp_mem {l : List Int} {k : Nat} {g : Int × List Int} (h : g ∈ grp l k) : ∃ i, i < k ∧ 0 < l.getD i 0 ∧ g = (l.getD i 0, [(i : Int)]) := by
  unfold grp at h
  obtain ⟨i, hi, rfl⟩ := List.mem_map.1 h
  obtain ⟨h1, h2⟩ := List.mem_filter.1 hi
  exact ⟨i, List.mem_range.1 h1, of_decide_eq_true h2, rfl⟩
theorem grp_sm (l : List Int) : ∀ k, okL l k → sm (grp l k) ≤ 1099511627776 * (k : Int)
  | 0, _ => by simp [grp, sm]
  | k + 1, h => by
    have ih := grp_sm l k (fun i hi => h i (by omega))
    have hk := h k (by omega)
    rw [grp_succ]
    unfold sm at ih ⊢
    rw [List.map_append, List.sum_append]
    split
    · simp only [List.map_cons, List.map_nil, List.sum_cons, List.sum_nil]; omega
    · simp only [List.map_nil, List.sum_nil]; omega
theorem grp_tn (l : List Int) : ∀ k, tn (grp l k) ≤ k
  | 0 => by simp [grp, tn]
  | k + 1 => by
    have ih := grp_tn l k
    rw [grp_succ]
    unfold tn at ih ⊢
    rw [List.map_append, List.sum_append]
    split
    · simp only [List.map_cons, List.map_nil, List.sum_cons, List.sum_nil, List.length_singleton]; omega
    · simp only [List.map_nil, List.sum_nil]; omega
theorem pw_grp {l : List Int} {n : Nat} (hok : okL l n) (h : n ≤ 256) : Pw n (grp l n) (List.replicate n 0) := by
  refine ⟨fun g hg => ?_, ?_, fun g hg t ht => ?_, ?_, ?_, by simp, fun j => ?_⟩
  · obtain ⟨i, _, h2, rfl⟩ := grp_mem hg
    exact Int.le_of_lt h2
  · have := grp_sm l n hok
    omega
  · obtain ⟨i, h1, _, rfl⟩ := grp_mem hg
    simp at ht
    subst ht
    omega
  · have := grp_tn l n
    omega
  · have := grp_len l n
    omega
  · have := grp_len l n
    have e : (List.replicate n (0 : Int)).getD j 0 = 0 := by
      rw [List.getD_eq_getElem?_getD, List.getElem?_replicate]
      split <;> rfl
    rw [e]
    omega
theorem lensOf_one {l : List Int} {g : Int × List Int} (h : grp l l.length = [g]) : lensOf l = (List.replicate l.length 0).set (g.2.getD 0 0).toNat 1 := by
  unfold lensOf
  rw [h]
theorem lensOf_more {l : List Int} (h : (grp l l.length).length ≠ 1) : lensOf l = hloop (grp l l.length).length (grp l l.length) (List.replicate l.length 0) := by
  unfold lensOf
  split
  · next h1 => rw [h1] at h; simp at h
  · rfl
/-- What is at hand when the groups are sorted. -/
structure Md (w : World) (n base B : Nat) (tgt : List Int) (w3 : World) (g off N vd : Nat) (xa xb : Gv × List Int) (R : List (Gv × List Int)) (ls : List Int) : Prop where
  gr : Gr w3 base (.slice (some ⟨g, off, none⟩) N vd) (bare (xa :: xb :: R))
  num : N = R.length + 2
  th : Ths w3 (fun b => b = g ∨ b = B) (xa :: xb :: R)
  row : RowI w3 B ls
  ne : g ≠ B
  wb : w.heap.size ≤ B
  bl : Bl w w3
  pw : Pw n (numbers R ++ [cat (xa.1.1, xa.2) (xb.1.1, xb.2)]) (bump ls (xa.2 ++ xb.2))
  tgt : hloop (R.length + 1) (numbers R ++ [cat (xa.1.1, xa.2) (xb.1.1, xb.2)]) (bump ls (xa.2 ++ xb.2)) = tgt
  big : 0 ≤ xa.1.1 ∧ 0 ≤ xb.1.1 ∧ xa.1.1 + xb.1.1 ≤ 281474976710656
  few : xa.2.length + xb.2.length ≤ 256
  rng : ∀ t ∈ xa.2 ++ xb.2, 0 ≤ t ∧ t.toNat < n
  len : ls.length = n
  low : ∀ j, 0 ≤ ls.getD j 0 ∧ ls.getD j 0 ≤ 65536
theorem md_of {w wr w3 : World} {n base B g off vd : Nat} {tgt ls : List Int} {L R : List (Gv × List Int)} {xa xb : Gv × List Int} (h : Ln w n base B tgt wr (.slice (some ⟨g, off, none⟩) L.length vd) L ls) (hL : xa :: xb :: R = L.mergeSort leL)
    (hgr : Gr w3 base (.slice (some ⟨g, off, none⟩) L.length vd) (bare (xa :: xb :: R))) (hgb : wr.grownBy w3 (some g)) (hwg : w.heap.size ≤ g) : Md w n base B tgt w3 g off L.length vd xa xb R ls := by
  have hne : g ≠ B := fun e => h.ne (by rw [e]; rfl)
  have hBl : B < wr.heap.size := h.row.lt
  have hs : (numbers L).mergeSort leP = (xa.1.1, xa.2) :: (xb.1.1, xb.2) :: numbers R := by rw [sort_num, ← hL]; rfl
  have hlen : L.length = R.length + 2 := by
    have := congrArg List.length hL
    rw [List.length_mergeSort] at this
    simpa using this.symm
  have hmem : ∀ x ∈ xa :: xb :: R, x ∈ L := fun x hx => by
    rw [hL] at hx
    exact (List.mergeSort_perm L leL).mem_iff.1 hx
  obtain ⟨ha, hb, hr⟩ := mem_step hs
  have h2 := two_sm h.pw.pos hs
  have hpw := h.pw.step hs
  have hf := len_tn (gs := numbers R ++ [cat (xa.1.1, xa.2) (xb.1.1, xb.2)]) (cat (xa.1.1, xa.2) (xb.1.1, xb.2)) (by simp)
  have hf2 := hpw.few
  refine ⟨hgr, hlen, (h.th.mem hmem).step (fun b h1 h2 => hgb.block b h1 (fun e => h2 (Or.inl (by injection e with e; rw [e]; rfl)))) hgb.size (fun b _ h2 => h2.elim (fun e => Or.inl (by rw [e]; rfl)) Or.inr), ?_, hne, h.wb, bl_grown h.bl hgb (fun k e => by injection e with e; omega), hpw, ?_, ⟨h2.2.1, h2.2.2, Int.le_trans h2.1 h.pw.sum⟩, ?_, fun t ht => ?_, h.pw.len, fun j => ?_⟩
  · have := h.row
    unfold RowI at this ⊢
    rw [hgb.block B hBl (fun e => hne (by injection e with e; exact e.symm))]
    exact this
  · have := h.tgt
    rw [hlen, hloop_step hs] at this
    exact this
  · have e : (cat (xa.1.1, xa.2) (xb.1.1, xb.2)).2.length = xa.2.length + xb.2.length := by simp [cat]
    omega
  · exact hpw.rng (cat (xa.1.1, xa.2) (xb.1.1, xb.2)) (by simp) t ht
  · have := h.pw.low j
    omega
theorem box_facts {w3 w4 : World} (hb : Bl (w3.alloc (.cells #[.int .i64 0, .slice none 0 0] 49)).drew w4) : w4.cell? ⟨w3.heap.size, 0, none⟩ = some (.int .i64 0) ∧ w4.cell? ⟨w3.heap.size, 1, none⟩ = some (.slice none 0 0) ∧ w4.frozen? ⟨w3.heap.size, 0, none⟩ = false ∧ w4.frozen? ⟨w3.heap.size, 1, none⟩ = false :=
  ⟨at_bl hb (by go_simp), at_bl hb (by go_simp), (fz_bl hb (by simp)).trans (by go_simp), (fz_bl hb (by simp)).trans (by go_simp)⟩
/-- The group that was just joined, in a variable of its own. -/
structure Bx (w3 w5 : World) (P g4 N cap : Nat) (z : Int) (t : List Int) : Prop where
  c0 : w5.cell? ⟨P, 0, none⟩ = some (.int .i64 z)
  c1 : w5.cell? ⟨P, 1, none⟩ = some (.slice (some ⟨g4, 0, none⟩) N cap)
  p : w3.heap.size ≤ P
  pl : P < w5.heap.size
  g : w3.heap.size ≤ g4
  gl : g4 < w5.heap.size
  ne : P ≠ g4
  tc : ∀ k, k < t.length → w5.cell? ⟨g4, k, none⟩ = some (.int .i64 (t.getD k 0))
  bl : Bl w3 w5
theorem bx1 {w3 w4 : World} {g4 N cap : Nat} {z : Int} {t : List Int} (hb : Bl w3.drew w4) (ho : Nw w3.drew w4 g4 t) : Bx w3 (w4.alloc (.cells #[.int .i64 z, .slice (some ⟨g4, 0, none⟩) N cap] 49)) w4.heap.size g4 N cap z t := by
  have hbl : Bl w3 w4 := Bl.trans (Bl.refl _).drew hb
  refine ⟨by go_simp, by go_simp, hbl.size, by simp, ho.1, by have := ho.2.1; simp; omega, by have := ho.2.1; omega, fun k hk => ?_, hbl.alloc _⟩
  rw [at_bl ((Bl.refl w4).alloc _) (ho.2.2 k hk)]
theorem bx2 {w3 w4 : World} {g4 N cap : Nat} {z : Int} {t : List Int} (hb : Bl (w3.alloc (.cells #[.int .i64 0, .slice none 0 0] 49)).drew w4) (ho : Nw (w3.alloc (.cells #[.int .i64 0, .slice none 0 0] 49)).drew w4 g4 t) : Bx w3 ((w4.setCell ⟨w3.heap.size, 0, none⟩ (.int .i64 z)).setCell ⟨w3.heap.size, 1, none⟩ (.slice (some ⟨g4, 0, none⟩) N cap)) w3.heap.size g4 N cap z t := by
  have hbl : Bl w3 w4 := Bl.trans ((Bl.refl _).alloc _).drew hb
  obtain ⟨z0, z1, z2, z3⟩ := box_facts hb
  have h1 : w3.heap.size + 1 ≤ g4 := by have := ho.1; simpa using this
  have h2 : w3.heap.size + 1 ≤ w4.heap.size := by have := hb.size; simpa using this
  refine ⟨by go_simp, by go_simp, Nat.le_refl _, by simp; omega, by omega, by have := ho.2.1; simpa using this, by omega, fun k hk => ?_, (hbl.setCell (Nat.le_refl _) _).setCell (Nat.le_refl _) _⟩
  rw [set2_far (by omega)]
  exact ho.2.2 k hk
theorem num_ok (j : Nat) : Value.int .i64 ((j : Int) + 1) = Value.int .i64 ((j + 1 : Nat) : Int) := by congr 1
theorem meas_ok (N j : Nat) (h : j < N) : N - (intOf (Value.int .i64 ((j : Int) + 1))).toNat < N - (intOf (Value.int .i64 (j : Int))).toNat := by
  simp only [intOf]
  omega
theorem grown_setB {w w' : World} {B : Nat} (h : w.grownBy w' (some B)) (j : Nat) (v : Value) : w.grownBy (w'.setCell ⟨B, j, none⟩ v) (some B) := by
  refine ⟨h.os, h.tape, h.output, by simpa using h.size, fun k hk hne => ?_⟩
  rw [← h.block k hk hne]
  have : B ≠ k := fun e => hne (by rw [e])
  simp [World.setCell, Array.getElem?_modify, this]
theorem bump_snoc (ls t : List Int) (j : Nat) (h : j < t.length) : bump ls (t.take (j + 1)) = (bump ls (t.take j)).set (t.getD j 0).toNat ((bump ls (t.take j)).getD (t.getD j 0).toNat 0 + 1) := by
  rw [List.take_succ_eq_append_getElem h, bump_append]
  have e : t.getD j 0 = t[j] := by rw [List.getD_eq_getElem?_getD, List.getElem?_eq_getElem h]; rfl
  rw [e]
  rfl
theorem drop2z {w : World} {base g off : Nat} {l : List Gv} {a b : Gv} (h : Gr w base (.slice (some ⟨g, off, none⟩) (l.length + 2) 2) (a :: b :: l)) : Gr w base (.slice (some ⟨g, off, none⟩) l.length 0) l := by
  rcases h with ⟨h, _⟩ | ⟨g', off', cap', cur, h1, h2, h3, h4, h5, h6⟩
  · cases h
  · simp only [Value.slice.injEq, Option.some.injEq, Addr.mk.injEq] at h1
    obtain ⟨⟨rfl, rfl, _⟩, _, rfl⟩ := h1
    simp only [List.length_cons] at h4
    have hl : l = [] := List.eq_nil_of_length_eq_zero (by omega)
    subst hl
    exact Or.inr ⟨g, off, 0, cur, rfl, h2, h3, Nat.zero_le _, by omega, fun j u hu => by simp [rowG] at hu⟩
theorem gr_slice {w : World} {base n : Nat} {v : Value} {l : List Gv} (h : Gr w base v l) (hn : l.length = n + 1) : ∃ p c, v = .slice p (n + 1) c := by
  rcases h with ⟨_, h⟩ | ⟨g, off, cap, cur, h1, _⟩
  · rw [h] at hn; simp at hn
  · exact ⟨_, cap, by rw [h1, hn]⟩
/-- What is at hand when a joined group is laid behind the others. -/
theorem ln_next {w w3 w5 wr W6 w' : World} {n base B g off N0 vd P g4 N cap : Nat} {tgt ls tt : List Int} {xa xb : Gv × List Int} {R : List (Gv × List Int)} {z : Int} {v v' : Value} (m : Md w n base B tgt w3 g off N0 vd xa xb R ls) (bx : Bx w3 w5 P g4 N cap z tt)
    (hrow : RowI wr B (bump ls tt)) (hgb : w5.grownBy wr (some B)) (hb6 : Bl wr W6) (hs6 : W6.heap.size = wr.heap.size + 1) (hN : N = tt.length) (htt : tt = xa.2 ++ xb.2) (hz : z = xa.1.1 + xb.1.1)
    (ho : Gr w' base v' (bare R ++ [(z, some ⟨g4, 0, none⟩, N, cap)])) (hg : W6.grownBy w' (bk v)) (hbk : bk v' = bk v ∨ bk v' = some W6.heap.size) (hbase : base = w.heap.size) (hv : bk v = some g) : Ln w n base B tgt w' v' (R ++ [((z, some ⟨g4, 0, none⟩, N, cap), tt)]) (bump ls tt) := by
  have hBl : B < w3.heap.size := m.row.lt
  have hg3 : g < w3.heap.size := by
    rcases m.gr with ⟨h, _⟩ | ⟨g', _, _, _, h, _, h3, _⟩
    · cases h
    · simp only [Value.slice.injEq, Option.some.injEq, Addr.mk.injEq] at h
      rw [h.1.1]; exact lt_of_heap h3
  have s1 := bx.bl.size
  have s2 := hgb.size
  have s3 := hg.size
  have e1 := bx.g
  have e2 := bx.gl
  have hne := m.ne
  have hwg : w.heap.size ≤ g := by
    rcases m.gr with ⟨h, _⟩ | ⟨g', _, _, _, h, h2, _, _⟩
    · cases h
    · simp only [Value.slice.injEq, Option.some.injEq, Addr.mk.injEq] at h
      rw [h.1.1, ← hbase]; exact h2
  have hblk : ∀ b, b < w5.heap.size → b ≠ g → b ≠ B → w'.heap[b]? = w5.heap[b]? := fun b h1 h2 h3 => by
    rw [hg.block b (by omega) (fun e => by rw [hv] at e; injection e with e; exact h2 e), Below.block hb6 b (by omega), hgb.block b h1 (fun e => by injection e with e; exact h3 e)]
  have hF : ∀ b, b < W6.heap.size → bk v' = some b → b = g := fun b h1 h2 => by
    rcases hbk with h | h
    · rw [h, hv] at h2; injection h2 with h2; exact h2.symm
    · rw [h] at h2; injection h2 with h2; omega
  have hpn : numbers (R ++ [((z, some ⟨g4, 0, none⟩, N, cap), tt)]) = numbers R ++ [cat (xa.1.1, xa.2) (xb.1.1, xb.2)] := by
    simp only [numbers, List.map_append, List.map_cons, List.map_nil, cat]
    rw [hz, htt]
  refine ⟨by simp only [bare, List.map_append, List.map_cons, List.map_nil]; exact ho, Ths.cons ?_ ?_, ?_, fun e => hne (hF B (by omega) e).symm, m.wb, ?_, by rw [hpn, htt]; exact m.pw, by rw [hpn, htt, List.length_append, List.length_singleton]; exact m.tgt⟩
  · refine (m.th.mem (fun x hx => by simp [hx])).step (fun b h1 h2 => ?_) (by omega) (fun b h1 h2 => h2.elim (fun h => Or.inl (hF b (by omega) h)) Or.inr)
    rw [hblk b (by omega) (fun e => h2 (Or.inl e)) (fun e => h2 (Or.inr e)), Below.block bx.bl b h1]
  · intro x hx
    rw [List.mem_singleton] at hx
    subst hx
    refine ⟨g4, cap, by rw [hN], fun h => ?_, by omega, ?_, fun k hk => ?_⟩
    · rcases h with h | h
      · have := hF g4 (by omega) h; omega
      · omega
    · have := (m.th.vw (x := xa) (by simp)).2
      rw [htt, List.length_append]
      omega
    · rw [World.cell?_of_block (hblk g4 e2 (by omega) (by omega))]
      exact bx.tc k hk
  · unfold RowI at hrow ⊢
    rw [hg.block B (by omega) (fun e => by rw [hv] at e; injection e with e; exact hne e.symm), Below.block hb6 B (by omega)]
    exact hrow
  · have hb5 : Bl w w5 := m.bl.trans bx.bl
    have s0 := m.bl.size
    refine bl_grown ((bl_grown hb5 hgb (fun k e => by injection e with e; rw [← e]; exact m.wb)).trans hb6) hg (fun k e => by rw [hv] at e; injection e with e; omega)
def lenOfV : Value → Nat
  | .slice _ n _ => n
  | _ => 0
end Go.Proofs.YtkldnapbeebdkaaDoor.hf
/- KRAFT's, of the signs that are made: there is just room for all. -/
namespace Go.Proofs.YtkldnapbeebdkaaDoor.hf
set_option linter.unusedVariables false
open hfp
/-- The room of some things. -/
def ks (ls t : List Int) : Nat := (t.map fun i => 2 ^ (255 - (ls.getD i.toNat 0).toNat)).sum
abbrev flat (gs : List G) : List Int := gs.flatMap (·.2)
/-- Things apart, each group's signs fill all room. -/
structure Kr (n : Nat) (l : List Int) (gs : List G) (ls : List Int) : Prop where
  nod : (flat gs).Nodup
  mem : ∀ i : Int, i ∈ flat gs ↔ 0 ≤ i ∧ i.toNat < n ∧ 0 < l.getD i.toNat 0
  room : ∀ g ∈ gs, ks ls g.2 = 2 ^ 255
  deep : ∀ g ∈ gs, ∀ t ∈ g.2, 0 ≤ ls.getD t.toNat 0 ∧ ls.getD t.toNat 0 + 1 ≤ (g.2.length : Int)
  some : ∀ g ∈ gs, 2 ≤ g.2.length → ∀ t ∈ g.2, 1 ≤ ls.getD t.toNat 0
  rest : ∀ j : Nat, (j : Int) ∉ flat gs → ls.getD j 0 = 0
theorem flat_len (gs : List G) : (flat gs).length = tn gs := by
  unfold flat tn
  rw [List.length_flatMap]
theorem ks_append (ls t t' : List Int) : ks ls (t ++ t') = ks ls t + ks ls t' := by
  unfold ks
  rw [List.map_append, List.sum_append]
theorem ks_half (ls ls' : List Int) : ∀ t : List Int, (∀ i ∈ t, 0 ≤ ls.getD i.toNat 0 ∧ ls.getD i.toNat 0 + 1 ≤ 255 ∧ ls'.getD i.toNat 0 = ls.getD i.toNat 0 + 1) → ks ls t = 2 * ks ls' t
  | [], _ => rfl
  | i :: t, h => by
    have ih := ks_half ls ls' t (fun j hj => h j (by simp [hj]))
    obtain ⟨h1, h2, h3⟩ := h i (by simp)
    unfold ks at ih ⊢
    rw [List.map_cons, List.map_cons, List.sum_cons, List.sum_cons, ih, Nat.mul_add, h3]
    congr 1
    rw [show 255 - (ls.getD i.toNat 0).toNat = 255 - (ls.getD i.toNat 0 + 1).toNat + 1 by omega, Nat.pow_succ, Nat.mul_comm]
theorem ks_same (ls ls' : List Int) (t : List Int) (h : ∀ i ∈ t, ls'.getD i.toNat 0 = ls.getD i.toNat 0) : ks ls' t = ks ls t := by
  unfold ks
  congr 1
  exact List.map_congr_left fun i hi => by rw [h i hi]
theorem Kr.step {n : Nat} {l : List Int} {gs r : List G} {a b : G} {ls : List Int} (k : Kr n l gs ls) (p : Pw n gs ls) (h : gs.mergeSort leP = a :: b :: r) : Kr n l (r ++ [cat a b]) (bump ls (a.2 ++ b.2)) := by
  obtain ⟨ha, hb, hr⟩ := mem_step h
  have hp : (flat gs).Perm (a.2 ++ (b.2 ++ flat r)) := by
    have := (List.mergeSort_perm gs leP).flatMap_right (fun x : G => x.2)
    rw [h] at this
    exact this.symm
  have hp2 : (flat (r ++ [cat a b])).Perm (flat gs) := by
    refine List.Perm.trans ?_ hp.symm
    unfold flat
    rw [List.flatMap_append]
    simp only [List.flatMap_cons, List.flatMap_nil, List.append_nil, cat]
    rw [← List.append_assoc a.2]
    exact List.perm_append_comm
  have hnod := (hp.nodup_iff).1 k.nod
  rw [← List.append_assoc] at hnod
  obtain ⟨hn1, hn2, hn3⟩ := List.nodup_append.1 hnod
  have hlen : ls.length = n := p.len
  have hrng : ∀ t ∈ a.2 ++ b.2, 0 ≤ t ∧ t.toNat < ls.length := fun t ht => by
    rw [hlen]
    rcases List.mem_append.1 ht with h1 | h1
    · exact p.rng a ha t h1
    · exact p.rng b hb t h1
  have hin : ∀ t ∈ a.2 ++ b.2, (bump ls (a.2 ++ b.2)).getD t.toNat 0 = ls.getD t.toNat 0 + 1 := fun t ht => by
    rw [bump_get _ _ _ hrng hn1, if_pos (by have := (hrng t ht).1; rw [show ((t.toNat : Nat) : Int) = t by omega]; exact ht)]
  have hout : ∀ j : Nat, (j : Int) ∉ a.2 ++ b.2 → (bump ls (a.2 ++ b.2)).getD j 0 = ls.getD j 0 := fun j hj => by
    rw [bump_get _ _ _ hrng hn1, if_neg hj]
  have hoff : ∀ g ∈ r, ∀ t ∈ g.2, (bump ls (a.2 ++ b.2)).getD t.toNat 0 = ls.getD t.toNat 0 := fun g hg t ht => by
    have h0 := (p.rng g (hr g hg) t ht).1
    refine hout _ ?_
    rw [show ((t.toNat : Nat) : Int) = t by omega]
    intro hc
    exact hn3 t hc t (List.mem_flatMap.2 ⟨g, hg, ht⟩) rfl
  have hsz : a.2.length + b.2.length ≤ 256 := by
    have := len_tn (gs := r ++ [cat a b]) (cat a b) (by simp)
    rw [tn_step h] at this
    have hf := p.few
    have e : (cat a b).2.length = a.2.length + b.2.length := by simp [cat]
    omega
  have ne : ∀ g ∈ gs, 0 < g.2.length := fun g hg => by
    have := k.room g hg
    cases hg2 : g.2 with
    | nil =>
      rw [hg2] at this
      have h0 : ks ls [] = 0 := rfl
      rw [h0] at this
      exact absurd this.symm (Nat.ne_of_gt (Nat.pow_pos (by decide)))
    | cons x t => simp
  have na := ne a ha
  have nb := ne b hb
  refine ⟨(hp2.nodup_iff).2 k.nod, fun i => by rw [hp2.mem_iff]; exact k.mem i, fun g hg => ?_, fun g hg t ht => ?_, fun g hg hg2 t ht => ?_, fun j hj => ?_⟩
  · rcases List.mem_append.1 hg with h1 | h1
    · rw [ks_same ls _ _ (hoff g h1)]; exact k.room g (hr g h1)
    · simp at h1
      subst h1
      have hh := ks_half ls (bump ls (a.2 ++ b.2)) (a.2 ++ b.2) (fun t ht => by
        refine ⟨?_, ?_, hin t ht⟩
        · rcases List.mem_append.1 ht with h1 | h1
          · exact (k.deep a ha t h1).1
          · exact (k.deep b hb t h1).1
        · rcases List.mem_append.1 ht with h1 | h1
          · have := (k.deep a ha t h1).2; omega
          · have := (k.deep b hb t h1).2; omega)
      rw [ks_append, k.room a ha, k.room b hb] at hh
      show ks _ (a.2 ++ b.2) = _
      omega
  · rcases List.mem_append.1 hg with h1 | h1
    · rw [hoff g h1 t ht]; exact k.deep g (hr g h1) t ht
    · simp at h1
      subst h1
      have ht' : t ∈ a.2 ++ b.2 := ht
      rw [hin t ht']
      have e : (cat a b).2.length = a.2.length + b.2.length := by simp [cat]
      rw [e]
      rcases List.mem_append.1 ht' with h1 | h1
      · have := k.deep a ha t h1; omega
      · have := k.deep b hb t h1; omega
  · rcases List.mem_append.1 hg with h1 | h1
    · rw [hoff g h1 t ht]; exact k.some g (hr g h1) hg2 t ht
    · simp at h1
      subst h1
      have ht' : t ∈ a.2 ++ b.2 := ht
      rw [hin t ht']
      rcases List.mem_append.1 ht' with h1 | h1
      · have := k.deep a ha t h1; omega
      · have := k.deep b hb t h1; omega
  · rw [hp2.mem_iff] at hj
    rw [hout j (fun hc => hj (by rw [hp.mem_iff, ← List.append_assoc]; exact List.mem_append.2 (Or.inl hc)))]
    exact k.rest j hj
/-- In the end there is one group. -/
theorem kr_loop {n : Nat} {l : List Int} : ∀ (f : Nat) (gs : List G) (ls : List Int), gs.length ≤ f + 1 → 1 ≤ gs.length → Kr n l gs ls → Pw n gs ls → ∃ g, Kr n l [g] (hloop f gs ls)
  | 0, gs, ls, h1, h2, k, _ => by
    obtain ⟨g, rfl⟩ := List.length_eq_one_iff.1 (show gs.length = 1 by omega)
    exact ⟨g, k⟩
  | f + 1, gs, ls, h1, h2, k, p => by
    by_cases h : gs.length = 1
    · obtain ⟨g, rfl⟩ := List.length_eq_one_iff.1 h
      rw [hloop_end (by simp)]
      exact ⟨g, k⟩
    · obtain ⟨a, b, r, hs, hl⟩ := sort_two (gs := gs) (by omega)
      rw [hloop_step hs]
      exact kr_loop f _ _ (by simp; omega) (by simp) (k.step p hs) (p.step hs)
theorem kr_first (l : List Int) (n : Nat) : Kr n l (grp l n) (List.replicate n 0) := by
  have hz : ∀ j, (List.replicate n (0 : Int)).getD j 0 = 0 := fun j => by
    rw [List.getD_eq_getElem?_getD, List.getElem?_replicate]
    split <;> rfl
  have hf : flat (grp l n) = ((List.range n).filter fun i => decide (0 < l.getD i 0)).map fun i : Nat => (i : Int) := by
    unfold flat grp
    rw [List.flatMap_map]
    induction (List.range n).filter fun i => decide (0 < l.getD i 0) with
    | nil => rfl
    | cons x t ih => simp [ih]
  refine ⟨?_, fun i => ?_, fun g hg => ?_, fun g hg t ht => ?_, fun g hg h2 => ?_, fun j _ => hz j⟩
  · rw [hf]
    refine List.Pairwise.map _ (fun a b h => ?_) (List.nodup_range.filter _)
    omega
  · rw [hf, List.mem_map]
    constructor
    · rintro ⟨k, hk, rfl⟩
      obtain ⟨h1, h2⟩ := List.mem_filter.1 hk
      have := List.mem_range.1 h1
      exact ⟨by omega, by simpa using this, by simpa using h2⟩
    · rintro ⟨h1, h2, h3⟩
      exact ⟨i.toNat, List.mem_filter.2 ⟨List.mem_range.2 h2, by simpa using h3⟩, by omega⟩
  · obtain ⟨i, _, _, rfl⟩ := grp_mem hg
    show 2 ^ (255 - ((List.replicate n (0 : Int)).getD ((i : Int)).toNat 0).toNat) + 0 = _
    rw [hz]
    rfl
  · rw [hz]
    obtain ⟨i, _, _, rfl⟩ := grp_mem hg
    simp
  · obtain ⟨i, _, _, rfl⟩ := grp_mem hg
    simp at h2
end Go.Proofs.YtkldnapbeebdkaaDoor.hf
