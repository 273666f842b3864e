/- Texts laid together: Hr3, Hr5. -/
import Derived.Test.YtkldnapbeebdkaaDoorZ30
/- The document's own HuffLens: what it has at hand. -/
namespace Go.Proofs.YtkldnapbeebdkaaDoor.hr
set_option linter.unusedVariables false
open Go.ChangeShapes Go.WideShapes Go.ChangeAt Go.RowKit
open mem rows hfp
open hf (Ths bare numbers okL grp)
theorem bk_lt {w : World} {base : Nat} {v : Value} {l : List Gv} (h : Gr w base v l) : ∀ b, bk v = some b → base ≤ b ∧ b < w.heap.size := fun b hb => by
  rcases h with ⟨h, _⟩ | ⟨g, off, cap, cur, h1, h2, h3, _⟩
  · rw [h] at hb; cases hb
  · rw [h1] at hb
    simp only [bk, Option.some.injEq] at hb
    subst hb
    exact ⟨h2, lt_of_heap h3⟩
/-- The groups, in a variable that lies in a box; their things lie apart from what F tells. -/
structure Rl (w : World) (base V : Nat) (F : Nat → Prop) (wr : World) (v : Value) (L : List (Gv × List Int)) : Prop where
  cv : wr.cell? ⟨V, 0, none⟩ = some v
  fv : wr.frozen? ⟨V, 0, none⟩ = false
  gr : Gr wr base v (bare L)
  th : Ths wr (fun b => bk v = some b ∨ F b) L
  bl : Bl w wr
  sz : base ≤ wr.heap.size
/-- One group more. -/
theorem Rl.push {w wr W2 : World} {base V : Nat} {F : Nat → Prop} {v : Value} {L : List (Gv × List Int)} (S : Rl w base V F wr v L) (hV : V < base) (hwV : w.heap.size ≤ V) (hFV : F V) (hwb : w.heap.size ≤ base) (hb2 : Bl wr W2) (X g4 cap4 : Nat) (z : Int) (tt : List Int)
    (hX0 : W2.cell? ⟨X, 0, none⟩ = some (.int .i64 z)) (hX1 : W2.cell? ⟨X, 1, none⟩ = some (.slice (some ⟨g4, 0, none⟩) tt.length cap4)) (hg4 : g4 < W2.heap.size) (hgv : bk v ≠ some g4) (hgF : ¬ F g4) (htt : 0 < tt.length) (htc : ∀ k, k < tt.length → W2.cell? ⟨g4, k, none⟩ = some (.int .i64 (tt.getD k 0))) (hL : L.length ≤ 5000) :
    ∃ g off cap w', (Builtin.append_ #[40, 40] 40 #[v, .slice (some ⟨X, 0, none⟩) 1 1]).run Tryd.prog W2 = .ok (.slice (some ⟨g, off, none⟩) (L.length + 1) cap) w' ∧ w'.cell? ⟨V, 0, none⟩ = some v ∧ w'.frozen? ⟨V, 0, none⟩ = false ∧ W2.grownBy w' (bk v) ∧
      (bk v = some g ∨ g = W2.heap.size) ∧ Rl w base V F (w'.setCell ⟨V, 0, none⟩ (.slice (some ⟨g, off, none⟩) (L.length + 1) cap)) (.slice (some ⟨g, off, none⟩) (L.length + 1) cap) (L ++ [((z, some ⟨g4, 0, none⟩, tt.length, cap4), tt)]) := by
  have s1 := S.sz
  have s2 := hb2.size
  obtain ⟨v', w', hr, ho, hg, hbk⟩ := app_gr W2 base v (bare L) (z, some ⟨g4, 0, none⟩, tt.length, cap4) X (S.gr.step hb2) hX0 hX1 (by simp only [bare, List.length_map]; exact hL) (by omega)
  have hbv := bk_lt S.gr
  have neV : some V ≠ bk v := fun e => by have := hbv V e.symm; omega
  have cV : w'.cell? ⟨V, 0, none⟩ = some v := by rw [hg.cell_far ⟨V, 0, none⟩ (by show V < _; omega) neV]; exact at_bl hb2 S.cv
  have fV : w'.frozen? ⟨V, 0, none⟩ = false := by rw [su.frozen_far hg ⟨V, 0, none⟩ (by show V < _; omega) neV, hf.fz_bl hb2 (by show V < _; omega)]; exact S.fv
  have hlen : (bare L ++ [((z, some ⟨g4, 0, none⟩, tt.length, cap4) : Gv)]).length = L.length + 1 := by simp [bare]
  obtain ⟨g, off, cap, hv'⟩ : ∃ g off cap, v' = .slice (some ⟨g, off, none⟩) (L.length + 1) cap := by
    rcases ho with ⟨_, h⟩ | ⟨g, off, cap, cur, h, _⟩
    · simp at h
    · exact ⟨g, off, cap, by rw [h, hlen]⟩
  subst hv'
  have hgg : bk v = some g ∨ g = W2.heap.size := by
    rcases hbk with h | h
    · left; rw [← h]; rfl
    · right; injection h
  have hgb := bk_lt ho g rfl
  have sz' := hg.size
  have hset : ∀ b, b ≠ V → (w'.setCell ⟨V, 0, none⟩ (.slice (some ⟨g, off, none⟩) (L.length + 1) cap)).heap[b]? = w'.heap[b]? := fun b hb => by simp [World.setCell, Array.getElem?_modify, Ne.symm hb]
  refine ⟨g, off, cap, w', hr, cV, fV, hg, hgg, ?_, ?_, ?_, ?_, ?_, ?_⟩
  · exact World.cell?_setCell_same _ _ _ cV
  · simp [fV]
  · simp only [bare, List.map_append, List.map_cons, List.map_nil]
    exact gr_set ho (by omega) _
  · refine Ths.cons (S.th.step (fun b h1 h2 => ?_) (by simp; omega) (fun b h1 h2 => ?_)) ?_
    · have hbV : b ≠ V := fun e => h2 (Or.inr (by rw [e]; exact hFV))
      rw [hset b hbV, hg.block b (by omega) (fun e => h2 (Or.inl e.symm)), Below.block hb2 b h1]
    · rcases h2 with h2 | h2
      · simp only [bk, Option.some.injEq] at h2
        rcases hgg with h | h
        · left; rw [h, h2]
        · omega
      · exact Or.inr h2
    · intro x hx
      rw [List.mem_singleton] at hx
      subst hx
      have hgV : g4 ≠ V := fun e => hgF (by rw [e]; exact hFV)
      refine ⟨g4, cap4, rfl, fun h => ?_, by simp; omega, htt, fun k hk => ?_⟩
      · rcases h with h | h
        · simp only [bk, Option.some.injEq] at h
          rcases hgg with h1 | h1
          · exact hgv (by rw [h1, h])
          · omega
        · exact hgF h
      · rw [World.cell?_of_block (hset g4 hgV), World.cell?_of_block (hg.block g4 hg4 (fun e => hgv e.symm))]
        exact htc k hk
  · exact (bl_grown (S.bl.trans hb2) hg (fun b e => by have := hbv b e; omega)).setCell hwV _
  · simp; omega
/-- One group less. -/
theorem fl_of {L : List (Gv × List Int)} {k : Nat} (h : Fk (bare L) L.length k) : Fl (numbers L) k ∧ (numbers L).getD k (0, []) = (((L.getD k (g0, [])).1).1, (L.getD k (g0, [])).2) ∧ (bare L).getD k g0 = (L.getD k (g0, [])).1 := by
  have e1 : ∀ i, ((numbers L).getD i (0, [])).1 = ((bare L).getD i g0).1 := fun i => by
    simp only [numbers, bare, List.getD_eq_getElem?_getD, List.getElem?_map]
    cases L[i]? <;> rfl
  refine ⟨⟨?_, fun i hi => ?_, fun i hi => ?_⟩, ?_, ?_⟩
  · have := h.1; simpa [numbers, bare] using this
  · rw [e1, e1]; exact h.2.1 i (by simpa [numbers] using hi)
  · rw [e1, e1]; exact h.2.2 i hi
  · simp only [numbers, List.getD_eq_getElem?_getD, List.getElem?_map]
    cases L[k]? <;> rfl
  · simp only [bare, List.getD_eq_getElem?_getD, List.getElem?_map]
    cases L[k]? <;> rfl
theorem map_erase {α β : Type} (f : α → β) (l : List α) (k : Nat) : (l.eraseIdx k).map f = (l.map f).eraseIdx k := by
  rw [List.eraseIdx_eq_take_drop_succ, List.eraseIdx_eq_take_drop_succ, List.map_append, List.map_take, List.map_drop]
theorem bare_erase (L : List (Gv × List Int)) (k : Nat) : bare (L.eraseIdx k) = (bare L).eraseIdx k := map_erase _ L k
theorem numbers_erase (L : List (Gv × List Int)) (k : Nat) : numbers (L.eraseIdx k) = (numbers L).eraseIdx k := map_erase _ L k
theorem Rl.less {w wr w1 : World} {base V : Nat} {F : Nat → Prop} {v : Value} {L : List (Gv × List Int)} {k g' off' cap' : Nat} (S : Rl w base V F wr v L) (hFV : F V) (hwV : w.heap.size ≤ V) (hFb : ∀ b, F b → b < wr.heap.size) (hg : wr.grownBy w1 (some V)) (hf1 : w1.frozen? ⟨V, 0, none⟩ = false) (hc : w1.cell? ⟨V, 0, none⟩ = some (.slice (some ⟨g', off', none⟩) (L.length - 1) cap')) (hg' : wr.heap.size ≤ g')
    (hgr : Gr w1 base (.slice (some ⟨g', off', none⟩) (L.length - 1) cap') ((bare L).eraseIdx k)) : Rl w base V F w1 (.slice (some ⟨g', off', none⟩) (L.length - 1) cap') (L.eraseIdx k) := by
  have s1 := S.sz
  have s2 := hg.size
  refine ⟨hc, hf1, by rw [bare_erase]; exact hgr, (S.th.mem (fun x hx => List.mem_of_mem_eraseIdx hx)).step (fun b h1 h2 => ?_) s2 (fun b h1 h2 => ?_), bl_grown S.bl hg (fun b e => by injection e with e; omega), by omega⟩
  · exact hg.block b h1 (fun e => h2 (Or.inr (by injection e with e; rw [e]; exact hFV)))
  · rcases h2 with h2 | h2
    · simp only [bk, Option.some.injEq] at h2
      omega
    · exact Or.inr h2
theorem Rl.step {w wr w1 : World} {base V : Nat} {F : Nat → Prop} {v : Value} {L : List (Gv × List Int)} (S : Rl w base V F wr v L) (hb : Bl wr w1) (hV : V < base) : Rl w base V F w1 v L := by
  have s1 := S.sz
  have s2 := hb.size
  refine ⟨at_bl hb S.cv, by rw [hf.fz_bl hb (by show V < _; omega)]; exact S.fv, S.gr.step hb, S.th.step (fun b h1 _ => Below.block hb b h1) s2 (fun b h1 h2 => h2), S.bl.trans hb, by omega⟩
theorem Rl.other {w wr w1 : World} {base V B : Nat} {F : Nat → Prop} {v : Value} {L : List (Gv × List Int)} (S : Rl w base V F wr v L) (hg : wr.grownBy w1 (some B)) (hFB : F B) (hBV : B ≠ V) (hBv : bk v ≠ some B) (hwB : w.heap.size ≤ B) (hV : V < base) : Rl w base V F w1 v L := by
  have s1 := S.sz
  have s2 := hg.size
  have nV : some V ≠ some B := fun e => by injection e with e; exact hBV e.symm
  refine ⟨by rw [hg.cell_far ⟨V, 0, none⟩ (by show V < _; omega) nV]; exact S.cv, by rw [su.frozen_far hg ⟨V, 0, none⟩ (by show V < _; omega) nV]; exact S.fv, S.gr.kept hg (fun b e h => hBv (by rw [e]; injection h with h; rw [h])), S.th.step (fun b h1 h2 => hg.block b h1 (fun e => h2 (Or.inr (by injection e with e; rw [e]; exact hFB)))) s2 (fun b h1 h2 => h2), bl_grown S.bl hg (fun b e => by injection e with e; omega), by omega⟩
theorem pw_perm {n : Nat} {gs gs' : List G} {ls : List Int} (p : Pw n gs ls) (h : gs.Perm gs') : Pw n gs' ls := by
  have hl := h.length_eq
  refine ⟨fun g hg => p.pos g (h.mem_iff.2 hg), ?_, fun g hg => p.rng g (h.mem_iff.2 hg), ?_, by rw [← hl]; exact p.cnt, p.len, fun j => by rw [← hl]; exact p.low j⟩
  · have e : sm gs = sm gs' := perm_sumI (fun x : G => x.1) h
    rw [← e]; exact p.sum
  · have e : tn gs = tn gs' := perm_sumN (fun x : G => x.2.length) h
    rw [← e]; exact p.few
theorem ths_get {w : World} {F : Nat → Prop} {L : List (Gv × List Int)} (h : Ths w F L) {k : Nat} (hk : k < L.length) : ∃ z b cap tt, L.getD k (g0, []) = ((z, some ⟨b, 0, none⟩, tt.length, cap), tt) ∧ ¬ F b ∧ b < w.heap.size ∧ 0 < tt.length ∧ ∀ j, j < tt.length → w.cell? ⟨b, j, none⟩ = some (.int .i64 (tt.getD j 0)) := by
  have e : L.getD k (g0, []) = L[k] := by rw [List.getD_eq_getElem?_getD, List.getElem?_eq_getElem hk]; rfl
  obtain ⟨b, cap, h1, h2, h3, h4, h5⟩ := h L[k] (List.getElem_mem hk)
  exact ⟨L[k].1.1, b, cap, L[k].2, by rw [e, ← h1], h2, h3, h4, h5⟩
/-- A row of numbers that are read. -/
def Tc (w : World) (b : Nat) (tt : List Int) : Prop := b < w.heap.size ∧ ∀ j, j < tt.length → w.cell? ⟨b, j, none⟩ = some (.int .i64 (tt.getD j 0))
theorem Tc.kept {w w' : World} {b : Nat} {tt : List Int} {row : Option Nat} (h : Tc w b tt) (hg : w.grownBy w' row) (hne : some b ≠ row) : Tc w' b tt :=
  ⟨Nat.lt_of_lt_of_le h.1 hg.size, fun j hj => by rw [hg.cell_far ⟨b, j, none⟩ h.1 hne]; exact h.2 j hj⟩
theorem Tc.step {w w' : World} {b : Nat} {tt : List Int} (h : Tc w b tt) (hb : Bl w w') : Tc w' b tt := ⟨Nat.lt_of_lt_of_le h.1 hb.size, fun j hj => at_bl hb (h.2 j hj)⟩
theorem Tc.vw {w : World} {b cap : Nat} {tt : List Int} (h : Tc w b tt) : In w (some ⟨b, 0, none⟩) tt := Or.inr ⟨_, rfl, fun k hk => by rw [Addr.add_lit, Nat.zero_add]; exact h.2 k hk⟩
theorem row_kept {w w' : World} {B : Nat} {l : List Int} {row : Option Nat} (h : RowI w B l) (hg : w.grownBy w' row) (hne : some B ≠ row) : RowI w' B l := by
  have := h.lt
  unfold RowI at h ⊢
  rw [hg.block B this hne]
  exact h
/-- What is at hand when two groups were taken out. -/
structure Rd (w : World) (n base V B : Nat) (tgt : List Int) (wr : World) (v : Value) (R : List (Gv × List Int)) (ls : List Int) (a0 b0 : Int) (ba bb : Nat) (ta tb : List Int) : Prop where
  rl : Rl w base V (fun b => b = V ∨ b = B) wr v R
  row : RowI wr B ls
  ne : bk v ≠ some B
  ca : Tc wr ba ta
  cb : Tc wr bb tb
  pa : 0 < ta.length
  pw : Pw n (numbers R ++ [cat (a0, ta) (b0, tb)]) (bump ls (ta ++ tb))
  tgt : hloop (R.length + 1) (numbers R ++ [cat (a0, ta) (b0, tb)]) (bump ls (ta ++ tb)) = tgt
  big : 0 ≤ a0 ∧ 0 ≤ b0 ∧ a0 + b0 ≤ 281474976710656
  few : ta.length + tb.length ≤ 256
  rng : ∀ t ∈ ta ++ tb, 0 ≤ t ∧ t.toNat < n
  len : ls.length = n
  low : ∀ j, 0 ≤ ls.getD j 0 ∧ ls.getD j 0 ≤ 65536
theorem rd_of {w wr w2 : World} {n base V B : Nat} {tgt ls ta tb : List Int} {L : List (Gv × List Int)} {v2 : Value} {k1 k2 ba bb capa capb : Nat} {a0 b0 : Int} (pw : Pw n (numbers L) ls) (tg : hloop L.length (numbers L) ls = tgt) (h1 : Fl (numbers L) k1) (h2 : Fl ((numbers L).eraseIdx k1) k2) (hL : 1 < L.length)
    (ea : (numbers L).getD k1 (0, []) = (a0, ta)) (eb : ((numbers L).eraseIdx k1).getD k2 (0, []) = (b0, tb))
    (rl : Rl w base V (fun b => b = V ∨ b = B) w2 v2 ((L.eraseIdx k1).eraseIdx k2)) (row : RowI w2 B ls) (ne : bk v2 ≠ some B) (ca : Tc w2 ba ta) (cb : Tc w2 bb tb) (pa : 0 < ta.length) : Rd w n base V B tgt w2 v2 ((L.eraseIdx k1).eraseIdx k2) ls a0 b0 ba bb ta tb := by
  have hs := two_of h1 h2
  rw [ea, eb] at hs
  have hnum : numbers ((L.eraseIdx k1).eraseIdx k2) = ((numbers L).eraseIdx k1).eraseIdx k2 := by rw [numbers_erase, numbers_erase]
  have hlen : L.length = ((L.eraseIdx k1).eraseIdx k2).length + 2 := by
    have e1 : k1 < L.length := by have := h1.1; simpa [numbers] using this
    have e2 := h2.1
    rw [List.length_eraseIdx, if_pos h1.1] at e2
    have e3 : (numbers L).length = L.length := by simp [numbers]
    rw [List.length_eraseIdx, List.length_eraseIdx, if_pos e1, if_pos (by omega)]
    omega
  have h2s := two_sm pw.pos hs
  have hpw := pw_perm (pw.step hs) (gs' := numbers ((L.eraseIdx k1).eraseIdx k2) ++ [cat (a0, ta) (b0, tb)]) (by
    rw [hnum]
    exact (List.mergeSort_perm _ _).append_right _)
  have hf := len_tn (gs := numbers ((L.eraseIdx k1).eraseIdx k2) ++ [cat (a0, ta) (b0, tb)]) (cat (a0, ta) (b0, tb)) (by simp)
  have hf2 := hpw.few
  refine ⟨rl, row, ne, ca, cb, pa, hpw, ?_, ⟨h2s.2.1, h2s.2.2, Int.le_trans h2s.1 pw.sum⟩, ?_, fun t ht => hpw.rng (cat (a0, ta) (b0, tb)) (by simp) t ht, pw.len, fun j => by have := pw.low j; omega⟩
  · rw [hlen, rloop_step h1 h2, ea, eb] at tg
    rw [hnum]
    exact tg
  · have e : (cat (a0, ta) (b0, tb)).2.length = ta.length + tb.length := by simp [cat]
    omega
end Go.Proofs.YtkldnapbeebdkaaDoor.hr
/- The document's own HuffLens: two groups joined. -/
namespace Go.Proofs.YtkldnapbeebdkaaDoor.hr
set_option linter.unusedVariables false
open Go.ChangeShapes Go.WideShapes Go.ChangeAt Go.RowKit
open mem rows hfp
theorem app_i (W : World) (base X n c : Nat) (l t : List Int) (b m cap : Nat) (hn : n = l.length) (hm : m = t.length) (hown : Own W base (.slice (some ⟨X, 0, none⟩) n c) l) (ht : Tc W b t) (hp : 0 < l.length + t.length) (hl : l.length + t.length ≤ 5000) (hb : base ≤ W.heap.size) :
    ∃ g' c' w', (Builtin.append_ #[22, 22] 22 #[.slice (some ⟨X, 0, none⟩) n c, .slice (some ⟨b, 0, none⟩) m cap]).run Tryd.prog W = .ok (.slice (some ⟨g', 0, none⟩) (l.length + t.length) c') w' ∧ Own w' base (.slice (some ⟨g', 0, none⟩) (l.length + t.length) c') (l ++ t) ∧ W.grownBy w' (some X) := by
  obtain ⟨v', w', hr, ho, hg⟩ := hf.appI_all W base (.slice (some ⟨X, 0, none⟩) n c) l t (some ⟨b, 0, none⟩) m cap hm hown (Tc.vw (cap := cap) ht) (fun h => by cases h) hl hb
  rcases ho.shape with ⟨_, h⟩ | ⟨g, cap', h, _⟩
  · have := congrArg List.length h
    rw [List.length_append, List.length_nil] at this
    omega
  · rw [List.length_append] at h
    subst h
    exact ⟨g, cap', w', hr, ho, hg⟩
/-- A row without numbers that was just made. -/
theorem own_lit (W w : World) (base X : Nat) (hb : base ≤ X) (h : W.heap[X]? = some (.cells #[] 3 (0, 0))) : Own W base (.slice (some ⟨X, 0, none⟩) 0 0) [] :=
  ⟨rfl, Or.inr ⟨X, 0, #[], rfl, hb, h, Nat.le_refl _, by decide, rfl, rfl⟩⟩
/-- The group that was just joined, in a variable of its own. -/
structure Jn (w3 w5 : World) (P g4 cap : Nat) (z : Int) (t : List Int) : Prop where
  c0 : w5.cell? ⟨P, 0, none⟩ = some (.int .i64 z)
  c1 : w5.cell? ⟨P, 1, none⟩ = some (.slice (some ⟨g4, 0, none⟩) t.length cap)
  p : w3.heap.size ≤ P
  pl : P < w5.heap.size
  g : w3.heap.size ≤ g4
  ne : P ≠ g4
  tc : Tc w5 g4 t
  bl : Bl w3 w5
theorem own_at {w : World} {base g n c : Nat} {l : List Int} (h : Own w base (.slice (some ⟨g, 0, none⟩) n c) l) : base ≤ g ∧ (∃ cur, w.heap[g]? = some (.cells cur 3 (0, 0))) ∧ Tc w g l := by
  have hs := h.shape
  rcases h.2 with ⟨h, _⟩ | ⟨g', cap, cur, e, h2, h3, _⟩
  · cases h
  · simp only [Value.slice.injEq, Option.some.injEq, Addr.mk.injEq] at e
    obtain ⟨⟨rfl, _⟩, _, rfl⟩ := e
    refine ⟨h2, ⟨cur, h3⟩, lt_of_heap h3, ?_⟩
    rcases hs with ⟨h, _⟩ | ⟨g'', cap', e, _, _, _, _, hc⟩
    · cases h
    · simp only [Value.slice.injEq, Option.some.injEq, Addr.mk.injEq] at e
      intro j hj
      rw [e.1.1]
      exact hc j hj
theorem jn_set {U w4 : World} {P g4 n c4 : Nat} {z : Int} {t : List Int} {zs : Array Value} (hb : Bl U w4) (hP : U.heap.size ≤ P) (h : w4.heap[P]? = some (.cells zs 43 (0, 0))) (hz : zs.size = 2) (ho : Own w4 U.heap.size (.slice (some ⟨g4, 0, none⟩) n c4) t) (hn : n = t.length) :
    Jn U ((w4.setCell ⟨P, 0, none⟩ (.int .i64 z)).setCell ⟨P, 1, none⟩ (.slice (some ⟨g4, 0, none⟩) n c4)) P g4 c4 z t := by
  subst hn
  obtain ⟨h1, ⟨cur, h2⟩, h3⟩ := own_at ho
  have hne : P ≠ g4 := fun e => by
    rw [e, h2] at h
    injection h with h
    injection h with _ h _
    exact absurd h (by decide)
  have hlt := lt_of_heap h
  have c0 : ∃ u, w4.cell? ⟨P, 0, none⟩ = some u := ⟨zs[0]'(by omega), by rw [cell_of h, Array.getElem?_eq_getElem]⟩
  have c1 : ∃ u, w4.cell? ⟨P, 1, none⟩ = some u := ⟨zs[1]'(by omega), by rw [cell_of h, Array.getElem?_eq_getElem]⟩
  obtain ⟨u0, c0⟩ := c0
  obtain ⟨u1, c1⟩ := c1
  refine ⟨?_, ?_, hP, by simpa using hlt, h1, hne, ⟨by simpa using h3.1, fun j hj => ?_⟩, (hb.setCell hP _).setCell hP _⟩
  · rw [World.cell?_setCell_other _ _ _ _ (by simp)]
    exact World.cell?_setCell_same _ _ _ c0
  · exact World.cell?_setCell_same _ _ _ ((World.cell?_setCell_other _ _ _ _ (by simp)).trans c1)
  · rw [World.cell?_setCell_far _ _ _ _ hne, World.cell?_setCell_far _ _ _ _ hne]
    exact h3.2 j hj
theorem jn_new {U w4 : World} {g4 n c4 : Nat} {z : Int} {t : List Int} (hb : Bl U w4) (ho : Own w4 U.heap.size (.slice (some ⟨g4, 0, none⟩) n c4) t) (hn : n = t.length) :
    Jn U (w4.alloc (.cells #[.int .i64 z, .slice (some ⟨g4, 0, none⟩) n c4] 43)) w4.heap.size g4 c4 z t := by
  subst hn
  obtain ⟨h1, _, h3⟩ := own_at ho
  have := h3.1
  exact ⟨by simp, by simp, hb.size, by simp, h1, by omega, h3.step ((Bl.refl _).alloc _), hb.alloc _⟩
theorem Jn.drew {w3 w5 : World} {P g4 cap : Nat} {z : Int} {t : List Int} (h : Jn w3 w5 P g4 cap z t) : Jn w3 w5.drew P g4 cap z t := ⟨h.c0, h.c1, h.p, h.pl, h.g, h.ne, h.tc, h.bl.drew⟩
/-- The box of a group, as it was just made. -/
abbrev Zo : Obj := .cells #[.int .i64 0, .slice none 0 0] 43
abbrev Eo : Obj := .cells #[] 3
theorem app_u {U W : World} {X n c b m cap : Nat} {l t : List Int} (hb : Bl U W) (hn : n = l.length) (hm : m = t.length) (ho : Own W U.heap.size (.slice (some ⟨X, 0, none⟩) n c) l) (ht : Tc U b t) (hp : 0 < l.length + t.length) (hl : l.length + t.length ≤ 5000) :
    ∃ g' c' w', (Builtin.append_ #[22, 22] 22 #[.slice (some ⟨X, 0, none⟩) n c, .slice (some ⟨b, 0, none⟩) m cap]).run Tryd.prog W = .ok (.slice (some ⟨g', 0, none⟩) (l.length + t.length) c') w' ∧ Own w' U.heap.size (.slice (some ⟨g', 0, none⟩) (l.length + t.length) c') (l ++ t) ∧ Bl U w' ∧ ∀ P : Nat, W.heap[P]? = some Zo → w'.heap[P]? = some Zo := by
  obtain ⟨g', c', w', hr, ho', hg⟩ := app_i W U.heap.size X n c l t b m cap hn hm ho (ht.step hb) hp hl hb.size
  obtain ⟨h1, ⟨cur, h2⟩, _⟩ := own_at ho
  refine ⟨g', c', w', hr, ho', bl_grown hb hg (fun k e => by injection e with e; omega), fun P hP => ?_⟩
  rw [hg.block P (lt_of_heap hP) (fun e => by
    injection e with e
    rw [e, h2] at hP
    injection hP with hP
    injection hP with _ hP _
    exact absurd hP (by decide))]
  exact hP
theorem z_cells {w : World} {P : Nat} (h : w.heap[P]? = some Zo) : w.cell? ⟨P, 0, none⟩ = some (.int .i64 0) ∧ w.cell? ⟨P, 1, none⟩ = some (.slice none 0 0) ∧ w.frozen? ⟨P, 0, none⟩ = false ∧ w.frozen? ⟨P, 1, none⟩ = false := by
  refine ⟨by rw [cell_of h]; rfl, by rw [cell_of h]; rfl, by simp [World.frozen?, h], by simp [World.frozen?, h]⟩
theorem heap_a (U : World) : ((U.alloc Zo).alloc Eo).drew.heap[U.heap.size]? = some Zo ∧ ((U.alloc Zo).alloc Eo).drew.heap[U.heap.size + 1]? = some Eo := by
  constructor
  · show ((U.alloc Zo).alloc Eo).heap[U.heap.size]? = _
    rw [Below.heap_alloc _ _ _ (by simp)]
    exact heap_alloc_new U _
  · show ((U.alloc Zo).alloc Eo).heap[U.heap.size + 1]? = _
    have := heap_alloc_new (U.alloc Zo) Eo
    rwa [show (U.alloc Zo).heap.size = U.heap.size + 1 by simp] at this
theorem heap_b (U : World) : ((U.alloc Eo).alloc Zo).drew.heap[U.heap.size]? = some Eo ∧ ((U.alloc Eo).alloc Zo).drew.heap[U.heap.size + 1]? = some Zo := by
  constructor
  · show ((U.alloc Eo).alloc Zo).heap[U.heap.size]? = _
    rw [Below.heap_alloc _ _ _ (by simp)]
    exact heap_alloc_new U _
  · show ((U.alloc Eo).alloc Zo).heap[U.heap.size + 1]? = _
    have := heap_alloc_new (U.alloc Eo) Zo
    rwa [show (U.alloc Eo).heap.size = U.heap.size + 1 by simp] at this
theorem heap_c (U : World) : (U.alloc Eo).drew.heap[U.heap.size]? = some Eo := heap_alloc_new U _
end Go.Proofs.YtkldnapbeebdkaaDoor.hr
