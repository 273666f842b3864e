/- The document's own HuffLens: what it has at hand. -/
import Derived.Test.YtkldnapbeebdkaaDoorHr2
namespace Go.Proofs.YtkldnapbeebdkaaDoor.hr
set_option linter.unusedVariables false
open Go.ChangeShapes Go.WideShapes Go.ChangeAt Go.RowKit
open mem rows hfp
open hf (Ths bare numbers okL grp)
theorem bk_lt {w : World} {base : Nat} {v : Value} {l : List Gv} (h : Gr w base v l) : ∀ b, bk v = some b → base ≤ b ∧ b < w.heap.size := fun b hb => by
  rcases h with ⟨h, _⟩ | ⟨g, off, cap, cur, h1, h2, h3, _⟩
  · rw [h] at hb; cases hb
  · rw [h1] at hb
    simp only [bk, Option.some.injEq] at hb
    subst hb
    exact ⟨h2, lt_of_heap h3⟩
/-- The groups, in a variable that lies in a box; their things lie apart from what F tells. -/
structure Rl (w : World) (base V : Nat) (F : Nat → Prop) (wr : World) (v : Value) (L : List (Gv × List Int)) : Prop where
  cv : wr.cell? ⟨V, 0, none⟩ = some v
  fv : wr.frozen? ⟨V, 0, none⟩ = false
  gr : Gr wr base v (bare L)
  th : Ths wr (fun b => bk v = some b ∨ F b) L
  bl : Bl w wr
  sz : base ≤ wr.heap.size
/-- One group more. -/
theorem Rl.push {w wr W2 : World} {base V : Nat} {F : Nat → Prop} {v : Value} {L : List (Gv × List Int)} (S : Rl w base V F wr v L) (hV : V < base) (hwV : w.heap.size ≤ V) (hFV : F V) (hwb : w.heap.size ≤ base) (hb2 : Bl wr W2) (X g4 cap4 : Nat) (z : Int) (tt : List Int)
    (hX0 : W2.cell? ⟨X, 0, none⟩ = some (.int .i64 z)) (hX1 : W2.cell? ⟨X, 1, none⟩ = some (.slice (some ⟨g4, 0, none⟩) tt.length cap4)) (hg4 : g4 < W2.heap.size) (hgv : bk v ≠ some g4) (hgF : ¬ F g4) (htt : 0 < tt.length) (htc : ∀ k, k < tt.length → W2.cell? ⟨g4, k, none⟩ = some (.int .i64 (tt.getD k 0))) (hL : L.length ≤ 5000) :
    ∃ g off cap w', (Builtin.append_ #[40, 40] 40 #[v, .slice (some ⟨X, 0, none⟩) 1 1]).run Tryd.prog W2 = .ok (.slice (some ⟨g, off, none⟩) (L.length + 1) cap) w' ∧ w'.cell? ⟨V, 0, none⟩ = some v ∧ w'.frozen? ⟨V, 0, none⟩ = false ∧ W2.grownBy w' (bk v) ∧
      (bk v = some g ∨ g = W2.heap.size) ∧ Rl w base V F (w'.setCell ⟨V, 0, none⟩ (.slice (some ⟨g, off, none⟩) (L.length + 1) cap)) (.slice (some ⟨g, off, none⟩) (L.length + 1) cap) (L ++ [((z, some ⟨g4, 0, none⟩, tt.length, cap4), tt)]) := by
  have s1 := S.sz
  have s2 := hb2.size
  obtain ⟨v', w', hr, ho, hg, hbk⟩ := app_gr W2 base v (bare L) (z, some ⟨g4, 0, none⟩, tt.length, cap4) X (S.gr.step hb2) hX0 hX1 (by simp only [bare, List.length_map]; exact hL) (by omega)
  have hbv := bk_lt S.gr
  have neV : some V ≠ bk v := fun e => by have := hbv V e.symm; omega
  have cV : w'.cell? ⟨V, 0, none⟩ = some v := by rw [hg.cell_far ⟨V, 0, none⟩ (by show V < _; omega) neV]; exact at_bl hb2 S.cv
  have fV : w'.frozen? ⟨V, 0, none⟩ = false := by rw [su.frozen_far hg ⟨V, 0, none⟩ (by show V < _; omega) neV, hf.fz_bl hb2 (by show V < _; omega)]; exact S.fv
  have hlen : (bare L ++ [((z, some ⟨g4, 0, none⟩, tt.length, cap4) : Gv)]).length = L.length + 1 := by simp [bare]
  obtain ⟨g, off, cap, hv'⟩ : ∃ g off cap, v' = .slice (some ⟨g, off, none⟩) (L.length + 1) cap := by
    rcases ho with ⟨_, h⟩ | ⟨g, off, cap, cur, h, _⟩
    · simp at h
    · exact ⟨g, off, cap, by rw [h, hlen]⟩
  subst hv'
  have hgg : bk v = some g ∨ g = W2.heap.size := by
    rcases hbk with h | h
    · left; rw [← h]; rfl
    · right; injection h
  have hgb := bk_lt ho g rfl
  have sz' := hg.size
  have hset : ∀ b, b ≠ V → (w'.setCell ⟨V, 0, none⟩ (.slice (some ⟨g, off, none⟩) (L.length + 1) cap)).heap[b]? = w'.heap[b]? := fun b hb => by simp [World.setCell, Array.getElem?_modify, Ne.symm hb]
  refine ⟨g, off, cap, w', hr, cV, fV, hg, hgg, ?_, ?_, ?_, ?_, ?_, ?_⟩
  · exact World.cell?_setCell_same _ _ _ cV
  · simp [fV]
  · simp only [bare, List.map_append, List.map_cons, List.map_nil]
    exact gr_set ho (by omega) _
  · refine Ths.cons (S.th.step (fun b h1 h2 => ?_) (by simp; omega) (fun b h1 h2 => ?_)) ?_
    · have hbV : b ≠ V := fun e => h2 (Or.inr (by rw [e]; exact hFV))
      rw [hset b hbV, hg.block b (by omega) (fun e => h2 (Or.inl e.symm)), Below.block hb2 b h1]
    · rcases h2 with h2 | h2
      · simp only [bk, Option.some.injEq] at h2
        rcases hgg with h | h
        · left; rw [h, h2]
        · omega
      · exact Or.inr h2
    · intro x hx
      rw [List.mem_singleton] at hx
      subst hx
      have hgV : g4 ≠ V := fun e => hgF (by rw [e]; exact hFV)
      refine ⟨g4, cap4, rfl, fun h => ?_, by simp; omega, htt, fun k hk => ?_⟩
      · rcases h with h | h
        · simp only [bk, Option.some.injEq] at h
          rcases hgg with h1 | h1
          · exact hgv (by rw [h1, h])
          · omega
        · exact hgF h
      · rw [World.cell?_of_block (hset g4 hgV), World.cell?_of_block (hg.block g4 hg4 (fun e => hgv e.symm))]
        exact htc k hk
  · exact (bl_grown (S.bl.trans hb2) hg (fun b e => by have := hbv b e; omega)).setCell hwV _
  · simp; omega
/-- One group less. -/
theorem fl_of {L : List (Gv × List Int)} {k : Nat} (h : Fk (bare L) L.length k) : Fl (numbers L) k ∧ (numbers L).getD k (0, []) = (((L.getD k (g0, [])).1).1, (L.getD k (g0, [])).2) ∧ (bare L).getD k g0 = (L.getD k (g0, [])).1 := by
  have e1 : ∀ i, ((numbers L).getD i (0, [])).1 = ((bare L).getD i g0).1 := fun i => by
    simp only [numbers, bare, List.getD_eq_getElem?_getD, List.getElem?_map]
    cases L[i]? <;> rfl
  refine ⟨⟨?_, fun i hi => ?_, fun i hi => ?_⟩, ?_, ?_⟩
  · have := h.1; simpa [numbers, bare] using this
  · rw [e1, e1]; exact h.2.1 i (by simpa [numbers] using hi)
  · rw [e1, e1]; exact h.2.2 i hi
  · simp only [numbers, List.getD_eq_getElem?_getD, List.getElem?_map]
    cases L[k]? <;> rfl
  · simp only [bare, List.getD_eq_getElem?_getD, List.getElem?_map]
    cases L[k]? <;> rfl
theorem map_erase {α β : Type} (f : α → β) (l : List α) (k : Nat) : (l.eraseIdx k).map f = (l.map f).eraseIdx k := by
  rw [List.eraseIdx_eq_take_drop_succ, List.eraseIdx_eq_take_drop_succ, List.map_append, List.map_take, List.map_drop]
theorem bare_erase (L : List (Gv × List Int)) (k : Nat) : bare (L.eraseIdx k) = (bare L).eraseIdx k := map_erase _ L k
theorem numbers_erase (L : List (Gv × List Int)) (k : Nat) : numbers (L.eraseIdx k) = (numbers L).eraseIdx k := map_erase _ L k
theorem Rl.less {w wr w1 : World} {base V : Nat} {F : Nat → Prop} {v : Value} {L : List (Gv × List Int)} {k g' off' cap' : Nat} (S : Rl w base V F wr v L) (hFV : F V) (hwV : w.heap.size ≤ V) (hFb : ∀ b, F b → b < wr.heap.size) (hg : wr.grownBy w1 (some V)) (hf1 : w1.frozen? ⟨V, 0, none⟩ = false) (hc : w1.cell? ⟨V, 0, none⟩ = some (.slice (some ⟨g', off', none⟩) (L.length - 1) cap')) (hg' : wr.heap.size ≤ g')
    (hgr : Gr w1 base (.slice (some ⟨g', off', none⟩) (L.length - 1) cap') ((bare L).eraseIdx k)) : Rl w base V F w1 (.slice (some ⟨g', off', none⟩) (L.length - 1) cap') (L.eraseIdx k) := by
  have s1 := S.sz
  have s2 := hg.size
  refine ⟨hc, hf1, by rw [bare_erase]; exact hgr, (S.th.mem (fun x hx => List.mem_of_mem_eraseIdx hx)).step (fun b h1 h2 => ?_) s2 (fun b h1 h2 => ?_), bl_grown S.bl hg (fun b e => by injection e with e; omega), by omega⟩
  · exact hg.block b h1 (fun e => h2 (Or.inr (by injection e with e; rw [e]; exact hFV)))
  · rcases h2 with h2 | h2
    · simp only [bk, Option.some.injEq] at h2
      omega
    · exact Or.inr h2
theorem Rl.step {w wr w1 : World} {base V : Nat} {F : Nat → Prop} {v : Value} {L : List (Gv × List Int)} (S : Rl w base V F wr v L) (hb : Bl wr w1) (hV : V < base) : Rl w base V F w1 v L := by
  have s1 := S.sz
  have s2 := hb.size
  refine ⟨at_bl hb S.cv, by rw [hf.fz_bl hb (by show V < _; omega)]; exact S.fv, S.gr.step hb, S.th.step (fun b h1 _ => Below.block hb b h1) s2 (fun b h1 h2 => h2), S.bl.trans hb, by omega⟩
theorem Rl.other {w wr w1 : World} {base V B : Nat} {F : Nat → Prop} {v : Value} {L : List (Gv × List Int)} (S : Rl w base V F wr v L) (hg : wr.grownBy w1 (some B)) (hFB : F B) (hBV : B ≠ V) (hBv : bk v ≠ some B) (hwB : w.heap.size ≤ B) (hV : V < base) : Rl w base V F w1 v L := by
  have s1 := S.sz
  have s2 := hg.size
  have nV : some V ≠ some B := fun e => by injection e with e; exact hBV e.symm
  refine ⟨by rw [hg.cell_far ⟨V, 0, none⟩ (by show V < _; omega) nV]; exact S.cv, by rw [su.frozen_far hg ⟨V, 0, none⟩ (by show V < _; omega) nV]; exact S.fv, S.gr.kept hg (fun b e h => hBv (by rw [e]; injection h with h; rw [h])), S.th.step (fun b h1 h2 => hg.block b h1 (fun e => h2 (Or.inr (by injection e with e; rw [e]; exact hFB)))) s2 (fun b h1 h2 => h2), bl_grown S.bl hg (fun b e => by injection e with e; omega), by omega⟩
theorem pw_perm {n : Nat} {gs gs' : List G} {ls : List Int} (p : Pw n gs ls) (h : gs.Perm gs') : Pw n gs' ls := by
  have hl := h.length_eq
  refine ⟨fun g hg => p.pos g (h.mem_iff.2 hg), ?_, fun g hg => p.rng g (h.mem_iff.2 hg), ?_, by rw [← hl]; exact p.cnt, p.len, fun j => by rw [← hl]; exact p.low j⟩
  · have e : sm gs = sm gs' := perm_sumI (fun x : G => x.1) h
    rw [← e]; exact p.sum
  · have e : tn gs = tn gs' := perm_sumN (fun x : G => x.2.length) h
    rw [← e]; exact p.few
theorem ths_get {w : World} {F : Nat → Prop} {L : List (Gv × List Int)} (h : Ths w F L) {k : Nat} (hk : k < L.length) : ∃ z b cap tt, L.getD k (g0, []) = ((z, some ⟨b, 0, none⟩, tt.length, cap), tt) ∧ ¬ F b ∧ b < w.heap.size ∧ 0 < tt.length ∧ ∀ j, j < tt.length → w.cell? ⟨b, j, none⟩ = some (.int .i64 (tt.getD j 0)) := by
  have e : L.getD k (g0, []) = L[k] := by rw [List.getD_eq_getElem?_getD, List.getElem?_eq_getElem hk]; rfl
  obtain ⟨b, cap, h1, h2, h3, h4, h5⟩ := h L[k] (List.getElem_mem hk)
  exact ⟨L[k].1.1, b, cap, L[k].2, by rw [e, ← h1], h2, h3, h4, h5⟩
/-- A row of numbers that are read. -/
def Tc (w : World) (b : Nat) (tt : List Int) : Prop := b < w.heap.size ∧ ∀ j, j < tt.length → w.cell? ⟨b, j, none⟩ = some (.int .i64 (tt.getD j 0))
theorem Tc.kept {w w' : World} {b : Nat} {tt : List Int} {row : Option Nat} (h : Tc w b tt) (hg : w.grownBy w' row) (hne : some b ≠ row) : Tc w' b tt :=
  ⟨Nat.lt_of_lt_of_le h.1 hg.size, fun j hj => by rw [hg.cell_far ⟨b, j, none⟩ h.1 hne]; exact h.2 j hj⟩
theorem Tc.step {w w' : World} {b : Nat} {tt : List Int} (h : Tc w b tt) (hb : Bl w w') : Tc w' b tt := ⟨Nat.lt_of_lt_of_le h.1 hb.size, fun j hj => at_bl hb (h.2 j hj)⟩
theorem Tc.vw {w : World} {b cap : Nat} {tt : List Int} (h : Tc w b tt) : In w (some ⟨b, 0, none⟩) tt := Or.inr ⟨_, rfl, fun k hk => by rw [Addr.add_lit, Nat.zero_add]; exact h.2 k hk⟩
theorem row_kept {w w' : World} {B : Nat} {l : List Int} {row : Option Nat} (h : RowI w B l) (hg : w.grownBy w' row) (hne : some B ≠ row) : RowI w' B l := by
  have := h.lt
  unfold RowI at h ⊢
  rw [hg.block B this hne]
  exact h
/-- What is at hand when two groups were taken out. -/
structure Rd (w : World) (n base V B : Nat) (tgt : List Int) (wr : World) (v : Value) (R : List (Gv × List Int)) (ls : List Int) (a0 b0 : Int) (ba bb : Nat) (ta tb : List Int) : Prop where
  rl : Rl w base V (fun b => b = V ∨ b = B) wr v R
  row : RowI wr B ls
  ne : bk v ≠ some B
  ca : Tc wr ba ta
  cb : Tc wr bb tb
  pa : 0 < ta.length
  pw : Pw n (numbers R ++ [cat (a0, ta) (b0, tb)]) (bump ls (ta ++ tb))
  tgt : hloop (R.length + 1) (numbers R ++ [cat (a0, ta) (b0, tb)]) (bump ls (ta ++ tb)) = tgt
  big : 0 ≤ a0 ∧ 0 ≤ b0 ∧ a0 + b0 ≤ 281474976710656
  few : ta.length + tb.length ≤ 256
  rng : ∀ t ∈ ta ++ tb, 0 ≤ t ∧ t.toNat < n
  len : ls.length = n
  low : ∀ j, 0 ≤ ls.getD j 0 ∧ ls.getD j 0 ≤ 65536
theorem rd_of {w wr w2 : World} {n base V B : Nat} {tgt ls ta tb : List Int} {L : List (Gv × List Int)} {v2 : Value} {k1 k2 ba bb capa capb : Nat} {a0 b0 : Int} (pw : Pw n (numbers L) ls) (tg : hloop L.length (numbers L) ls = tgt) (h1 : Fl (numbers L) k1) (h2 : Fl ((numbers L).eraseIdx k1) k2) (hL : 1 < L.length)
    (ea : (numbers L).getD k1 (0, []) = (a0, ta)) (eb : ((numbers L).eraseIdx k1).getD k2 (0, []) = (b0, tb))
    (rl : Rl w base V (fun b => b = V ∨ b = B) w2 v2 ((L.eraseIdx k1).eraseIdx k2)) (row : RowI w2 B ls) (ne : bk v2 ≠ some B) (ca : Tc w2 ba ta) (cb : Tc w2 bb tb) (pa : 0 < ta.length) : Rd w n base V B tgt w2 v2 ((L.eraseIdx k1).eraseIdx k2) ls a0 b0 ba bb ta tb := by
  have hs := two_of h1 h2
  rw [ea, eb] at hs
  have hnum : numbers ((L.eraseIdx k1).eraseIdx k2) = ((numbers L).eraseIdx k1).eraseIdx k2 := by rw [numbers_erase, numbers_erase]
  have hlen : L.length = ((L.eraseIdx k1).eraseIdx k2).length + 2 := by
    have e1 : k1 < L.length := by have := h1.1; simpa [numbers] using this
    have e2 := h2.1
    rw [List.length_eraseIdx, if_pos h1.1] at e2
    have e3 : (numbers L).length = L.length := by simp [numbers]
    rw [List.length_eraseIdx, List.length_eraseIdx, if_pos e1, if_pos (by omega)]
    omega
  have h2s := two_sm pw.pos hs
  have hpw := pw_perm (pw.step hs) (gs' := numbers ((L.eraseIdx k1).eraseIdx k2) ++ [cat (a0, ta) (b0, tb)]) (by
    rw [hnum]
    exact (List.mergeSort_perm _ _).append_right _)
  have hf := len_tn (gs := numbers ((L.eraseIdx k1).eraseIdx k2) ++ [cat (a0, ta) (b0, tb)]) (cat (a0, ta) (b0, tb)) (by simp)
  have hf2 := hpw.few
  refine ⟨rl, row, ne, ca, cb, pa, hpw, ?_, ⟨h2s.2.1, h2s.2.2, Int.le_trans h2s.1 pw.sum⟩, ?_, fun t ht => hpw.rng (cat (a0, ta) (b0, tb)) (by simp) t ht, pw.len, fun j => by have := pw.low j; omega⟩
  · rw [hlen, rloop_step h1 h2, ea, eb] at tg
    rw [hnum]
    exact tg
  · have e : (cat (a0, ta) (b0, tb)).2.length = ta.length + tb.length := by simp [cat]
    omega
end Go.Proofs.YtkldnapbeebdkaaDoor.hr
