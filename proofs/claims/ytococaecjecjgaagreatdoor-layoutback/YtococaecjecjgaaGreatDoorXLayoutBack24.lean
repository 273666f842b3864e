/- Texts laid together: Ly12, Ly13, Ly14, IntRow, FdV. -/
import Derived.Test.YtococaecjecjgaaGreatDoorXLayoutBack23
import Derived.Test.YtococaecjecjgaaGreatDoorXLayoutBack14
import Derived.Test.YtococaecjecjgaaGreatDoorChecked
import Derived.Test.YtococaecjecjgaaGreatDoorXLayoutBack1
import Derived.Laws.AppendOwn
import Derived.Lib.AppendZeros
import Derived.Deep.QuietTactic
import Derived.WalkSpells
/- A reader of texts: a block. -/
namespace Go.Proofs.YtococaecjecjgaaGreatDoor.ly
set_option linter.unusedVariables false
open Go.ChangeShapes Go.WideShapes Go.ChangeAt Go.RowKit
open mem lx ex tm num

theorem part_le {s : List UInt8} {l : List Ty} {f : Nat} {d : D} {sub : Its} {e : Env} {st : St} {nd : ND} {ks : Nds} {st' : St} (hl : OKT l) (hd : WD d) (hs : d.kd = 4 → OKI sub) (ha : st.1 ≤ s.length) (hk : st.2 ≤ 400) (h : part s l (rdB s l f) d sub e st = .ok (nd, ks, st')) : st.1 ≤ st'.1 ∧ st.2 < st'.2 ∧ st'.2 ≤ 400 := by
  by_cases hm : d.mn = true
  · by_cases hk4 : st.2 = 400
    · unfold part at h
      rw [if_pos hm, if_pos hk4] at h
      cases h
    · rw [part_many _ _ _ _ _ _ _ hm hk4] at h
      unfold manyQ at h
      split at h
      · cases h
      · split at h
        · cases h
        · rename_i ks1 st1 h1
          injection h with h
          simp only [Prod.mk.injEq] at h
          obtain ⟨rfl, rfl, rfl⟩ := h
          have := (reps_back hl (rdB_back s l hl f) (wr_nil l f) (Or.inl hd) hs _ (st := (st.1, st.2 + 1)) ha (show st.2 + 1 ≤ 400 by omega) h1).1
          obtain ⟨g1, g2, g3, g4⟩ := this
          dsimp only at g1 g3
          exact ⟨g1, by omega, g4⟩
  · unfold part at h
    rw [if_neg hm] at h
    obtain ⟨g1, g2⟩ := one_le hl (Or.inl hd) hs ha hk h
    exact ⟨g1.1, g2, g1.2.2.2⟩
theorem part_r64 {s : List UInt8} {l : List Ty} {rec : Its → Env → St → Except Er (Nds × St)} {d : D} {sub : Its} {e : Env} {st : St} {nd : ND} {ks : Nds} {st' : St} (hd : WD d) (h1 : d.kd = 1) (hm : d.mn = false) (h : part s l rec d sub e st = .ok (nd, ks, st')) : R64 nd.n := by
  unfold part at h
  rw [if_neg (by rw [hm]; decide)] at h
  unfold one at h
  split at h
  · cases h
  · unfold body at h
    rw [if_pos h1] at h
    split at h
    · injection h with h
      simp only [Prod.mk.injEq] at h
      obtain ⟨rfl, rfl, rfl⟩ := h
      exact num_r64 hd h1 _ _ _
    · cases h
theorem blk_end (s : List UInt8) (l : List Ty) (rec : Its → Env → St → Except Er (Nds × St)) (e : Env) (ks : Nds) (st : St) : preN ks (blk s l rec .nil e st) = .ok (ks, st) := by
  rw [blk, preN, Nds.cat_nil]
theorem blk_step (s : List UInt8) (l : List Ty) (rec : Its → Env → St → Except Er (Nds × St)) (d : D) (sub t : Its) (e : Env) (ks : Nds) (st : St) :
    (∀ er, part s l rec d sub e st = .error er → preN ks (blk s l rec (.cons d sub t) e st) = .error er) ∧ ∀ nd k' st', part s l rec d sub e st = .ok (nd, k', st') → preN ks (blk s l rec (.cons d sub t) e st) = preN (ks.app nd k') (blk s l rec t (nxt d e nd) st') := by
  rw [blk]
  refine ⟨fun er h => by rw [h]; rfl, fun nd k' st' h => ?_⟩
  rw [h]
  dsimp only
  rcases blk s l rec t (nxt d e nd) st' with er | ⟨t', st2⟩
  · rfl
  · show Except.ok _ = Except.ok _
    rw [Nds.app_cat]
/-- A row of nodes by one node more. -/
theorem push_node {w3 w4 : World} {M base K m lc : Nat} {lp : Option Addr} {cs : List CN} {ks : Nds} (c : CN) {s : Nds} (X : Nat) (h : Gn w3 M base (.slice lp m lc) cs ks) (hs : IsNs w3 (fun g => K ≤ g) c.p c.n c.c s) (hK : ∀ k, (Value.slice lp m lc).ownBlock = some k → k < K) (hMK : M ≤ K) (hb : Bl w3 w4) (hz : ∀ j u, (cl c)[j]? = some u → w4.cell? ⟨X, j, none⟩ = some u) (hm : m ≤ 5000) (hbase : base ≤ w3.heap.size) :
    ∃ p' c' w5, (Builtin.append_ #[25, 25] 25 #[.slice lp m lc, .slice (some ⟨X, 0, none⟩) 1 1]).run Tryz.prog w4 = .ok (.slice p' (m + 1) c') w5 ∧ Gn w5 M base (.slice p' (m + 1) c') (cs ++ [c]) (ks.app c.d s) ∧ Gx base w4 w5 ∧ Kx w4 w5 := by
  have hl : m = cs.length := by
    rcases h.own.shape with ⟨e1, e2⟩ | ⟨g, cap, e1, _⟩
    · injection e1 with _ e _; rw [e, e2]; rfl
    · injection e1 with _ e _
  have hown : nr.Own w4 base (.slice lp m lc) cs := h.own.bl hb
  have hX : ∀ j u, (cl c)[j]? = some u → w4.cell? ((⟨X, 0, none⟩ : Addr).add j) = some u := fun j u hu => by rw [Addr.add_lit, Nat.zero_add]; exact hz j u hu
  have hb4 : base ≤ w4.heap.size := Nat.le_trans hbase hb.size
  obtain ⟨v', w5, hr, ho, hg⟩ := nr.app_one w4 base (.slice lp m lc) cs c ⟨X, 0, none⟩ hown hX (by omega) hb4
  have hwh := nr_where w4 base (.slice lp m lc) cs c ⟨X, 0, none⟩ hown hX (by omega) v' w5 hr
  have hbk : ∀ k, k < base → (some k : Option Nat) ≠ (Value.slice lp m lc).ownBlock := fun k hk e => by have := (hown.block k e.symm).1; omega
  have hG := h.app hs hK hMK hb ho hg hwh
  obtain ⟨p', c', rfl, _⟩ := ho.lie
  have hlen : (cs ++ [c]).length = m + 1 := by rw [List.length_append, hl]; rfl
  rw [hlen] at hr hG
  refine ⟨p', c', w5, hr, hG, ⟨hg.os, hg.tape, hg.output, hg.size, fun k hk hkb => hg.block k hk (hbk k hkb)⟩, fun b cs' hb => (hg.block b (lt_of_heap hb) (fun e => ?_)).trans hb⟩
  rcases hown.2 with ⟨e8, _⟩ | ⟨g', cap', cur, e8, _, e9, _⟩
  · rw [e8] at e; cases e
  · rw [e8] at e
    have : b = g' := by injection e
    subst this
    rw [hb] at e9
    simp at e9
/-- A block's reading, under way. -/
structure Bk (w wr : World) (P m2 mb M : Nat) (s : ByteArray) (l : List Ty) (st : St) (pI : Option Addr) (nI cI : Nat) (csI : List C) (j : Nat) (rest : Its) (en : Env) (k1 : Nat) (p : Option Addr) (lc : Nat) (cs : List CN) (ks : Nds) : Prop where
  gq : Gq P m2 w wr
  rd : RdL wr P mb s l st
  om : Om wr m2 en k1
  k : k1 ≤ st.2
  li : ir.Lie wr (fun g => g < mb) pI nI cI csI
  re : Rep wr (fun g => g < mb) rest (csI.drop j)
  gn : Gn wr M M (.slice p j lc) cs ks
  ln : ks.len = j
  lt : P < m2 ∧ m2 < M ∧ M = w.heap.size ∧ M ≤ wr.heap.size
theorem Bk.keep {w wr w' : World} {P m2 mb M : Nat} {s : ByteArray} {l : List Ty} {st st' : St} {pI : Option Addr} {nI cI : Nat} {csI : List C} {j j' : Nat} {rest rest' : Its} {en en' : Env} {k1 k1' : Nat} {p p' : Option Addr} {lc lc' : Nat} {cs cs' : List CN} {ks ks' : Nds} (h : Bk w wr P m2 mb M s l st pI nI cI csI j rest en k1 p lc cs ks) (hg : Gm M P m2 wr w') (hx : Kx wr w') (hr : RdL w' P mb s l st') (ho : Om w' m2 en' k1') (hk : k1' ≤ st'.2) (hre : Rep wr (fun g => g < mb) rest' (csI.drop j')) (hG : Gn w' M M (.slice p' j' lc') cs' ks') (hln : ks'.len = j') : Bk w w' P m2 mb M s l st' pI nI cI csI j' rest' en' k1' p' lc' cs' ks' := by
  obtain ⟨l1, l2, l3, l4⟩ := h.lt
  have hmb := h.rd.lt
  refine ⟨⟨hg.os.trans h.gq.os, hg.tape.trans h.gq.tape, hg.output.trans h.gq.output, Nat.le_trans h.gq.size hg.size, fun k h1 h2 h3 => (hg.block k (Nat.lt_of_lt_of_le h1 h.gq.size) (by omega) h2 h3).trans (h.gq.block k h1 h2 h3)⟩, hr, ho, hk, ?_, ?_, hG, hln, l1, l2, l3, by have := hg.size; omega⟩
  · exact h.li.keep (fun g h1 h2 => hg.block g h2 (by omega) (by omega) (by omega)) hg.size
  · exact hre.keep (fun g h1 h2 => hg.block g h2 (by omega) (by omega) (by omega)) hg.size hx
theorem Bk.bl {w wr w' : World} {P m2 mb M : Nat} {s : ByteArray} {l : List Ty} {st : St} {pI : Option Addr} {nI cI : Nat} {csI : List C} {j : Nat} {rest : Its} {en : Env} {k1 : Nat} {p : Option Addr} {lc : Nat} {cs : List CN} {ks : Nds} (h : Bk w wr P m2 mb M s l st pI nI cI csI j rest en k1 p lc cs ks) (hb : Bl wr w') : Bk w w' P m2 mb M s l st pI nI cI csI j rest en k1 p lc cs ks :=
  h.keep (Gm.gp (Gp.bl hb)) (Kx.bl hb) (h.rd.bl hb) (h.om.below hb) h.k h.re (h.gn.bl hb (Nat.le_refl _)) h.ln
theorem lit_node (w : World) (c : CN) : ∀ j u, (cl c)[j]? = some u → (w.alloc (.cells #[.string (tx c.d.nm), .int .i64 (c.d.kd : Int), .int .i64 (c.d.at_ : Int), .int .i64 (c.d.sz : Int), .int .i64 c.d.n, .string (tx c.d.tx), .slice c.p c.n c.c] 27)).cell? ⟨w.heap.size, j, none⟩ = some u := fun j u hu => by
  rw [cell_of (new_at _ _)]
  simpa [cl] using hu
theorem Om.gx {M : Nat} {w w' : World} {b c : Nat} {f : List UInt8 → Option Int} (h : Om w b f c) (hg : Gx M w w') (hb : b < M) : Om w' b f c := by
  have hlt := Om.blt h
  obtain ⟨D, ⟨es, clock, q1, q2, q3, q4⟩, q5⟩ := h
  exact ⟨D, ⟨es, clock, by rw [hg.block b hlt hb]; exact q1, q2, q3, q4⟩, q5⟩
theorem Bk.push {w wr w6 : World} {P m2 mb M K : Nat} {s : ByteArray} {l : List Ty} {st st2 : St} {pI : Option Addr} {nI cI : Nat} {csI : List C} {j : Nat} {rest t : Its} {en en2 : Env} {k1 k2 : Nat} {p kp : Option Addr} {lc kc : Nat} {cs : List CN} {ks k' : Nds} {nd : ND} (h : Bk w wr P m2 mb M s l st pI nI cI csI j rest en k1 p lc cs ks) (hg6 : Gq P m2 wr w6) (hx6 : Kx wr w6) (hr6 : RdL w6 P mb s l st2) (ho6 : Om w6 m2 en2 k2) (hk2 : k2 ≤ st2.2) (hre : Rep wr (fun g => g < mb) t (csI.drop (j + 1))) (hs6 : IsNs w6 (fun g => K ≤ g) kp k'.len kc k') (hK : wr.heap.size ≤ K) (hj : j ≤ 16) :
    ∃ p2 c2 w8, (Builtin.append_ #[25, 25] 25 #[.slice p j lc, .slice (some ⟨w6.heap.size, 0, none⟩) 1 1]).run Tryz.prog (w6.alloc (.cells #[.string (tx nd.nm), .int .i64 (nd.kd : Int), .int .i64 (nd.at_ : Int), .int .i64 (nd.sz : Int), .int .i64 nd.n, .string (tx nd.tx), .slice kp k'.len kc] 27)) = .ok (.slice p2 (j + 1) c2) w8 ∧ Bk w w8 P m2 mb M s l st2 pI nI cI csI (j + 1) t en2 k2 p2 c2 (cs ++ [⟨nd, kp, k'.len, kc⟩]) (ks.app nd k') := by
  obtain ⟨l1, l2, l3, l4⟩ := h.lt
  have hG6 : Gn w6 M M (.slice p j lc) cs ks := h.gn.keep (fun g h1 h2 => hg6.block g h2 (by omega) (by omega)) hg6.size (Nat.le_refl _)
  have hown : ∀ k, (Value.slice p j lc).ownBlock = some k → k < K := fun k hk => by have := (h.gn.own.block k hk).2; omega
  have hb : Bl w6 (w6.alloc (.cells #[.string (tx nd.nm), .int .i64 (nd.kd : Int), .int .i64 (nd.at_ : Int), .int .i64 (nd.sz : Int), .int .i64 nd.n, .string (tx nd.tx), .slice kp k'.len kc] 27)) := (Bl.refl _).alloc _
  obtain ⟨p2, c2, w8, q1, q2, q3, q4⟩ := push_node (⟨nd, kp, k'.len, kc⟩ : CN) w6.heap.size hG6 hs6 hown (by omega) hb (lit_node w6 ⟨nd, kp, k'.len, kc⟩) (by omega) (by have := hg6.size; omega)
  generalize w6.alloc (.cells #[.string (tx nd.nm), .int .i64 (nd.kd : Int), .int .i64 (nd.at_ : Int), .int .i64 (nd.sz : Int), .int .i64 nd.n, .string (tx nd.tx), .slice kp k'.len kc] 27) = w7 at *
  have hr7 := hr6.bl hb
  have hr8 : RdL w8 P mb s l st2 := ⟨(q3.block P hr7.lt' (by omega)).trans hr7.at_, hr7.mp.keep (fun x hx => q3.block x (by have := hr7.lt; have := hr7.lt'; omega) (by have := hr7.lt; omega)) q3.size q4, hr7.lt, hr7.a, hr7.k, hr7.sz⟩
  have hgm : Gm M P m2 wr w8 := ⟨q3.os.trans (hb.os.trans hg6.os), q3.tape.trans (hb.tape.trans hg6.tape), q3.output.trans (hb.output.trans hg6.output), Nat.le_trans hg6.size (Nat.le_trans hb.size q3.size), fun k h1 h2 h3 h4 => (q3.block k (by have := hg6.size; have := hb.size; omega) h2).trans ((Below.block hb k (by have := hg6.size; omega)).trans (hg6.block k h1 h3 h4))⟩
  exact ⟨p2, c2, w8, q1, h.keep hgm ((hx6.trans (Kx.bl hb)).trans q4) hr8 (Om.gx (ho6.below hb) q3 l2) hk2 hre q2 (by rw [Nds.app_len, h.ln])⟩
theorem RdL.om {w w' : World} {P mb m2 k : Nat} {s : ByteArray} {l : List Ty} {st : St} {en : Env} (h : RdL w P mb s l st) (ho : Om w m2 en k) (hg : w.grownBy w' (some m2)) (hP : P < m2) : RdL w' P mb s l st ∧ Kx w w' ∧ Gq P m2 w w' := by
  have hne : ∀ k, k ≠ m2 → (some k : Option Nat) ≠ some m2 := fun k hk e => hk (by injection e)
  have hx : Kx w w' := fun b cs hb => (hg.block b (lt_of_heap hb) (hne b (fun e => by
    subst e
    obtain ⟨es, clock, h1⟩ := ho.block
    rw [hb] at h1
    cases h1))).trans hb
  refine ⟨⟨(hg.block P h.lt' (hne P (by omega))).trans h.at_, h.mp.keep (fun x hx => hg.block x (by have := h.lt; have := h.lt'; omega) (hne x (by have := h.lt; omega))) hg.size hx, h.lt, h.a, h.k, h.sz⟩, hx, ⟨hg.os, hg.tape, hg.output, hg.size, fun k h1 _ h3 => hg.block k h1 (hne k h3)⟩⟩
theorem blkC_zero (s : ByteArray) (l : List Ty) : BlkC s l 0 := by
  intro w P mb m2 st i p n c cs en k0 h _ _ _ _ _ _ hf
  have := h.k
  omega
set_option maxRecDepth 10000 in
set_option maxHeartbeats 8000000 in
theorem blkC_succ (s : ByteArray) (l : List Ty) (hl : OKT l) (f : Nat) (hB : BlkC s l f) : BlkC s l (f + 1) := by
  intro w P mb m2 st i p n c csI en k0 h hoki hli hre hom hk0 hPm hf
  obtain ⟨q, hq⟩ : ∃ q, q = rdB (L s) l (f + 1) i en st := ⟨_, rfl⟩
  rw [← hq]
  obtain ⟨M, hM⟩ : ∃ M, M = w.heap.size := ⟨_, rfl⟩
  have hn : n = csI.length := hli.1
  have hn16 : n ≤ 16 := by have := (hre.len).1; have := hoki.len; omega
  have H0 : Hid (Bk w w P m2 mb M s l st p n c csI 0 i en k0 none 0 [] .nil ∧ preN .nil (blk (L s) l (rdB (L s) l f) i en st) = q ∧ OKI i) := ⟨⟨Gq.refl _ _ _, h, hom, hk0, hli, by rw [List.drop_zero]; exact hre, Gn.nil _ _ _, rfl, hPm, by rw [hM]; exact Om.blt hom, hM, by rw [hM]; exact Nat.le_refl _⟩, by rw [preN_nil, hq]; rfl, hoki⟩
  have HB : Hid (BlkC s l f ∧ OKT l ∧ 400 ≤ st.2 + f ∧ n = csI.length) := ⟨hB, hl, by omega, hn⟩
  clear hq hM h hoki hli hre hom hk0 hPm hf hB hl hn
  go_enter Tryz.func89, Tryz.ntmps89
  go_wp2
  go_loopw [7, 13] (fun v7 v13 wr => ∃ (j : Nat) (p' : Option Addr) (lc : Nat) (cs : List CN) (ks : Nds) (st' : St) (rest : Its) (en' : Env) (k1 : Nat), v7 = .slice p' j lc ∧ v13 = .int .i64 (j : Int) ∧ j ≤ n ∧ Hid (Bk w wr P m2 mb M s l st' p n c csI j rest en' k1 p' lc cs ks ∧ preN ks (blk (L s) l (rdB (L s) l f) rest en' st') = q ∧ OKI rest ∧ st.2 ≤ st'.2)) (fun _ v13 _ => n - (intOf v13).toNat)
  case atStart => exact ⟨0, none, 0, [], .nil, st, i, en, k0, rfl, rfl, Nat.zero_le _, H0.out.1, H0.out.2.1, H0.out.2.2, Nat.le_refl _⟩
  case round =>
    obtain ⟨j, p', lc, cs, ks, st', rest, en', k1, rfl, rfl, hj, HM⟩ := hrel
    by_cases hlt : j < n
    · have h1 := HM.out.1.re
      obtain ⟨c1, hc1⟩ : ∃ c1, csI[j]? = some c1 := by
        have : j < csI.length := by have := HB.out.2.2.2; omega
        exact ⟨_, List.getElem?_eq_getElem this⟩
      have hdr : csI.drop j = c1 :: csI.drop (j + 1) := by
        obtain ⟨hjl, e⟩ := List.getElem?_eq_some_iff.1 hc1
        rw [List.drop_eq_getElem_cons hjl, e]
      rw [hdr] at h1
      cases rest with
      | nil => cases h1
      | cons d sub t =>
        obtain ⟨c1', r, e, hcd, hio, hsub, hrr⟩ := h1
        injection e with e1 e2
        subst e1 e2
        subst hcd
        obtain ⟨hwd, hokt, hoks⟩ := HM.out.2.2.1.hd
        obtain ⟨hnn, hnc, hlc⟩ := HM.out.1.li
        obtain ⟨g, rfl, hgm, hgs, hcell⟩ : ∃ g, p = some ⟨g, 0, none⟩ ∧ g < mb ∧ g < wr.heap.size ∧ ∀ j u, (ir.rowE csI)[j]? = some u → wr.cell? ⟨g, j, none⟩ = some u := by
          rcases hlc with hlc | hlc
          · rw [hlc] at hc1; cases hc1
          · exact hlc
        have hcj : ∀ i u, (tm.cl c1)[i]? = some u → wr.cell? ⟨g, j * 13 + i, none⟩ = some u := fun i u hu => by
          have hi : i < 13 := by
            have := (List.getElem?_eq_some_iff.1 hu).1
            rw [ir.cl_len] at this
            exact this
          obtain ⟨hjl, e⟩ := List.getElem?_eq_some_iff.1 hc1
          exact hcell _ _ (by rw [ir.rowE_get csI j hjl i hi, e]; exact hu)
        have f0 : wr.cell? ⟨g, j * 13, none⟩ = some (.int .i64 (c1.d.kd : Int)) := hcj 0 _ rfl
        have f1 : wr.cell? ⟨g, j * 13 + 1, none⟩ = some (.int .i64 (c1.d.at_ : Int)) := hcj 1 _ rfl
        have f2 : wr.cell? ⟨g, j * 13 + 2, none⟩ = some (.string (tx c1.d.nm)) := hcj 2 _ rfl
        have f3 : wr.cell? ⟨g, j * 13 + 3, none⟩ = some (.string (tx c1.d.ty)) := hcj 3 _ rfl
        have f4 : wr.cell? ⟨g, j * 13 + 4, none⟩ = some (.int .i64 (c1.d.wd : Int)) := hcj 4 _ rfl
        have f5 : wr.cell? ⟨g, j * 13 + 5, none⟩ = some (.int .i64 (c1.d.od : Int)) := hcj 5 _ rfl
        have f6 : wr.cell? ⟨g, j * 13 + 6, none⟩ = some (.bool c1.d.sg) := hcj 6 _ rfl
        have f7 : wr.cell? ⟨g, j * 13 + 7, none⟩ = some (.bool c1.d.mn) := hcj 7 _ rfl
        have f8 : wr.cell? ⟨g, j * 13 + 8, none⟩ = some (.pointer c1.pc) := hcj 8 _ rfl
        have f9 : wr.cell? ⟨g, j * 13 + 9, none⟩ = some (.int .i64 (c1.d.ru : Int)) := hcj 9 _ rfl
        have f10 : wr.cell? ⟨g, j * 13 + 10, none⟩ = some (.string (tx c1.d.f1)) := hcj 10 _ rfl
        have f11 : wr.cell? ⟨g, j * 13 + 11, none⟩ = some (.string (tx c1.d.l1)) := hcj 11 _ rfl
        have f12 : wr.cell? ⟨g, j * 13 + 12, none⟩ = some (.slice c1.p c1.n c1.c) := hcj 12 _ rfl
        have HST : Hid _ := blk_step (L s) l (rdB (L s) l f) c1.d sub t en' ks st'
        obtain ⟨w3, hw3⟩ : ∃ w3, w3 = wr.alloc (.cells #[.int .i64 (c1.d.kd : Int), .int .i64 (c1.d.at_ : Int), .string (tx c1.d.nm), .string (tx c1.d.ty), .int .i64 (c1.d.wd : Int), .int .i64 (c1.d.od : Int), .bool c1.d.sg, .bool c1.d.mn, .pointer c1.pc, .int .i64 (c1.d.ru : Int), .string (tx c1.d.f1), .string (tx c1.d.l1), .slice c1.p c1.n c1.c] 60) := ⟨_, rfl⟩
        obtain ⟨Xb, hXb⟩ : ∃ Xb, Xb = wr.heap.size := ⟨_, rfl⟩
        have hb3 : Bl wr w3 := by rw [hw3]; exact (Bl.refl _).alloc _
        have hI3 : Iv w3 Xb c1 := by rw [hw3, hXb]; exact Iv.new wr c1
        have H3 : Hid (Bk w w3 P m2 mb M s l st' (some ⟨g, 0, none⟩) n c csI j (.cons c1.d sub t) en' k1 p' lc cs ks ∧ Iv w3 Xb c1 ∧ Bl wr w3 ∧ Xb = wr.heap.size ∧ Rep wr (fun g => g < mb) t (csI.drop (j + 1)) ∧ OKI t ∧ WD c1.d) := ⟨HM.out.1.bl hb3, hI3, hb3, hXb, hrr, hokt, hwd⟩
        have cP := part_at f w3 P mb s l st' c1 sub m2 k1 en' H3.out.1.rd (ItL.bl ⟨hio, hsub⟩ hb3) hwd hoks H3.out.1.om H3.out.1.k H3.out.1.lt.1 HB.out.2.1 HB.out.1 (by have := HB.out.2.2.1; have := HM.out.2.2.2; omega)
        have HLE : Hid (∀ nd k' st2, part (L s) l (rdB (L s) l f) c1.d sub en' st' = .ok (nd, k', st2) → st'.1 ≤ st2.1 ∧ st'.2 < st2.2 ∧ st2.2 ≤ 400) := fun nd k' st2 he => part_le HB.out.2.1 hwd hoks (by rw [L_len]; exact HM.out.1.rd.a) HM.out.1.rd.k he
        rw [itV_eq] at cP
        have hj16 : j < 16 := by omega
        have hj1 : (0 : Int) ≤ (j : Int) := by omega
        have hj2 : (j : Int) < (n : Int) := by omega
        have hju : decide ((j : Int) < (n : Int)) = true := decide_eq_true hj2
        clear hnn hc1 hdr hio hsub hrr hwd hokt hoks hnc hlc hcell hcj hgm hb3 hI3
        go_wp2_with fail
        rw [← hw3, ← hXb]
        clear hw3 hXb f0 f1 f2 f3 f4 f5 f6 f7 f8 f9 f10 f11 f12
        refine cP.mono ?_
        rintro e w4 ⟨hg4, hans⟩
        clear cP
        generalize hpt : part (L s) l (rdB (L s) l f) c1.d sub en' st' = r at hans
        cases r with
        | error er =>
          obtain ⟨v, rfl, hv⟩ := hans
          have HQ : Hid (q = .error er) := by rw [← HM.out.2.1]; exact HST.out.1 er hpt
          unfold thrL
          clear HST HLE
          go_wp2
          rw [HQ.out]
          exact ⟨rfl, (HM.out.1.gq.trans (Gq.gp (Gp.bl H3.out.2.2.1))).trans (Gq.gp hg4), v, rfl, hv.from (by have := HM.out.1.gq.size; have := H3.out.2.2.1.size; omega)⟩
        | ok r =>
          obtain ⟨nd, k', st2⟩ := r
          obtain ⟨kp, kc, rfl, hks, hr4⟩ := hans
          have hle := HLE.out nd k' st2 hpt
          have hstep := HST.out.2 nd k' st2 hpt
          rw [HM.out.2.1] at hstep
          obtain ⟨w5, hw5⟩ : ∃ w5, w5 = w4.alloc (.cells #[.string (tx nd.nm), .int .i64 (nd.kd : Int), .int .i64 (nd.at_ : Int), .int .i64 (nd.sz : Int), .int .i64 nd.n, .string (tx nd.tx), .slice kp k'.len kc] 27) := ⟨_, rfl⟩
          obtain ⟨Nb, hNb⟩ : ∃ Nb, Nb = w4.heap.size := ⟨_, rfl⟩
          have hb5 : Bl w4 w5 := by rw [hw5]; exact (Bl.refl _).alloc _
          have hn5 : Nv w5 Nb nd kp k'.len kc := by rw [hw5, hNb]; exact new_at _ _
          have hI5 : Iv w5 Xb c1 := (H3.out.2.1.gp hg4 (by have := H3.out.2.2.2.1; have := HM.out.1.rd.lt'; omega)).bl hb5
          have hm2lt : m2 < wr.heap.size := Om.blt HM.out.1.om
          have hom5 : Om w5 m2 en' k1 := (H3.out.1.om.step (gp_grown hg4) (fun e => by injection e with e; have := HM.out.1.lt.1; omega)).below hb5
          have H5 : Hid (Iv w5 Xb c1 ∧ Nv w5 Nb nd kp k'.len kc ∧ RdL w5 P mb s l st2 ∧ Om w5 m2 en' k1 ∧ Gq P m2 wr w5 ∧ Kx wr w5 ∧ IsNs w5 (fun g => w3.heap.size ≤ g) kp k'.len kc k' ∧ Xb ≠ m2 ∧ Nb ≠ m2 ∧ k1 + 1 ≤ st2.2 ∧ w3.heap.size ≥ wr.heap.size ∧ q = preN (ks.app nd k') (blk (L s) l (rdB (L s) l f) t (nxt c1.d en' nd) st2) ∧ st.2 ≤ st2.2) :=
            ⟨hI5, hn5, hr4.bl hb5, hom5, ((Gq.gp (Gp.bl H3.out.2.2.1)).trans (Gq.gp hg4)).trans (Gq.gp (Gp.bl hb5)), ((Kx.bl H3.out.2.2.1).trans (H3.out.1.rd.kx hg4)).trans (Kx.bl hb5), hks.bl hb5, by have := H3.out.2.2.2.1; omega, by have := H3.out.2.2.1.size; have := hg4.size; omega, by have := HM.out.1.k; omega, H3.out.2.2.1.size, hstep, by have := HM.out.2.2.2; omega⟩
          have hR64 := fun (h1 : c1.d.kd = 1) (hm : c1.d.mn = false) => part_r64 H3.out.2.2.2.2.2.2 h1 hm hpt
          have i0 : w5.cell? ⟨Xb, 0, none⟩ = some (.int .i64 (c1.d.kd : Int)) := hI5.cell 0
          have i2 : w5.cell? ⟨Xb, 2, none⟩ = some (.string (tx c1.d.nm)) := hI5.cell 2
          have i7 : w5.cell? ⟨Xb, 7, none⟩ = some (.bool c1.d.mn) := hI5.cell 7
          obtain ⟨n0, n1, n2, n3, n4, n5, n6⟩ := hn5.cells
          have hXs := hI5.lt
          have hNs := hn5.lt
          have hkd4 : c1.d.kd ≤ 4 := by rcases H3.out.2.2.2.2.2.2 with g | g | g | g <;> omega
          unfold ndV
          clear hg4 hks hr4 hle hstep hpt hb5 hn5 hI5 hom5 hm2lt HST HLE
          by_cases hup : c1.d.kd = 1 ∧ c1.d.mn = false
          · obtain ⟨hu1, hu2⟩ := hup
            have hnm5 : (tx c1.d.nm).size ≤ 5000 := by
              rw [tx_size]
              rcases H3.out.2.2.2.2.2.2 with g | g | g | g
              · omega
              · omega
              · omega
              · have := g.2.2.2.1.2.2.1; omega
            obtain ⟨w6, hrun, hom6, hg6⟩ := H5.out.2.2.2.1.put (tx c1.d.nm) nd.n hnm5 (hR64 hu1 hu2) (by have h1 := H5.out.2.2.2.2.2.2.2.2.2.1; have h2 := H5.out.2.2.1.k; omega)
            obtain ⟨hr6, hx6, hq6⟩ := H5.out.2.2.1.om H5.out.2.2.2.1 hg6 HM.out.1.lt.1
            have hom6 : Om w6 m2 (nxt c1.d en' nd) (k1 + 1) := by
              have e : (tx c1.d.nm).data.toList = c1.d.nm := L_tx c1.d.nm
              rw [e] at hom6
              unfold nxt
              rw [if_pos ⟨hu1, hu2⟩]
              exact hom6
            have hks6 : IsNs w6 (fun g => w3.heap.size ≤ g) kp k'.len kc k' := H5.out.2.2.2.2.2.2.1.keep (fun g h1 h2 => hg6.block g h2 (fun e => by injection e with e; have := Om.blt HM.out.1.om; have := H5.out.2.2.2.2.2.2.2.2.2.2.1; omega)) hg6.size
            obtain ⟨p2, c2, w8, hap, hBk⟩ := HM.out.1.push (t := t) (nd := nd) (H5.out.2.2.2.2.1.trans hq6) (H5.out.2.2.2.2.2.1.trans hx6) hr6 hom6 H5.out.2.2.2.2.2.2.2.2.2.1 H3.out.2.2.2.2.1 hks6 H5.out.2.2.2.2.2.2.2.2.2.2.1 (by omega)
            have HA : Hid _ := hap
            have H8 : Hid (Bk w w8 P m2 mb M s l st2 (some ⟨g, 0, none⟩) n c csI (j + 1) t (nxt c1.d en' nd) (k1 + 1) p2 c2 (cs ++ [⟨nd, kp, k'.len, kc⟩]) (ks.app nd k')) := hBk
            have hn6 : Nv w6 Nb nd kp k'.len kc := (hg6.block Nb H5.out.2.1.lt (fun e => by injection e with e; exact H5.out.2.2.2.2.2.2.2.2.1 e)).trans H5.out.2.1
            obtain ⟨e0, e1, e2, e3, e4, e5, e6⟩ := hn6.cells
            have hk1 : ((c1.d.kd : Int) == 1) = true := by rw [hu1]; rfl
            rw [hu2] at i7
            clear hom6 hg6 hr6 hx6 hq6 hks6 hap hBk hn6 hR64 hu1 hu2 hnm5
            go_upto_region 6 with fail
            rw [← hw5, ← hNb]
            clear hw5 hNb
            go_wp2_with (at_builtin; refine Lib.wpList_append_run _ rfl (.tmp 34) (.tmp 36) _ _ rfl _ _ rfl rfl _ _ HA.out ?_)
            go_roundw
            case rel => exact ⟨j + 1, p2, c2, cs ++ [⟨nd, kp, k'.len, kc⟩], ks.app nd k', st2, t, nxt c1.d en' nd, k1 + 1, rfl, by go_num, by omega, H8.out, H5.out.2.2.2.2.2.2.2.2.2.2.2.1.symm, H3.out.2.2.2.2.2.1, H5.out.2.2.2.2.2.2.2.2.2.2.2.2⟩
            case measure => simp [intOf]; omega
          · have hnx : nxt c1.d en' nd = en' := by unfold nxt; rw [if_neg hup]
            obtain ⟨p2, c2, w8, hap, hBk⟩ := HM.out.1.push (t := t) (nd := nd) H5.out.2.2.2.2.1 H5.out.2.2.2.2.2.1 H5.out.2.2.1 H5.out.2.2.2.1 (by have := H5.out.2.2.2.2.2.2.2.2.2.1; omega) H3.out.2.2.2.2.1 H5.out.2.2.2.2.2.2.1 H5.out.2.2.2.2.2.2.2.2.2.2.1 (by omega)
            have HA : Hid _ := hap
            have H8 : Hid (Bk w w8 P m2 mb M s l st2 (some ⟨g, 0, none⟩) n c csI (j + 1) t (nxt c1.d en' nd) k1 p2 c2 (cs ++ [⟨nd, kp, k'.len, kc⟩]) (ks.app nd k')) := by rw [hnx]; exact hBk
            clear hR64 hap hBk hnx
            by_cases hk1 : c1.d.kd = 1
            · have hmn : c1.d.mn = true := by
                cases hm : c1.d.mn with
                | true => rfl
                | false => exact absurd ⟨hk1, hm⟩ hup
              have hk1' : ((c1.d.kd : Int) == 1) = true := by rw [hk1]; rfl
              rw [hmn] at i7
              clear hup hk1 hmn
              go_upto_region 6 with fail
              rw [← hw5, ← hNb]
              clear hw5 hNb
              go_wp2_with (at_builtin; refine Lib.wpList_append_run _ rfl (.tmp 34) (.tmp 36) _ _ rfl _ _ rfl rfl _ _ HA.out ?_)
              go_roundw
              case rel => exact ⟨j + 1, p2, c2, cs ++ [⟨nd, kp, k'.len, kc⟩], ks.app nd k', st2, t, nxt c1.d en' nd, k1, rfl, by go_num, by omega, H8.out, H5.out.2.2.2.2.2.2.2.2.2.2.2.1.symm, H3.out.2.2.2.2.2.1, H5.out.2.2.2.2.2.2.2.2.2.2.2.2⟩
              case measure => simp [intOf]; omega
            · have hk1' : ((c1.d.kd : Int) == 1) = false := by rw [beq_eq_false_iff_ne]; omega
              clear hup hk1
              go_upto_region 6 with fail
              rw [← hw5, ← hNb]
              clear hw5 hNb
              go_wp2_with (at_builtin; refine Lib.wpList_append_run _ rfl (.tmp 34) (.tmp 36) _ _ rfl _ _ rfl rfl _ _ HA.out ?_)
              go_roundw
              case rel => exact ⟨j + 1, p2, c2, cs ++ [⟨nd, kp, k'.len, kc⟩], ks.app nd k', st2, t, nxt c1.d en' nd, k1, rfl, by go_num, by omega, H8.out, H5.out.2.2.2.2.2.2.2.2.2.2.2.1.symm, H3.out.2.2.2.2.2.1, H5.out.2.2.2.2.2.2.2.2.2.2.2.2⟩
              case measure => simp [intOf]; omega
    · obtain rfl : j = n := by omega
      have HE : Hid (q = .ok (ks, st')) := by
        have h1 := HM.out.1.re
        rw [List.drop_eq_nil_of_le (by have := HB.out.2.2.2; omega)] at h1
        have h2 := HM.out.2.1
        cases rest with
        | nil => rw [blk_end] at h2; exact h2.symm
        | cons d sub t => obtain ⟨c', r, e, _⟩ := h1; cases e
      go_wp2
      go_ret
      rw [HE.out]
      have hK := HM.out.1
      obtain ⟨p'', c'', e1, e2, e3⟩ := hK.gn.is (Nat.le_refl _)
      simp only [Value.slice.injEq] at e1
      obtain ⟨rfl, e4, rfl⟩ := e1
      exact ⟨hK.gq, _, _, by rw [← e4]; rfl, e2.mono (fun g h1 _ => by have := hK.lt; omega), hK.rd⟩
theorem blkC (s : ByteArray) (l : List Ty) (hl : OKT l) (f : Nat) : BlkC s l f := by
  induction f with
  | zero => exact blkC_zero s l
  | succ f ih => exact blkC_succ s l hl f ih
end Go.Proofs.YtococaecjecjgaaGreatDoor.ly
/- A reader of texts: the whole; structs by their names. -/
namespace Go.Proofs.YtococaecjecjgaaGreatDoor.ly
set_option linter.unusedVariables false
open Go.ChangeShapes Go.WideShapes Go.ChangeAt Go.RowKit
open mem lx ex tm num

/-- A struct as an item. -/
def cT (x : List UInt8) : C := ⟨topD x, none, none, 0, 0⟩
theorem infoI : (Tryz.prog.info? 60).map (·.size) = some 13 := by kernel_rfl
set_option maxRecDepth 10000 in
theorem top_at (x : List UInt8) (w : World) : Calls Tryz.prog 53 #[.string (tx x)] w fun e w' => e = .returned (itV (cT x)) ∧ Bl w w' := by
  go_enter Tryz.func53, Tryz.ntmps53
  go_wp2
  exact bodyPost_ret (v := itV (cT x)) (results_cell_row rfl _ _ w.heap.size 60 #[.int .i64 3, .int .i64 0, .string (tx x), .string (tx x), .int .i64 0, .int .i64 0, .bool false, .bool false, .pointer none, .int .i64 0, .string ⟨#[]⟩, .string ⟨#[]⟩, .slice none 0 0] (0, 0) _ rfl (new_at w _) Tryz.underlying60 rfl infoI) rfl ⟨rfl, (Bl.refl _).alloc _⟩
/-- What all of a text is. -/
def wholeQ (s : List UInt8) (q : Except Er (ND × Nds × St)) : Except Er (ND × Nds × St) :=
  match q with
  | .error er => .error er
  | .ok (nd, ks, st) => if st.1 < s.length then .error (3, (st.1 : Int)) else .ok (nd, ks, st)
theorem topD_wk {x : List UInt8} (h : x.length ≤ maxLen) : WK (topD x) := Or.inr ⟨rfl, rfl, h⟩
set_option maxRecDepth 10000 in
set_option maxHeartbeats 2000000 in
theorem whole_at (w : World) (P mb : Nat) (s : ByteArray) (l : List Ty) (x : List UInt8) (h : RdL w P mb s l (0, 0)) (hx : x.length ≤ maxLen) (hl : OKT l) :
    Calls Tryz.prog 27 #[.pointer (some ⟨P, 0, none⟩), .string (tx x)] w fun e w' => NdA w P mb s l (wholeQ (L s) (one (L s) l (rdB (L s) l 400) (topD x) .nil noE (0, 0))) e w' := by
  obtain ⟨q0, hq0⟩ : ∃ q0, q0 = one (L s) l (rdB (L s) l 400) (topD x) .nil noE (0, 0) := ⟨_, rfl⟩
  rw [← hq0]
  obtain ⟨q, hq⟩ : ∃ q, q = wholeQ (L s) q0 := ⟨_, rfl⟩
  have hqe : ∀ er, q0 = .error er → q = .error er := fun er e => by rw [hq, e]; rfl
  have hq1 : ∀ nd ks st, q0 = .ok (nd, ks, st) → st.1 < s.size → q = .error (3, (st.1 : Int)) := fun nd ks st e hlt => by rw [hq, e]; unfold wholeQ; dsimp only; rw [if_pos (by rw [L_len]; exact hlt)]
  have hq2 : ∀ nd ks st, q0 = .ok (nd, ks, st) → ¬ st.1 < s.size → q = .ok (nd, ks, st) := fun nd ks st e hlt => by rw [hq, e]; unfold wholeQ; dsimp only; rw [if_neg (by rw [L_len]; exact hlt)]
  rw [← hq]
  obtain ⟨w1, hw1⟩ : ∃ w1, w1 = w.alloc (.cells #[.string ⟨#[]⟩, .int .i64 0, .int .i64 0, .int .i64 0, .int .i64 0, .string ⟨#[]⟩, .slice none 0 0] 27) := ⟨_, rfl⟩
  obtain ⟨R, hR⟩ : ∃ R, R = w.heap.size := ⟨_, rfl⟩
  have hb1 : Bl w w1 := by rw [hw1]; exact (Bl.refl _).alloc _
  have hR1 : Nv w1 R ⟨[], 0, 0, 0, 0, []⟩ none 0 0 := by rw [hw1, hR]; exact new_at _ _
  have H1 : Hid (Nv w1 R ⟨[], 0, 0, 0, 0, []⟩ none 0 0 ∧ RdL w1 P mb s l (0, 0) ∧ Bl w w1 ∧ R = w.heap.size ∧ P < R) := ⟨hR1, h.bl hb1, hb1, hR, by have := h.lt'; omega⟩
  have cT1 := top_at x w1
  have cO := fun w2 (hb : Bl w1 w2) => one_at 400 w2 P mb s l (0, 0) (cT x) .nil none noE (H1.out.2.1.bl hb) ⟨rfl, [], ⟨rfl, Nat.le_refl _, Or.inl rfl⟩, rfl⟩ (topD_wk hx) (fun e => absurd (show (3 : Nat) = 4 from e) (by decide)) (Or.inr (Or.inl rfl)) hl (blkC s l hl 400) (Nat.le_refl _)
  rw [show (cT x).d = topD x from rfl] at cO
  rw [← hq0] at cO
  obtain ⟨IV, hIV⟩ : ∃ IV, IV = itV (cT x) := ⟨_, rfl⟩
  rw [← hIV] at cT1 cO
  clear hq0 hq hb1 hR1 h hx hl
  go_enter Tryz.func27, Tryz.ntmps27
  go_upto_region 1 with fail
  rw [← hw1, ← hR]
  clear hw1 hR hIV
  go_wp2_with fail
  refine cT1.mono ?_
  rintro e w2 ⟨rfl, hb2⟩
  have cO' := cO w2 hb2
  clear cT1 cO
  go_wp2_with fail
  refine cO'.mono ?_
  rintro e w3 ⟨hg3, hans⟩
  have hgw : Gp P w w3 := ((Gp.bl H1.out.2.2.1).trans (Gp.bl hb2)).trans hg3
  cases q0 with
  | error er =>
    obtain ⟨v, rfl, hv⟩ := hans
    have HQ : Hid (q = .error er) := hqe er rfl
    unfold thrL
    clear hqe hq1 hq2 cO'
    go_wp2
    rw [HQ.out]
    exact ⟨rfl, hgw, v, rfl, hv.from (by have := H1.out.2.2.1.size; have := hb2.size; omega)⟩
  | ok r =>
    obtain ⟨nd, ks, st⟩ := r
    obtain ⟨p, pc, rfl, hks, hr3⟩ := hans
    have hq1' := hq1 nd ks st rfl
    have hq2' := hq2 nd ks st rfl
    obtain ⟨w4, hw4⟩ : ∃ w4, w4 = w3.alloc (.cells #[.string (tx nd.nm), .int .i64 (nd.kd : Int), .int .i64 (nd.at_ : Int), .int .i64 (nd.sz : Int), .int .i64 nd.n, .string (tx nd.tx), .slice p ks.len pc] 27) := ⟨_, rfl⟩
    obtain ⟨Nb, hNb⟩ : ∃ Nb, Nb = w3.heap.size := ⟨_, rfl⟩
    have hb4 : Bl w3 w4 := by rw [hw4]; exact (Bl.refl _).alloc _
    have hn4 : Nv w4 Nb nd p ks.len pc := by rw [hw4, hNb]; exact new_at _ _
    have hr4 : Nv w4 R ⟨[], 0, 0, 0, 0, []⟩ none 0 0 := ((H1.out.1.bl hb2).gp hg3 (by have := H1.out.2.2.2.2; omega)).bl hb4
    have H4 : Hid (Nv w4 Nb nd p ks.len pc ∧ Nv w4 R ⟨[], 0, 0, 0, 0, []⟩ none 0 0 ∧ RdL w4 P mb s l st ∧ Gp P w w4 ∧ IsNs w4 (fun g => w2.heap.size ≤ g) p ks.len pc ks ∧ R < w2.heap.size ∧ R = w.heap.size ∧ P < R) := ⟨hn4, hr4, hr3.bl hb4, hgw.trans (Gp.bl hb4), hks.bl hb4, by have := H1.out.1.lt; have := hb2.size; omega, H1.out.2.2.2⟩
    have cTh := fun wx (hb : Bl w4 wx) => throw_at wx P mb s l st 3 (H4.out.2.2.1.bl hb)
    have c1 := H4.out.2.2.1.cells.2.1
    have c2 := H4.out.2.2.1.cells.2.2.1
    have hP4 := H4.out.2.2.1.lt'
    obtain ⟨n0, n1, n2, n3, n4, n5, n6⟩ := hn4.cells
    have hN4 := hn4.lt
    have hR4 := hr4.lt
    have hz := H4.out.2.2.1.sz
    have ha := H4.out.2.2.1.a
    obtain ⟨a, k⟩ := st
    dsimp only at *
    unfold ndV
    clear hqe hq1 hq2 cO' hg3 hks hr3 hgw hb4 hn4 hr4
    by_cases hlt : a < s.size
    · have HQ : Hid (q = .error (3, (a : Int))) := hq1' hlt
      have hd : decide ((a : Int) < (s.size : Int)) = true := decide_eq_true (by omega)
      clear hq1' hq2'
      go_upto_region 2 with fail
      rw [← hw4, ← hNb]
      clear hw4 hNb
      go_quiet (fail)
      go_wp2_with fail
      refine (cTh _ ((Bl.refl _).drewN _)).mono ?_
      rintro e w5 ⟨v, rfl, hv, hb5⟩
      unfold thrL
      go_wp2
      rw [HQ.out]
      exact ⟨rfl, (H4.out.2.2.2.1.trans (Gp.bl ((Bl.refl _).drewN _))).trans (Gp.bl hb5), v, rfl, hv.from (by have := H4.out.2.2.2.1.size; exact this)⟩
    · have HQ : Hid (q = .ok (nd, ks, (a, k))) := hq2' hlt
      have hd : decide ((a : Int) < (s.size : Int)) = false := decide_eq_false (by omega)
      clear hq1' hq2' cTh
      go_upto_region 2 with fail
      rw [← hw4, ← hNb]
      clear hw4 hNb
      go_quiet (fail)
      have hbd : Bl w4 (w4.drewN nq) := (Bl.refl _).drewN _
      have H5 : Hid (Nv (w4.drewN nq) Nb nd p ks.len pc ∧ Nv (w4.drewN nq) R ⟨[], 0, 0, 0, 0, []⟩ none 0 0 ∧ RdL (w4.drewN nq) P mb s l (a, k) ∧ Gp P w (w4.drewN nq) ∧ IsNs (w4.drewN nq) (fun g => w2.heap.size ≤ g) p ks.len pc ks) := ⟨H4.out.1.bl hbd, H4.out.2.1.bl hbd, H4.out.2.2.1.bl hbd, H4.out.2.2.2.1.trans (Gp.bl hbd), H4.out.2.2.2.2.1.bl hbd⟩
      generalize w4.drewN nq = w5 at H5 ⊢
      clear hbd n0 n1 n2 n3 n4 n5 n6 c1 c2 hP4 hN4 hR4
      obtain ⟨n0, n1, n2, n3, n4, n5, n6⟩ := H5.out.1.cells
      obtain ⟨m0, m1, m2, m3, m4, m5, m6⟩ := H5.out.2.1.cells
      obtain ⟨y0, y1, y2, y3, y4, y5, y6⟩ := H5.out.2.1.fz
      have hN5 := H5.out.1.lt
      have hR5 := H5.out.2.1.lt
      have HF : Hid _ := fin_store (nd := nd) H5.out.2.1 H5.out.2.2.2.2 H5.out.2.2.1 H5.out.2.2.2.1 (by have := H4.out.2.2.2.2.2; omega) (by have := H4.out.2.2.2.2.2; omega) (by have := H4.out.2.2.2.2.2; omega)
      go_wp2
      rw [HQ.out]
      exact bodyPost_ret (v := ndV nd p ks.len pc) (results_cell_row rfl _ _ R 27 _ (0, 0) _ rfl HF.out.1 Tryz.underlying27 rfl infoN) rfl ⟨HF.out.2.1, p, pc, rfl, HF.out.2.2.1, HF.out.2.2.2⟩
end Go.Proofs.YtococaecjecjgaaGreatDoor.ly
/- A reader of texts: structs by their names; what is thrown is caught. -/
namespace Go.Proofs.YtococaecjecjgaaGreatDoor.ly
set_option linter.unusedVariables false
open Go.ChangeShapes Go.WideShapes Go.ChangeAt Go.RowKit
open mem lx ex tm num

theorem fnd_snoc (l : List Ty) (t : Ty) (x : List UInt8) : fnd (l ++ [t]) x = if t.nm = x then some t.l else fnd l x := by
  induction l with
  | nil => rfl
  | cons u r ih =>
    rw [List.cons_append, fnd, ih, fnd]
    by_cases h : t.nm = x
    · rw [if_pos h, if_pos h]
    · rw [if_neg h, if_neg h]
/-- Structs by their names, so many at the most. -/
def TyN (w : World) (mb : Nat) (l : List Ty) (n : Nat) : Prop := ∃ f, Sm w mb f n ∧ ∀ x, x.length ≤ maxLen → (f x = none ∧ fnd l x = none) ∨
  ∃ (nm : List UInt8) (a : Nat) (p : Option Addr) (k c : Nat) (i : Its) (cs : List C), f x = some (.agg #[.string (tx nm), .int .i64 (a : Int), .slice p k c]) ∧ fnd l x = some i ∧ ir.Lie w (fun g => g < mb) p k c cs ∧ Rep w (fun g => g < mb) i cs
theorem TyN.bl {w w' : World} {mb n : Nat} {l : List Ty} (h : TyN w mb l n) (hb : Bl w w') : TyN w' mb l n := by
  obtain ⟨f, h1, h2⟩ := h
  refine ⟨f, h1.same (Below.block hb mb h1.lt), fun x hx' => ?_⟩
  rcases h2 x hx' with h | ⟨nm, a, p, k, c, i, cs, g1, g2, g3, g4⟩
  · exact Or.inl h
  · exact Or.inr ⟨nm, a, p, k, c, i, cs, g1, g2, g3.keep (fun g _ hg => Below.block hb g hg) hb.size, g4.keep (fun g _ hg => Below.block hb g hg) hb.size (Kx.bl hb)⟩
theorem TyN.put {w : World} {mb n : Nat} {l : List Ty} (h : TyN w mb l n) (t : Ty) {p : Option Addr} {k c : Nat} {cs : List C} (hnm : t.nm.length ≤ maxLen) (hl : ir.Lie w (fun g => g < mb) p k c cs) (hr : Rep w (fun g => g < mb) t.l cs) (hn : n ≤ 5000) :
    ∃ w', (Instr.mapUpdate 64 (.map (some mb)) (.string (tx t.nm)) (.agg #[.string (tx t.nm), .int .i64 (t.at_ : Int), .slice p k c])).run Tryz.prog w = .ok () w' ∧ TyN w' mb (l ++ [t]) (n + 1) ∧ Gp mb w w' := by
  obtain ⟨f, h1, h2⟩ := h
  obtain ⟨w', hrun, h3, hg⟩ := h1.put (tx t.nm) (.agg #[.string (tx t.nm), .int .i64 (t.at_ : Int), .slice p k c]) (by rw [tx_size]; exact hnm) hn
  have hgp : Gp mb w w' := ⟨hg.os, hg.tape, hg.output, hg.size, fun j h1 h2 => hg.block j h1 (fun e => h2 (by injection e))⟩
  have hx : Kx w w' := fun b cs' hb => (hgp.block b (lt_of_heap hb) (fun e => by
    subst e
    obtain ⟨D, ⟨es, clock, q1, _⟩, _⟩ := h1
    rw [hb] at q1; cases q1)).trans hb
  refine ⟨w', hrun, ⟨_, h3, fun x hx' => ?_⟩, hgp⟩
  have e : (tx t.nm).data.toList = t.nm := L_tx t.nm
  rw [fnd_snoc, e]
  have keepL : ∀ {p k c} {cs : List C}, ir.Lie w (fun g => g < mb) p k c cs → ir.Lie w' (fun g => g < mb) p k c cs := fun h => h.keep (fun g hg' hs => hgp.block g hs (by omega)) hgp.size
  have keepR : ∀ {i : Its} {cs : List C}, Rep w (fun g => g < mb) i cs → Rep w' (fun g => g < mb) i cs := fun h => h.keep (fun g hg' hs => hgp.block g hs (by omega)) hgp.size hx
  by_cases hxe : x = t.nm
  · rw [if_pos hxe, if_pos hxe.symm]
    exact Or.inr ⟨t.nm, t.at_, p, k, c, t.l, cs, rfl, rfl, keepL hl, keepR hr⟩
  · rw [if_neg hxe, if_neg (fun e => hxe e.symm)]
    rcases h2 x hx' with g | ⟨nm, a, p, k, c, i, cs, g1, g2, g3, g4⟩
    · exact Or.inl g
    · exact Or.inr ⟨nm, a, p, k, c, i, cs, g1, g2, keepL g3, keepR g4⟩
theorem RepT.at {w : World} {ok : Nat → Prop} {l : List Ty} : ∀ {cs : List CT} {j : Nat}, RepT w ok l cs → j < l.length → ∃ t c, l[j]? = some t ∧ cs[j]? = some c ∧ c.nm = t.nm ∧ c.a = t.at_ ∧ ∃ cs2, ir.Lie w ok c.p c.n c.c cs2 ∧ Rep w ok t.l cs2 := by
  induction l with
  | nil => intro cs j _ hj; simp at hj
  | cons t r ih =>
    intro cs j h hj
    obtain ⟨c, rr, rfl, h1, h2, h3, h4⟩ := h
    cases j with
    | zero => exact ⟨t, c, rfl, rfl, h1, h2, h3⟩
    | succ j =>
      obtain ⟨t', c', g1, g2, g3⟩ := ih h4 (by simpa using hj)
      exact ⟨t', c', by simpa using g1, by simpa using g2, g3⟩
set_option maxRecDepth 10000 in
set_option maxHeartbeats 2000000 in
theorem named_at (w : World) (ok : Nat → Prop) (v : Value) (l : List Ty) (h : IsTs w ok v l) (hl8 : l.length ≤ 8) (hnm : ∀ t ∈ l, t.nm.length ≤ maxLen) :
    Calls Tryz.prog 24 #[v] w fun e w' => e = .returned (.map (some w.heap.size)) ∧ Bl w w' ∧ TyM w' w.heap.size l ∧ w.heap.size < w'.heap.size := by
  have hmm : ∀ w, (Instr.makeMap 64 none).run Tryz.prog w = .ok (.map (some w.heap.size)) (w.alloc (.map #[] 0)) := fun w => by kernel_rfl
  obtain ⟨p, c, cs, rfl, hlie, hrep⟩ := h
  obtain ⟨mb, hmb⟩ : ∃ mb, mb = w.heap.size := ⟨_, rfl⟩
  rw [← hmb]
  obtain ⟨w1, hw1⟩ : ∃ w1, w1 = w.alloc (.map #[] 0) := ⟨_, rfl⟩
  have hb1 : Bl w w1 := by rw [hw1]; exact (Bl.refl _).alloc _
  have ht1 : TyN w1 mb [] 0 := by
    rw [hw1, hmb]
    exact ⟨_, Sm.made w, fun x _ => Or.inl ⟨rfl, rfl⟩⟩
  obtain ⟨n, hn⟩ : ∃ n, n = l.length := ⟨_, rfl⟩
  rw [← hn] at hlie hl8 ⊢
  have H0 : Hid (sr.Lie w ok p n c cs ∧ RepT w ok l cs ∧ n = l.length ∧ (∀ t ∈ l, t.nm.length ≤ maxLen) ∧ Bl w w1 ∧ mb = w.heap.size ∧ TyN w1 mb [] 0) := ⟨hlie, hrep, hn, hnm, hb1, hmb, ht1⟩
  clear hlie hrep hnm hb1 ht1 hn
  go_enter Tryz.func24, Tryz.ntmps24
  go_wp2
  rw [← hw1, ← hmb]
  clear hw1 hmb
  go_loopw [9] (fun v9 wr => ∃ j : Nat, v9 = .int .i64 (j : Int) ∧ j ≤ n ∧ Hid (Gp mb w wr ∧ TyN wr mb (l.take j) j ∧ mb < wr.heap.size)) (fun v9 _ => n - (intOf v9).toNat)
  case atStart => exact ⟨0, rfl, Nat.zero_le _, Gp.bl H0.out.2.2.2.2.1, H0.out.2.2.2.2.2.2, by obtain ⟨f, h, _⟩ := H0.out.2.2.2.2.2.2; exact h.lt⟩
  case round =>
    obtain ⟨j, rfl, hj, HM⟩ := hrel
    by_cases hlt : j < n
    · obtain ⟨t, ct, e1, e2, e3, e4, cs2, e5, e6⟩ := RepT.at H0.out.2.1 (j := j) (by have := H0.out.2.2.1; omega)
      obtain ⟨_, hnc, hlc⟩ := H0.out.1
      have hmbw := H0.out.2.2.2.2.2.1
      obtain ⟨g, rfl, hgs, hcell⟩ : ∃ g, p = some ⟨g, 0, none⟩ ∧ g < w.heap.size ∧ ∀ j u, (sr.rowE cs)[j]? = some u → w.cell? ⟨g, j, none⟩ = some u := by
        rcases hlc with hlc | ⟨g, g1, _, g3, g4⟩
        · rw [hlc] at e2; cases e2
        · exact ⟨g, g1, g3, g4⟩
      have hcj : ∀ i u, (clT ct)[i]? = some u → wr.cell? ⟨g, j * 3 + i, none⟩ = some u := fun i u hu => by
        have hi : i < 3 := by
          have := (List.getElem?_eq_some_iff.1 hu).1
          rw [sr.cl_len] at this
          exact this
        obtain ⟨hjl, e⟩ := List.getElem?_eq_some_iff.1 e2
        have h9 := hcell _ _ (by rw [sr.rowE_get cs j hjl i hi, e]; exact hu)
        unfold World.cell? at h9 ⊢
        dsimp only at h9 ⊢
        rw [HM.out.1.block g hgs (by omega)]
        exact h9
      have f0 : wr.cell? ⟨g, j * 3, none⟩ = some (.string (tx ct.nm)) := hcj 0 _ rfl
      have f1 : wr.cell? ⟨g, j * 3 + 1, none⟩ = some (.int .i64 (ct.a : Int)) := hcj 1 _ rfl
      have f2 : wr.cell? ⟨g, j * 3 + 2, none⟩ = some (.slice ct.p ct.n ct.c) := hcj 2 _ rfl
      have hgr : g < wr.heap.size := by have := HM.out.1.size; omega
      rw [e3] at f0
      rw [e4] at f1
      obtain ⟨w3, hw3⟩ : ∃ w3, w3 = wr.alloc (.cells #[.string (tx t.nm), .int .i64 (t.at_ : Int), .slice ct.p ct.n ct.c] 96) := ⟨_, rfl⟩
      have hb3 : Bl wr w3 := by rw [hw3]; exact (Bl.refl _).alloc _
      obtain ⟨Xb, hXb⟩ : ∃ Xb, Xb = wr.heap.size := ⟨_, rfl⟩
      have hv3 : w3.heap[Xb]? = some (.cells #[.string (tx t.nm), .int .i64 (t.at_ : Int), .slice ct.p ct.n ct.c] 96 (0, 0)) := by rw [hw3, hXb]; exact new_at _ _
      have x0 : w3.cell? ⟨Xb, 0, none⟩ = some (.string (tx t.nm)) := by rw [cell_of hv3]; rfl
      have x1 : w3.cell? ⟨Xb, 1, none⟩ = some (.int .i64 (t.at_ : Int)) := by rw [cell_of hv3]; rfl
      have x2 : w3.cell? ⟨Xb, 2, none⟩ = some (.slice ct.p ct.n ct.c) := by rw [cell_of hv3]; rfl
      have hXs := lt_of_heap hv3
      have hgw3 : Gp mb w w3 := HM.out.1.trans (Gp.bl hb3)
      have hkx : Kx w w3 := fun b cs' hb => (hgw3.block b (lt_of_heap hb) (by have := lt_of_heap hb; omega)).trans hb
      have hL3 : ir.Lie w3 (fun g => g < mb) ct.p ct.n ct.c cs2 := (e5.mono (ok' := fun g => g < mb) (fun g _ h2 => by omega)).keep (fun g h1 h2 => hgw3.block g h2 (by omega)) hgw3.size
      have hR3 : Rep w3 (fun g => g < mb) t.l cs2 := (e6.mono (ok' := fun g => g < mb) (fun g _ h2 => by omega)).keep (fun g h1 h2 => hgw3.block g h2 (by omega)) hgw3.size hkx
      have htm : t ∈ l := List.mem_of_getElem? e1
      obtain ⟨w6, hrun, hT6, hg6⟩ := (HM.out.2.1.bl hb3).put t (H0.out.2.2.2.1 t htm) hL3 hR3 (by omega)
      have htk : l.take (j + 1) = l.take j ++ [t] := by
        obtain ⟨hjl, e⟩ := List.getElem?_eq_some_iff.1 e1
        rw [List.take_succ_eq_append_getElem hjl, e]
      rw [← htk] at hT6
      have H6 : Hid (Gp mb w w6 ∧ TyN w6 mb (l.take (j + 1)) (j + 1) ∧ mb < w6.heap.size) := ⟨hgw3.trans hg6, hT6, by have := HM.out.2.2; have := hb3.size; have := hg6.size; omega⟩
      have hj1 : (0 : Int) ≤ (j : Int) := by omega
      have hj2 : (j : Int) < (n : Int) := by omega
      have hn8 : n ≤ 8 := hl8
      clear e1 e2 e3 e4 e5 e6 hnc hlc hcell hcj hb3 hv3 hgw3 hkx hL3 hR3 htm hT6 hg6 htk hgs hmbw
      go_upto_region 5 with fail
      rw [← hw3, ← hXb]
      clear hw3 hXb f0 f1 f2
      go_wp2
      go_roundw
      case rel => exact ⟨j + 1, by go_num, by omega, H6.out⟩
      case measure => simp [intOf]; omega
    · obtain rfl : j = n := by omega
      go_wp2
      go_ret
      have e : l.take j = l := by rw [H0.out.2.2.1, List.take_length]
      have hT := HM.out.2.1
      rw [e] at hT
      obtain ⟨f, q1, q2⟩ := hT
      exact ⟨rfl, ⟨HM.out.1.os, HM.out.1.tape, HM.out.1.output, HM.out.1.size, fun k hk => HM.out.1.block k hk (by have := H0.out.2.2.2.2.2.1; omega)⟩, ⟨f, j, q1, q2⟩, HM.out.2.2⟩
end Go.Proofs.YtococaecjecjgaaGreatDoor.ly
/- A row of numbers that grows: what append makes of it, and what lies in it then; two rows that lie apart. -/
namespace Go.Proofs.YtococaecjecjgaaGreatDoor.rows
set_option linter.unusedVariables false
open Go.ChangeShapes Go.WideShapes Go.ChangeAt Go.RowKit
open mem

def rowI (l : List Int) : List Value := l.map (Value.int .i64)
theorem rowI_get (l : List Int) (k : Nat) (h : k < l.length) : (rowI l)[k]? = some (.int .i64 (l.getD k 0)) := by simp [rowI, h]
theorem infoI : (Tryz.prog.info? 3).map (fun i => (i.zero, i.size, i.bytes)) = some (some (.int .i64 0), 1, 8) := by kernel_rfl
theorem infoI' : ∃ i, Tryz.prog.info? 3 = some i ∧ i.zero = some (.int .i64 0) ∧ i.size = 1 ∧ i.bytes = 8 := by
  obtain ⟨i, h1, h2⟩ := Option.map_eq_some_iff.1 infoI
  simp only [Prod.mk.injEq] at h2
  exact ⟨i, h1, h2.1, h2.2.1, h2.2.2⟩
/-- A row of the call's own that holds just these numbers. -/
def Own (w : World) (base : Nat) (v : Value) (l : List Int) : Prop := w.ownsRow base 3 1 v l.length (rowI l)
theorem Own.nil (w : World) (base : Nat) : Own w base (.slice none 0 0) [] := World.ownsRow_nil _ _ _ _
theorem Own.shape {w : World} {base : Nat} {v : Value} {l : List Int} (h : Own w base v l) : (v = .slice none 0 0 ∧ l = []) ∨
    ∃ g cap, v = .slice (some ⟨g, 0, none⟩) l.length cap ∧ base ≤ g ∧ g < w.heap.size ∧ l.length ≤ cap ∧ cap ≤ maxLen ∧ ∀ k, k < l.length → w.cell? ⟨g, k, none⟩ = some (.int .i64 (l.getD k 0)) := by
  rcases h.2 with ⟨h1, h2⟩ | ⟨g, cap, cur, rfl, hbg, hg, hnc, hcm, hcs, htake⟩
  · exact Or.inl ⟨h1, List.eq_nil_of_length_eq_zero h2⟩
  · refine Or.inr ⟨g, cap, rfl, hbg, ?_, hnc, hcm, fun k hk => ?_⟩
    · rcases Nat.lt_or_ge g w.heap.size with h | h
      · exact h
      · rw [Array.getElem?_eq_none h] at hg; cases hg
    · have := rowI_get l k hk
      rw [← htake, Nat.mul_one, List.getElem?_take, if_pos hk] at this
      simp only [World.cell?, hg]
      simpa using this
theorem Own.block {w : World} {base : Nat} {v : Value} {l : List Int} (h : Own w base v l) : ∀ k, v.ownBlock = some k → base ≤ k ∧ k < w.heap.size := World.ownsRow.lt h
theorem Own.step {w w' : World} {base : Nat} {v : Value} {l : List Int} (h : Own w base v l) (hb : Bl w w') : Own w' base v l := by
  refine ⟨h.1, ?_⟩
  rcases h.2 with h | ⟨g, cap, cur, h1, h2, h3, h4⟩
  · exact Or.inl h
  · refine Or.inr ⟨g, cap, cur, h1, h2, ?_, h4⟩
    have hg : g < w.heap.size := by
      rcases Nat.lt_or_ge g w.heap.size with h | h
      · exact h
      · rw [Array.getElem?_eq_none h] at h3; cases h3
    rw [Below.block hb g hg]
    exact h3
theorem Own.kept {w w' : World} {base : Nat} {v : Value} {l : List Int} {row : Option Nat} (h : Own w base v l) (hg : w.grownBy w' row) (hne : ∀ k, v.ownBlock = some k → row ≠ some k) : Own w' base v l :=
  World.ownsRow.kept h hg (by
    cases e : v.ownBlock with
    | none => exact Or.inl rfl
    | some k => exact Or.inr (fun e' => hne k e e'.symm))
theorem bl_grown {w0 w w' : World} {row : Option Nat} (h : Bl w0 w) (hg : w.grownBy w' row) (hrow : ∀ k, row = some k → w0.heap.size ≤ k) : Bl w0 w' := by
  refine ⟨hg.os.trans h.os, hg.tape.trans h.tape, hg.output.trans h.output, Nat.le_trans h.size hg.size, fun k hk => ?_⟩
  rw [hg.block k (Nat.lt_of_lt_of_le hk h.size) (fun e => by have := hrow k e.symm; omega)]
  exact h.block k hk
theorem app_one (w : World) (base : Nat) (v : Value) (l : List Int) (z : Int) (X : Nat) (hown : Own w base v l) (hX : w.cell? ⟨X, 0, none⟩ = some (.int .i64 z)) (hn : l.length ≤ 5000) (hb : base ≤ w.heap.size) :
    ∃ v' w', (Builtin.append_ #[198, 198] 198 #[v, .slice (some ⟨X, 0, none⟩) 1 1]).run Tryz.prog w = .ok v' w' ∧ Own w' base v' (l ++ [z]) ∧ w.grownBy w' v.ownBlock ∧ (v'.ownBlock = v.ownBlock ∨ v'.ownBlock = some w.heap.size) := by
  obtain ⟨i, hi, hz, h1, h2⟩ := infoI'
  have hnews : ∀ j u, [Value.int .i64 z][j]? = some u → w.cell? ((⟨X, 0, none⟩ : Addr).add j) = some u := fun j u hu => by
    cases j with
    | zero => simp at hu; subst hu; simpa [Addr.add] using hX
    | succ j => simp at hu
  obtain ⟨v', w', hr, ho, hg, _⟩ := run_append_own (P := Tryz.prog) w base 198 198 3 i (.int .i64 0) 1 8 Tryz.underlying198 hi hz h1 h2 rfl (by decide) v l.length (rowI l) hown
    ⟨X, 0, none⟩ 1 1 [.int .i64 z] rfl hnews (fun u hu => by simp at hu; subst hu; rfl) (by simp [maxLen]; omega) (by omega) hb
  refine ⟨v', w', hr, ?_, hg, ?_⟩
  · have e : rowI (l ++ [z]) = rowI l ++ [.int .i64 z] := by simp [rowI]
    unfold Own
    rw [e, List.length_append]
    exact ho
  · rcases hown.2 with ⟨rfl, hl0⟩ | ⟨g, cap, cur, rfl, hbg, hg, hnc, hcm, hcs, htake⟩
    · have hr2 := run_append_nil (P := Tryz.prog) w 198 198 3 i (.int .i64 0) Tryz.underlying198 hi hz ⟨X, 0, none⟩ 1 1 [.int .i64 z] (by rw [h1]; rfl) hnews (by omega) (by omega) (by rw [h2]; omega)
      rw [hr2] at hr
      injection hr with e1 _
      exact Or.inr (by rw [← e1]; rfl)
    · by_cases hroom : l.length + 1 ≤ cap
      · have hr2 := run_append_room (P := Tryz.prog) w 198 198 3 i Tryz.underlying198 hi g l.length cap cur hg ⟨X, 0, none⟩ 1 1 [.int .i64 z] (by rw [h1]; rfl) hnews (fun u hu => by simp at hu; subst hu; rfl) hroom (by rw [h1, hcs]; simp; omega)
        rw [hr2] at hr
        injection hr with e1 _
        exact Or.inl (by rw [← e1]; rfl)
      · have holds : ∀ j u, (rowI l)[j]? = some u → w.cell? ((⟨g, 0, none⟩ : Addr).add j) = some u := World.ownsRow.cells hown (g := g) rfl
        have hr2 := run_append_grow (P := Tryz.prog) w 198 198 3 i (.int .i64 0) Tryz.underlying198 hi hz ⟨g, 0, none⟩ l.length cap (rowI l) (by rw [h1]; exact hown.1) holds ⟨X, 0, none⟩ 1 1 [.int .i64 z] (by rw [h1]; rfl) hnews (by omega) (by omega) (growslice_fits (by omega) (by rw [h2]; omega))
        rw [hr2] at hr
        injection hr with e1 _
        exact Or.inr (by rw [← e1]; rfl)
/-- Two rows of the call's own that lie apart. -/
structure Own2 (w : World) (base : Nat) (v1 : Value) (l1 : List Int) (v2 : Value) (l2 : List Int) : Prop where
  a : Own w base v1 l1
  b : Own w base v2 l2
  apart : ∀ k, v1.ownBlock = some k → v2.ownBlock ≠ some k
  le : base ≤ w.heap.size
theorem Own2.step {w w' : World} {base : Nat} {v1 v2 : Value} {l1 l2 : List Int} (h : Own2 w base v1 l1 v2 l2) (hb : Bl w w') : Own2 w' base v1 l1 v2 l2 :=
  ⟨h.a.step hb, h.b.step hb, h.apart, Nat.le_trans h.le hb.size⟩
theorem Own2.alloc {w : World} {base : Nat} {v1 v2 : Value} {l1 l2 : List Int} (h : Own2 w base v1 l1 v2 l2) (o : Obj) : Own2 (w.alloc o) base v1 l1 v2 l2 := h.step ((Bl.refl w).alloc o)
theorem Own2.first {w w' : World} {base : Nat} {v1 v2 v' : Value} {l1 l2 l' : List Int} (h : Own2 w base v1 l1 v2 l2) (ho : Own w' base v' l') (hg : w.grownBy w' v1.ownBlock) (hv : v'.ownBlock = v1.ownBlock ∨ v'.ownBlock = some w.heap.size) : Own2 w' base v' l' v2 l2 := by
  refine ⟨ho, h.b.kept hg (fun k e e' => h.apart k e' e), fun k e e' => ?_, Nat.le_trans h.le hg.size⟩
  rcases hv with hv | hv
  · exact h.apart k (by rw [← hv]; exact e) e'
  · have := (h.b.block k e').2
    rw [hv] at e
    injection e with e
    omega
end Go.Proofs.YtococaecjecjgaaGreatDoor.rows
/- Bytes of a text; numbers that a slice reads as; pick of the laws. -/
namespace Go.Proofs.YtococaecjecjgaaGreatDoor.rows
set_option linter.unusedVariables false
open Go.ChangeShapes Go.WideShapes Go.ChangeAt Go.RowKit
open mem

/-- Byte j of a text. -/
def sb (s : ByteArray) (j : Nat) : Int := ((s.data.toList.getD j 0).toNat : Int)
theorem sb_bd (s : ByteArray) (j : Nat) : 0 ≤ sb s j ∧ sb s j < 256 := by
  unfold sb
  have := (s.data.toList.getD j 0).toNat_lt
  omega
theorem sb_get (s : ByteArray) (j : Nat) (h : j < s.size) : sb s j = ((s[j]'h).toNat : Int) := by
  unfold sb
  have h' : j < s.data.toList.length := by simpa using h
  rw [List.getD_eq_getElem?_getD, List.getElem?_eq_getElem h']
  rfl
theorem isEmpty_at (s : ByteArray) : s.toList.isEmpty = decide (s.size = 0) := by
  rw [ByteArray.toList_eq]
  have e : s.size = s.data.toList.length := rfl
  rw [e]
  cases s.data.toList <;> simp
theorem at_bl {w w' : World} (h : Bl w w') {a : Addr} {v : Value} (hc : w.cell? a = some v) : w'.cell? a = some v := by
  have hlt : a.block < w.heap.size := by
    rcases Nat.lt_or_ge a.block w.heap.size with h1 | h1
    · exact h1
    · simp [World.cell?, Array.getElem?_eq_none h1] at hc
  unfold World.cell? at hc ⊢
  rw [Below.block h _ hlt]
  exact hc
/-- These numbers lie at p. -/
def In (w : World) (p : Option Addr) (l : List Int) : Prop :=
  l = [] ∨ ∃ x : Addr, p = some x ∧ ∀ k, k < l.length → w.cell? (x.add k) = some (.int .i64 (l.getD k 0))
theorem In.step {w w' : World} {p : Option Addr} {l : List Int} (h : In w p l) (hb : Bl w w') : In w' p l := by
  rcases h with h | ⟨x, h1, h2⟩
  · exact Or.inl h
  · exact Or.inr ⟨x, h1, fun k hk => at_bl hb (h2 k hk)⟩
theorem In.at {w : World} {p : Option Addr} {l : List Int} (h : In w p l) (k : Nat) (hk : k < l.length) : ∃ x : Addr, p = some x ∧ w.cell? (x.add k) = some (.int .i64 (l.getD k 0)) := by
  rcases h with h | ⟨x, h1, h2⟩
  · rw [h] at hk; exact absurd hk (Nat.not_lt_zero _)
  · exact ⟨x, h1, h2 k hk⟩
/-- A slice that reads so. -/
def View (w : World) (v : Value) (l : List Int) : Prop := ∃ p c, v = .slice p l.length c ∧ In w p l
theorem View.step {w w' : World} {v : Value} {l : List Int} (h : View w v l) (hb : Bl w w') : View w' v l := by
  obtain ⟨p, c, h1, h2⟩ := h
  exact ⟨p, c, h1, h2.step hb⟩
theorem ret_int {x y : Int} {k : IntKind} (h : x = y) : Ending.returned (.int k x) = .returned (.int k y) := by rw [h]
theorem ret_bool {x y : Bool} (h : x = y) : Ending.returned (.bool x) = .returned (.bool y) := by rw [h]
/-- Block B holds just these numbers, and may be written. -/
def RowI (w : World) (B : Nat) (l : List Int) : Prop := w.heap[B]? = some (.cells (rowI l).toArray 3 (0, 0))
theorem RowI.cell {w : World} {B : Nat} {l : List Int} (h : RowI w B l) {j : Nat} (hj : j < l.length) : w.cell? ⟨B, j, none⟩ = some (.int .i64 (l.getD j 0)) := by
  unfold RowI at h
  have := rowI_get l j hj
  simp only [World.cell?, h]
  simpa using this
theorem RowI.frozen {w : World} {B : Nat} {l : List Int} (h : RowI w B l) (j : Nat) : w.frozen? ⟨B, j, none⟩ = false := by
  unfold RowI at h
  simp [World.frozen?, h]
theorem RowI.lt {w : World} {B : Nat} {l : List Int} (h : RowI w B l) : B < w.heap.size := by
  unfold RowI at h
  rcases Nat.lt_or_ge B w.heap.size with h' | h'
  · exact h'
  · rw [Array.getElem?_eq_none h'] at h; cases h
theorem RowI.set {w : World} {B : Nat} {l : List Int} (h : RowI w B l) (j : Nat) (v : Int) : RowI (w.setCell ⟨B, j, none⟩ (.int .i64 v)) B (l.set j v) := by
  unfold RowI at h ⊢
  simp [World.setCell, Array.getElem?_modify, h, rowI]
theorem RowI.step {w w' : World} {B : Nat} {l : List Int} (h : RowI w B l) (hb : Bl w w') : RowI w' B l := by
  have := h.lt
  unfold RowI at h ⊢
  rw [Below.block hb B this]
  exact h
theorem RowI.made (w : World) (n : Nat) : RowI (w.alloc (.cells (madeCells #[.int .i64 0] n) 3)) w.heap.size (List.replicate n 0) := by
  have hl : madeCells #[Value.int .i64 0] n = (rowI (List.replicate n (0 : Int))).toArray := by
    apply Array.ext'
    rw [toList_madeCells_one]
    simp [rowI]
  unfold RowI
  show (w.heap.push _)[w.heap.size]? = _
  rw [Array.getElem?_push, if_pos rfl, hl]
theorem RowI.own {w : World} {B base : Nat} {l : List Int} (h : RowI w B l) (hb : base ≤ B) (hl : l.length ≤ 1000000) : Own w base (.slice (some ⟨B, 0, none⟩) l.length l.length) l := by
  refine ⟨by simp [rowI], Or.inr ⟨B, l.length, (rowI l).toArray, rfl, hb, h, Nat.le_refl _, by unfold maxLen; omega, by simp [rowI], ?_⟩⟩
  rw [Nat.mul_one]
  exact List.take_of_length_le (by simp [rowI])
theorem RowI.view {w : World} {B : Nat} {l : List Int} (h : RowI w B l) (c : Nat) : View w (.slice (some ⟨B, 0, none⟩) l.length c) l :=
  ⟨_, _, rfl, Or.inr ⟨_, rfl, fun k hk => by rw [Addr.add_lit, Nat.zero_add]; exact h.cell hk⟩⟩
end Go.Proofs.YtococaecjecjgaaGreatDoor.rows
