/- swaps of the document: what edits change. -/
import Derived.Test.YtoiiphkcpdphbaaDoorDf7
import Derived.Test.YtoiiphkcpdphbaaDoorSwRow
namespace Go.Proofs.YtoiiphkcpdphbaaDoor.df
set_option linter.unusedVariables false
open Go.ChangeShapes Go.WideShapes Go.ChangeAt Go.RowKit
open mem
set_option maxHeartbeats 2000000 in
set_option maxRecDepth 10000 in
theorem swaps_at (l : List Ed) (v : Value) (w : World) (hv : ed.View w v l) (hs : Small l) :
    Calls Tryd.prog 27 #[v] w fun e w' => ∃ u, e = .returned u ∧ sw.Own w' w.heap.size u (chg l) ∧ Bl w w' := by
  obtain ⟨p, cp, rfl, hcp, hin⟩ := hv
  have HI : Hid (ed.In w p l) := hin
  have hlen := hs.1
  clear hin
  go_enter Tryd.func27, Tryd.ntmps27
  go_wp2
  go_loopw [3, 4, 5, 7, 8, 11] (fun u av nv _ _ iv wr => ∃ (k : Nat) (d : List Ed) (c : Option Ed) (at' : Int), k ≤ l.length ∧ iv = .int .i64 (k : Int) ∧ av = .int .i64 at' ∧ nv = .bool c.isNone ∧ Hid (Cg l k d c at' ∧ sw.Own wr w.heap.size u (d ++ c.toList) ∧ Bl w wr)) (fun _ _ _ _ _ iv _ => l.length - (intOf iv).toNat)
  case atStart => exact ⟨0, [], none, 0, Nat.zero_le _, rfl, rfl, rfl, Cg.zero l, sw.Own.nil _ _, Bl.refl _⟩
  case round =>
    obtain ⟨k, d, c, at', hk, rfl, rfl, rfl, H⟩ := hrel
    by_cases hlt : k < l.length
    · have hlz : (k : Int) < (l.length : Int) := by omega
      obtain ⟨x, rfl, c0, c1, c2⟩ := (HI.out.step H.out.2.2).at' k hlt
      obtain ⟨n0, n1, n2⟩ := hs.get k hlt
      have a0 := H.out.1.2.2.2.2.1
      have a1 := H.out.1.2.2.2.2.2
      have ab : at' ≤ 25000000 := by omega
      obtain ⟨E, hE⟩ : ∃ E, E = l[k] := ⟨_, rfl⟩
      rw [← hE] at c0 c1 c2 n0 n1 n2
      have HE : Hid (E = l[k]) := hE
      clear hE a1
      by_cases hw : E.w = 1
      · have HK := H.out.1.keep hs hlt (by rw [← HE.out]; exact hw)
        rw [← HE.out] at HK
        have HK' : Hid (Cg l (k + 1) (d ++ c.toList) none (at' + E.n)) := HK
        rw [hw] at c0
        clear HK
        go_wp2
        go_roundw
        case rel => exact ⟨k + 1, d ++ c.toList, none, _, hlt, by go_num, rfl, rfl, HK'.out, (by simpa using H.out.2.1.step ((Bl.refl _).alloc _)), H.out.2.2.trans ((Bl.refl _).alloc _)⟩
        case measure => simp [intOf]; omega
      · have hwb : (E.w == 1) = false := by rw [beq_eq_false_iff_ne]; exact hw
        obtain ⟨P, hP⟩ : ∃ P, P = wr.heap.size := ⟨_, rfl⟩
        obtain ⟨w1, hw1⟩ : ∃ w1, w1 = wr.alloc (.cells #[.int .i64 E.w, .int .i64 E.n, .string (tx E.t)] 38) := ⟨_, rfl⟩
        have hb1 : Bl wr w1 := by rw [hw1]; exact (Bl.refl _).alloc _
        have hp1 : w1.heap[P]? = some (.cells #[.int .i64 E.w, .int .i64 E.n, .string (tx E.t)] 38 (0, 0)) := by rw [hw1, hP]; exact heap_alloc_new wr _
        have eP : wr.heap.size = P := hP.symm
        have ew1 : wr.alloc (.cells #[.int .i64 E.w, .int .i64 E.n, .string (tx E.t)] 38) = w1 := hw1.symm
        cases c with
        | some X =>
          have HC := H.out.1.more hs hlt (by rw [← HE.out]; exact hw)
          rw [← HE.out] at HC
          have HC' : Hid (Cg l (k + 1) d (some ⟨X.w, at' + E.n, X.t ++ E.t⟩) (at' + E.n)) := HC
          have hXl : X.t.length ≤ 25000000 := by have := H.out.1.2.2.2.1 X rfl; omega
          have hdl : d.length ≤ 5000 := by have := H.out.1.2.2.1; simp at this; omega
          have HO1 : Hid (sw.Own w1 w.heap.size u3 (d ++ [X])) := H.out.2.1.step hb1
          obtain ⟨g, cap, hu3⟩ : ∃ g cap, u3 = .slice (some ⟨g, 0, none⟩) (d.length + 1) cap := by
            rcases HO1.out.shape with ⟨_, h2⟩ | ⟨g, cap, h1, _⟩
            · simp at h2
            · exact ⟨g, cap, by rw [h1]; simp⟩
          subst hu3
          have HO : Hid (sw.Own w1 w.heap.size (.slice (some ⟨g, 0, none⟩) (d.length + 1) cap) (d ++ [X])) := HO1.out
          have HP : Hid (w1.heap[P]? = some (.cells #[.int .i64 E.w, .int .i64 E.n, .string (tx E.t)] 38 (0, 0))) := hp1
          have HW : Hid (Bl w w1) := H.out.2.2.trans hb1
          have hkind : g ≠ P := fun e => by
            obtain ⟨cur, hc⟩ := HO.out.kind
            rw [e, HP.out] at hc
            injection hc with hc
            injection hc with _ hc
            exact absurd hc (by decide)
          have hPc : w1.cell? ⟨P, 2, none⟩ = some (.string (tx E.t)) := by rw [cell_of HP.out]; rfl
          have hP0 : w1.cell? ⟨P, 0, none⟩ = some (.int .i64 E.w) := by rw [cell_of HP.out]; rfl
          have hPn : w1.cell? ⟨P, 1, none⟩ = some (.int .i64 E.n) := by rw [cell_of HP.out]; rfl
          obtain ⟨r0, r1, r2⟩ := sw.rowE_last d X
          rcases HO.out.shape with ⟨hz, _⟩ | ⟨g', cap', hz, hbg, hgl, hcap, _, hfz, hcell⟩
          · cases hz
          simp only [Value.slice.injEq, Option.some.injEq, Addr.mk.injEq] at hz
          obtain ⟨⟨rfl, _, _⟩, hz2, rfl⟩ := hz
          have e1 := hcell _ _ r1
          have e2 := hcell _ _ r2
          have f1 := hfz (d.length * 3 + 1)
          have f2 := hfz (d.length * 3 + 2)
          obtain ⟨M, hM⟩ : ∃ M, M = d.length + 1 := ⟨_, rfl⟩
          obtain ⟨D, hD⟩ : ∃ D, D = d.length := ⟨_, rfl⟩
          have eM : (M : Int) - 1 = (D : Int) := by omega
          have hDM : (D : Int) < (M : Int) := by omega
          have hDb : D ≤ 5000 := by omega
          have hcat : tx X.t ++ tx E.t = tx (X.t ++ E.t) := tx_app _ _
          have hs1 : (tx X.t).size ≤ 25000000 := by rw [tx_size]; exact hXl
          have hs2 : (tx E.t).size ≤ 5000 := by rw [tx_size]; exact n2
          have HF : Hid (∀ ws : World, Bl (w1.setCell ⟨g, D * 3 + 2, none⟩ (.string (tx (X.t ++ E.t)))) ws → (sw.Own (ws.setCell ⟨g, D * 3 + 1, none⟩ (.int .i64 (at' + E.n))) w.heap.size (.slice (some ⟨g, 0, none⟩) M cap) (d ++ [⟨X.w, at' + E.n, X.t ++ E.t⟩]) ∧ Bl w (ws.setCell ⟨g, D * 3 + 1, none⟩ (.int .i64 (at' + E.n)))) ∧ ws.cell? ⟨g, D * 3 + 1, none⟩ = some (.int .i64 X.n) ∧ ws.frozen? ⟨g, D * 3 + 1, none⟩ = false ∧ ws.cell? ⟨P, 1, none⟩ = some (.int .i64 E.n)) := by
            intro ws hbs
            have ho := HO.out
            rw [show d.length + 1 = (d ++ [X]).length by simp] at ho
            have s1 := ho.set (l' := d ++ [⟨X.w, X.n, X.t ++ E.t⟩]) (by simp) (sw.rowE_last_t d X (X.t ++ E.t))
            rw [← hD] at s1
            have s1' := s1.step hbs
            have s2 := s1'.set (l' := d ++ [⟨X.w, at' + E.n, X.t ++ E.t⟩]) (by simp) (sw.rowE_last_n d ⟨X.w, X.n, X.t ++ E.t⟩ (at' + E.n))
            rw [← hD] at s2
            obtain ⟨_, q1, _⟩ := sw.rowE_last d ⟨X.w, X.n, X.t ++ E.t⟩
            rw [← hD] at q1
            have hP2 : (w1.setCell ⟨g, D * 3 + 2, none⟩ (.string (tx (X.t ++ E.t)))).heap[P]? = some (.cells #[.int .i64 E.w, .int .i64 E.n, .string (tx E.t)] 38 (0, 0)) := by
              have := HP.out
              simp [World.setCell, Array.getElem?_modify, hkind, this]
            refine ⟨⟨by rw [hM]; simpa using s2, ((HW.out.setCell (a := ⟨g, D * 3 + 2, none⟩) hbg _).trans hbs).setCell (a := ⟨g, D * 3 + 1, none⟩) hbg _⟩, ?_, ?_, ?_⟩
            · rcases s1'.shape with ⟨hz, _⟩ | ⟨g', cap', hz, _, _, _, _, _, hcell⟩
              · cases hz
              · simp only [Value.slice.injEq, Option.some.injEq, Addr.mk.injEq] at hz
                obtain ⟨⟨rfl, _, _⟩, _, rfl⟩ := hz
                exact hcell _ _ q1
            · obtain ⟨cur, hc⟩ := s1'.kind
              simp [World.frozen?, hc]
            · exact at_bl hbs (by rw [cell_of hP2]; rfl)
          rw [← hD] at e1 e2 f1 f2
          rw [← hM]
          clear hM hD HC HO1 HO HP HW hcell hfz hgl hcap r0 r1 r2 hz2 hp1 hb1 hP hw1 H
          go_wp2
          go_region
          generalize hws : (w1.setCell ⟨g, D * 3 + 2, none⟩ (.string (tx (X.t ++ E.t)))).drew = ws
          obtain ⟨F1, F2, F3, F4⟩ := HF.out ws (by rw [← hws]; exact Bl.drew (Bl.refl _))
          have HF' : Hid (_ ∧ _) := F1
          clear hws HF F1
          go_wp2
          go_roundw
          case rel => exact ⟨k + 1, d, some ⟨X.w, at' + E.n, X.t ++ E.t⟩, _, hlt, by go_num, rfl, rfl, HC'.out, HF'.out⟩
          case measure => simp [intOf]; omega
        | none =>
          have HC := H.out.1.first hs hlt (by rw [← HE.out]; exact hw)
          rw [← HE.out] at HC
          have HC' : Hid (Cg l (k + 1) d (some ⟨at', at' + E.n, E.t⟩) (at' + E.n)) := HC
          have hdl : d.length ≤ 5000 := by have := H.out.1.2.2.1; simp at this; omega
          have hfirst := H.out.1.2.1.1 rfl
          obtain ⟨Z, hZ⟩ : ∃ Z, Z = w1.heap.size := ⟨_, rfl⟩
          obtain ⟨w2, hw2⟩ : ∃ w2, w2 = w1.alloc (.cells #[.int .i64 at', .int .i64 at', .string ⟨#[]⟩] 74) := ⟨_, rfl⟩
          have hb2 : Bl w1 w2 := by rw [hw2]; exact (Bl.refl _).alloc _
          obtain ⟨X, hX⟩ : ∃ X : Ed, X = ⟨at', at', []⟩ := ⟨_, rfl⟩
          have ho1 : sw.Own wr w.heap.size u3 d := by simpa using H.out.2.1
          obtain ⟨v', w3, hr, ho3, hg3⟩ := sw.app_one w2 w.heap.size u3 d X Z ((ho1.step hb1).step hb2) (by rw [hw2, hZ, cell_of (heap_alloc_new w1 _), hX]; rfl) (by rw [hw2, hZ, cell_of (heap_alloc_new w1 _), hX]; rfl) (by rw [hw2, hZ, cell_of (heap_alloc_new w1 _), hX]; rfl) (by omega) (Nat.le_trans H.out.2.2.size (Nat.le_trans hb1.size hb2.size))
          have hp3 : w3.heap[P]? = some (.cells #[.int .i64 E.w, .int .i64 E.n, .string (tx E.t)] 38 (0, 0)) := by
            have hp2 : w2.heap[P]? = _ := (Below.block hb2 P (lt_of_heap hp1)).trans hp1
            rw [hg3.block P (lt_of_heap hp2) (fun e => by have := (ho1.block P e.symm).2; omega)]
            exact hp2
          have hb3 : Bl w w3 := bl_grown ((H.out.2.2.trans hb1).trans hb2) hg3 (fun q e => (ho1.block q e).1)
          have eZ : w1.heap.size = Z := hZ.symm
          have ew2 : w1.alloc (.cells #[.int .i64 at', .int .i64 at', .string ⟨#[]⟩] 74) = w2 := hw2.symm
          have HR : Hid _ := hr
          obtain ⟨g, cap, hu3⟩ : ∃ g cap, v' = .slice (some ⟨g, 0, none⟩) (d.length + 1) cap := by
            rcases ho3.shape with ⟨_, h2⟩ | ⟨g, cap, h1, _⟩
            · simp at h2
            · exact ⟨g, cap, by rw [h1]; simp⟩
          subst hu3
          have HO : Hid (sw.Own w3 w.heap.size (.slice (some ⟨g, 0, none⟩) (d.length + 1) cap) (d ++ [X])) := ho3
          have HP : Hid (w3.heap[P]? = some (.cells #[.int .i64 E.w, .int .i64 E.n, .string (tx E.t)] 38 (0, 0))) := hp3
          have HW : Hid (Bl w w3) := hb3
          have hkind : g ≠ P := fun e => by
            obtain ⟨cur, hc⟩ := HO.out.kind
            rw [e, HP.out] at hc
            injection hc with hc
            injection hc with _ hc
            exact absurd hc (by decide)
          have hPc : w3.cell? ⟨P, 2, none⟩ = some (.string (tx E.t)) := by rw [cell_of HP.out]; rfl
          have hP0 : w1.cell? ⟨P, 0, none⟩ = some (.int .i64 E.w) := by rw [cell_of hp1]; rfl
          have hPn : w3.cell? ⟨P, 1, none⟩ = some (.int .i64 E.n) := by rw [cell_of HP.out]; rfl
          obtain ⟨r0, r1, r2⟩ := sw.rowE_last d X
          rcases HO.out.shape with ⟨hz, _⟩ | ⟨g', cap', hz, hbg, hgl, hcap, _, hfz, hcell⟩
          · cases hz
          simp only [Value.slice.injEq, Option.some.injEq, Addr.mk.injEq] at hz
          obtain ⟨⟨rfl, _, _⟩, hz2, rfl⟩ := hz
          have e1 := hcell _ _ r1
          have e2 := hcell _ _ r2
          have f1 := hfz (d.length * 3 + 1)
          have f2 := hfz (d.length * 3 + 2)
          obtain ⟨M, hM⟩ : ∃ M, M = d.length + 1 := ⟨_, rfl⟩
          obtain ⟨D, hD⟩ : ∃ D, D = d.length := ⟨_, rfl⟩
          have eM : (M : Int) - 1 = (D : Int) := by omega
          have hDM : (D : Int) < (M : Int) := by omega
          have hDb : D ≤ 5000 := by omega
          have hcat : tx X.t ++ tx E.t = tx (X.t ++ E.t) := tx_app _ _
          have hs1 : (tx X.t).size ≤ 25000000 := by rw [tx_size]; rw [hX]; simp
          have hs2 : (tx E.t).size ≤ 5000 := by rw [tx_size]; exact n2
          have HF : Hid (∀ ws : World, Bl (w3.setCell ⟨g, D * 3 + 2, none⟩ (.string (tx (X.t ++ E.t)))) ws → (sw.Own (ws.setCell ⟨g, D * 3 + 1, none⟩ (.int .i64 (at' + E.n))) w.heap.size (.slice (some ⟨g, 0, none⟩) M cap) (d ++ [⟨X.w, at' + E.n, X.t ++ E.t⟩]) ∧ Bl w (ws.setCell ⟨g, D * 3 + 1, none⟩ (.int .i64 (at' + E.n)))) ∧ ws.cell? ⟨g, D * 3 + 1, none⟩ = some (.int .i64 X.n) ∧ ws.frozen? ⟨g, D * 3 + 1, none⟩ = false ∧ ws.cell? ⟨P, 1, none⟩ = some (.int .i64 E.n)) := by
            intro ws hbs
            have ho := HO.out
            rw [show d.length + 1 = (d ++ [X]).length by simp] at ho
            have s1 := ho.set (l' := d ++ [⟨X.w, X.n, X.t ++ E.t⟩]) (by simp) (sw.rowE_last_t d X (X.t ++ E.t))
            rw [← hD] at s1
            have s1' := s1.step hbs
            have s2 := s1'.set (l' := d ++ [⟨X.w, at' + E.n, X.t ++ E.t⟩]) (by simp) (sw.rowE_last_n d ⟨X.w, X.n, X.t ++ E.t⟩ (at' + E.n))
            rw [← hD] at s2
            obtain ⟨_, q1, _⟩ := sw.rowE_last d ⟨X.w, X.n, X.t ++ E.t⟩
            rw [← hD] at q1
            have hP2 : (w3.setCell ⟨g, D * 3 + 2, none⟩ (.string (tx (X.t ++ E.t)))).heap[P]? = some (.cells #[.int .i64 E.w, .int .i64 E.n, .string (tx E.t)] 38 (0, 0)) := by
              have := HP.out
              simp [World.setCell, Array.getElem?_modify, hkind, this]
            refine ⟨⟨by rw [hM]; simpa using s2, ((HW.out.setCell (a := ⟨g, D * 3 + 2, none⟩) hbg _).trans hbs).setCell (a := ⟨g, D * 3 + 1, none⟩) hbg _⟩, ?_, ?_, ?_⟩
            · rcases s1'.shape with ⟨hz, _⟩ | ⟨g', cap', hz, _, _, _, _, _, hcell⟩
              · cases hz
              · simp only [Value.slice.injEq, Option.some.injEq, Addr.mk.injEq] at hz
                obtain ⟨⟨rfl, _, _⟩, _, rfl⟩ := hz
                exact hcell _ _ q1
            · obtain ⟨cur, hc⟩ := s1'.kind
              simp [World.frozen?, hc]
            · exact at_bl hbs (by rw [cell_of hP2]; rfl)
          rw [← hD] at e1 e2 f1 f2
          rw [← hM] at HR
          have HRz : Hid _ := HR.out
          have hXe : tx X.t = ⟨#[]⟩ := by rw [hX]; rfl
          have hcat2 : tx (X.t ++ E.t) = tx E.t := by rw [hX]; rfl
          rw [hcat2] at hcat HF
          have hXw : (⟨X.w, at' + E.n, X.t ++ E.t⟩ : Ed) = ⟨at', at' + E.n, E.t⟩ := by rw [hX]; rfl
          rw [hXw] at HF
          rw [hXe] at e2 hcat hs1
          have hXn : X.n = at' := by rw [hX]
          rw [hXn] at e1
          clear hXe hXn hcat2 hXw
          clear hM hD HC HO HP HW hcell hfz hgl hcap r0 r1 r2 hz2 hp1 hb1 hP hw1 H hZ hw2 hb2 hX ho1 hr ho3 hg3 hp3 hb3 hfirst
          go_wp2_with (at_builtin; refine Lib.wpList_append_run _ rfl (.tmp 23) (.tmp 27) _ _ rfl _ _ rfl rfl _ _ HRz.out ?_)
          go_region
          generalize hws : (w3.setCell ⟨g, D * 3 + 2, none⟩ (.string (tx E.t))).drew = ws
          obtain ⟨F1, F2, F3, F4⟩ := HF.out ws (by rw [← hws]; exact Bl.drew (Bl.refl _))
          have HF' : Hid (_ ∧ _) := F1
          clear hws HF F1
          go_wp2
          go_roundw
          case rel => exact ⟨k + 1, d, some ⟨at', at' + E.n, E.t⟩, _, hlt, by go_num, rfl, rfl, HC'.out, HF'.out⟩
          case measure => simp [intOf]; omega
    · obtain rfl : k = l.length := by omega
      have hd : d ++ c.toList = chg l := by
        have := H.out.1.1
        rw [List.drop_of_length_le (Nat.le_refl _)] at this
        simpa [cgo] using this
      have HF : Hid (sw.Own wr w.heap.size u3 (chg l) ∧ Bl w wr) := by rw [← hd]; exact H.out.2
      go_wp2
      go_ret
      exact ⟨_, rfl, HF.out⟩
end Go.Proofs.YtoiiphkcpdphbaaDoor.df
