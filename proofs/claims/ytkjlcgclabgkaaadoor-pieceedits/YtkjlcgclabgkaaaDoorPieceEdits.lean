/- What is proved: whatever edits, right and wrong, are made of a text and of what was made of it, each text in pieces is, for good, what the document has: its length, all of it, any part of it, any byte; and wrong ones are told as the document asks. Condition: the row's own premise on errors.errorType, tied by the card. -/
import Derived.Test.YtkjlcgclabgkaaaDoorRows
import Derived.WalkKit
import Derived.ProofKit
import Derived.OpenShut
import Derived.SizedLaws
import Derived.Test.YtkjlcgclabgkaaaDoorLaid
import Derived.Test.YtkjlcgclabgkaaaDoorTie
import Derived.Test.YtkjlcgclabgkaaaDoorCards
import Derived.SevenTiedAt
import Derived.Test.YtkjlcgclabgkaaaDoorPcH
import Derived.Test.YtkjlcgclabgkaaaDoorBare
import Derived.ShutString
import Derived.ChangeOld
import Derived.Below
namespace Go.Proofs.YtkjlcgclabgkaaaDoor.pieceEdits
open Go.ChangeShapes Go.WideShapes Go.ChangeAt Go.RowKit
open Go.ChangeMaps (open_string shut_string)
set_option linter.unusedVariables false

theorem own : ownKnob Tryd.prog.godebug = none := by kernel_rfl
theorem laidOut : laidOutB Tryd.prog = true := by kernel_rfl

/-- WHAT THE WALK IS TOLD OF A SLICE OF INTEGERS THAT CAME IN: it is nil; or it leads to a row of 'cap' cells, the numbers 'zs' (the first 'len' are its elements, the rest its spare room), each fitting its kind. -/
def IsRow (k : IntKind) (w : World) (a : Option Addr) (len cap : Nat) (zs : List Int) : Prop :=
  (a = none ∧ len = 0 ∧ cap = 0 ∧ zs = []) ∨
  ∃ x, a = some x ∧ len ≤ cap ∧ cap ≤ maxLen ∧ zs.length = cap ∧ (∀ i, i < zs.length → w.cell? (x.add i) = some (.int k (zs.getD i 0))) ∧ ∀ n ∈ zs, (Lit.int k n).wf = true

open mem pc errs
theorem add_cell {w : World} {x : Addr} {m j : Nat} {v : Value} (h : j ≠ 0) (e : w.cell? (x.add (m + j)) = some v) : w.cell? ⟨(x.add m).block, (x.add m).off + j, none⟩ = some v := by
  have e2 : x.add (m + j) = ⟨(x.add m).block, (x.add m).off + j, none⟩ := by
    rw [← Go.Deep.add_add]
    simp [Addr.add, h]
  rw [← e2]
  exact e
theorem slice_tx (p : Option Addr) (t : Tr) (R : ByteArray) (f g : Nat) (w : World) (h : Is w p t) (k : Tx R.data.toList t) (h1 : f ≤ g) (h2 : g ≤ R.size) :
    Calls Tryd.prog 9 #[.agg #[.pointer p], .int .i64 (f : Int), .int .i64 (g : Int)] w fun e w' => e = .returned (.tuple #[.string (R.extract f g), .nilIface]) ∧ Bl w w' :=
  (Slice_at p t f g w h k.f h1 (by rw [k.tot, bs_len]; exact h2)).mono fun e w' ⟨he, hb⟩ => ⟨by
    rw [he, k.c, show R.extract f g = ⟨((R.data.toList.take g).drop f).toArray⟩ from ByteArray.ext (Array.ext' (by rw [ex_bytes]))], hb⟩
theorem bs_app' (a b : ByteArray) : (a ++ b).data.toList = a.data.toList ++ b.data.toList := by simp
theorem keep_alloc {w : World} {o : Obj} {g K b : Nat} {v1 v2 v3 v4 : Value} (h : w.cell? ⟨g, K, none⟩ = some v1 ∧ w.cell? ⟨b, 1, none⟩ = some v2 ∧ w.cell? ⟨b, 2, none⟩ = some v3 ∧ w.cell? ⟨b, 3, none⟩ = some v4) :
    (w.alloc o).cell? ⟨g, K, none⟩ = some v1 ∧ (w.alloc o).cell? ⟨b, 1, none⟩ = some v2 ∧ (w.alloc o).cell? ⟨b, 2, none⟩ = some v3 ∧ (w.alloc o).cell? ⟨b, 3, none⟩ = some v4 :=
  ⟨cell_bl ((Bl.refl _).alloc _) h.1, cell_bl ((Bl.refl _).alloc _) h.2.1, cell_bl ((Bl.refl _).alloc _) h.2.2.1, cell_bl ((Bl.refl _).alloc _) h.2.2.2⟩
theorem keep_set {w : World} {c g K b : Nat} {u v1 v2 v3 v4 : Value} (h : w.cell? ⟨g, K, none⟩ = some v1 ∧ w.cell? ⟨b, 1, none⟩ = some v2 ∧ w.cell? ⟨b, 2, none⟩ = some v3 ∧ w.cell? ⟨b, 3, none⟩ = some v4) (n1 : c ≠ g) (n2 : c ≠ b) :
    (w.setCell ⟨c, 0, none⟩ u).cell? ⟨g, K, none⟩ = some v1 ∧ (w.setCell ⟨c, 0, none⟩ u).cell? ⟨b, 1, none⟩ = some v2 ∧ (w.setCell ⟨c, 0, none⟩ u).cell? ⟨b, 2, none⟩ = some v3 ∧ (w.setCell ⟨c, 0, none⟩ u).cell? ⟨b, 3, none⟩ = some v4 :=
  ⟨(World.cell?_setCell_far _ _ _ _ n1).trans h.1, (World.cell?_setCell_far _ _ _ _ n2).trans h.2.1, (World.cell?_setCell_far _ _ _ _ n2).trans h.2.2.1, (World.cell?_setCell_far _ _ _ _ n2).trans h.2.2.2⟩
theorem laid_bl {w w' : World} (h : Laid w) (g : Bl w w') : Laid w' := by
  have hp := h.pos
  unfold Laid at h ⊢
  unfold World.cell? at h ⊢
  rw [Below.block g _ hp]
  exact h
set_option maxHeartbeats 40000000 in
set_option maxRecDepth 100000 in
theorem walk (a0 : ByteArray) (a1 : Option Addr) (len1 cap1 : Nat) (z1 : List pc.Cg) (a2 : Int) (a3 : Int) (w : World) (w0 : a0.size ≤ maxLen) (w1 : pc.IsCh w a1 len1 cap1 z1) (w2 : (Lit.int .i64 a2).wf = true) (w3 : (Lit.int .i64 a3).wf = true) (hg : errs.Laid w) :
    Calls Tryd.prog 3 #[.string a0, .slice a1 len1 cap1, .int .i64 a2, .int .i64 a3] w fun e w' => e = .returned (.bool true) ∧ Below w.heap.size w w' := by
  obtain ⟨hl1, hin⟩ := w1
  subst hl1
  have f2 := bounds_i64 w2
  have f3 := bounds_i64 w3
  clear w2 w3
  by_cases hs : a0.size ≤ 300 ∧ z1.length ≤ 40
  · obtain ⟨hs0, hs1⟩ := hs
    have hz0 : (a0.size : Int) ≤ 300 := by omega
    have hz1 : (z1.length : Int) ≤ 40 := by omega
    have hz0n : ¬ 300 < a0.size := by omega
    have hz1n : ¬ 40 < z1.length := by omega
    have cO := fun w => Of_at a0 w (by omega)
    go_enter Tryd.func3, Tryd.ntmps3
    go_wp2_with (first
      | (go_at_call 4; refine (cO _).mono ?_; clear cO; rintro e v1 ⟨p, t, rfl, hi, hx, hb1⟩))
    have V1 := (Bl.refl v1).alloc (.cells #[.pointer p] 26)
    have B1 : Bl w (v1.alloc (.cells #[.pointer p] 26)) := (((Bl.refl w).alloc _).trans hb1).trans V1
    have sv : w.heap.size < v1.heap.size := by have := hb1.size; simp at this; omega
    have hTw : Tw (v1.alloc (.cells #[.pointer p] 26)) w.heap.size (.slice (some ⟨w.heap.size, 0, none⟩) 1 1) [a0] (.slice (some ⟨v1.heap.size, 0, none⟩) 1 1) [p] :=
      ⟨(rs_one w w.heap.size a0 (Nat.le_refl _)).step (hb1.trans V1), rt_one v1 w.heap.size p (by omega), fun k e e' => by simp [Value.ownBlock] at e e'; omega, B1.size⟩
    have hPr : Pair (v1.alloc (.cells #[.pointer p] 26)) [a0] [p] := ⟨rfl, fun j hj => by
      obtain rfl : j = 0 := by simp at hj; omega
      exact ⟨by show a0.size ≤ 4000; omega, t, hi.bl V1, hx⟩⟩
    clear hi hx V1 hb1
    go_loopw [9, 10, 11] (fun x1 x2 i wr => ∃ (k : Nat) (A : List ByteArray) (Q : List (Option Addr)), k ≤ z1.length ∧ i = .int .i64 (k : Int) ∧ 0 < A.length ∧ A.length ≤ k + 1 ∧ Pair wr A Q ∧ Tw wr w.heap.size x1 A x2 Q ∧ Bl w wr) (fun x1 x2 i wr => z1.length - (intOf i).toNat)
    case atStart => exact ⟨0, [a0], [p], Nat.zero_le _, rfl, by simp, by simp, hPr, hTw, B1⟩
    case round =>
      clear hPr hTw B1 sv
      obtain ⟨k, A, Q, hk, rfl, hA0, hA1, hP, hT, hB⟩ := hrel
      by_cases hkl : k < z1.length
      · obtain ⟨x, rfl, e0, e1, e2, e3, ⟨b0, b1, b2⟩, _⟩ := hin k hkl
        obtain ⟨Z, hZ⟩ : ∃ Z, Z = z1.getD k default := ⟨_, rfl⟩
        rw [← hZ] at e0 e1 e2 e3 b0 b1 b2
        obtain ⟨zk, za, zo, zs⟩ := Z
        dsimp only at e0 e1 e2 e3 b0 b1 b2
        have c0 := cell_bl hB e0
        have c1 := cell_bl hB (add_cell (m := k * 4) (j := 1) (by omega) e1)
        have c2 := cell_bl hB (add_cell (m := k * 4) (j := 2) (by omega) e2)
        have c3 := cell_bl hB (add_cell (m := k * 4) (j := 3) (by omega) e3)
        have g0 := bounds_i64 b0
        have g1 := bounds_i64 b1
        have g2 := bounds_i64 b2
        have hklI : (k : Int) < (z1.length : Int) := by omega
        have hk0 : (0 : Int) ≤ (k : Int) := by omega
        clear hZ e0 e1 e2 e3 b0 b1 b2 hin
        rcases hT.a.shape with ⟨_, hnil⟩ | ⟨ga, capa, rfl, ha1, ha2, ha3, ha4, hac⟩
        · rw [hnil] at hA0; simp at hA0
        rcases hT.b.shape with ⟨_, hnil⟩ | ⟨gq, capq, rfl, hq1, hq2, hq3, hq4, hqc⟩
        · rw [hP.1, hnil] at hA0; simp at hA0
        by_cases hz : (200 < zs.size ∧ zs.size ≤ 4000) ∨ 4009 < zs.size
        · rcases hz with ⟨hz1', hz2'⟩ | hz1'
          · have hzI : (200 : Int) < (zs.size : Int) := by omega
            have hzJ : (zs.size : Int) ≤ 4000 := by omega
            go_wp2
            go_ret
            exact ⟨rfl, hB.alloc _⟩
          · have hzI : (4009 : Int) < (zs.size : Int) := by omega
            have hzJ : ¬ (zs.size : Int) ≤ 4000 := by omega
            have hzK : (200 : Int) < (zs.size : Int) := by omega
            go_wp2
            go_ret
            exact ⟨rfl, hB.alloc _⟩
        · rcases (show zs.size ≤ 200 ∨ (4000 < zs.size ∧ zs.size ≤ 4009) by omega) with hz1' | ⟨hz1', hz2'⟩
          · have hzI : (zs.size : Int) ≤ 200 := by omega
            by_cases hr : za < 0 ∨ zo < 0 ∨ (((A.getD (pkn zk A.length) ⟨#[]⟩).size : Nat) : Int) - za < zo
            · as_aux_lemma =>
                obtain ⟨KK, hKK⟩ : ∃ KK, KK = pkn zk A.length := ⟨_, rfl⟩
                have hKK1 : KK < A.length := by rw [hKK]; exact pkn_lt _ _ hA0
                have hmod : wrap64 ((IntKind.u64.wrap zk).tmod (A.length : Int)) = (KK : Int) := by
                  have h0 : 0 ≤ zk % 18446744073709551616 := by omega
                  have h1 := pkn_lt zk A.length hA0
                  have h2 := Int.emod_nonneg (zk % 18446744073709551616) (show (A.length : Int) ≠ 0 by omega)
                  rw [IntKind.wrap_u64, Int.tmod_eq_emod_of_nonneg h0, hKK]
                  unfold pkn at h1 ⊢
                  unfold wrap64
                  omega
                obtain ⟨AA, hAA⟩ : ∃ AA, AA = A.getD KK ⟨#[]⟩ := ⟨_, rfl⟩
                obtain ⟨q, hq⟩ : ∃ q, q = Q.getD KK none := ⟨_, rfl⟩
                obtain ⟨hAs, t', hi, hTx⟩ := hP.2 KK hKK1
                rw [← hKK, ← hAA] at hr
                rw [← hAA] at hAs hTx
                rw [← hq] at hi
                have ca := hac KK hKK1
                have cq := hqc KK (by rw [← hP.1]; exact hKK1)
                rw [← hAA] at ca
                rw [← hq] at cq
                have hT4 := hTx.tot
                rw [bs_len] at hT4
                have HF : Hid (_ ∧ _) := ⟨f2, f3⟩
                have W1b : Bl wr (wr.alloc (.cells #[.int .i64 zk, .int .i64 za, .int .i64 zo, .string zs] 30)) := (Bl.refl wr).alloc _
                have HC : Hid (∀ w', Bl (wr.alloc (.cells #[.int .i64 zk, .int .i64 za, .int .i64 zo, .string zs] 30)) w' → (w'.cell? ⟨gq, KK, none⟩ = some (.pointer q) ∧ w'.cell? ⟨wr.heap.size, 1, none⟩ = some (.int .i64 za) ∧ w'.cell? ⟨wr.heap.size, 2, none⟩ = some (.int .i64 zo) ∧ w'.cell? ⟨wr.heap.size, 3, none⟩ = some (.string zs))) := fun w' h => ⟨cell_bl (W1b.trans h) cq, cell_bl h (by simp only [World.cell?, heap_new]; rfl), cell_bl h (by simp only [World.cell?, heap_new]; rfl), cell_bl h (by simp only [World.cell?, heap_new]; rfl)⟩
                have ca1 := cell_bl W1b ca
                have i1 : (0 : Int) ≤ (KK : Int) := by omega
                have i2 : (KK : Int) < (A.length : Int) := by omega
                have i3 : (KK : Int) < (Q.length : Int) := by rw [← hP.1]; omega
                have i4 : (0 : Int) < (A.length : Int) := by omega
                clear hKK hAA hq
                have cE := fun w' (h : Bl wr w') => Edit_range q t' za zo zs w' (hi.bl h) (by omega) (by omega) (by omega)
                go_wp2
                have HBd : Bl (wr.alloc (.cells #[.int .i64 zk, .int .i64 za, .int .i64 zo, .string zs] 30)) (wr.alloc (.cells #[.int .i64 zk, .int .i64 za, .int .i64 zo, .string zs] 30)).drew := (Bl.refl _).drew
                obtain ⟨W1, hW1⟩ : ∃ W1, W1 = wr.alloc (.cells #[.int .i64 zk, .int .i64 za, .int .i64 zo, .string zs] 30) := ⟨_, rfl⟩
                rw [← hW1] at HBd HC W1b ⊢
                have HW1s : Hid (W1.heap.size = wr.heap.size + 1) := by unfold Hid; rw [hW1]; simp
                clear hW1 ca1
                have HBa : Bl W1 (W1.alloc (.cells #[.pointer none] 26)).drew := ((Bl.refl W1).alloc _).drew
                have hs1' := HC.out _ (Bl.refl W1)
                have hsd := HC.out _ HBd
                have hq5 := hs1'.1
                go_region_held3 (fun w' => w'.cell? ⟨gq, KK, none⟩ = some (.pointer q) ∧ w'.cell? ⟨wr.heap.size, 1, none⟩ = some (.int .i64 za) ∧ w'.cell? ⟨wr.heap.size, 2, none⟩ = some (.int .i64 zo) ∧ w'.cell? ⟨wr.heap.size, 3, none⟩ = some (.string zs)) (first | assumption | exact keep_alloc (by assumption) | exact keep_set (by assumption) (by have := HW1s.out; omega) (by have := HW1s.out; omega)) (first
                  | (go_at_call 5; with_reducible refine (cE _ (W1b.trans HBd)).mono ?_; clear cE; rintro e w6 ⟨rfl, hb6⟩; have HB6 := HBd.trans hb6; have hs6 := HC.out _ HB6)
                  | (go_at_call 5; with_reducible refine (cE _ (W1b.trans HBa)).mono ?_; clear cE; rintro e w6 ⟨rfl, hb6⟩; have HB6 := HBa.trans hb6; have hs6 := HC.out _ HB6; have y6 := (Bx.new W1 (.pointer none) 26).bl (((Bl.refl _).drew).trans hb6); have y6c := y6.cell; have y6f := y6.frozen))
                · obtain ⟨W7, hW7⟩ : ∃ W7, W7 = w6.alloc (.cells #[.pointer none] 26) := ⟨_, rfl⟩
                  have Q7 : Bl W1 W7 := by rw [hW7]; exact HB6.alloc _
                  rw [← hW7]
                  clear hW7 hs6 hb6 HB6
                  obtain ⟨_, d1, d2, d3⟩ := HC.out _ Q7
                  have LW : Laid W7 := laid_bl hg (hB.trans (W1b.trans Q7))
                  have cB := bare_errno 2 2 W7 LW
                  rw [show ((2 : Int) == 2) = true from rfl] at cB
                  have hsw : IntKind.i64.wrap ((AA.size : Int) - za) = (AA.size : Int) - za ∨ za < 0 := by by_cases h : za < 0; exact .inr h; exact .inl (by rw [IntKind.wrap_i64]; omega)
                  rcases (show za < 0 ∨ (0 ≤ za ∧ (zo < 0 ∨ (0 ≤ zo ∧ ((AA.size : Int) < za ∨ (za ≤ (AA.size : Int) ∧ (AA.size : Int) - za < zo))))) by omega) with r1 | ⟨r1, r2 | ⟨r2, r3 | ⟨r3, r4⟩⟩⟩
                  · go_wp2_with (go_at_call 6; refine cB.mono ?_; clear cB; rintro e w8 ⟨rfl, gb8⟩)
                    have B8 : Bl wr w8 := (W1b.trans Q7).trans gb8.bl
                    exact ⟨⟨k + 1, A, Q, by omega, by simp, hA0, by omega, hP.bl B8, hT.step B8, hB.trans B8⟩, by simp [intOf]; omega⟩

                  · go_wp2_with (go_at_call 6; refine cB.mono ?_; clear cB; rintro e w8 ⟨rfl, gb8⟩)
                    have B8 : Bl wr w8 := (W1b.trans Q7).trans gb8.bl
                    exact ⟨⟨k + 1, A, Q, by omega, by simp, hA0, by omega, hP.bl B8, hT.step B8, hB.trans B8⟩, by simp [intOf]; omega⟩

                  · go_wp2_with (go_at_call 6; refine cB.mono ?_; clear cB; rintro e w8 ⟨rfl, gb8⟩)
                    have B8 : Bl wr w8 := (W1b.trans Q7).trans gb8.bl
                    exact ⟨⟨k + 1, A, Q, by omega, by simp, hA0, by omega, hP.bl B8, hT.step B8, hB.trans B8⟩, by simp [intOf]; omega⟩

                  · have hws : IntKind.i64.wrap ((AA.size : Int) - za) = (AA.size : Int) - za := by rcases hsw with h | h; exact h; omega
                    go_wp2_with (go_at_call 6; refine cB.mono ?_; clear cB; rintro e w8 ⟨rfl, gb8⟩)
                    have B8 : Bl wr w8 := (W1b.trans Q7).trans gb8.bl
                    exact ⟨⟨k + 1, A, Q, by omega, by simp, hA0, by omega, hP.bl B8, hT.step B8, hB.trans B8⟩, by simp [intOf]; omega⟩


                · obtain ⟨W7, hW7⟩ : ∃ W7, W7 = w6.setCell ⟨W1.heap.size, 0, none⟩ (.pointer none) := ⟨_, rfl⟩
                  have Q7 : Bl W1 W7 := by rw [hW7]; exact HB6.setCell (Nat.le_refl _) _
                  rw [← hW7]
                  clear hW7 hs6 hb6 HB6
                  obtain ⟨_, d1, d2, d3⟩ := HC.out _ Q7
                  have LW : Laid W7 := laid_bl hg (hB.trans (W1b.trans Q7))
                  have cB := bare_errno 2 2 W7 LW
                  rw [show ((2 : Int) == 2) = true from rfl] at cB
                  have hsw : IntKind.i64.wrap ((AA.size : Int) - za) = (AA.size : Int) - za ∨ za < 0 := by by_cases h : za < 0; exact .inr h; exact .inl (by rw [IntKind.wrap_i64]; omega)
                  rcases (show za < 0 ∨ (0 ≤ za ∧ (zo < 0 ∨ (0 ≤ zo ∧ ((AA.size : Int) < za ∨ (za ≤ (AA.size : Int) ∧ (AA.size : Int) - za < zo))))) by omega) with r1 | ⟨r1, r2 | ⟨r2, r3 | ⟨r3, r4⟩⟩⟩
                  · go_wp2_with (go_at_call 6; refine cB.mono ?_; clear cB; rintro e w8 ⟨rfl, gb8⟩)
                    have B8 : Bl wr w8 := (W1b.trans Q7).trans gb8.bl
                    exact ⟨⟨k + 1, A, Q, by omega, by simp, hA0, by omega, hP.bl B8, hT.step B8, hB.trans B8⟩, by simp [intOf]; omega⟩

                  · go_wp2_with (go_at_call 6; refine cB.mono ?_; clear cB; rintro e w8 ⟨rfl, gb8⟩)
                    have B8 : Bl wr w8 := (W1b.trans Q7).trans gb8.bl
                    exact ⟨⟨k + 1, A, Q, by omega, by simp, hA0, by omega, hP.bl B8, hT.step B8, hB.trans B8⟩, by simp [intOf]; omega⟩

                  · go_wp2_with (go_at_call 6; refine cB.mono ?_; clear cB; rintro e w8 ⟨rfl, gb8⟩)
                    have B8 : Bl wr w8 := (W1b.trans Q7).trans gb8.bl
                    exact ⟨⟨k + 1, A, Q, by omega, by simp, hA0, by omega, hP.bl B8, hT.step B8, hB.trans B8⟩, by simp [intOf]; omega⟩

                  · have hws : IntKind.i64.wrap ((AA.size : Int) - za) = (AA.size : Int) - za := by rcases hsw with h | h; exact h; omega
                    go_wp2_with (go_at_call 6; refine cB.mono ?_; clear cB; rintro e w8 ⟨rfl, gb8⟩)
                    have B8 : Bl wr w8 := (W1b.trans Q7).trans gb8.bl
                    exact ⟨⟨k + 1, A, Q, by omega, by simp, hA0, by omega, hP.bl B8, hT.step B8, hB.trans B8⟩, by simp [intOf]; omega⟩



            · by_cases hu : 4000 < (((A.getD (pkn zk A.length) ⟨#[]⟩).size : Nat) : Int) - zo + (zs.size : Int)
              · as_aux_lemma =>
                  obtain ⟨KK, hKK⟩ : ∃ KK, KK = pkn zk A.length := ⟨_, rfl⟩
                  have hKK1 : KK < A.length := by rw [hKK]; exact pkn_lt _ _ hA0
                  have hmod : wrap64 ((IntKind.u64.wrap zk).tmod (A.length : Int)) = (KK : Int) := by
                    have h0 : 0 ≤ zk % 18446744073709551616 := by omega
                    have h1 := pkn_lt zk A.length hA0
                    have h2 := Int.emod_nonneg (zk % 18446744073709551616) (show (A.length : Int) ≠ 0 by omega)
                    rw [IntKind.wrap_u64, Int.tmod_eq_emod_of_nonneg h0, hKK]
                    unfold pkn at h1 ⊢
                    unfold wrap64
                    omega
                  obtain ⟨AA, hAA⟩ : ∃ AA, AA = A.getD KK ⟨#[]⟩ := ⟨_, rfl⟩
                  obtain ⟨q, hq⟩ : ∃ q, q = Q.getD KK none := ⟨_, rfl⟩
                  obtain ⟨hAs, t', hi, hTx⟩ := hP.2 KK hKK1
                  rw [← hKK, ← hAA] at hr hu
                  rw [← hAA] at hAs hTx
                  rw [← hq] at hi
                  have ca := hac KK hKK1
                  have cq := hqc KK (by rw [← hP.1]; exact hKK1)
                  rw [← hAA] at ca
                  rw [← hq] at cq
                  have hT4 := hTx.tot
                  rw [bs_len] at hT4
                  have HF : Hid (_ ∧ _) := ⟨f2, f3⟩
                  have W1b : Bl wr (wr.alloc (.cells #[.int .i64 zk, .int .i64 za, .int .i64 zo, .string zs] 30)) := (Bl.refl wr).alloc _
                  have HC : Hid (∀ w', Bl (wr.alloc (.cells #[.int .i64 zk, .int .i64 za, .int .i64 zo, .string zs] 30)) w' → (w'.cell? ⟨gq, KK, none⟩ = some (.pointer q) ∧ w'.cell? ⟨wr.heap.size, 1, none⟩ = some (.int .i64 za) ∧ w'.cell? ⟨wr.heap.size, 2, none⟩ = some (.int .i64 zo) ∧ w'.cell? ⟨wr.heap.size, 3, none⟩ = some (.string zs))) := fun w' h => ⟨cell_bl (W1b.trans h) cq, cell_bl h (by simp only [World.cell?, heap_new]; rfl), cell_bl h (by simp only [World.cell?, heap_new]; rfl), cell_bl h (by simp only [World.cell?, heap_new]; rfl)⟩
                  have ca1 := cell_bl W1b ca
                  have i1 : (0 : Int) ≤ (KK : Int) := by omega
                  have i2 : (KK : Int) < (A.length : Int) := by omega
                  have i3 : (KK : Int) < (Q.length : Int) := by rw [← hP.1]; omega
                  have i4 : (0 : Int) < (A.length : Int) := by omega
                  clear hKK hAA hq
                  have cE := fun w' (h : Bl wr w') => Edit_full q t' za zo zs w' (hi.bl h) (by omega) (by omega) (by omega) (by rw [hT4]; omega) (by omega) (by rw [hT4]; omega)
                  go_wp2
                  have HBd : Bl (wr.alloc (.cells #[.int .i64 zk, .int .i64 za, .int .i64 zo, .string zs] 30)) (wr.alloc (.cells #[.int .i64 zk, .int .i64 za, .int .i64 zo, .string zs] 30)).drew := (Bl.refl _).drew
                  obtain ⟨W1, hW1⟩ : ∃ W1, W1 = wr.alloc (.cells #[.int .i64 zk, .int .i64 za, .int .i64 zo, .string zs] 30) := ⟨_, rfl⟩
                  rw [← hW1] at HBd HC W1b ⊢
                  have HW1s : Hid (W1.heap.size = wr.heap.size + 1) := by unfold Hid; rw [hW1]; simp
                  clear hW1 ca1
                  have HBa : Bl W1 (W1.alloc (.cells #[.pointer none] 26)).drew := ((Bl.refl W1).alloc _).drew
                  have hs1' := HC.out _ (Bl.refl W1)
                  have hsd := HC.out _ HBd
                  have hq5 := hs1'.1
                  go_region_held3 (fun w' => w'.cell? ⟨gq, KK, none⟩ = some (.pointer q) ∧ w'.cell? ⟨wr.heap.size, 1, none⟩ = some (.int .i64 za) ∧ w'.cell? ⟨wr.heap.size, 2, none⟩ = some (.int .i64 zo) ∧ w'.cell? ⟨wr.heap.size, 3, none⟩ = some (.string zs)) (first | assumption | exact keep_alloc (by assumption) | exact keep_set (by assumption) (by have := HW1s.out; omega) (by have := HW1s.out; omega)) (first
                    | (go_at_call 5; with_reducible refine (cE _ (W1b.trans HBd)).mono ?_; clear cE; rintro e w6 ⟨rfl, hb6⟩; have HB6 := HBd.trans hb6; have hs6 := HC.out _ HB6)
                    | (go_at_call 5; with_reducible refine (cE _ (W1b.trans HBa)).mono ?_; clear cE; rintro e w6 ⟨rfl, hb6⟩; have HB6 := HBa.trans hb6; have hs6 := HC.out _ HB6; have y6 := (Bx.new W1 (.pointer none) 26).bl (((Bl.refl _).drew).trans hb6); have y6c := y6.cell; have y6f := y6.frozen))
                  · obtain ⟨W7, hW7⟩ : ∃ W7, W7 = w6.alloc (.cells #[.pointer none] 26) := ⟨_, rfl⟩
                    have Q7 : Bl W1 W7 := by rw [hW7]; exact HB6.alloc _
                    rw [← hW7]
                    clear hW7 hs6 hb6 HB6
                    obtain ⟨_, d1, d2, d3⟩ := HC.out _ Q7
                    have LW : Laid W7 := laid_bl hg (hB.trans (W1b.trans Q7))
                    have cB := bare_errno 12 12 W7 LW
                    rw [show ((12 : Int) == 12) = true from rfl] at cB
                    have hws : IntKind.i64.wrap ((AA.size : Int) - za) = (AA.size : Int) - za := by rw [IntKind.wrap_i64]; omega
                    have hwt : IntKind.i64.wrap ((AA.size : Int) - zo) = (AA.size : Int) - zo := by rw [IntKind.wrap_i64]; omega
                    have hwu : IntKind.i64.wrap ((AA.size : Int) - zo + (zs.size : Int)) = (AA.size : Int) - zo + (zs.size : Int) := by rw [IntKind.wrap_i64]; omega
                    go_wp2_with (go_at_call 6; refine cB.mono ?_; clear cB; rintro e w8 ⟨rfl, gb8⟩)
                    have B8 : Bl wr w8 := (W1b.trans Q7).trans gb8.bl
                    exact ⟨⟨k + 1, A, Q, by omega, by simp, hA0, by omega, hP.bl B8, hT.step B8, hB.trans B8⟩, by simp [intOf]; omega⟩

                  · obtain ⟨W7, hW7⟩ : ∃ W7, W7 = w6.setCell ⟨W1.heap.size, 0, none⟩ (.pointer none) := ⟨_, rfl⟩
                    have Q7 : Bl W1 W7 := by rw [hW7]; exact HB6.setCell (Nat.le_refl _) _
                    rw [← hW7]
                    clear hW7 hs6 hb6 HB6
                    obtain ⟨_, d1, d2, d3⟩ := HC.out _ Q7
                    have LW : Laid W7 := laid_bl hg (hB.trans (W1b.trans Q7))
                    have cB := bare_errno 12 12 W7 LW
                    rw [show ((12 : Int) == 12) = true from rfl] at cB
                    have hws : IntKind.i64.wrap ((AA.size : Int) - za) = (AA.size : Int) - za := by rw [IntKind.wrap_i64]; omega
                    have hwt : IntKind.i64.wrap ((AA.size : Int) - zo) = (AA.size : Int) - zo := by rw [IntKind.wrap_i64]; omega
                    have hwu : IntKind.i64.wrap ((AA.size : Int) - zo + (zs.size : Int)) = (AA.size : Int) - zo + (zs.size : Int) := by rw [IntKind.wrap_i64]; omega
                    go_wp2_with (go_at_call 6; refine cB.mono ?_; clear cB; rintro e w8 ⟨rfl, gb8⟩)
                    have B8 : Bl wr w8 := (W1b.trans Q7).trans gb8.bl
                    exact ⟨⟨k + 1, A, Q, by omega, by simp, hA0, by omega, hP.bl B8, hT.step B8, hB.trans B8⟩, by simp [intOf]; omega⟩


              · as_aux_lemma =>
                  obtain ⟨KK, hKK⟩ : ∃ KK, KK = pkn zk A.length := ⟨_, rfl⟩
                  have hKK1 : KK < A.length := by rw [hKK]; exact pkn_lt _ _ hA0
                  have hmod : wrap64 ((IntKind.u64.wrap zk).tmod (A.length : Int)) = (KK : Int) := by
                    have h0 : 0 ≤ zk % 18446744073709551616 := by omega
                    have h1 := pkn_lt zk A.length hA0
                    have h2 := Int.emod_nonneg (zk % 18446744073709551616) (show (A.length : Int) ≠ 0 by omega)
                    rw [IntKind.wrap_u64, Int.tmod_eq_emod_of_nonneg h0, hKK]
                    unfold pkn at h1 ⊢
                    unfold wrap64
                    omega
                  obtain ⟨AA, hAA⟩ : ∃ AA, AA = A.getD KK ⟨#[]⟩ := ⟨_, rfl⟩
                  obtain ⟨q, hq⟩ : ∃ q, q = Q.getD KK none := ⟨_, rfl⟩
                  obtain ⟨hAs, t', hi, hTx⟩ := hP.2 KK hKK1
                  rw [← hKK, ← hAA] at hr hu
                  rw [← hAA] at hAs hTx
                  rw [← hq] at hi
                  have ca := hac KK hKK1
                  have cq := hqc KK (by rw [← hP.1]; exact hKK1)
                  rw [← hAA] at ca
                  rw [← hq] at cq
                  have hT4 := hTx.tot
                  rw [bs_len] at hT4
                  have HF : Hid (_ ∧ _) := ⟨f2, f3⟩
                  have W1b : Bl wr (wr.alloc (.cells #[.int .i64 zk, .int .i64 za, .int .i64 zo, .string zs] 30)) := (Bl.refl wr).alloc _
                  have HC : Hid (∀ w', Bl (wr.alloc (.cells #[.int .i64 zk, .int .i64 za, .int .i64 zo, .string zs] 30)) w' → (w'.cell? ⟨gq, KK, none⟩ = some (.pointer q) ∧ w'.cell? ⟨wr.heap.size, 1, none⟩ = some (.int .i64 za) ∧ w'.cell? ⟨wr.heap.size, 2, none⟩ = some (.int .i64 zo) ∧ w'.cell? ⟨wr.heap.size, 3, none⟩ = some (.string zs))) := fun w' h => ⟨cell_bl (W1b.trans h) cq, cell_bl h (by simp only [World.cell?, heap_new]; rfl), cell_bl h (by simp only [World.cell?, heap_new]; rfl), cell_bl h (by simp only [World.cell?, heap_new]; rfl)⟩
                  have ca1 := cell_bl W1b ca
                  have i1 : (0 : Int) ≤ (KK : Int) := by omega
                  have i2 : (KK : Int) < (A.length : Int) := by omega
                  have i3 : (KK : Int) < (Q.length : Int) := by rw [← hP.1]; omega
                  have i4 : (0 : Int) < (A.length : Int) := by omega
                  clear hKK hAA hq
                  obtain ⟨a, rfl⟩ : ∃ a : Nat, za = (a : Int) := ⟨za.toNat, by omega⟩
                  obtain ⟨o, rfl⟩ : ∃ o : Nat, zo = (o : Int) := ⟨zo.toNat, by omega⟩
                  obtain ⟨AO, hAO⟩ : ∃ AO, AO = a + o := ⟨_, rfl⟩
                  have hao : AO ≤ AA.size := by omega
                  have ha : a ≤ AA.size := by omega
                  have hsm : AA.size - o + zs.size ≤ 4000 := by omega
                  have cE := fun w' (h : Bl wr w') => Edit_tx q t' AA.data.toList a o zs w' (hi.bl h) hTx (by rw [bs_len]; omega) (by rw [bs_len]; omega)
                  obtain ⟨X, hX⟩ : ∃ X, X = AA.extract 0 a ++ zs ++ AA.extract AO AA.size := ⟨_, rfl⟩
                  have hXb : X.data.toList = AA.data.toList.take a ++ zs.data.toList ++ AA.data.toList.drop (a + o) := by
                    rw [hX, bs_app', bs_app', ex_bytes, ex_bytes, List.drop_zero, List.take_of_length_le (l := AA.data.toList) (i := AA.size) (Nat.le_refl _), hAO]
                  have hXs : X.size ≤ 4000 := by
                    rw [← bs_len, hXb, List.length_append, List.length_append, List.length_take, List.length_drop, bs_len, bs_len]
                    omega
                  have HXS : Hid (X.size ≤ 4000) := hXs
                  have k1 : (a : Int) ≤ (AA.size : Int) := by omega
                  have k2 : IntKind.i64.wrap ((a : Int) + (o : Int)) = (AO : Int) := by rw [IntKind.wrap_i64]; omega
                  have k3 : (AO : Int) ≤ (AA.size : Int) := by omega
                  have k4 : (0 : Int) ≤ (AO : Int) := by omega
                  have k5 : (0 : Int) ≤ (a : Int) := by omega
                  have k6 : (0 : Int) ≤ (o : Int) := by omega
                  have k7 : (o : Int) ≤ (AA.size : Int) - (a : Int) := by omega
                  have k8 : (AA.size : Int) - (o : Int) + (zs.size : Int) ≤ 4000 := by omega
                  have hws : IntKind.i64.wrap ((AA.size : Int) - (a : Int)) = (AA.size : Int) - (a : Int) := by rw [IntKind.wrap_i64]; omega
                  have hwt : IntKind.i64.wrap ((AA.size : Int) - (o : Int)) = (AA.size : Int) - (o : Int) := by rw [IntKind.wrap_i64]; omega
                  have hwu : IntKind.i64.wrap ((AA.size : Int) - (o : Int) + (zs.size : Int)) = (AA.size : Int) - (o : Int) + (zs.size : Int) := by rw [IntKind.wrap_i64]; omega
                  rw [← hXb] at cE
                  have HX : Hid (X = AA.extract 0 a ++ zs ++ AA.extract AO AA.size) := hX
                  have HSM : Hid (AA.size - o + zs.size ≤ 4000 ∧ AO = a + o) := ⟨hsm, hAO⟩
                  have HK : Hid (_ ∧ _ ∧ _ ∧ _ ∧ _ ∧ _ ∧ _ ∧ _ ∧ _ ∧ _ ∧ _) := ⟨k1, k2, k3, k4, k5, k6, k7, k8, hws, hwt, hwu⟩
                  clear hX hXb hXs hAO hr hu hsm k1 k2 k3 k4 k5 k6 k7 k8 hws hwt hwu hT4 hAs g0 g1 g2
                  go_wp2
                  have HBd : Bl (wr.alloc (.cells #[.int .i64 zk, .int .i64 (a : Int), .int .i64 (o : Int), .string zs] 30)) (wr.alloc (.cells #[.int .i64 zk, .int .i64 (a : Int), .int .i64 (o : Int), .string zs] 30)).drew := (Bl.refl _).drew
                  obtain ⟨W1, hW1⟩ : ∃ W1, W1 = wr.alloc (.cells #[.int .i64 zk, .int .i64 (a : Int), .int .i64 (o : Int), .string zs] 30) := ⟨_, rfl⟩
                  rw [← hW1] at HBd HC W1b ⊢
                  have HW1s : Hid (W1.heap.size = wr.heap.size + 1) := by unfold Hid; rw [hW1]; simp
                  clear hW1 ca1
                  have HBa : Bl W1 (W1.alloc (.cells #[.pointer none] 26)).drew := ((Bl.refl W1).alloc _).drew
                  have hs1' := HC.out _ (Bl.refl W1)
                  have hsd := HC.out _ HBd
                  have hq5 := hs1'.1
                  go_region_held3 (fun w' => w'.cell? ⟨gq, KK, none⟩ = some (.pointer q) ∧ w'.cell? ⟨wr.heap.size, 1, none⟩ = some (.int .i64 (a : Int)) ∧ w'.cell? ⟨wr.heap.size, 2, none⟩ = some (.int .i64 (o : Int)) ∧ w'.cell? ⟨wr.heap.size, 3, none⟩ = some (.string zs)) (first | assumption | exact keep_alloc (by assumption) | exact keep_set (by assumption) (by have := HW1s.out; omega) (by have := HW1s.out; omega)) (first
                    | (go_at_call 5; with_reducible refine (cE _ (W1b.trans HBd)).mono ?_; clear cE; rintro e w6 ⟨q', t2, rfl, hi6, hT6, hb6⟩; have HB6 := HBd.trans hb6; have hs6 := HC.out _ HB6)
                    | (go_at_call 5; with_reducible refine (cE _ (W1b.trans HBa)).mono ?_; clear cE; rintro e w6 ⟨q', t2, rfl, hi6, hT6, hb6⟩; have HB6 := HBa.trans hb6; have hs6 := HC.out _ HB6; have y6 := (Bx.new W1 (.pointer none) 26).bl (((Bl.refl _).drew).trans hb6); have y6c := y6.cell; have y6f := y6.frozen))
                  · obtain ⟨W7, hW7⟩ : ∃ W7, W7 = w6.alloc (.cells #[.pointer q'] 26) := ⟨_, rfl⟩
                    have Q7 : Bl W1 W7 := by rw [hW7]; exact HB6.alloc _
                    obtain ⟨bu, hbu⟩ : ∃ bu, bu = w6.heap.size := ⟨_, rfl⟩
                    have x15 : Bx W7 bu (.pointer q') 26 := by rw [hW7, hbu]; exact Bx.new _ _ _
                    have i7 : Is W7 q' t2 := by rw [hW7]; exact hi6.bl ((Bl.refl _).alloc _)
                    have nbu : wr.heap.size < bu := by rw [hbu]; have := HB6.size; have := HW1s.out; omega
                    rw [← hW7, ← hbu]
                    clear hW7 hbu hs6 hb6 HB6 hi6
                    obtain ⟨_, d1, d2, d3⟩ := HC.out _ Q7
                    obtain ⟨k1, k2, k3, k4, k5, k6, k7, k8, hws, hwt, hwu⟩ := HK.out
                    have cB := bare_nil 0 W7
                    rw [show ((0 : Int) == 0) = true from rfl] at cB
                    go_wp2_with (go_at_call 6; refine cB.mono ?_; clear cB; rintro e W7 ⟨rfl, rfl⟩)
                    have B7 : Bl wr W7 := W1b.trans Q7
                    have hT7 := (hT.step B7).step ((Bl.refl W7).drew)
                    have D7 : Bl W7 W7.drew := (Bl.refl W7).drew
                    have nn1 := rs_no hT7.a
                    have nn2 := rt_no hT7.b
                    have P7 := (hP.bl B7).bl D7
                    have i8 := i7.bl D7
                    obtain ⟨va1, wa9, va2, wa10, ra1, ra2, Ga1, Ga2, TWa⟩ := appsA X q' hT7 (by omega) (by have := hP.1; omega)
                    obtain ⟨vb1, wb9, vb2, wb10, rb1, rb2, Gb1, Gb2, TWb⟩ := appsB X q' hT7 (by omega) (by have := hP.1; omega)
                    obtain ⟨vc1, wc9, vc2, wc10, rc1, rc2, Gc1, Gc2, TWc⟩ := appsC X q' hT7 (by omega) (by have := hP.1; omega)
                    have HRa1 : Hid ((pc.runS (Value.slice (some ⟨ga, 0, none⟩) A.length capa) W7.heap.size).run Tryd.prog (W7.alloc (oS X)).drew = .ok va1 wa9) := ra1
                    have HRa2 : Hid ((pc.runT (Value.slice (some ⟨gq, 0, none⟩) Q.length capq) wa9.heap.size).run Tryd.prog (wa9.alloc (oT q')) = .ok va2 wa10) := ra2
                    have HRb1 : Hid ((pc.runS (Value.slice (some ⟨ga, 0, none⟩) A.length capa) W7.heap.size).run Tryd.prog ((W7.alloc (oS X)).alloc (oT q')).drew = .ok vb1 wb9) := rb1
                    have HRb2 : Hid ((pc.runT (Value.slice (some ⟨gq, 0, none⟩) Q.length capq) (W7.heap.size + 1)).run Tryd.prog wb9 = .ok vb2 wb10) := rb2
                    have HRc1 : Hid ((pc.runS (Value.slice (some ⟨ga, 0, none⟩) A.length capa) (W7.heap.size + 1)).run Tryd.prog ((W7.alloc (oT q')).alloc (oS X)).drew = .ok vc1 wc9) := rc1
                    have HRc2 : Hid ((pc.runT (Value.slice (some ⟨gq, 0, none⟩) Q.length capq) W7.heap.size).run Tryd.prog wc9 = .ok vc2 wc10) := rc2
                    clear ra1 ra2 rb1 rb2 rc1 rc2
                    have s0 : (fun w' : World => w'.cell? ⟨bu, 0, none⟩ = some (.pointer q') ∧ w'.cell? ⟨wr.heap.size, 1, none⟩ = some (.int .i64 (a : Int)) ∧ w'.cell? ⟨wr.heap.size, 2, none⟩ = some (.int .i64 (o : Int)) ∧ w'.cell? ⟨wr.heap.size, 3, none⟩ = some (.string zs)) W7.drew := ⟨(x15.bl D7).cell, cell_bl D7 d1, cell_bl D7 d2, cell_bl D7 d3⟩
                    have m1 : some bu ≠ (Value.slice (some ⟨ga, 0, none⟩) A.length capa).ownBlock := by simp [Value.ownBlock]; omega
                    have m2 : some bu ≠ (Value.slice (some ⟨gq, 0, none⟩) Q.length capq).ownBlock := by simp [Value.ownBlock]; omega
                    have m3 : some wr.heap.size ≠ (Value.slice (some ⟨ga, 0, none⟩) A.length capa).ownBlock := by simp [Value.ownBlock]; omega
                    have m4 : some wr.heap.size ≠ (Value.slice (some ⟨gq, 0, none⟩) Q.length capq).ownBlock := by simp [Value.ownBlock]; omega
                    have sk : ∀ w', Gr W7.drew w' (Value.slice (some ⟨ga, 0, none⟩) A.length capa).ownBlock (Value.slice (some ⟨gq, 0, none⟩) Q.length capq).ownBlock → (w'.cell? ⟨bu, 0, none⟩ = some (.pointer q') ∧ w'.cell? ⟨wr.heap.size, 1, none⟩ = some (.int .i64 (a : Int)) ∧ w'.cell? ⟨wr.heap.size, 2, none⟩ = some (.int .i64 (o : Int)) ∧ w'.cell? ⟨wr.heap.size, 3, none⟩ = some (.string zs)) := fun w' G => ⟨G.cell s0.1 m1 m2, G.cell s0.2.1 m3 m4, G.cell s0.2.2.1 m3 m4, G.cell s0.2.2.2 m3 m4⟩
                    have ska1 := sk _ Ga1
                    have ska2 := sk _ Ga2
                    have skb1 := sk _ Gb1
                    have skb2 := sk _ Gb2
                    have skc1 := sk _ Gc1
                    have skc2 := sk _ Gc2
                    have HSK : Hid _ := sk
                    clear sk m1 m2 m3 m4
                    have hXe := HX.out
                    obtain ⟨hsm, hAO⟩ := HSM.out
                    have j1 : ¬ 9223372036854775807 < a + zs.size := by omega
                    have j2 : ¬ 9223372036854775807 < a + zs.size + (AA.size - AO) := by omega
                    clear hsm hAO HSM
                    subst hXe
                    go_region_held3 (fun w' => w'.cell? ⟨bu, 0, none⟩ = some (.pointer q') ∧ w'.cell? ⟨wr.heap.size, 1, none⟩ = some (.int .i64 (a : Int)) ∧ w'.cell? ⟨wr.heap.size, 2, none⟩ = some (.int .i64 (o : Int)) ∧ w'.cell? ⟨wr.heap.size, 3, none⟩ = some (.string zs)) (first | assumption | exact keep_alloc (by assumption)) (first
                      | (refine step_append_run rfl (.tmp 132) (.tmp 148) 23 23 rfl (Value.slice (some ⟨ga, 0, none⟩) A.length capa) (.slice (some ⟨W7.heap.size, 0, none⟩) 1 1) rfl rfl va1 wa9 ?hr ?_; (case hr => with_reducible exact HRa1.out))
                      | (refine step_append_run rfl (.tmp 132) (.tmp 148) 23 23 rfl (Value.slice (some ⟨ga, 0, none⟩) A.length capa) (.slice (some ⟨W7.heap.size, 0, none⟩) 1 1) rfl rfl vb1 wb9 ?hr ?_; (case hr => with_reducible exact HRb1.out))
                      | (refine step_append_run rfl (.tmp 132) (.tmp 148) 23 23 rfl (Value.slice (some ⟨ga, 0, none⟩) A.length capa) (.slice (some ⟨W7.heap.size + 1, 0, none⟩) 1 1) rfl rfl vc1 wc9 ?hr ?_; (case hr => with_reducible exact HRc1.out))
                      | (refine step_append_run rfl (.tmp 150) (.tmp 152) 28 28 rfl (Value.slice (some ⟨gq, 0, none⟩) Q.length capq) (.slice (some ⟨wa9.heap.size, 0, none⟩) 1 1) rfl rfl va2 wa10 ?hr ?_; (case hr => with_reducible exact HRa2.out))
                      | (refine step_append_run rfl (.tmp 150) (.tmp 152) 28 28 rfl (Value.slice (some ⟨gq, 0, none⟩) Q.length capq) (.slice (some ⟨W7.heap.size + 1, 0, none⟩) 1 1) rfl rfl vb2 wb10 ?hr ?_; (case hr => with_reducible exact HRb2.out))
                      | (refine step_append_run rfl (.tmp 150) (.tmp 152) 28 28 rfl (Value.slice (some ⟨gq, 0, none⟩) Q.length capq) (.slice (some ⟨W7.heap.size, 0, none⟩) 1 1) rfl rfl vc2 wc10 ?hr ?_; (case hr => with_reducible exact HRc2.out)))
                    · go_wp2
                      exact ⟨⟨k + 1, _, _, by omega, by simp, by simp, by simp; omega, (Ga2.pair nn1 nn2 P7).snoc HXS.out (Ga2.is nn1 nn2 i8) hT6, TWa, Ga2.bl ((hB.trans B7).trans D7) (fun k e => (hT7.a.block k e).1) (fun k e => (hT7.b.block k e).1)⟩, by simp [intOf]; omega⟩
                    · go_wp2
                      exact ⟨⟨k + 1, _, _, by omega, by simp, by simp, by simp; omega, (Gb2.pair nn1 nn2 P7).snoc HXS.out (Gb2.is nn1 nn2 i8) hT6, TWb, Gb2.bl ((hB.trans B7).trans D7) (fun k e => (hT7.a.block k e).1) (fun k e => (hT7.b.block k e).1)⟩, by simp [intOf]; omega⟩
                    · go_wp2
                      exact ⟨⟨k + 1, _, _, by omega, by simp, by simp, by simp; omega, (Gc2.pair nn1 nn2 P7).snoc HXS.out (Gc2.is nn1 nn2 i8) hT6, TWc, Gc2.bl ((hB.trans B7).trans D7) (fun k e => (hT7.a.block k e).1) (fun k e => (hT7.b.block k e).1)⟩, by simp [intOf]; omega⟩

                  · obtain ⟨W7, hW7⟩ : ∃ W7, W7 = w6.setCell ⟨W1.heap.size, 0, none⟩ (.pointer q') := ⟨_, rfl⟩
                    have Q7 : Bl W1 W7 := by rw [hW7]; exact HB6.setCell (Nat.le_refl _) _
                    obtain ⟨bu, hbu⟩ : ∃ bu, bu = W1.heap.size := ⟨_, rfl⟩
                    have x15 : Bx W7 bu (.pointer q') 26 := by rw [hW7, hbu]; exact y6.set _
                    have i7 : Is W7 q' t2 := by rw [hW7]; exact hi6.far y6 _
                    have nbu : wr.heap.size < bu := by rw [hbu]; have := HW1s.out; omega
                    rw [← hW7, ← hbu]
                    clear hW7 hbu hs6 hb6 HB6 hi6
                    obtain ⟨_, d1, d2, d3⟩ := HC.out _ Q7
                    obtain ⟨k1, k2, k3, k4, k5, k6, k7, k8, hws, hwt, hwu⟩ := HK.out
                    have cB := bare_nil 0 W7
                    rw [show ((0 : Int) == 0) = true from rfl] at cB
                    go_wp2_with (go_at_call 6; refine cB.mono ?_; clear cB; rintro e W7 ⟨rfl, rfl⟩)
                    have B7 : Bl wr W7 := W1b.trans Q7
                    have hT7 := (hT.step B7).step ((Bl.refl W7).drew)
                    have D7 : Bl W7 W7.drew := (Bl.refl W7).drew
                    have nn1 := rs_no hT7.a
                    have nn2 := rt_no hT7.b
                    have P7 := (hP.bl B7).bl D7
                    have i8 := i7.bl D7
                    obtain ⟨va1, wa9, va2, wa10, ra1, ra2, Ga1, Ga2, TWa⟩ := appsA X q' hT7 (by omega) (by have := hP.1; omega)
                    obtain ⟨vb1, wb9, vb2, wb10, rb1, rb2, Gb1, Gb2, TWb⟩ := appsB X q' hT7 (by omega) (by have := hP.1; omega)
                    obtain ⟨vc1, wc9, vc2, wc10, rc1, rc2, Gc1, Gc2, TWc⟩ := appsC X q' hT7 (by omega) (by have := hP.1; omega)
                    have HRa1 : Hid ((pc.runS (Value.slice (some ⟨ga, 0, none⟩) A.length capa) W7.heap.size).run Tryd.prog (W7.alloc (oS X)).drew = .ok va1 wa9) := ra1
                    have HRa2 : Hid ((pc.runT (Value.slice (some ⟨gq, 0, none⟩) Q.length capq) wa9.heap.size).run Tryd.prog (wa9.alloc (oT q')) = .ok va2 wa10) := ra2
                    have HRb1 : Hid ((pc.runS (Value.slice (some ⟨ga, 0, none⟩) A.length capa) W7.heap.size).run Tryd.prog ((W7.alloc (oS X)).alloc (oT q')).drew = .ok vb1 wb9) := rb1
                    have HRb2 : Hid ((pc.runT (Value.slice (some ⟨gq, 0, none⟩) Q.length capq) (W7.heap.size + 1)).run Tryd.prog wb9 = .ok vb2 wb10) := rb2
                    have HRc1 : Hid ((pc.runS (Value.slice (some ⟨ga, 0, none⟩) A.length capa) (W7.heap.size + 1)).run Tryd.prog ((W7.alloc (oT q')).alloc (oS X)).drew = .ok vc1 wc9) := rc1
                    have HRc2 : Hid ((pc.runT (Value.slice (some ⟨gq, 0, none⟩) Q.length capq) W7.heap.size).run Tryd.prog wc9 = .ok vc2 wc10) := rc2
                    clear ra1 ra2 rb1 rb2 rc1 rc2
                    have s0 : (fun w' : World => w'.cell? ⟨bu, 0, none⟩ = some (.pointer q') ∧ w'.cell? ⟨wr.heap.size, 1, none⟩ = some (.int .i64 (a : Int)) ∧ w'.cell? ⟨wr.heap.size, 2, none⟩ = some (.int .i64 (o : Int)) ∧ w'.cell? ⟨wr.heap.size, 3, none⟩ = some (.string zs)) W7.drew := ⟨(x15.bl D7).cell, cell_bl D7 d1, cell_bl D7 d2, cell_bl D7 d3⟩
                    have m1 : some bu ≠ (Value.slice (some ⟨ga, 0, none⟩) A.length capa).ownBlock := by simp [Value.ownBlock]; omega
                    have m2 : some bu ≠ (Value.slice (some ⟨gq, 0, none⟩) Q.length capq).ownBlock := by simp [Value.ownBlock]; omega
                    have m3 : some wr.heap.size ≠ (Value.slice (some ⟨ga, 0, none⟩) A.length capa).ownBlock := by simp [Value.ownBlock]; omega
                    have m4 : some wr.heap.size ≠ (Value.slice (some ⟨gq, 0, none⟩) Q.length capq).ownBlock := by simp [Value.ownBlock]; omega
                    have sk : ∀ w', Gr W7.drew w' (Value.slice (some ⟨ga, 0, none⟩) A.length capa).ownBlock (Value.slice (some ⟨gq, 0, none⟩) Q.length capq).ownBlock → (w'.cell? ⟨bu, 0, none⟩ = some (.pointer q') ∧ w'.cell? ⟨wr.heap.size, 1, none⟩ = some (.int .i64 (a : Int)) ∧ w'.cell? ⟨wr.heap.size, 2, none⟩ = some (.int .i64 (o : Int)) ∧ w'.cell? ⟨wr.heap.size, 3, none⟩ = some (.string zs)) := fun w' G => ⟨G.cell s0.1 m1 m2, G.cell s0.2.1 m3 m4, G.cell s0.2.2.1 m3 m4, G.cell s0.2.2.2 m3 m4⟩
                    have ska1 := sk _ Ga1
                    have ska2 := sk _ Ga2
                    have skb1 := sk _ Gb1
                    have skb2 := sk _ Gb2
                    have skc1 := sk _ Gc1
                    have skc2 := sk _ Gc2
                    have HSK : Hid _ := sk
                    clear sk m1 m2 m3 m4
                    have hXe := HX.out
                    obtain ⟨hsm, hAO⟩ := HSM.out
                    have j1 : ¬ 9223372036854775807 < a + zs.size := by omega
                    have j2 : ¬ 9223372036854775807 < a + zs.size + (AA.size - AO) := by omega
                    clear hsm hAO HSM
                    subst hXe
                    go_region_held3 (fun w' => w'.cell? ⟨bu, 0, none⟩ = some (.pointer q') ∧ w'.cell? ⟨wr.heap.size, 1, none⟩ = some (.int .i64 (a : Int)) ∧ w'.cell? ⟨wr.heap.size, 2, none⟩ = some (.int .i64 (o : Int)) ∧ w'.cell? ⟨wr.heap.size, 3, none⟩ = some (.string zs)) (first | assumption | exact keep_alloc (by assumption)) (first
                      | (refine step_append_run rfl (.tmp 132) (.tmp 148) 23 23 rfl (Value.slice (some ⟨ga, 0, none⟩) A.length capa) (.slice (some ⟨W7.heap.size, 0, none⟩) 1 1) rfl rfl va1 wa9 ?hr ?_; (case hr => with_reducible exact HRa1.out))
                      | (refine step_append_run rfl (.tmp 132) (.tmp 148) 23 23 rfl (Value.slice (some ⟨ga, 0, none⟩) A.length capa) (.slice (some ⟨W7.heap.size, 0, none⟩) 1 1) rfl rfl vb1 wb9 ?hr ?_; (case hr => with_reducible exact HRb1.out))
                      | (refine step_append_run rfl (.tmp 132) (.tmp 148) 23 23 rfl (Value.slice (some ⟨ga, 0, none⟩) A.length capa) (.slice (some ⟨W7.heap.size + 1, 0, none⟩) 1 1) rfl rfl vc1 wc9 ?hr ?_; (case hr => with_reducible exact HRc1.out))
                      | (refine step_append_run rfl (.tmp 150) (.tmp 152) 28 28 rfl (Value.slice (some ⟨gq, 0, none⟩) Q.length capq) (.slice (some ⟨wa9.heap.size, 0, none⟩) 1 1) rfl rfl va2 wa10 ?hr ?_; (case hr => with_reducible exact HRa2.out))
                      | (refine step_append_run rfl (.tmp 150) (.tmp 152) 28 28 rfl (Value.slice (some ⟨gq, 0, none⟩) Q.length capq) (.slice (some ⟨W7.heap.size + 1, 0, none⟩) 1 1) rfl rfl vb2 wb10 ?hr ?_; (case hr => with_reducible exact HRb2.out))
                      | (refine step_append_run rfl (.tmp 150) (.tmp 152) 28 28 rfl (Value.slice (some ⟨gq, 0, none⟩) Q.length capq) (.slice (some ⟨W7.heap.size, 0, none⟩) 1 1) rfl rfl vc2 wc10 ?hr ?_; (case hr => with_reducible exact HRc2.out)))
                    · go_wp2
                      exact ⟨⟨k + 1, _, _, by omega, by simp, by simp, by simp; omega, (Ga2.pair nn1 nn2 P7).snoc HXS.out (Ga2.is nn1 nn2 i8) hT6, TWa, Ga2.bl ((hB.trans B7).trans D7) (fun k e => (hT7.a.block k e).1) (fun k e => (hT7.b.block k e).1)⟩, by simp [intOf]; omega⟩
                    · go_wp2
                      exact ⟨⟨k + 1, _, _, by omega, by simp, by simp, by simp; omega, (Gb2.pair nn1 nn2 P7).snoc HXS.out (Gb2.is nn1 nn2 i8) hT6, TWb, Gb2.bl ((hB.trans B7).trans D7) (fun k e => (hT7.a.block k e).1) (fun k e => (hT7.b.block k e).1)⟩, by simp [intOf]; omega⟩
                    · go_wp2
                      exact ⟨⟨k + 1, _, _, by omega, by simp, by simp, by simp; omega, (Gc2.pair nn1 nn2 P7).snoc HXS.out (Gc2.is nn1 nn2 i8) hT6, TWc, Gc2.bl ((hB.trans B7).trans D7) (fun k e => (hT7.a.block k e).1) (fun k e => (hT7.b.block k e).1)⟩, by simp [intOf]; omega⟩



          · have hzI : (4000 : Int) < (zs.size : Int) := by omega
            have hzJ : (zs.size : Int) ≤ 4009 := by omega
            have hzK : (200 : Int) < (zs.size : Int) := by omega
            by_cases hr : za < 0 ∨ zo < 0 ∨ (((A.getD (pkn zk A.length) ⟨#[]⟩).size : Nat) : Int) - za < zo
            · as_aux_lemma =>
                obtain ⟨KK, hKK⟩ : ∃ KK, KK = pkn zk A.length := ⟨_, rfl⟩
                have hKK1 : KK < A.length := by rw [hKK]; exact pkn_lt _ _ hA0
                have hmod : wrap64 ((IntKind.u64.wrap zk).tmod (A.length : Int)) = (KK : Int) := by
                  have h0 : 0 ≤ zk % 18446744073709551616 := by omega
                  have h1 := pkn_lt zk A.length hA0
                  have h2 := Int.emod_nonneg (zk % 18446744073709551616) (show (A.length : Int) ≠ 0 by omega)
                  rw [IntKind.wrap_u64, Int.tmod_eq_emod_of_nonneg h0, hKK]
                  unfold pkn at h1 ⊢
                  unfold wrap64
                  omega
                obtain ⟨AA, hAA⟩ : ∃ AA, AA = A.getD KK ⟨#[]⟩ := ⟨_, rfl⟩
                obtain ⟨q, hq⟩ : ∃ q, q = Q.getD KK none := ⟨_, rfl⟩
                obtain ⟨hAs, t', hi, hTx⟩ := hP.2 KK hKK1
                rw [← hKK, ← hAA] at hr
                rw [← hAA] at hAs hTx
                rw [← hq] at hi
                have ca := hac KK hKK1
                have cq := hqc KK (by rw [← hP.1]; exact hKK1)
                rw [← hAA] at ca
                rw [← hq] at cq
                have hT4 := hTx.tot
                rw [bs_len] at hT4
                have HF : Hid (_ ∧ _) := ⟨f2, f3⟩
                have W1b : Bl wr (wr.alloc (.cells #[.int .i64 zk, .int .i64 za, .int .i64 zo, .string zs] 30)) := (Bl.refl wr).alloc _
                have HC : Hid (∀ w', Bl (wr.alloc (.cells #[.int .i64 zk, .int .i64 za, .int .i64 zo, .string zs] 30)) w' → (w'.cell? ⟨gq, KK, none⟩ = some (.pointer q) ∧ w'.cell? ⟨wr.heap.size, 1, none⟩ = some (.int .i64 za) ∧ w'.cell? ⟨wr.heap.size, 2, none⟩ = some (.int .i64 zo) ∧ w'.cell? ⟨wr.heap.size, 3, none⟩ = some (.string zs))) := fun w' h => ⟨cell_bl (W1b.trans h) cq, cell_bl h (by simp only [World.cell?, heap_new]; rfl), cell_bl h (by simp only [World.cell?, heap_new]; rfl), cell_bl h (by simp only [World.cell?, heap_new]; rfl)⟩
                have ca1 := cell_bl W1b ca
                have i1 : (0 : Int) ≤ (KK : Int) := by omega
                have i2 : (KK : Int) < (A.length : Int) := by omega
                have i3 : (KK : Int) < (Q.length : Int) := by rw [← hP.1]; omega
                have i4 : (0 : Int) < (A.length : Int) := by omega
                clear hKK hAA hq
                have cE := fun w' (h : Bl wr w') => Edit_range q t' za zo zs w' (hi.bl h) (by omega) (by omega) (by omega)
                go_wp2
                have HBd : Bl (wr.alloc (.cells #[.int .i64 zk, .int .i64 za, .int .i64 zo, .string zs] 30)) (wr.alloc (.cells #[.int .i64 zk, .int .i64 za, .int .i64 zo, .string zs] 30)).drew := (Bl.refl _).drew
                obtain ⟨W1, hW1⟩ : ∃ W1, W1 = wr.alloc (.cells #[.int .i64 zk, .int .i64 za, .int .i64 zo, .string zs] 30) := ⟨_, rfl⟩
                rw [← hW1] at HBd HC W1b ⊢
                have HW1s : Hid (W1.heap.size = wr.heap.size + 1) := by unfold Hid; rw [hW1]; simp
                clear hW1 ca1
                have HBa : Bl W1 (W1.alloc (.cells #[.pointer none] 26)).drew := ((Bl.refl W1).alloc _).drew
                have hs1' := HC.out _ (Bl.refl W1)
                have hsd := HC.out _ HBd
                have hq5 := hs1'.1
                go_region_held3 (fun w' => w'.cell? ⟨gq, KK, none⟩ = some (.pointer q) ∧ w'.cell? ⟨wr.heap.size, 1, none⟩ = some (.int .i64 za) ∧ w'.cell? ⟨wr.heap.size, 2, none⟩ = some (.int .i64 zo) ∧ w'.cell? ⟨wr.heap.size, 3, none⟩ = some (.string zs)) (first | assumption | exact keep_alloc (by assumption) | exact keep_set (by assumption) (by have := HW1s.out; omega) (by have := HW1s.out; omega)) (first
                  | (go_at_call 5; with_reducible refine (cE _ (W1b.trans HBd)).mono ?_; clear cE; rintro e w6 ⟨rfl, hb6⟩; have HB6 := HBd.trans hb6; have hs6 := HC.out _ HB6)
                  | (go_at_call 5; with_reducible refine (cE _ (W1b.trans HBa)).mono ?_; clear cE; rintro e w6 ⟨rfl, hb6⟩; have HB6 := HBa.trans hb6; have hs6 := HC.out _ HB6; have y6 := (Bx.new W1 (.pointer none) 26).bl (((Bl.refl _).drew).trans hb6); have y6c := y6.cell; have y6f := y6.frozen))
                · obtain ⟨W7, hW7⟩ : ∃ W7, W7 = w6.alloc (.cells #[.pointer none] 26) := ⟨_, rfl⟩
                  have Q7 : Bl W1 W7 := by rw [hW7]; exact HB6.alloc _
                  rw [← hW7]
                  clear hW7 hs6 hb6 HB6
                  obtain ⟨_, d1, d2, d3⟩ := HC.out _ Q7
                  have LW : Laid W7 := laid_bl hg (hB.trans (W1b.trans Q7))
                  have cB := bare_errno 2 2 W7 LW
                  rw [show ((2 : Int) == 2) = true from rfl] at cB
                  have hsw : IntKind.i64.wrap ((AA.size : Int) - za) = (AA.size : Int) - za ∨ za < 0 := by by_cases h : za < 0; exact .inr h; exact .inl (by rw [IntKind.wrap_i64]; omega)
                  rcases (show za < 0 ∨ (0 ≤ za ∧ (zo < 0 ∨ (0 ≤ zo ∧ ((AA.size : Int) < za ∨ (za ≤ (AA.size : Int) ∧ (AA.size : Int) - za < zo))))) by omega) with r1 | ⟨r1, r2 | ⟨r2, r3 | ⟨r3, r4⟩⟩⟩
                  · go_wp2_with (go_at_call 6; refine cB.mono ?_; clear cB; rintro e w8 ⟨rfl, gb8⟩)
                    have B8 : Bl wr w8 := (W1b.trans Q7).trans gb8.bl
                    exact ⟨⟨k + 1, A, Q, by omega, by simp, hA0, by omega, hP.bl B8, hT.step B8, hB.trans B8⟩, by simp [intOf]; omega⟩

                  · go_wp2_with (go_at_call 6; refine cB.mono ?_; clear cB; rintro e w8 ⟨rfl, gb8⟩)
                    have B8 : Bl wr w8 := (W1b.trans Q7).trans gb8.bl
                    exact ⟨⟨k + 1, A, Q, by omega, by simp, hA0, by omega, hP.bl B8, hT.step B8, hB.trans B8⟩, by simp [intOf]; omega⟩

                  · go_wp2_with (go_at_call 6; refine cB.mono ?_; clear cB; rintro e w8 ⟨rfl, gb8⟩)
                    have B8 : Bl wr w8 := (W1b.trans Q7).trans gb8.bl
                    exact ⟨⟨k + 1, A, Q, by omega, by simp, hA0, by omega, hP.bl B8, hT.step B8, hB.trans B8⟩, by simp [intOf]; omega⟩

                  · have hws : IntKind.i64.wrap ((AA.size : Int) - za) = (AA.size : Int) - za := by rcases hsw with h | h; exact h; omega
                    go_wp2_with (go_at_call 6; refine cB.mono ?_; clear cB; rintro e w8 ⟨rfl, gb8⟩)
                    have B8 : Bl wr w8 := (W1b.trans Q7).trans gb8.bl
                    exact ⟨⟨k + 1, A, Q, by omega, by simp, hA0, by omega, hP.bl B8, hT.step B8, hB.trans B8⟩, by simp [intOf]; omega⟩


                · obtain ⟨W7, hW7⟩ : ∃ W7, W7 = w6.setCell ⟨W1.heap.size, 0, none⟩ (.pointer none) := ⟨_, rfl⟩
                  have Q7 : Bl W1 W7 := by rw [hW7]; exact HB6.setCell (Nat.le_refl _) _
                  rw [← hW7]
                  clear hW7 hs6 hb6 HB6
                  obtain ⟨_, d1, d2, d3⟩ := HC.out _ Q7
                  have LW : Laid W7 := laid_bl hg (hB.trans (W1b.trans Q7))
                  have cB := bare_errno 2 2 W7 LW
                  rw [show ((2 : Int) == 2) = true from rfl] at cB
                  have hsw : IntKind.i64.wrap ((AA.size : Int) - za) = (AA.size : Int) - za ∨ za < 0 := by by_cases h : za < 0; exact .inr h; exact .inl (by rw [IntKind.wrap_i64]; omega)
                  rcases (show za < 0 ∨ (0 ≤ za ∧ (zo < 0 ∨ (0 ≤ zo ∧ ((AA.size : Int) < za ∨ (za ≤ (AA.size : Int) ∧ (AA.size : Int) - za < zo))))) by omega) with r1 | ⟨r1, r2 | ⟨r2, r3 | ⟨r3, r4⟩⟩⟩
                  · go_wp2_with (go_at_call 6; refine cB.mono ?_; clear cB; rintro e w8 ⟨rfl, gb8⟩)
                    have B8 : Bl wr w8 := (W1b.trans Q7).trans gb8.bl
                    exact ⟨⟨k + 1, A, Q, by omega, by simp, hA0, by omega, hP.bl B8, hT.step B8, hB.trans B8⟩, by simp [intOf]; omega⟩

                  · go_wp2_with (go_at_call 6; refine cB.mono ?_; clear cB; rintro e w8 ⟨rfl, gb8⟩)
                    have B8 : Bl wr w8 := (W1b.trans Q7).trans gb8.bl
                    exact ⟨⟨k + 1, A, Q, by omega, by simp, hA0, by omega, hP.bl B8, hT.step B8, hB.trans B8⟩, by simp [intOf]; omega⟩

                  · go_wp2_with (go_at_call 6; refine cB.mono ?_; clear cB; rintro e w8 ⟨rfl, gb8⟩)
                    have B8 : Bl wr w8 := (W1b.trans Q7).trans gb8.bl
                    exact ⟨⟨k + 1, A, Q, by omega, by simp, hA0, by omega, hP.bl B8, hT.step B8, hB.trans B8⟩, by simp [intOf]; omega⟩

                  · have hws : IntKind.i64.wrap ((AA.size : Int) - za) = (AA.size : Int) - za := by rcases hsw with h | h; exact h; omega
                    go_wp2_with (go_at_call 6; refine cB.mono ?_; clear cB; rintro e w8 ⟨rfl, gb8⟩)
                    have B8 : Bl wr w8 := (W1b.trans Q7).trans gb8.bl
                    exact ⟨⟨k + 1, A, Q, by omega, by simp, hA0, by omega, hP.bl B8, hT.step B8, hB.trans B8⟩, by simp [intOf]; omega⟩



            · as_aux_lemma =>
                obtain ⟨KK, hKK⟩ : ∃ KK, KK = pkn zk A.length := ⟨_, rfl⟩
                have hKK1 : KK < A.length := by rw [hKK]; exact pkn_lt _ _ hA0
                have hmod : wrap64 ((IntKind.u64.wrap zk).tmod (A.length : Int)) = (KK : Int) := by
                  have h0 : 0 ≤ zk % 18446744073709551616 := by omega
                  have h1 := pkn_lt zk A.length hA0
                  have h2 := Int.emod_nonneg (zk % 18446744073709551616) (show (A.length : Int) ≠ 0 by omega)
                  rw [IntKind.wrap_u64, Int.tmod_eq_emod_of_nonneg h0, hKK]
                  unfold pkn at h1 ⊢
                  unfold wrap64
                  omega
                obtain ⟨AA, hAA⟩ : ∃ AA, AA = A.getD KK ⟨#[]⟩ := ⟨_, rfl⟩
                obtain ⟨q, hq⟩ : ∃ q, q = Q.getD KK none := ⟨_, rfl⟩
                obtain ⟨hAs, t', hi, hTx⟩ := hP.2 KK hKK1
                rw [← hKK, ← hAA] at hr
                rw [← hAA] at hAs hTx
                rw [← hq] at hi
                have ca := hac KK hKK1
                have cq := hqc KK (by rw [← hP.1]; exact hKK1)
                rw [← hAA] at ca
                rw [← hq] at cq
                have hT4 := hTx.tot
                rw [bs_len] at hT4
                have HF : Hid (_ ∧ _) := ⟨f2, f3⟩
                have W1b : Bl wr (wr.alloc (.cells #[.int .i64 zk, .int .i64 za, .int .i64 zo, .string zs] 30)) := (Bl.refl wr).alloc _
                have HC : Hid (∀ w', Bl (wr.alloc (.cells #[.int .i64 zk, .int .i64 za, .int .i64 zo, .string zs] 30)) w' → (w'.cell? ⟨gq, KK, none⟩ = some (.pointer q) ∧ w'.cell? ⟨wr.heap.size, 1, none⟩ = some (.int .i64 za) ∧ w'.cell? ⟨wr.heap.size, 2, none⟩ = some (.int .i64 zo) ∧ w'.cell? ⟨wr.heap.size, 3, none⟩ = some (.string zs))) := fun w' h => ⟨cell_bl (W1b.trans h) cq, cell_bl h (by simp only [World.cell?, heap_new]; rfl), cell_bl h (by simp only [World.cell?, heap_new]; rfl), cell_bl h (by simp only [World.cell?, heap_new]; rfl)⟩
                have ca1 := cell_bl W1b ca
                have i1 : (0 : Int) ≤ (KK : Int) := by omega
                have i2 : (KK : Int) < (A.length : Int) := by omega
                have i3 : (KK : Int) < (Q.length : Int) := by rw [← hP.1]; omega
                have i4 : (0 : Int) < (A.length : Int) := by omega
                clear hKK hAA hq
                have cE := fun w' (h : Bl wr w') => Edit_full q t' za zo zs w' (hi.bl h) (by omega) (by omega) (by omega) (by rw [hT4]; omega) (by omega) (by rw [hT4]; omega)
                go_wp2
                have HBd : Bl (wr.alloc (.cells #[.int .i64 zk, .int .i64 za, .int .i64 zo, .string zs] 30)) (wr.alloc (.cells #[.int .i64 zk, .int .i64 za, .int .i64 zo, .string zs] 30)).drew := (Bl.refl _).drew
                obtain ⟨W1, hW1⟩ : ∃ W1, W1 = wr.alloc (.cells #[.int .i64 zk, .int .i64 za, .int .i64 zo, .string zs] 30) := ⟨_, rfl⟩
                rw [← hW1] at HBd HC W1b ⊢
                have HW1s : Hid (W1.heap.size = wr.heap.size + 1) := by unfold Hid; rw [hW1]; simp
                clear hW1 ca1
                have HBa : Bl W1 (W1.alloc (.cells #[.pointer none] 26)).drew := ((Bl.refl W1).alloc _).drew
                have hs1' := HC.out _ (Bl.refl W1)
                have hsd := HC.out _ HBd
                have hq5 := hs1'.1
                go_region_held3 (fun w' => w'.cell? ⟨gq, KK, none⟩ = some (.pointer q) ∧ w'.cell? ⟨wr.heap.size, 1, none⟩ = some (.int .i64 za) ∧ w'.cell? ⟨wr.heap.size, 2, none⟩ = some (.int .i64 zo) ∧ w'.cell? ⟨wr.heap.size, 3, none⟩ = some (.string zs)) (first | assumption | exact keep_alloc (by assumption) | exact keep_set (by assumption) (by have := HW1s.out; omega) (by have := HW1s.out; omega)) (first
                  | (go_at_call 5; with_reducible refine (cE _ (W1b.trans HBd)).mono ?_; clear cE; rintro e w6 ⟨rfl, hb6⟩; have HB6 := HBd.trans hb6; have hs6 := HC.out _ HB6)
                  | (go_at_call 5; with_reducible refine (cE _ (W1b.trans HBa)).mono ?_; clear cE; rintro e w6 ⟨rfl, hb6⟩; have HB6 := HBa.trans hb6; have hs6 := HC.out _ HB6; have y6 := (Bx.new W1 (.pointer none) 26).bl (((Bl.refl _).drew).trans hb6); have y6c := y6.cell; have y6f := y6.frozen))
                · obtain ⟨W7, hW7⟩ : ∃ W7, W7 = w6.alloc (.cells #[.pointer none] 26) := ⟨_, rfl⟩
                  have Q7 : Bl W1 W7 := by rw [hW7]; exact HB6.alloc _
                  rw [← hW7]
                  clear hW7 hs6 hb6 HB6
                  obtain ⟨_, d1, d2, d3⟩ := HC.out _ Q7
                  have LW : Laid W7 := laid_bl hg (hB.trans (W1b.trans Q7))
                  have cB := bare_errno 12 12 W7 LW
                  rw [show ((12 : Int) == 12) = true from rfl] at cB
                  have hws : IntKind.i64.wrap ((AA.size : Int) - za) = (AA.size : Int) - za := by rw [IntKind.wrap_i64]; omega
                  have hwt : IntKind.i64.wrap ((AA.size : Int) - zo) = (AA.size : Int) - zo := by rw [IntKind.wrap_i64]; omega
                  have hwu : IntKind.i64.wrap ((AA.size : Int) - zo + (zs.size : Int)) = (AA.size : Int) - zo + (zs.size : Int) := by rw [IntKind.wrap_i64]; omega
                  go_wp2_with (go_at_call 6; refine cB.mono ?_; clear cB; rintro e w8 ⟨rfl, gb8⟩)
                  have B8 : Bl wr w8 := (W1b.trans Q7).trans gb8.bl
                  exact ⟨⟨k + 1, A, Q, by omega, by simp, hA0, by omega, hP.bl B8, hT.step B8, hB.trans B8⟩, by simp [intOf]; omega⟩

                · obtain ⟨W7, hW7⟩ : ∃ W7, W7 = w6.setCell ⟨W1.heap.size, 0, none⟩ (.pointer none) := ⟨_, rfl⟩
                  have Q7 : Bl W1 W7 := by rw [hW7]; exact HB6.setCell (Nat.le_refl _) _
                  rw [← hW7]
                  clear hW7 hs6 hb6 HB6
                  obtain ⟨_, d1, d2, d3⟩ := HC.out _ Q7
                  have LW : Laid W7 := laid_bl hg (hB.trans (W1b.trans Q7))
                  have cB := bare_errno 12 12 W7 LW
                  rw [show ((12 : Int) == 12) = true from rfl] at cB
                  have hws : IntKind.i64.wrap ((AA.size : Int) - za) = (AA.size : Int) - za := by rw [IntKind.wrap_i64]; omega
                  have hwt : IntKind.i64.wrap ((AA.size : Int) - zo) = (AA.size : Int) - zo := by rw [IntKind.wrap_i64]; omega
                  have hwu : IntKind.i64.wrap ((AA.size : Int) - zo + (zs.size : Int)) = (AA.size : Int) - zo + (zs.size : Int) := by rw [IntKind.wrap_i64]; omega
                  go_wp2_with (go_at_call 6; refine cB.mono ?_; clear cB; rintro e w8 ⟨rfl, gb8⟩)
                  have B8 : Bl wr w8 := (W1b.trans Q7).trans gb8.bl
                  exact ⟨⟨k + 1, A, Q, by omega, by simp, hA0, by omega, hP.bl B8, hT.step B8, hB.trans B8⟩, by simp [intOf]; omega⟩



      · as_aux_lemma =>
          rcases hT.a.shape with ⟨_, hnil⟩ | ⟨ga, capa, rfl, ha1, ha2, ha3, ha4, hac⟩
          · rw [hnil] at hA0; simp at hA0
          rcases hT.b.shape with ⟨_, hnil⟩ | ⟨gq, capq, rfl, hq1, hq2, hq3, hq4, hqc⟩
          · rw [hP.1, hnil] at hA0; simp at hA0
          have hklI : (z1.length : Int) ≤ (k : Int) := by omega
          clear hT hin
          obtain ⟨wq, rfl⟩ : ∃ wq, wq = wr := ⟨_, rfl⟩
          go_wp2
          go_loopw [18] (fun iv w2 => ∃ j : Nat, j ≤ A.length ∧ iv = .int .i64 (j : Int) ∧ Bl wq w2) (fun iv w2 => A.length - (intOf iv).toNat)
          case atStart => exact ⟨0, Nat.zero_le _, rfl, Bl.refl _⟩
          case round =>
            obtain ⟨j, hj, rfl, hB2⟩ := hrel
            by_cases hjl : j < A.length
            · obtain ⟨AA, hAA⟩ : ∃ AA, AA = A.getD j ⟨#[]⟩ := ⟨_, rfl⟩
              obtain ⟨q, hq⟩ : ∃ q, q = Q.getD j none := ⟨_, rfl⟩
              obtain ⟨hAs, t', hi0, hTx⟩ := hP.2 j hjl
              rw [← hAA] at hAs hTx
              rw [← hq] at hi0
              have hi := hi0.bl hB2
              have ca := cell_bl hB2 (hac j hjl)
              have cq := cell_bl hB2 (hqc j (by rw [← hP.1]; exact hjl))
              rw [← hAA] at ca
              rw [← hq] at cq
              have hT4 := hTx.tot
              rw [bs_len] at hT4
              have HL : Hid (Laid wr) := laid_bl hg (hB.trans hB2)
              have i1 : (0 : Int) ≤ (j : Int) := by omega
              have i2 : (j : Int) < (A.length : Int) := by omega
              have i3 : (j : Int) < (Q.length : Int) := by rw [← hP.1]; omega
              have D0 : Bl wr wr.drew := (Bl.refl wr).drew
              have s0 : wr.drew.cell? ⟨ga, j, none⟩ = some (.string AA) ∧ wr.drew.cell? ⟨gq, j, none⟩ = some (.pointer q) := ⟨cell_bl D0 ca, cell_bl D0 cq⟩
              have HF2 : Hid (_ ∧ _) := ⟨f2, f3⟩
              clear hAA hq hi0
              go_wp2
              go_region_held3 (fun w' => w'.cell? ⟨ga, j, none⟩ = some (.string AA) ∧ w'.cell? ⟨gq, j, none⟩ = some (.pointer q)) (first | assumption | exact ⟨cell_bl ((Bl.refl _).alloc _) s0.1, cell_bl ((Bl.refl _).alloc _) s0.2⟩ | exact ⟨(World.cell?_setCell_far _ _ _ _ (World.new_ne _ _ ca)).trans (by first | assumption | exact cell_bl ((Bl.refl _).alloc _) s0.1), (World.cell?_setCell_far _ _ _ _ (World.new_ne _ _ cq)).trans (by first | assumption | exact cell_bl ((Bl.refl _).alloc _) s0.2)⟩) (fail)
              obtain ⟨W7, hW7⟩ : ∃ W7, W7 = (wr.alloc (.cells #[.pointer q] 26)).drew := ⟨_, rfl⟩
              have Q7 : Bl wr W7 := by rw [hW7]; exact ((Bl.refl wr).alloc _).drew
              have x20 : Bx W7 wr.heap.size (.pointer q) 26 := by rw [hW7]; exact (Bx.new wr _ _).bl ((Bl.refl _).drew)
              have i7 := hi.bl Q7
              have LW : Laid W7 := laid_bl HL.out Q7
              rw [← hW7]
              clear hW7 s0 D0 ca cq
              have z20 := x20.cell
              have hne0 : ((AA.size : Int) == (AA.size : Int)) = true := by simp
              clear hne0
              rcases (show a2 < 0 ∨ (0 ≤ a2 ∧ ((a3 < a2 ∧ (a2 < (AA.size : Int) ∨ (AA.size : Int) ≤ a2)) ∨ (a2 ≤ a3 ∧ (AA.size : Int) < a3 ∧ (a2 < (AA.size : Int) ∨ (AA.size : Int) ≤ a2)) ∨ (a2 ≤ a3 ∧ a3 ≤ (AA.size : Int) ∧ (a2 < (AA.size : Int) ∨ (AA.size : Int) ≤ a2)))) by omega) with r1 | ⟨r1, ⟨r2, r3 | r3⟩ | ⟨r2, r3, r4 | r4⟩ | ⟨r2, r3, r4 | r4⟩⟩
              · have cL := fun w' (h : Bl W7 w') => Len_tx q t' AA w' (i7.bl h) hTx
                have cS := fun w' (h : Bl W7 w') => String_tx q t' AA w' (i7.bl h) hTx
                have cC := fun w' (h : Bl W7 w') => Slice_range q t' a2 a3 w' (i7.bl h) (by rw [hT4]; omega)
                have cB := fun w' (h : Bl W7 w') => bare_errno 2 2 w' (laid_bl LW h)
                rw [show ((2 : Int) == 2) = true from rfl] at cB
                have cD := fun w' (h : Bl W7 w') => At_range q t' a2 w' (i7.bl h) (by rw [hT4]; omega)
                have cG := fun w' (h : Bl W7 w') => bare_errno 2 2 w' (laid_bl LW h)
                rw [show ((2 : Int) == 2) = true from rfl] at cG
                clear f2 f3 hT4 hAs LW
                go_wp2_with (first
                  | (go_at_call 7; refine (cL _ (Bl.refl _)).mono ?_; clear cL; rintro e w8 ⟨rfl, q8⟩; have z8 := (x20.bl q8).cell)
                  | (go_at_call 8; refine (cS _ q8).mono ?_; clear cS; rintro e w9 ⟨rfl, hb9⟩; have q9 := q8.trans hb9; have z9 := (x20.bl q9).cell)
                  | (go_at_call 9; refine (cC _ q9).mono ?_; clear cC; rintro e w10 ⟨rfl, hb10⟩; have q10 := q9.trans hb10; have z10 := (x20.bl q10).cell)
                  | (go_at_call 6; refine (cB _ q10).mono ?_; clear cB; rintro e w11 ⟨rfl, gb11⟩; have q11 := q10.trans gb11.bl; have z11 := (x20.bl q11).cell)
                  | (go_at_call 10; refine (cD _ q11).mono ?_; clear cD; rintro e w12 ⟨rfl, hb12⟩; have q12 := q11.trans hb12)
                  | (go_at_call 6; refine (cG _ q12).mono ?_; clear cG; rintro e w13 ⟨rfl, gb13⟩; have q13 := q12.trans gb13.bl))
                exact ⟨⟨j + 1, by omega, by simp, hB2.trans (Q7.trans q13)⟩, by simp [intOf]; omega⟩

              · obtain ⟨f, rfl⟩ : ∃ f : Nat, a2 = (f : Int) := ⟨a2.toNat, by omega⟩
                have cL := fun w' (h : Bl W7 w') => Len_tx q t' AA w' (i7.bl h) hTx
                have cS := fun w' (h : Bl W7 w') => String_tx q t' AA w' (i7.bl h) hTx
                have cC := fun w' (h : Bl W7 w') => Slice_range q t' (f : Int) a3 w' (i7.bl h) (by rw [hT4]; omega)
                have cB := fun w' (h : Bl W7 w') => bare_errno 2 2 w' (laid_bl LW h)
                rw [show ((2 : Int) == 2) = true from rfl] at cB
                have hfl : f < AA.size := by omega
                have cD := fun w' (h : Bl W7 w') => At_at q t' f AA[f] w' (i7.bl h) hTx.f (by rw [hTx.c]; exact List.getElem?_eq_getElem (by rw [bs_len]; exact hfl))
                clear f2 f3 hT4 hAs LW
                go_wp2_with (first
                  | (go_at_call 7; refine (cL _ (Bl.refl _)).mono ?_; clear cL; rintro e w8 ⟨rfl, q8⟩; have z8 := (x20.bl q8).cell)
                  | (go_at_call 8; refine (cS _ q8).mono ?_; clear cS; rintro e w9 ⟨rfl, hb9⟩; have q9 := q8.trans hb9; have z9 := (x20.bl q9).cell)
                  | (go_at_call 9; refine (cC _ q9).mono ?_; clear cC; rintro e w10 ⟨rfl, hb10⟩; have q10 := q9.trans hb10; have z10 := (x20.bl q10).cell)
                  | (go_at_call 6; refine (cB _ q10).mono ?_; clear cB; rintro e w11 ⟨rfl, gb11⟩; have q11 := q10.trans gb11.bl; have z11 := (x20.bl q11).cell)
                  | (go_at_call 10; refine (cD _ q11).mono ?_; clear cD; rintro e w12 ⟨rfl, hb12⟩; have q12 := q11.trans hb12))
                exact ⟨⟨j + 1, by omega, by simp, hB2.trans (Q7.trans q12)⟩, by simp [intOf]; omega⟩

              · have cL := fun w' (h : Bl W7 w') => Len_tx q t' AA w' (i7.bl h) hTx
                have cS := fun w' (h : Bl W7 w') => String_tx q t' AA w' (i7.bl h) hTx
                have cC := fun w' (h : Bl W7 w') => Slice_range q t' a2 a3 w' (i7.bl h) (by rw [hT4]; omega)
                have cB := fun w' (h : Bl W7 w') => bare_errno 2 2 w' (laid_bl LW h)
                rw [show ((2 : Int) == 2) = true from rfl] at cB
                have cD := fun w' (h : Bl W7 w') => At_range q t' a2 w' (i7.bl h) (by rw [hT4]; omega)
                have cG := fun w' (h : Bl W7 w') => bare_errno 2 2 w' (laid_bl LW h)
                rw [show ((2 : Int) == 2) = true from rfl] at cG
                clear f2 f3 hT4 hAs LW
                go_wp2_with (first
                  | (go_at_call 7; refine (cL _ (Bl.refl _)).mono ?_; clear cL; rintro e w8 ⟨rfl, q8⟩; have z8 := (x20.bl q8).cell)
                  | (go_at_call 8; refine (cS _ q8).mono ?_; clear cS; rintro e w9 ⟨rfl, hb9⟩; have q9 := q8.trans hb9; have z9 := (x20.bl q9).cell)
                  | (go_at_call 9; refine (cC _ q9).mono ?_; clear cC; rintro e w10 ⟨rfl, hb10⟩; have q10 := q9.trans hb10; have z10 := (x20.bl q10).cell)
                  | (go_at_call 6; refine (cB _ q10).mono ?_; clear cB; rintro e w11 ⟨rfl, gb11⟩; have q11 := q10.trans gb11.bl; have z11 := (x20.bl q11).cell)
                  | (go_at_call 10; refine (cD _ q11).mono ?_; clear cD; rintro e w12 ⟨rfl, hb12⟩; have q12 := q11.trans hb12)
                  | (go_at_call 6; refine (cG _ q12).mono ?_; clear cG; rintro e w13 ⟨rfl, gb13⟩; have q13 := q12.trans gb13.bl))
                exact ⟨⟨j + 1, by omega, by simp, hB2.trans (Q7.trans q13)⟩, by simp [intOf]; omega⟩

              · obtain ⟨f, rfl⟩ : ∃ f : Nat, a2 = (f : Int) := ⟨a2.toNat, by omega⟩
                have cL := fun w' (h : Bl W7 w') => Len_tx q t' AA w' (i7.bl h) hTx
                have cS := fun w' (h : Bl W7 w') => String_tx q t' AA w' (i7.bl h) hTx
                have cC := fun w' (h : Bl W7 w') => Slice_range q t' (f : Int) a3 w' (i7.bl h) (by rw [hT4]; omega)
                have cB := fun w' (h : Bl W7 w') => bare_errno 2 2 w' (laid_bl LW h)
                rw [show ((2 : Int) == 2) = true from rfl] at cB
                have hfl : f < AA.size := by omega
                have cD := fun w' (h : Bl W7 w') => At_at q t' f AA[f] w' (i7.bl h) hTx.f (by rw [hTx.c]; exact List.getElem?_eq_getElem (by rw [bs_len]; exact hfl))
                clear f2 f3 hT4 hAs LW
                go_wp2_with (first
                  | (go_at_call 7; refine (cL _ (Bl.refl _)).mono ?_; clear cL; rintro e w8 ⟨rfl, q8⟩; have z8 := (x20.bl q8).cell)
                  | (go_at_call 8; refine (cS _ q8).mono ?_; clear cS; rintro e w9 ⟨rfl, hb9⟩; have q9 := q8.trans hb9; have z9 := (x20.bl q9).cell)
                  | (go_at_call 9; refine (cC _ q9).mono ?_; clear cC; rintro e w10 ⟨rfl, hb10⟩; have q10 := q9.trans hb10; have z10 := (x20.bl q10).cell)
                  | (go_at_call 6; refine (cB _ q10).mono ?_; clear cB; rintro e w11 ⟨rfl, gb11⟩; have q11 := q10.trans gb11.bl; have z11 := (x20.bl q11).cell)
                  | (go_at_call 10; refine (cD _ q11).mono ?_; clear cD; rintro e w12 ⟨rfl, hb12⟩; have q12 := q11.trans hb12))
                exact ⟨⟨j + 1, by omega, by simp, hB2.trans (Q7.trans q12)⟩, by simp [intOf]; omega⟩

              · have cL := fun w' (h : Bl W7 w') => Len_tx q t' AA w' (i7.bl h) hTx
                have cS := fun w' (h : Bl W7 w') => String_tx q t' AA w' (i7.bl h) hTx
                have cC := fun w' (h : Bl W7 w') => Slice_range q t' a2 a3 w' (i7.bl h) (by rw [hT4]; omega)
                have cB := fun w' (h : Bl W7 w') => bare_errno 2 2 w' (laid_bl LW h)
                rw [show ((2 : Int) == 2) = true from rfl] at cB
                have cD := fun w' (h : Bl W7 w') => At_range q t' a2 w' (i7.bl h) (by rw [hT4]; omega)
                have cG := fun w' (h : Bl W7 w') => bare_errno 2 2 w' (laid_bl LW h)
                rw [show ((2 : Int) == 2) = true from rfl] at cG
                clear f2 f3 hT4 hAs LW
                go_wp2_with (first
                  | (go_at_call 7; refine (cL _ (Bl.refl _)).mono ?_; clear cL; rintro e w8 ⟨rfl, q8⟩; have z8 := (x20.bl q8).cell)
                  | (go_at_call 8; refine (cS _ q8).mono ?_; clear cS; rintro e w9 ⟨rfl, hb9⟩; have q9 := q8.trans hb9; have z9 := (x20.bl q9).cell)
                  | (go_at_call 9; refine (cC _ q9).mono ?_; clear cC; rintro e w10 ⟨rfl, hb10⟩; have q10 := q9.trans hb10; have z10 := (x20.bl q10).cell)
                  | (go_at_call 6; refine (cB _ q10).mono ?_; clear cB; rintro e w11 ⟨rfl, gb11⟩; have q11 := q10.trans gb11.bl; have z11 := (x20.bl q11).cell)
                  | (go_at_call 10; refine (cD _ q11).mono ?_; clear cD; rintro e w12 ⟨rfl, hb12⟩; have q12 := q11.trans hb12)
                  | (go_at_call 6; refine (cG _ q12).mono ?_; clear cG; rintro e w13 ⟨rfl, gb13⟩; have q13 := q12.trans gb13.bl))
                exact ⟨⟨j + 1, by omega, by simp, hB2.trans (Q7.trans q13)⟩, by simp [intOf]; omega⟩

              · obtain ⟨f, rfl⟩ : ∃ f : Nat, a2 = (f : Int) := ⟨a2.toNat, by omega⟩
                obtain ⟨g, rfl⟩ : ∃ g : Nat, a3 = (g : Int) := ⟨a3.toNat, by omega⟩
                have cL := fun w' (h : Bl W7 w') => Len_tx q t' AA w' (i7.bl h) hTx
                have cS := fun w' (h : Bl W7 w') => String_tx q t' AA w' (i7.bl h) hTx
                have cC := fun w' (h : Bl W7 w') => slice_tx q t' AA f g w' (i7.bl h) hTx (by omega) (by omega)
                have hfl : f < AA.size := by omega
                have cD := fun w' (h : Bl W7 w') => At_at q t' f AA[f] w' (i7.bl h) hTx.f (by rw [hTx.c]; exact List.getElem?_eq_getElem (by rw [bs_len]; exact hfl))
                clear f2 f3 hT4 hAs LW
                go_wp2_with (first
                  | (go_at_call 7; refine (cL _ (Bl.refl _)).mono ?_; clear cL; rintro e w8 ⟨rfl, q8⟩; have z8 := (x20.bl q8).cell)
                  | (go_at_call 8; refine (cS _ q8).mono ?_; clear cS; rintro e w9 ⟨rfl, hb9⟩; have q9 := q8.trans hb9; have z9 := (x20.bl q9).cell)
                  | (go_at_call 9; refine (cC _ q9).mono ?_; clear cC; rintro e w10 ⟨rfl, hb10⟩; have q10 := q9.trans hb10; have z10 := (x20.bl q10).cell)
                  | (go_at_call 10; refine (cD _ q10).mono ?_; clear cD; rintro e w12 ⟨rfl, hb12⟩; have q12 := q10.trans hb12))
                exact ⟨⟨j + 1, by omega, by simp, hB2.trans (Q7.trans q12)⟩, by simp [intOf]; omega⟩

              · obtain ⟨f, rfl⟩ : ∃ f : Nat, a2 = (f : Int) := ⟨a2.toNat, by omega⟩
                obtain ⟨g, rfl⟩ : ∃ g : Nat, a3 = (g : Int) := ⟨a3.toNat, by omega⟩
                have cL := fun w' (h : Bl W7 w') => Len_tx q t' AA w' (i7.bl h) hTx
                have cS := fun w' (h : Bl W7 w') => String_tx q t' AA w' (i7.bl h) hTx
                have cC := fun w' (h : Bl W7 w') => slice_tx q t' AA f g w' (i7.bl h) hTx (by omega) (by omega)
                have cD := fun w' (h : Bl W7 w') => At_range q t' (f : Int) w' (i7.bl h) (by rw [hT4]; omega)
                have cG := fun w' (h : Bl W7 w') => bare_errno 2 2 w' (laid_bl LW h)
                rw [show ((2 : Int) == 2) = true from rfl] at cG
                clear f2 f3 hT4 hAs LW
                go_wp2_with (first
                  | (go_at_call 7; refine (cL _ (Bl.refl _)).mono ?_; clear cL; rintro e w8 ⟨rfl, q8⟩; have z8 := (x20.bl q8).cell)
                  | (go_at_call 8; refine (cS _ q8).mono ?_; clear cS; rintro e w9 ⟨rfl, hb9⟩; have q9 := q8.trans hb9; have z9 := (x20.bl q9).cell)
                  | (go_at_call 9; refine (cC _ q9).mono ?_; clear cC; rintro e w10 ⟨rfl, hb10⟩; have q10 := q9.trans hb10; have z10 := (x20.bl q10).cell)
                  | (go_at_call 10; refine (cD _ q10).mono ?_; clear cD; rintro e w12 ⟨rfl, hb12⟩; have q12 := q10.trans hb12)
                  | (go_at_call 6; refine (cG _ q12).mono ?_; clear cG; rintro e w13 ⟨rfl, gb13⟩; have q13 := q12.trans gb13.bl))
                exact ⟨⟨j + 1, by omega, by simp, hB2.trans (Q7.trans q13)⟩, by simp [intOf]; omega⟩


            · go_wp2
              go_ret
              exact ⟨rfl, hB.trans hB2⟩

  · have hs' : (300 : Int) < (a0.size : Int) ∨ (a0.size : Int) ≤ 300 ∧ (40 : Int) < (z1.length : Int) := by omega
    clear hs
    rcases hs' with h1 | ⟨h1, h2⟩
    · go_enter Tryd.func3, Tryd.ntmps3
      go_wp2
      go_ret
      exact ⟨rfl, Bl.refl _⟩
    · go_enter Tryd.func3, Tryd.ntmps3
      go_wp2
      go_ret
      exact ⟨rfl, Bl.refl _⟩

set_option maxRecDepth 100000 in
theorem lifted (os : Os) (started : os.Started) (H : Type) (enc : TypeId × Value → H) :
    ReturnsInHanded {} Tryd.checked os 3 .any (fun w args => (Rows.pieceEditsSpec.pre enc Tryd.prog Tryd.f3 [] false w args ∧ laidMetH Tryd.prog laying.list w) ∧ sizedMet enc Tryd.prog Tryd.f3 (OpenSpec.ofChange Rows.pieceEditsSpec) false w args) (Rows.pieceEditsSpec.post enc Tryd.prog Tryd.f3 false true false false) := by
  refine returnsInHanded_of_change_and (C := Tryd.checked) (X := fun w _ => laidMetH Tryd.prog laying.list w) (fun _ _ _ hh h => h.of_heap hh) own started (by kernel_rfl) Tryd.func3
    (ChangeSpec.witness_at (enc := enc) (C := Tryd.checked) (os := os) (X := fun w _ => laidMetH Tryd.prog laying.list w) false (laying.layCell (World.holding Tryd.prog os ⟨#[], #[], []⟩)) #[.string ByteArray.empty, .slice none 0 0, .int .i64 0, .int .i64 0] 8 rfl (by kernel_rfl) (by kernel_rfl) (by kernel_rfl) (by kernel_rfl) (by kernel_rfl) (laying.laidWorld_met os _)) ?_
  intro W base args ds gs before hval0 hW hcnd hsz0 hL _
  have hval : ∀ (j : Nat) t v, Tryd.f3.params[j]? = some t → args[j]? = some v → Value.okWide Tryd.prog W .any base t v := hval0
  have hW' := hW
  obtain ⟨p, q, hA0, hV, rfl, hfz, hnd⟩ := hW
  have hA : DataW.TrodAll enc Tryd.prog W 0 (fun _ => true) true Tryd.f3.params.toList args.toList ds p := hA0
  have hsz : (DataW.weightsEach Tryd.prog (Tryd.f3.params.toList ++ Rows.pieceEditsSpec.plain.varTypes Tryd.prog) (ds ++ gs)).all (· ≤ reachBytes) = true := hsz0
  rw [Tryd.params3] at hA hval hsz
  obtain ⟨v0, vs0, d0, ds0, p0, q0, hargs, rfl, rfl, h0, r0⟩ := trodAll_cons hA
  obtain ⟨v1, vs1, d1, ds1, p1, q1, rfl, rfl, rfl, h1, r1⟩ := trodAll_cons r0
  obtain ⟨v2, vs2, d2, ds2, p2, q2, rfl, rfl, rfl, h2, r2⟩ := trodAll_cons r1
  obtain ⟨v3, vs3, d3, ds3, p3, q3, rfl, rfl, rfl, h3, r3⟩ := trodAll_cons r2
  obtain ⟨rfl, rfl, rfl⟩ := trodAll_nil r3
  obtain rfl : args = #[v0, v1, v2, v3] := by cases args; simp_all
  obtain ⟨rfl, rfl⟩ := trodVars_none hV
  obtain ⟨a0, rfl, rfl, rfl, w0⟩ := open_string Tryd.underlying9 (hval 0 9 v0 rfl rfl) h0
  obtain ⟨a1, len1, cap1, rfl⟩ := okWide_slice Tryd.underlying22 (hval 1 22 v1 rfl rfl)
  have k1 := h1
  have lt1 : ∀ x ∈ p1, x.block < W.heap.size := by obtain ⟨m, hm⟩ := k1; exact DataW.trod_lt m _ _ _ hm
  obtain ⟨z1, w1⟩ : ∃ zs, pc.IsCh W a1 len1 cap1 zs := pc.ch_open h1
  obtain ⟨a2, rfl, rfl, rfl, w2⟩ := open_int Tryd.underlying3 (hval 2 3 v2 rfl rfl) h2
  obtain ⟨a3, rfl, rfl, rfl, w3⟩ := open_int Tryd.underlying3 (hval 3 3 v3 rfl rfl) h3
  clear hA0 hval0 hsz0 hsz
  refine (walk a0 a1 len1 cap1 z1 a2 a3 W w0 w1 w2 w3 (laying.handle_of_laid hL)).mono fun e W' ⟨he, bel⟩ => ?_
  subst he
  exact ⟨_, rfl, _, _, _, [], _, [], hW', trodAll_mk1 (shut_bool Tryd.underlying4 _), (trodAll_cons_mk (shut_string Tryd.underlying9 w0) (trodAll_cons_mk (Below.trod laidOut (by kernel_rfl) (of_decide_eq_true (by kernel_rfl)) k1 bel lt1) (trodAll_cons_mk (shut_int Tryd.underlying3 w2) (trodAll_cons_mk (shut_int Tryd.underlying3 w3) trodAll_mk0)))), rfl, bel.frame _, fun h => by cases h⟩

theorem over : Rows.pieceEditsRow.holds Tryd.pinned (OpenSpec.ofChange Rows.pieceEditsSpec) :=
  OpenClaim.holds_of_wide 3 Tryd.f3 rfl rfl rfl rfl rfl rfl rfl ⟨rfl, rfl, rfl, rfl, rfl⟩ rfl rfl rfl rfl rfl (by kernel_rfl) Tryd.func3 (by kernel_rfl)
    (of_decide_eq_true (by kernel_rfl)) (by unfold Func.isWrapper; first | (rw [if_pos (by decide +kernel)]; kernel_rfl) | (rw [if_neg (by decide +kernel)]; exact ⟨rfl, rfl⟩))
    (fun os started H enc _ => lifted os started H enc)

theorem tied : Rows.PieceEditsCardSaid :=
  Claim7.holds_tied_plain_at .later [] [.handle] true (true, "d9617ee40d6ad12f96016984da6594d254081db5971d09a5293e4542c25fad1e") true
    over (fun _ h => by cases h) (by kernel_rfl) (fun _ h => by cases h) pieceEdits_row_tie rfl ⟨rfl, rfl⟩ (by kernel_rfl) rfl
    (fun f fn hf hfn => by
      obtain rfl : f = 3 := Option.some.inj ((show Tryd.prog.funcNamed "escritoire/escritoirelaw.PieceEdits" = some 3 by kernel_rfl).symm.trans hf) |>.symm
      obtain rfl : fn = Tryd.f3 := (Option.some.inj (Tryd.func3.symm.trans hfn)).symm
      exact ⟨by kernel_rfl, fun j t ht => by
        rw [Tryd.params3] at ht
        rcases j with _ | j
        · obtain rfl : t = 9 := by simpa using ht.symm
          exact (show Tryd.prog.wantsStandIn 9 = false by kernel_rfl)
        · rcases j with _ | j
          · obtain rfl : t = 22 := by simpa using ht.symm
            exact (show Tryd.prog.wantsStandIn 22 = false by kernel_rfl)
          · rcases j with _ | j
            · obtain rfl : t = 3 := by simpa using ht.symm
              exact (show Tryd.prog.wantsStandIn 3 = false by kernel_rfl)
            · rcases j with _ | j
              · obtain rfl : t = 3 := by simpa using ht.symm
                exact (show Tryd.prog.wantsStandIn 3 = false by kernel_rfl)
              · simp at ht⟩)
    (by kernel_rfl)
end Go.Proofs.YtkjlcgclabgkaaaDoor.pieceEdits
namespace Go.Proofs.YtkjlcgclabgkaaaDoor
/-- The given statement. -/
theorem pieceEdits_holds : Rows.PieceEditsCardSaid := pieceEdits.tied
#print axioms pieceEdits_holds
end Go.Proofs.YtkjlcgclabgkaaaDoor
