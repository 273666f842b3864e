/- What is proved: for every text, all edits of it one behind the other (as PieceParts picks them) and every place to stop at, no edit makes more than 2 pieces more, no tree of n pieces is deeper than 2 log2 of n + 2 rounded up, the pieces one behind the other are the text, none is empty, and going through them stops where it is told to. No conditions. -/
import Derived.Test.YtkjlcgclabgkaaaRows
import Derived.WalkKit
import Derived.ProofKit
import Derived.OpenShut
import Derived.Test.YtkjlcgclabgkaaaPc12
import Derived.ShutString
import Derived.ChangeOld
import Derived.Below
namespace Go.Proofs.Ytkjlcgclabgkaaa.pieceParts
open Go.ChangeShapes Go.WideShapes Go.ChangeAt Go.RowKit
open Go.ChangeMaps (open_string shut_string)
set_option linter.unusedVariables false

theorem own : ownKnob Try.prog.godebug = none := by kernel_rfl
theorem laidOut : laidOutB Try.prog = true := by kernel_rfl

/-- WHAT THE WALK IS TOLD OF A SLICE OF INTEGERS THAT CAME IN: it is nil; or it leads to a row of 'cap' cells, the numbers 'zs' (the first 'len' are its elements, the rest its spare room), each fitting its kind. -/
def IsRow (k : IntKind) (w : World) (a : Option Addr) (len cap : Nat) (zs : List Int) : Prop :=
  (a = none ∧ len = 0 ∧ cap = 0 ∧ zs = []) ∨
  ∃ x, a = some x ∧ len ≤ cap ∧ cap ≤ maxLen ∧ zs.length = cap ∧ (∀ i, i < zs.length → w.cell? (x.add i) = some (.int k (zs.getD i 0))) ∧ ∀ n ∈ zs, (Lit.int k n).wf = true

open mem pc
open Go.Shelf
attribute [local go_sem] Oper.semAt_some
/-- Numbers that came in. -/
def In (w : World) (p : Option Addr) (l : List Int) : Prop :=
  l = [] ∨ ∃ x : Addr, p = some x ∧ ∀ k, k < l.length → w.cell? (x.add k) = some (.int .i64 (l.getD k 0))
theorem In.step {w w' : World} {p : Option Addr} {l : List Int} (h : In w p l) (hb : Bl w w') : In w' p l := by
  rcases h with h | ⟨x, h1, h2⟩
  · exact Or.inl h
  · exact Or.inr ⟨x, h1, fun k hk => cell_bl hb (h2 k hk)⟩
theorem In.at {w : World} {p : Option Addr} {l : List Int} (h : In w p l) (k : Nat) (hk : k < l.length) : ∃ x : Addr, p = some x ∧ w.cell? (x.add k) = some (.int .i64 (l.getD k 0)) := by
  rcases h with h | ⟨x, h1, h2⟩
  · rw [h] at hk; exact absurd hk (Nat.not_lt_zero _)
  · exact ⟨x, h1, h2 k hk⟩
theorem in_of {w : World} {a : Option Addr} {len cap : Nat} {zs : List Int} (h : IsRow .i64 w a len cap zs) : ∃ l : List Int, l.length = len ∧ In w a l := by
  rcases h with ⟨_, h1, _, _⟩ | ⟨x, hx, hl, _, hz, hc, _⟩
  · exact ⟨[], h1.symm, Or.inl rfl⟩
  · refine ⟨zs.take len, by rw [List.length_take]; omega, Or.inr ⟨x, hx, fun k hk => ?_⟩⟩
    rw [List.length_take] at hk
    rw [hc k (by omega)]
    simp [List.getD_eq_getElem?_getD, show k < len by omega]
theorem bx_below {A B : World} {n b : Nat} {v : Value} {t : TypeId} (h : Bx A b v t) (k : Below n A B) (hb : b < n) : Bx B b v t := (k.block b hb).trans h
theorem own_def {β : Type} {B D : Nat} {o : Obj} (h : D < B) : OwnFrom B (fun (_ : β) W => W.heap[D]? = some o) := fun s W W' row hs hg hr => by
  have hlt : D < W.heap.size := (Array.getElem?_eq_some_iff.1 hs).1
  dsimp only at hs ⊢
  rw [hg.block D hlt ?_]
  · exact hs
  · intro e
    have := (hr D e.symm).1
    omega
theorem fin_keep {w' : World} {ba bt bk b9 b10 : Nat} {z q k s v : Value} (h : w'.cell? ⟨ba, 0, none⟩ = some z ∧ w'.cell? ⟨bt, 0, none⟩ = some q ∧ w'.cell? ⟨bk, 0, none⟩ = some k ∧ w'.cell? ⟨b9, 0, none⟩ = some s)
    (n1 : b10 ≠ ba) (n2 : b10 ≠ bt) (n3 : b10 ≠ bk) (n4 : b10 ≠ b9) :
    (w'.setCell ⟨b10, 0, none⟩ v).cell? ⟨ba, 0, none⟩ = some z ∧ (w'.setCell ⟨b10, 0, none⟩ v).cell? ⟨bt, 0, none⟩ = some q ∧ (w'.setCell ⟨b10, 0, none⟩ v).cell? ⟨bk, 0, none⟩ = some k ∧ (w'.setCell ⟨b10, 0, none⟩ v).cell? ⟨b9, 0, none⟩ = some s := by
  obtain ⟨h1, h2, h3, h4⟩ := h
  refine ⟨(World.cell?_setCell_far _ _ _ _ n1).trans h1, (World.cell?_setCell_far _ _ _ _ n2).trans h2, (World.cell?_setCell_far _ _ _ _ n3).trans h3, (World.cell?_setCell_far _ _ _ _ n4).trans h4⟩
/-- A tree stays where a variable of one cell that was there is written. -/
theorem far_T {wr W : World} {b : Nat} {v : Value} {ty : TypeId} {p : Option Addr} {t : Tr} {u : Value} (hx : Bx wr b v ty) (hb : Below wr.heap.size wr W) : Is wr p t → IsT wr.heap.size (W.setCell ⟨b, 0, none⟩ u) p t := by
  intro h
  have h' : IsT wr.heap.size W p t := IsT.below hb h
  have hx' : Bx W b v ty := Bx.bl hx hb
  clear h hx
  induction t generalizing p with
  | leaf => exact h'
  | node l s r ihl ihr =>
    obtain ⟨d, pl, pr, hp, hd, h0, h1, h2, h3, h4, h5, hl, hr⟩ := h'
    have hne : d ≠ b := by
      intro e
      subst e
      unfold Bx at hx'
      simp [World.cell?, hx'] at h1
    have hk : ∀ i, (W.setCell ⟨b, 0, none⟩ u).cell? ⟨d, i, none⟩ = W.cell? ⟨d, i, none⟩ := fun i => World.cell?_setCell_far _ _ _ _ (fun e => hne e.symm)
    exact ⟨d, pl, pr, hp, hd, (hk 0).trans h0, (hk 1).trans h1, (hk 2).trans h2, (hk 3).trans h3, (hk 4).trans h4, (hk 5).trans h5, ihl hl, ihr hr⟩
set_option maxHeartbeats 4000000 in
set_option maxRecDepth 100000 in
theorem walk (a0 : ByteArray) (a1 : Option Addr) (len1 cap1 : Nat) (z1 : List Int) (a2 : Option Addr) (len2 cap2 : Nat) (z2 : List Int) (a3 : ByteArray) (a4 : Int) (w : World) (w0 : a0.size ≤ maxLen) (w1 : IsRow .i64 w a1 len1 cap1 z1) (w2 : IsRow .i64 w a2 len2 cap2 z2) (w3 : a3.size ≤ maxLen) (w4 : (Lit.int .i64 a4).wf = true) :
    Calls Try.prog 3 #[.string a0, .slice a1 len1 cap1, .slice a2 len2 cap2, .string a3, .int .i64 a4] w fun e w' => e = .returned (.bool true) ∧ Below w.heap.size w w' := by
  obtain ⟨l1, rfl, hin1⟩ := in_of w1
  obtain ⟨l2, rfl, hin2⟩ := in_of w2
  clear w1 w2 w4
  have cF := fun w => pieced_at w
  have HX9 : Hid (Bx (w.alloc (.cells #[.int .i64 a4] 3)) w.heap.size (.int .i64 a4) 3) := Bx.new _ _ _
  have HX10 : Hid (Bx ((w.alloc (.cells #[.int .i64 a4] 3)).alloc (.cells #[.bool false] 4)) (w.heap.size + 1) (.bool false) 4) := by
    have h := Bx.new (w.alloc (.cells #[.int .i64 a4] 3)) (.bool false) 4
    rw [World.size_alloc] at h
    exact h
  have B0 : Bl w ((w.alloc (.cells #[.int .i64 a4] 3)).alloc (.cells #[.bool false] 4)) := ((Bl.refl w).alloc _).alloc _
  refine (callsIn_wide (n := 5)).1 ?_
  refine callsIn_of_wp_marks (F := Fence.wide) (n := 5) Try.func3 rfl trivial ?_ rfl
  refine wpIn_wide.2 ?_
  simp only [Try.ntmps3, List.size_toArray, List.length_cons, List.length_nil, Nat.reduceAdd, Nat.reduceSub, Array.replicate_succ, Array.replicate_zero, List.push_toArray, List.append_toArray, List.nil_append, List.cons_append]
  by_cases hs : a0.size ≤ 200 ∧ l1.length ≤ 60 ∧ a3.size ≤ 40
  · obtain ⟨hs0, hs1, hs3⟩ := hs
    have hz0 : (a0.size : Int) ≤ 200 := by omega
    have hz1 : (l1.length : Int) ≤ 60 := by omega
    have hz3 : (a3.size : Int) ≤ 40 := by omega
    have cO := fun w => Of_at a0 w (by omega)
    go_wp2_with (first
      | (go_at_call 5; refine (cF _).mono ?_; clear cF; rintro e v0 ⟨rfl, hb0⟩)
      | (go_at_call 6; refine (cO _).mono ?_; clear cO; rintro e v1 ⟨p, t, rfl, hi, hx, hb1⟩; have cP := Parts_at p t _ (hi.bl ((Bl.refl v1).alloc (.cells #[.pointer p] 26))); have hxt := Bx.new v1 (.pointer p) 26)
      | (go_at_call 7; refine cP.mono ?_; clear cP; rintro e v2 ⟨rfl, hb2⟩))
    have sz1 : w.heap.size + 2 ≤ v1.heap.size := by have h1 := hb0.size; have h2 := hb1.size; simp at h1; omega
    obtain ⟨bt, hbt⟩ : ∃ bt, bt = v1.heap.size := ⟨_, rfl⟩
    have hx2 : Bx v2 bt (.pointer p) 26 := by rw [hbt]; exact hxt.bl hb2
    have B2 : Bl w v2 := (((B0.trans hb0).trans hb1).alloc _).trans hb2
    have hx9 : Bx v2 w.heap.size (.int .i64 a4) 3 := (((HX9.out.bl ((Bl.refl _).alloc _)).bl hb0).bl hb1).bl (((Bl.refl _).alloc _).trans hb2)
    have hx10 : Bx v2 (w.heap.size + 1) (.bool false) 4 := ((HX10.out.bl hb0).bl hb1).bl (((Bl.refl _).alloc _).trans hb2)
    have hi2 := hi.bl (((Bl.refl v1).alloc (.cells #[.pointer p] 26)).trans hb2)
    have hlen0 : a0.data.toList.length ≤ 200 := hs0
    rw [← hbt] at sz1 ⊢
    clear hbt hi hxt HX9 HX10 hb0 hb1 hb2
    go_loopw [12, 14] (fun was i wr => ∃ (k : Nat) (q : Option Addr) (t : Tr) (L : List UInt8), k ≤ l1.length ∧ i = .int .i64 (k : Int) ∧ was = .int .i64 ((t.ps.length : Nat) : Int) ∧ Tx L t ∧ L.length ≤ 200 + 40 * k ∧ Is wr q t ∧ Bx wr bt (.pointer q) 26 ∧ Bx wr w.heap.size (.int .i64 a4) 3 ∧ Bx wr (w.heap.size + 1) (.bool false) 4 ∧ Bl w wr) (fun was i wr => l1.length - (intOf i).toNat)
    case atStart => exact ⟨0, p, t, _, Nat.zero_le _, rfl, rfl, hx, hlen0, hi2, hx2, hx9, hx10, B2⟩
    case round =>
      clear hx hi2 hx2 hx9 hx10 B2 hlen0
      obtain ⟨k, q, t', L, hk, rfl, rfl, hT, hL, hi, hxt, hx9, hx10, hB⟩ := hrel
      by_cases hkl : k < l1.length
      · obtain ⟨x1, rfl, hc1⟩ := hin1.at k hkl
        obtain ⟨Y, hY⟩ : ∃ Y, Y = l1.getD k 0 := ⟨_, rfl⟩
        rw [← hY] at hc1
        have hklI : (k : Int) < (l1.length : Int) := by omega
        have hk0 : (0 : Int) ≤ (k : Int) := by omega
        obtain ⟨T, hTT⟩ : ∃ T, T = L.length := ⟨_, rfl⟩
        have cL := fun w' (h : Bl wr w') => Len_tx q t' L w' (hi.bl h) hT
        obtain ⟨A, hA⟩ : ∃ A, A = pk Y (T + 1) := ⟨_, rfl⟩
        have hA1 : A ≤ T := by have := pk_lt Y (T + 1) (by omega); omega
        have cp1 := fun w' => pick_at Y (T + 1) w' (by omega) (by omega)
        rw [← hA, show ((T + 1 : Nat) : Int) = (T : Int) + 1 by omega] at cp1
        rw [← hTT] at cL
        have HS : Hid (∀ w', Bl wr w' → w'.cell? (x1.add k) = some (.int .i64 Y) ∧ w'.cell? ⟨bt, 0, none⟩ = some (.pointer q)) := fun w' h => ⟨cell_bl (hB.trans h) hc1, (hxt.bl h).cell⟩
        have hw1 : IntKind.i64.wrap ((T : Int) + 1) = (T : Int) + 1 := by rw [IntKind.wrap_i64]; omega
        have HTT : Hid (T = L.length) := hTT
        clear hTT hA hY
        go_wp2
        have HB3 : Bl wr wr.drew := (Bl.refl wr).drew
        have hs3 := HS.out _ HB3
        go_region_held3 (fun w' => w'.cell? (x1.add k) = some (.int .i64 Y) ∧ w'.cell? ⟨bt, 0, none⟩ = some (.pointer q)) (assumption) (first
          | (go_at_call 9; refine (cL _ HB3).mono ?_; rintro e w4 ⟨rfl, hb4⟩; have HB4 := HB3.trans hb4; have hs4 := HS.out _ HB4)
          | (go_at_call 8; refine (cp1 _).mono ?_; clear cp1; rintro e w5 ⟨rfl, rfl⟩))
        obtain ⟨K3, hK3⟩ : ∃ K3 : Nat, K3 = k % 3 := ⟨_, rfl⟩
        obtain ⟨M3, hM3⟩ : ∃ M3 : Nat, M3 = a3.size * K3 := ⟨_, rfl⟩
        obtain ⟨J, hJ⟩ : ∃ J : Nat, J = M3 / 2 := ⟨_, rfl⟩
        have hM3' : M3 ≤ a3.size * 2 := by rw [hM3]; exact Nat.mul_le_mul_left _ (by omega)
        have j1 : (k : Int).tmod 3 = (K3 : Int) := by rw [Int.tmod_eq_emod_of_nonneg hk0]; omega
        have j2 : IntKind.i64.wrap ((a3.size : Int) * (K3 : Int)) = (M3 : Int) := by
          rw [show (a3.size : Int) * (K3 : Int) = (M3 : Int) by rw [hM3]; push_cast; rfl, IntKind.wrap_i64]; omega
        have j3 : IntKind.i64.wrap ((M3 : Int) / 2) = (J : Int) := by rw [IntKind.wrap_i64]; omega
        have j4 : (0 : Int) ≤ (J : Int) := by omega
        have j5 : (J : Int) ≤ (a3.size : Int) := by omega
        have hJ40 : J ≤ 40 := by omega
        have hsJ : (a3.extract 0 J).size ≤ 40 := by rw [ex_size]; omega
        clear hs3 hK3 hM3 hJ hM3' cL
        rename_i hs3' _
        by_cases hk2 : k < l2.length
        · obtain ⟨x2, rfl, hc2⟩ := hin2.at k hk2
          obtain ⟨Y2, hY2⟩ : ∃ Y2, Y2 = l2.getD k 0 := ⟨_, rfl⟩
          rw [← hY2] at hc2
          have hk2I : (k : Int) < (l2.length : Int) := by omega
          obtain ⟨O, hO⟩ : ∃ O, O = pk Y2 (T - A + 1) := ⟨_, rfl⟩
          have hO1 : O ≤ T - A := by have := pk_lt Y2 (T - A + 1) (by omega); omega
          have cp2 := fun w' => pick_at Y2 (T - A + 1) w' (by omega) (by have := HTT.out; omega)
          rw [← hO, show ((T - A + 1 : Nat) : Int) = (T : Int) - (A : Int) + 1 by omega] at cp2
          have cL2 := fun w' (h : Bl wr w') => Len_tx q t' L w' (hi.bl h) hT
          rw [← HTT.out] at cL2
          have HS2 : Hid (∀ w', Bl wr w' → w'.cell? (x2.add k) = some (.int .i64 Y2) ∧ w'.cell? ⟨bt, 0, none⟩ = some (.pointer q)) := fun w' h => ⟨cell_bl (hB.trans h) hc2, (hxt.bl h).cell⟩
          have hw2 : IntKind.i64.wrap ((T : Int) - (A : Int)) = (T : Int) - (A : Int) := by have := HTT.out; rw [IntKind.wrap_i64]; omega
          have hw3 : IntKind.i64.wrap ((T : Int) - (A : Int) + 1) = (T : Int) - (A : Int) + 1 := by have := HTT.out; rw [IntKind.wrap_i64]; omega
          have cE := fun w' (h : Bl wr w') => Edit_tx q t' L A O (a3.extract 0 J) w' (hi.bl h) hT (by have := HTT.out; omega) (by omega)
          clear hY2 hO
          go_wp2
          have HBa : Bl wr w5.drew := HB4.drew
          have hsa := HS2.out _ HBa
          go_region_held3 (fun w' => w'.cell? (x2.add k) = some (.int .i64 Y2) ∧ w'.cell? ⟨bt, 0, none⟩ = some (.pointer q)) (assumption) (first
            | (go_at_call 9; refine (cL2 _ HBa).mono ?_; clear cL2; rintro e wb ⟨rfl, hbb⟩; have HBb := HBa.trans hbb; have hsb := HS2.out _ HBb)
            | (go_at_call 8; refine (cp2 _).mono ?_; clear cp2; rintro e wc ⟨rfl, rfl⟩))
          clear hsa hs4 hsb
          go_wp2
          have HB5 : Bl wr wc.drew := HBb.drew
          have HB5a : Bl wr (wc.alloc (.cells #[.pointer none] 26)).drew := (HBb.alloc _).drew
          have hs5 := (HS.out _ HB5).2
          have h5c := (HS.out _ HBb).2
          have s5 := (hB.trans HBb).size
          go_region_held3 (fun w' => w'.cell? ⟨bt, 0, none⟩ = some (.pointer q)) (first | assumption | exact cell_bl ((Bl.refl _).alloc _) (by assumption) | exact (World.cell?_setCell_far _ _ _ _ (World.new_ne _ _ (by assumption))).trans (by assumption)) (first
            | (go_at_call 10; refine (cE _ HB5).mono ?_; clear cE; rintro e w6 ⟨q', t2, rfl, hi6, hT6, hn6, hb6⟩; have HB6 := HB5.trans hb6; have hs6 := (HS.out _ HB6).2)
            | (go_at_call 10; refine (cE _ HB5a).mono ?_; clear cE; rintro e w6 ⟨q', t2, rfl, hi6, hT6, hn6, hb6⟩; have HB6 := HB5a.trans hb6; have hs6 := (HS.out _ HB6).2; have y6 := (Bx.new wc (.pointer none) 26).bl (((Bl.refl _).drew).trans hb6); have y6c := y6.cell; have y6f := y6.frozen))
          · obtain ⟨W7, hW7⟩ : ∃ W7, W7 = w6.alloc (.cells #[.pointer q'] 26) := ⟨_, rfl⟩
            obtain ⟨bu, hbu⟩ : ∃ bu, bu = w6.heap.size := ⟨_, rfl⟩
            have Q67 : Bl w6 W7 := by rw [hW7]; exact (Bl.refl w6).alloc _
            have x17 : Bx W7 bu (.pointer q') 26 := by rw [hW7, hbu]; exact Bx.new _ _ _
            have xt7 : Bx W7 bt (.pointer q) 26 := (hxt.bl HB6).bl Q67
            have x97 : Bx W7 w.heap.size (.int .i64 a4) 3 := (hx9.bl HB6).bl Q67
            have x107 : Bx W7 (w.heap.size + 1) (.bool false) 4 := (hx10.bl HB6).bl Q67
            have i7 := hi6.bl Q67
            have B7 : Bl w W7 := (hB.trans HB6).trans Q67
            have nbu : bt ≠ bu := by rw [hbu]; have := (hxt.bl HB6).lt; omega
            rw [← hW7, ← hbu]
            clear hW7 hbu
            clear hs6 hb6 HB6 hi6
            have z17 := x17.cell
            have zt7 := xt7.cell
            have ft7 := xt7.frozen
            have x8 := xt7.set (.pointer q')
            have i8 := i7.far xt7 (.pointer q')
            have x98 := x97.other (a := ⟨bt, 0, none⟩) (by show bt ≠ w.heap.size; omega) (.pointer q')
            have x108 := x107.other (a := ⟨bt, 0, none⟩) (by show bt ≠ w.heap.size + 1; omega) (.pointer q')
            have B8 : Bl w (W7.setCell ⟨bt, 0, none⟩ (.pointer q')) := B7.setCell (by show w.heap.size ≤ bt; omega) _
            have z8 := x8.cell
            have cP := Parts_at q' t2 _ i8
            have hdp := bal_deep t2 hT6.b
            have hln : t2.ps.length ≤ 5000 := by have h1 := len_tot hT6.f.1; rw [hT6.tot] at h1; simp only [List.length_append, List.length_take, List.length_drop, bs_len] at h1; have := HTT.out; omega
            have cD := fun w' => deepest_at t2.ps.length w' hln
            have hn6I : ((t2.ps.length : Nat) : Int) ≤ ((t'.ps.length : Nat) : Int) + 2 := by omega
            have hn7 : t'.ps.length ≤ 5000 := by have h1 := len_tot hT.f.1; rw [hT.tot] at h1; omega
            have hw8 : IntKind.i64.wrap (((t'.ps.length : Nat) : Int) + 2) = ((t'.ps.length : Nat) : Int) + 2 := by rw [IntKind.wrap_i64]; omega
            have hLl : (L.take A ++ (a3.extract 0 J).data.toList ++ L.drop (A + O)).length ≤ 200 + 40 * (k + 1) := by simp only [List.length_append, List.length_take, List.length_drop, bs_len]; have := HTT.out; omega
            have HD : Hid (∀ K : Nat, (t2.ps.length + 2) * (t2.ps.length + 2) ≤ 2 ^ K → t2.dp ≤ K) := by
              intro K hK
              rcases Nat.lt_or_ge K t2.dp with h | h
              · have h1 : 2 ^ (K + 1) ≤ 2 ^ t2.dp := Nat.pow_le_pow_right (by omega) h
                have h2 : (t2.ps.length + 1) * (t2.ps.length + 1) ≤ (t2.ps.length + 2) * (t2.ps.length + 2) := Nat.mul_le_mul (by omega) (by omega)
                have h3 : 0 < 2 ^ K := Nat.two_pow_pos K
                rw [Nat.pow_succ] at h1
                omega
              · exact h
            have HL : Hid _ := hLl
            clear hdp hLl hln hn7
            rcases Nat.eq_zero_or_pos t2.ps.length with hz | hz
            · have hzI : ((t2.ps.length : Nat) : Int) ≤ 0 := by omega
              clear cD HD hz
              go_wp2_with (go_at_call 7; refine cP.mono ?_; clear cP; rintro e w8 ⟨rfl, hb8⟩)
              exact ⟨⟨k + 1, q', t2, _, by omega, by simp, rfl, hT6, HL.out, i8.bl hb8, x8.bl hb8, x98.bl hb8, x108.bl hb8, B8.trans hb8⟩, by simp [intOf]; omega⟩
            · have hzI : (0 : Int) < ((t2.ps.length : Nat) : Int) := by omega
              go_wp2_with (first
                | (go_at_call 7; refine cP.mono ?_; clear cP; rintro e w8 ⟨rfl, hb8⟩)
                | (go_at_call 11; refine (cD _).mono ?_; clear cD; rintro e w9 ⟨⟨K, rfl, hK, hK30⟩, rfl⟩; have hKd := HD.out K hK; have hKI : ((t2.dp : Nat) : Int) ≤ (K : Int) := by omega))
              exact ⟨⟨k + 1, q', t2, _, by omega, by simp, rfl, hT6, HL.out, i8.bl hb8, x8.bl hb8, x98.bl hb8, x108.bl hb8, B8.trans hb8⟩, by simp [intOf]; omega⟩
          · obtain ⟨W7, hW7⟩ : ∃ W7, W7 = w6.setCell ⟨wc.heap.size, 0, none⟩ (.pointer q') := ⟨_, rfl⟩
            obtain ⟨bu, hbu⟩ : ∃ bu, bu = wc.heap.size := ⟨_, rfl⟩
            have n5 : bt < wc.heap.size := World.block_lt_of_cell? _ _ h5c
            have x17 : Bx W7 bu (.pointer q') 26 := by rw [hW7, hbu]; exact y6.set _
            have xt7 : Bx W7 bt (.pointer q) 26 := by rw [hW7]; exact (hxt.bl HB6).other (by show wc.heap.size ≠ bt; omega) _
            have x97 : Bx W7 w.heap.size (.int .i64 a4) 3 := by rw [hW7]; exact (hx9.bl HB6).other (by show wc.heap.size ≠ w.heap.size; omega) _
            have x107 : Bx W7 (w.heap.size + 1) (.bool false) 4 := by rw [hW7]; exact (hx10.bl HB6).other (by show wc.heap.size ≠ w.heap.size + 1; omega) _
            have i7 : Is W7 q' t2 := by rw [hW7]; exact hi6.far y6 _
            have B7 : Bl w W7 := by rw [hW7]; exact (hB.trans HB6).setCell (by show w.heap.size ≤ wc.heap.size; omega) _
            have nbu : bt ≠ bu := by rw [hbu]; omega
            rw [← hW7, ← hbu]
            clear hW7 hbu
            clear hs6 hb6 HB6 hi6
            have z17 := x17.cell
            have zt7 := xt7.cell
            have ft7 := xt7.frozen
            have x8 := xt7.set (.pointer q')
            have i8 := i7.far xt7 (.pointer q')
            have x98 := x97.other (a := ⟨bt, 0, none⟩) (by show bt ≠ w.heap.size; omega) (.pointer q')
            have x108 := x107.other (a := ⟨bt, 0, none⟩) (by show bt ≠ w.heap.size + 1; omega) (.pointer q')
            have B8 : Bl w (W7.setCell ⟨bt, 0, none⟩ (.pointer q')) := B7.setCell (by show w.heap.size ≤ bt; omega) _
            have z8 := x8.cell
            have cP := Parts_at q' t2 _ i8
            have hdp := bal_deep t2 hT6.b
            have hln : t2.ps.length ≤ 5000 := by have h1 := len_tot hT6.f.1; rw [hT6.tot] at h1; simp only [List.length_append, List.length_take, List.length_drop, bs_len] at h1; have := HTT.out; omega
            have cD := fun w' => deepest_at t2.ps.length w' hln
            have hn6I : ((t2.ps.length : Nat) : Int) ≤ ((t'.ps.length : Nat) : Int) + 2 := by omega
            have hn7 : t'.ps.length ≤ 5000 := by have h1 := len_tot hT.f.1; rw [hT.tot] at h1; omega
            have hw8 : IntKind.i64.wrap (((t'.ps.length : Nat) : Int) + 2) = ((t'.ps.length : Nat) : Int) + 2 := by rw [IntKind.wrap_i64]; omega
            have hLl : (L.take A ++ (a3.extract 0 J).data.toList ++ L.drop (A + O)).length ≤ 200 + 40 * (k + 1) := by simp only [List.length_append, List.length_take, List.length_drop, bs_len]; have := HTT.out; omega
            have HD : Hid (∀ K : Nat, (t2.ps.length + 2) * (t2.ps.length + 2) ≤ 2 ^ K → t2.dp ≤ K) := by
              intro K hK
              rcases Nat.lt_or_ge K t2.dp with h | h
              · have h1 : 2 ^ (K + 1) ≤ 2 ^ t2.dp := Nat.pow_le_pow_right (by omega) h
                have h2 : (t2.ps.length + 1) * (t2.ps.length + 1) ≤ (t2.ps.length + 2) * (t2.ps.length + 2) := Nat.mul_le_mul (by omega) (by omega)
                have h3 : 0 < 2 ^ K := Nat.two_pow_pos K
                rw [Nat.pow_succ] at h1
                omega
              · exact h
            have HL : Hid _ := hLl
            clear hdp hLl hln hn7
            rcases Nat.eq_zero_or_pos t2.ps.length with hz | hz
            · have hzI : ((t2.ps.length : Nat) : Int) ≤ 0 := by omega
              clear cD HD hz
              go_wp2_with (go_at_call 7; refine cP.mono ?_; clear cP; rintro e w8 ⟨rfl, hb8⟩)
              exact ⟨⟨k + 1, q', t2, _, by omega, by simp, rfl, hT6, HL.out, i8.bl hb8, x8.bl hb8, x98.bl hb8, x108.bl hb8, B8.trans hb8⟩, by simp [intOf]; omega⟩
            · have hzI : (0 : Int) < ((t2.ps.length : Nat) : Int) := by omega
              go_wp2_with (first
                | (go_at_call 7; refine cP.mono ?_; clear cP; rintro e w8 ⟨rfl, hb8⟩)
                | (go_at_call 11; refine (cD _).mono ?_; clear cD; rintro e w9 ⟨⟨K, rfl, hK, hK30⟩, rfl⟩; have hKd := HD.out K hK; have hKI : ((t2.dp : Nat) : Int) ≤ (K : Int) := by omega))
              exact ⟨⟨k + 1, q', t2, _, by omega, by simp, rfl, hT6, HL.out, i8.bl hb8, x8.bl hb8, x98.bl hb8, x108.bl hb8, B8.trans hb8⟩, by simp [intOf]; omega⟩
        · have hk2I : (l2.length : Int) ≤ (k : Int) := by omega
          have cE := fun w' (h : Bl wr w') => Edit_tx q t' L A 0 (a3.extract 0 J) w' (hi.bl h) hT (by have := HTT.out; omega) (by omega)
          rw [show ((0 : Nat) : Int) = 0 from rfl] at cE
          go_wp2
          have HB5 : Bl wr w5.drew := HB4.drew
          have HB5a : Bl wr (w5.alloc (.cells #[.pointer none] 26)).drew := (HB4.alloc _).drew
          have hs5 := (HS.out _ HB5).2
          have h5c := (HS.out _ HB4).2
          have s5 := (hB.trans HB4).size
          go_region_held3 (fun w' => w'.cell? ⟨bt, 0, none⟩ = some (.pointer q)) (first | assumption | exact cell_bl ((Bl.refl _).alloc _) (by assumption) | exact (World.cell?_setCell_far _ _ _ _ (World.new_ne _ _ (by assumption))).trans (by assumption)) (first
            | (go_at_call 10; refine (cE _ HB5).mono ?_; clear cE; rintro e w6 ⟨q', t2, rfl, hi6, hT6, hn6, hb6⟩; have HB6 := HB5.trans hb6; have hs6 := (HS.out _ HB6).2)
            | (go_at_call 10; refine (cE _ HB5a).mono ?_; clear cE; rintro e w6 ⟨q', t2, rfl, hi6, hT6, hn6, hb6⟩; have HB6 := HB5a.trans hb6; have hs6 := (HS.out _ HB6).2; have y6 := (Bx.new w5 (.pointer none) 26).bl (((Bl.refl _).drew).trans hb6); have y6c := y6.cell; have y6f := y6.frozen))
          · obtain ⟨W7, hW7⟩ : ∃ W7, W7 = w6.alloc (.cells #[.pointer q'] 26) := ⟨_, rfl⟩
            obtain ⟨bu, hbu⟩ : ∃ bu, bu = w6.heap.size := ⟨_, rfl⟩
            have Q67 : Bl w6 W7 := by rw [hW7]; exact (Bl.refl w6).alloc _
            have x17 : Bx W7 bu (.pointer q') 26 := by rw [hW7, hbu]; exact Bx.new _ _ _
            have xt7 : Bx W7 bt (.pointer q) 26 := (hxt.bl HB6).bl Q67
            have x97 : Bx W7 w.heap.size (.int .i64 a4) 3 := (hx9.bl HB6).bl Q67
            have x107 : Bx W7 (w.heap.size + 1) (.bool false) 4 := (hx10.bl HB6).bl Q67
            have i7 := hi6.bl Q67
            have B7 : Bl w W7 := (hB.trans HB6).trans Q67
            have nbu : bt ≠ bu := by rw [hbu]; have := (hxt.bl HB6).lt; omega
            rw [← hW7, ← hbu]
            clear hW7 hbu
            clear hs6 hb6 HB6 hi6
            have z17 := x17.cell
            have zt7 := xt7.cell
            have ft7 := xt7.frozen
            have x8 := xt7.set (.pointer q')
            have i8 := i7.far xt7 (.pointer q')
            have x98 := x97.other (a := ⟨bt, 0, none⟩) (by show bt ≠ w.heap.size; omega) (.pointer q')
            have x108 := x107.other (a := ⟨bt, 0, none⟩) (by show bt ≠ w.heap.size + 1; omega) (.pointer q')
            have B8 : Bl w (W7.setCell ⟨bt, 0, none⟩ (.pointer q')) := B7.setCell (by show w.heap.size ≤ bt; omega) _
            have z8 := x8.cell
            have cP := Parts_at q' t2 _ i8
            have hdp := bal_deep t2 hT6.b
            have hln : t2.ps.length ≤ 5000 := by have h1 := len_tot hT6.f.1; rw [hT6.tot] at h1; simp only [List.length_append, List.length_take, List.length_drop, bs_len] at h1; have := HTT.out; omega
            have cD := fun w' => deepest_at t2.ps.length w' hln
            have hn6I : ((t2.ps.length : Nat) : Int) ≤ ((t'.ps.length : Nat) : Int) + 2 := by omega
            have hn7 : t'.ps.length ≤ 5000 := by have h1 := len_tot hT.f.1; rw [hT.tot] at h1; omega
            have hw8 : IntKind.i64.wrap (((t'.ps.length : Nat) : Int) + 2) = ((t'.ps.length : Nat) : Int) + 2 := by rw [IntKind.wrap_i64]; omega
            have hLl : (L.take A ++ (a3.extract 0 J).data.toList ++ L.drop (A + 0)).length ≤ 200 + 40 * (k + 1) := by simp only [List.length_append, List.length_take, List.length_drop, bs_len]; have := HTT.out; omega
            have HD : Hid (∀ K : Nat, (t2.ps.length + 2) * (t2.ps.length + 2) ≤ 2 ^ K → t2.dp ≤ K) := by
              intro K hK
              rcases Nat.lt_or_ge K t2.dp with h | h
              · have h1 : 2 ^ (K + 1) ≤ 2 ^ t2.dp := Nat.pow_le_pow_right (by omega) h
                have h2 : (t2.ps.length + 1) * (t2.ps.length + 1) ≤ (t2.ps.length + 2) * (t2.ps.length + 2) := Nat.mul_le_mul (by omega) (by omega)
                have h3 : 0 < 2 ^ K := Nat.two_pow_pos K
                rw [Nat.pow_succ] at h1
                omega
              · exact h
            have HL : Hid _ := hLl
            clear hdp hLl hln hn7
            rcases Nat.eq_zero_or_pos t2.ps.length with hz | hz
            · have hzI : ((t2.ps.length : Nat) : Int) ≤ 0 := by omega
              clear cD HD hz
              go_wp2_with (go_at_call 7; refine cP.mono ?_; clear cP; rintro e w8 ⟨rfl, hb8⟩)
              exact ⟨⟨k + 1, q', t2, _, by omega, by simp, rfl, hT6, HL.out, i8.bl hb8, x8.bl hb8, x98.bl hb8, x108.bl hb8, B8.trans hb8⟩, by simp [intOf]; omega⟩
            · have hzI : (0 : Int) < ((t2.ps.length : Nat) : Int) := by omega
              go_wp2_with (first
                | (go_at_call 7; refine cP.mono ?_; clear cP; rintro e w8 ⟨rfl, hb8⟩)
                | (go_at_call 11; refine (cD _).mono ?_; clear cD; rintro e w9 ⟨⟨K, rfl, hK, hK30⟩, rfl⟩; have hKd := HD.out K hK; have hKI : ((t2.dp : Nat) : Int) ≤ (K : Int) := by omega))
              exact ⟨⟨k + 1, q', t2, _, by omega, by simp, rfl, hT6, HL.out, i8.bl hb8, x8.bl hb8, x98.bl hb8, x108.bl hb8, B8.trans hb8⟩, by simp [intOf]; omega⟩
          · obtain ⟨W7, hW7⟩ : ∃ W7, W7 = w6.setCell ⟨w5.heap.size, 0, none⟩ (.pointer q') := ⟨_, rfl⟩
            obtain ⟨bu, hbu⟩ : ∃ bu, bu = w5.heap.size := ⟨_, rfl⟩
            have n5 : bt < w5.heap.size := World.block_lt_of_cell? _ _ h5c
            have x17 : Bx W7 bu (.pointer q') 26 := by rw [hW7, hbu]; exact y6.set _
            have xt7 : Bx W7 bt (.pointer q) 26 := by rw [hW7]; exact (hxt.bl HB6).other (by show w5.heap.size ≠ bt; omega) _
            have x97 : Bx W7 w.heap.size (.int .i64 a4) 3 := by rw [hW7]; exact (hx9.bl HB6).other (by show w5.heap.size ≠ w.heap.size; omega) _
            have x107 : Bx W7 (w.heap.size + 1) (.bool false) 4 := by rw [hW7]; exact (hx10.bl HB6).other (by show w5.heap.size ≠ w.heap.size + 1; omega) _
            have i7 : Is W7 q' t2 := by rw [hW7]; exact hi6.far y6 _
            have B7 : Bl w W7 := by rw [hW7]; exact (hB.trans HB6).setCell (by show w.heap.size ≤ w5.heap.size; omega) _
            have nbu : bt ≠ bu := by rw [hbu]; omega
            rw [← hW7, ← hbu]
            clear hW7 hbu
            clear hs6 hb6 HB6 hi6
            have z17 := x17.cell
            have zt7 := xt7.cell
            have ft7 := xt7.frozen
            have x8 := xt7.set (.pointer q')
            have i8 := i7.far xt7 (.pointer q')
            have x98 := x97.other (a := ⟨bt, 0, none⟩) (by show bt ≠ w.heap.size; omega) (.pointer q')
            have x108 := x107.other (a := ⟨bt, 0, none⟩) (by show bt ≠ w.heap.size + 1; omega) (.pointer q')
            have B8 : Bl w (W7.setCell ⟨bt, 0, none⟩ (.pointer q')) := B7.setCell (by show w.heap.size ≤ bt; omega) _
            have z8 := x8.cell
            have cP := Parts_at q' t2 _ i8
            have hdp := bal_deep t2 hT6.b
            have hln : t2.ps.length ≤ 5000 := by have h1 := len_tot hT6.f.1; rw [hT6.tot] at h1; simp only [List.length_append, List.length_take, List.length_drop, bs_len] at h1; have := HTT.out; omega
            have cD := fun w' => deepest_at t2.ps.length w' hln
            have hn6I : ((t2.ps.length : Nat) : Int) ≤ ((t'.ps.length : Nat) : Int) + 2 := by omega
            have hn7 : t'.ps.length ≤ 5000 := by have h1 := len_tot hT.f.1; rw [hT.tot] at h1; omega
            have hw8 : IntKind.i64.wrap (((t'.ps.length : Nat) : Int) + 2) = ((t'.ps.length : Nat) : Int) + 2 := by rw [IntKind.wrap_i64]; omega
            have hLl : (L.take A ++ (a3.extract 0 J).data.toList ++ L.drop (A + 0)).length ≤ 200 + 40 * (k + 1) := by simp only [List.length_append, List.length_take, List.length_drop, bs_len]; have := HTT.out; omega
            have HD : Hid (∀ K : Nat, (t2.ps.length + 2) * (t2.ps.length + 2) ≤ 2 ^ K → t2.dp ≤ K) := by
              intro K hK
              rcases Nat.lt_or_ge K t2.dp with h | h
              · have h1 : 2 ^ (K + 1) ≤ 2 ^ t2.dp := Nat.pow_le_pow_right (by omega) h
                have h2 : (t2.ps.length + 1) * (t2.ps.length + 1) ≤ (t2.ps.length + 2) * (t2.ps.length + 2) := Nat.mul_le_mul (by omega) (by omega)
                have h3 : 0 < 2 ^ K := Nat.two_pow_pos K
                rw [Nat.pow_succ] at h1
                omega
              · exact h
            have HL : Hid _ := hLl
            clear hdp hLl hln hn7
            rcases Nat.eq_zero_or_pos t2.ps.length with hz | hz
            · have hzI : ((t2.ps.length : Nat) : Int) ≤ 0 := by omega
              clear cD HD hz
              go_wp2_with (go_at_call 7; refine cP.mono ?_; clear cP; rintro e w8 ⟨rfl, hb8⟩)
              exact ⟨⟨k + 1, q', t2, _, by omega, by simp, rfl, hT6, HL.out, i8.bl hb8, x8.bl hb8, x98.bl hb8, x108.bl hb8, B8.trans hb8⟩, by simp [intOf]; omega⟩
            · have hzI : (0 : Int) < ((t2.ps.length : Nat) : Int) := by omega
              go_wp2_with (first
                | (go_at_call 7; refine cP.mono ?_; clear cP; rintro e w8 ⟨rfl, hb8⟩)
                | (go_at_call 11; refine (cD _).mono ?_; clear cD; rintro e w9 ⟨⟨K, rfl, hK, hK30⟩, rfl⟩; have hKd := HD.out K hK; have hKI : ((t2.dp : Nat) : Int) ≤ (K : Int) := by omega))
              exact ⟨⟨k + 1, q', t2, _, by omega, by simp, rfl, hT6, HL.out, i8.bl hb8, x8.bl hb8, x98.bl hb8, x108.bl hb8, B8.trans hb8⟩, by simp [intOf]; omega⟩
      · have hkk : k = l1.length := by omega
        have hklI : (l1.length : Int) ≤ (k : Int) := by omega
        obtain ⟨S, hS⟩ := pieces_of t' hT.f
        have hSl : S.length = t'.ps.length := by rw [← hS]; simp
        have X1 := Bx.new wr (.string ⟨#[]⟩) 9
        have X2 := Bx.new (wr.alloc (.cells #[.string ⟨#[]⟩] 9)) (.int .i64 0) 3
        rw [World.size_alloc] at X2
        have QA : Bl wr ((wr.alloc (.cells #[.string ⟨#[]⟩] 9)).alloc (.cells #[.int .i64 0] 3)) := ((Bl.refl wr).alloc _).alloc _
        have xtA := (hxt.bl QA).cell
        have cA := fun w' (h : Bl wr w') => All_at q t' w' (hi.bl h)
        go_wp2_with (go_at_call 12; refine (cA _ QA).mono ?_; rintro e w8 ⟨v8, hb8, rfl, hw8⟩)
        rw [← hw8]
        have s8 := hb8.size
        rw [World.size_alloc, World.size_alloc] at s8
        have Q8 : Bl v8 w8 := by rw [hw8]; exact (((Bl.refl v8).alloc _).alloc _).alloc _
        have QW8 : Bl wr w8 := (QA.trans hb8).trans Q8
        have ssz : w8.heap.size = v8.heap.size + 3 := by rw [hw8]; simp
        have Y1 : Bx w8 wr.heap.size (.string ⟨#[]⟩) 9 := ((X1.bl ((Bl.refl _).alloc _)).bl hb8).bl Q8
        have Y2 : Bx w8 (wr.heap.size + 1) (.int .i64 0) 3 := (X2.bl hb8).bl Q8
        refine ranged (n := 5) (fun a x => (a.setIfInBounds 114 (.string x.1)).setIfInBounds 23 (.string x.1)) q t' wr v8 (by omega) (fun _ => rfl) rfl hw8 (IsT.below (QA.trans hb8) hi) (by omega) hT.f S hS
          (fun pre W => Bx W wr.heap.size (.string ⟨(cat (pre.map (·.1))).toArray⟩) 9 ∧ Bx W (wr.heap.size + 1) (.int .i64 0) 3 ∧ Below wr.heap.size wr W)
          (fun _ _ _ => False)
          (OwnFrom.and (Own.from (bx_own _ _ _) _) (OwnFrom.and (Own.from (bx_own _ (fun _ => .int .i64 0) _) _) (ownFrom_below (Nat.le_refl _) (by omega))))
          (fun _ _ _ _ _ hs _ _ => hs)
          ⟨Y1, Y2, QW8⟩ ?assign ?body ?done ?stop
        case assign =>
          intro l x W K hK
          gi_wp2
          simpa only [List.setIfInBounds_toArray, List.set_cons_zero, List.set_cons_succ] using hK
        case body =>
          rintro l pre x W ⟨b1, b2, b3⟩ hlt
          simp only [List.setIfInBounds_toArray, List.set_cons_zero, List.set_cons_succ]
          have hne : x.1.toList.isEmpty = false := by rw [isEmpty_at]; exact decide_eq_false (by have := x.2.1; omega)
          obtain ⟨Z, hZ⟩ : ∃ Z : ByteArray, Z = ⟨(cat (pre.map (·.1))).toArray⟩ := ⟨_, rfl⟩
          have hZs : Z.size ≤ 1000000000000 := by
            have h1 := cat_small pre
            have h2 : Z.size = (cat (pre.map (·.1))).length := by rw [hZ]; rfl
            have h3 := hT.f.len
            omega
          have hZx : Z.size + x.1.size ≤ 9223372036854775807 := by have := x.2.2; omega
          have hZ2 : Z ++ x.1 = ⟨(cat ((pre ++ [x]).map (·.1))).toArray⟩ := by
            rw [hZ, cat_snoc]
            apply ByteArray.ext
            apply Array.ext'
            simp
          rw [← hZ] at b1
          have b1c := b1.cell
          have b1f := b1.frozen
          have HZ : Hid _ := hZ2
          clear hZ hZ2
          gi_wp2
          refine ⟨KeepsOthers.setCell _ _ _, (Below.refl wr.heap.size W).setCell (p := ⟨wr.heap.size, 0, none⟩) (Nat.le_refl _) _, ?_, b2.other (a := ⟨wr.heap.size, 0, none⟩) (by show wr.heap.size ≠ wr.heap.size + 1; omega) _, b3.setCell (p := ⟨wr.heap.size, 0, none⟩) (Nat.le_refl _) _⟩
          rw [← HZ.out]
          exact b1.set _
        case stop =>
          rintro D c pre W _ _ h _
          exact h.elim
        case done =>
          rintro D W hD ⟨b1, b2, b3⟩ hK
          have hDw8 : wr.heap.size ≤ D := by omega
          have hBw : Bl wr W := b3
          have e1 : cat (S.map (·.1)) = L := by rw [hS, hT.c]
          rw [e1] at b1
          obtain ⟨Z, hZ⟩ : ∃ Z : ByteArray, Z = ⟨L.toArray⟩ := ⟨_, rfl⟩
          rw [← hZ] at b1
          have x9 := hx9.bl hBw
          have x10 := hx10.bl hBw
          have xt := hxt.bl hBw
          have c9 := x9.cell
          have f9 := x9.frozen
          have ct := xt.cell
          have hln : t'.ps.length ≤ 5000 := by have h1 := len_tot hT.f.1; rw [hT.tot] at h1; omega
          obtain ⟨St, hSt⟩ : ∃ St, St = pk a4 (t'.ps.length + 1) := ⟨_, rfl⟩
          have hSt1 : St ≤ t'.ps.length := by have := pk_lt a4 (t'.ps.length + 1) (by omega); omega
          have cp := fun w' => pick_at a4 (t'.ps.length + 1) w' (by omega) (by omega)
          rw [← hSt, show ((t'.ps.length + 1 : Nat) : Int) = ((t'.ps.length : Nat) : Int) + 1 by omega] at cp
          have hwp : IntKind.i64.wrap (((t'.ps.length : Nat) : Int) + 1) = ((t'.ps.length : Nat) : Int) + 1 := by rw [IntKind.wrap_i64]; omega
          have s9 : w.heap.size < wr.heap.size := hx9.lt
          have st' : bt < wr.heap.size := hxt.lt
          have y9 := x9.set (.int .i64 (St : Int))
          have y10 := x10.other (a := ⟨w.heap.size, 0, none⟩) (by show w.heap.size ≠ w.heap.size + 1; omega) (.int .i64 (St : Int))
          have yt := xt.other (a := ⟨w.heap.size, 0, none⟩) (by show w.heap.size ≠ bt; omega) (.int .i64 (St : Int))
          have ya := b1.other (a := ⟨w.heap.size, 0, none⟩) (by show w.heap.size ≠ wr.heap.size; omega) (.int .i64 (St : Int))
          have yk := b2.other (a := ⟨w.heap.size, 0, none⟩) (by show w.heap.size ≠ wr.heap.size + 1; omega) (.int .i64 (St : Int))
          have iW := (hi.bl hBw).far x9 (.int .i64 (St : Int))
          have yBw : Bl w (W.setCell ⟨w.heap.size, 0, none⟩ (.int .i64 (St : Int))) := (hB.trans hBw).setCell (Nat.le_refl _) _
          have yK : (W.setCell ⟨w.heap.size, 0, none⟩ (.int .i64 (St : Int))).heap[D]? = some (.deferred (some [])) := (KeepsOthers.setCell W ⟨w.heap.size, 0, none⟩ (.int .i64 (St : Int))).same D _ hK rfl
          have ySz : wr.heap.size ≤ (W.setCell ⟨w.heap.size, 0, none⟩ (.int .i64 (St : Int))).heap.size := by simpa using hBw.size
          have yIT : IsT wr.heap.size (W.setCell ⟨w.heap.size, 0, none⟩ (.int .i64 (St : Int))) q t' := far_T hx9 b3 hi
          clear hSt cA
          have cA := All_at q t' _ iW
          have ytc := yt.cell
          go_wp2_with (first
            | (go_at_call 8; refine (cp _).mono ?_; clear cp; rintro e W ⟨rfl, rfl⟩)
            | (go_at_call 12; refine cA.mono ?_; clear cA; rintro e w9 ⟨v9, hb9, rfl, hw9⟩))
          rw [← hw9]
          have Q9 : Bl v9 w9 := by rw [hw9]; exact (((Bl.refl v9).alloc _).alloc _).alloc _
          have QU : Bl (W.setCell ⟨w.heap.size, 0, none⟩ (.int .i64 (St : Int))) w9 := hb9.trans Q9
          have ssz9 : w9.heap.size = v9.heap.size + 3 := by rw [hw9]; simp
          have s9v := hb9.size
          have hTZ : Tx Z.data.toList t' := by rw [hZ]; simpa using hT
          have s10 : w.heap.size + 1 < wr.heap.size := hx10.lt
          clear hZ
          obtain ⟨U, hU⟩ : ∃ U, U = W.setCell ⟨w.heap.size, 0, none⟩ (.int .i64 (St : Int)) := ⟨_, rfl⟩
          rw [← hU] at y9 y10 yt ya yk iW yBw yK ySz yIT hb9 QU s9v
          clear hU b1 b2 b3 x9 x10 xt c9 f9 ct hK hBw ytc
          have hDU : D < U.heap.size := (Array.getElem?_eq_some_iff.1 yK).1
          refine ranged (n := 5) (fun a x => a.setIfInBounds 126 (.string x.1)) q t' wr v9 (by omega) (fun _ => rfl) rfl hw9 (IsT.below (Below.mono hb9 ySz) yIT) (by omega) hT.f S hS
            (fun pre W => Bx W (wr.heap.size + 1) (.int .i64 ((pre.length : Nat) : Int)) 3 ∧ pre.length ≤ St ∧ Bx W wr.heap.size (.string Z) 9 ∧ Bx W w.heap.size (.int .i64 (St : Int)) 3 ∧ Below wr.heap.size U W ∧ W.heap[D]? = some (.deferred (some [])))
            (fun c pre W => c = .exit 4 ∧ Bx W (wr.heap.size + 1) (.int .i64 (St : Int)) 3 ∧ Bx W wr.heap.size (.string Z) 9 ∧ Bx W w.heap.size (.int .i64 (St : Int)) 3 ∧ Below wr.heap.size U W ∧ W.heap[D]? = some (.deferred (some [])))
            (OwnFrom.and (Own.from (bx_own _ (fun pre => .int .i64 ((pre.length : Nat) : Int)) _) _) (OwnFrom.and (fun _ _ _ _ h _ _ => h) (OwnFrom.and (Own.from (bx_own _ (fun _ => .string Z) _) _) (OwnFrom.and (Own.from (bx_own _ (fun _ => .int .i64 (St : Int)) _) _) (OwnFrom.and (ownFrom_below ySz (by omega)) (own_def (by omega)))))))
            (fun c => OwnFrom.and (fun _ _ _ _ h _ _ => h) (OwnFrom.and (Own.from (bx_own _ (fun _ => .int .i64 (St : Int)) _) _) (OwnFrom.and (Own.from (bx_own _ (fun _ => .string Z) _) _) (OwnFrom.and (Own.from (bx_own _ (fun _ => .int .i64 (St : Int)) _) _) (OwnFrom.and (ownFrom_below ySz (by omega)) (own_def (by omega)))))))
            ⟨yk.bl QU, Nat.zero_le _, ya.bl QU, y9.bl QU, Below.mono QU ySz, (Below.block QU D hDU).trans yK⟩ ?assign ?body ?done ?stop
          case assign =>
            intro l x W K hK
            gi_wp2
            simpa only [List.setIfInBounds_toArray, List.set_cons_zero, List.set_cons_succ] using hK
          case body =>
            rintro l pre x W ⟨e1, e2, e3, e4, e5, e6⟩ hlt
            simp only [List.setIfInBounds_toArray, List.set_cons_zero, List.set_cons_succ]
            have c1 := e1.cell
            have f1 := e1.frozen
            have c4 := e4.cell
            by_cases hps : pre.length = St
            · have hpI : (((pre.length : Nat) : Int) == (St : Int)) = true := by rw [hps]; simp
              gi_wp2
              all_goals exact ⟨KeepsOthers.refl _, rfl, by rw [← hps]; exact e1, e3, e4, e5, e6⟩
            · have hpI : (((pre.length : Nat) : Int) == (St : Int)) = false := by rw [Bool.eq_false_iff]; intro h; have := eq_of_beq h; omega
              have hpw : IntKind.i64.wrap (((pre.length : Nat) : Int) + 1) = ((pre.length : Nat) : Int) + 1 := by rw [IntKind.wrap_i64]; omega
              gi_wp2
              exact ⟨KeepsOthers.setCell _ _ _, (Below.refl wr.heap.size W).setCell (p := ⟨wr.heap.size + 1, 0, none⟩) (Nat.le_succ _) _, by rw [show (((pre ++ [x]).length : Nat) : Int) = ((pre.length : Nat) : Int) + 1 by simp]; exact e1.set _, by simp; omega, e3.other (a := ⟨wr.heap.size + 1, 0, none⟩) (by show wr.heap.size + 1 ≠ wr.heap.size; omega) _, e4.other (a := ⟨wr.heap.size + 1, 0, none⟩) (by show wr.heap.size + 1 ≠ w.heap.size; omega) _, e5.setCell (p := ⟨wr.heap.size + 1, 0, none⟩) (Nat.le_succ _) _, (KeepsOthers.setCell W ⟨wr.heap.size + 1, 0, none⟩ _).same D _ e6 rfl⟩
          case done =>
            rintro D2 W2 hD2 ⟨e1, e2, e3, e4, e5, e6⟩ hK2
            rw [show S.length = St by omega] at e1
            have Q2 : Bl w W2 := Below.trans yBw (Below.mono e5 (by omega))
            have za := e3
            have zt := bx_below yt e5 st'
            have z10 := bx_below y10 e5 s10
            have i2 : Is W2 q t' := (IsT.below e5 yIT).up (Nat.le_trans ySz e5.size)
            have cS := fun w' (h : Bl W2 w') => String_tx q t' Z w' (i2.bl h) hTZ
            have HS : Hid (∀ w', Bl W2 w' → w'.cell? ⟨wr.heap.size, 0, none⟩ = some (.string Z) ∧ w'.cell? ⟨bt, 0, none⟩ = some (.pointer q) ∧ w'.cell? ⟨wr.heap.size + 1, 0, none⟩ = some (.int .i64 (St : Int)) ∧ w'.cell? ⟨w.heap.size, 0, none⟩ = some (.int .i64 (St : Int))) := fun w' h => ⟨(za.bl h).cell, (zt.bl h).cell, (e1.bl h).cell, (e4.bl h).cell⟩
            go_wp2
            have HBd : Bl W2 W2.drew := (Bl.refl W2).drew
            have hsd := HS.out _ HBd
            go_region_held3 (fun w' => w'.cell? ⟨wr.heap.size, 0, none⟩ = some (.string Z) ∧ w'.cell? ⟨bt, 0, none⟩ = some (.pointer q) ∧ w'.cell? ⟨wr.heap.size + 1, 0, none⟩ = some (.int .i64 (St : Int)) ∧ w'.cell? ⟨w.heap.size, 0, none⟩ = some (.int .i64 (St : Int))) (first | assumption | exact fin_keep (by assumption) (by omega) (by omega) (by omega) (by omega)) (first | (go_at_call 13; refine (cS _ HBd).mono ?_; clear cS; rintro e we ⟨rfl, hbe⟩; have HBe := HBd.trans hbe; have hse := HS.out _ HBe; have zc := (z10.bl HBe).cell; have zf := (z10.bl HBe).frozen))
            go_wp2
            have hlD : D < w9.heap.size := by omega
            have hlD2 : D2 < W2.heap.size := (Array.getElem?_eq_some_iff.1 hK2).1
            have hlD1 : D < W2.heap.size := (Array.getElem?_eq_some_iff.1 e6).1
            have zf10 : Bx (we.setCell ⟨w.heap.size + 1, 0, none⟩ (.bool true)) (w.heap.size + 1) (.bool true) 4 := (z10.bl HBe).set _
            have hKa : (we.setCell ⟨w.heap.size + 1, 0, none⟩ (.bool true)).heap[D2]? = some (.deferred (some [])) := (KeepsOthers.setCell we ⟨w.heap.size + 1, 0, none⟩ (.bool true)).same D2 _ ((Below.block HBe D2 hlD2).trans hK2) rfl
            have hKb : (we.setCell ⟨w.heap.size + 1, 0, none⟩ (.bool true)).heap[D]? = some (.deferred (some [])) := (KeepsOthers.setCell we ⟨w.heap.size + 1, 0, none⟩ (.bool true)).same D _ ((Below.block HBe D hlD1).trans e6) rfl
            have hKc : ((we.setCell ⟨w.heap.size + 1, 0, none⟩ (.bool true)).putObj D2 (.deferred none)).heap[D]? = some (.deferred (some [])) := (World.putObj_heap_other (by omega)).trans hKb
            have BE : Bl w (we.setCell ⟨w.heap.size + 1, 0, none⟩ (.bool true)) := (Q2.trans HBe).setCell (Nat.le_succ _) _
            have BF : Bl w ((we.setCell ⟨w.heap.size + 1, 0, none⟩ (.bool true)).putObj D2 (.deferred none)) := Below.trans BE (belowK_b (w := w) (Nat.le_refl _) _ D2 _ _ (by omega) hKa rfl rfl)
            have BG : Bl w (((we.setCell ⟨w.heap.size + 1, 0, none⟩ (.bool true)).putObj D2 (.deferred none)).putObj D (.deferred none)) := Below.trans BF (belowK_b (w := w) (Nat.le_refl _) _ D _ _ (by omega) hKc rfl rfl)
            have nD : D ≠ w.heap.size + 1 := by omega
            have nD2 : D2 ≠ w.heap.size + 1 := by omega
            have zg : Bx (((we.setCell ⟨w.heap.size + 1, 0, none⟩ (.bool true)).putObj D2 (.deferred none)).putObj D (.deferred none)) (w.heap.size + 1) (.bool true) 4 := (World.putObj_heap_other nD.symm).trans ((World.putObj_heap_other nD2.symm).trans zf10)
            have zgc := zg.cell
            refine ⟨by simp, .inl ⟨_, _, rfl, run_takeDeferred hKa, by simp, .inl ⟨_, _, rfl, run_takeDeferred hKc, ?_⟩⟩⟩
            exact ⟨.bool true, by simp [results, Try.f3, go_sem, zgc], rfl, BG⟩
          case stop =>
            rintro D2 c pre W2 hD2 hpre ⟨rfl, e1, e3, e4, e5, e6⟩ hK2
            have Q2 : Bl w W2 := Below.trans yBw (Below.mono e5 (by omega))
            have za := e3
            have zt := bx_below yt e5 st'
            have z10 := bx_below y10 e5 s10
            have i2 : Is W2 q t' := (IsT.below e5 yIT).up (Nat.le_trans ySz e5.size)
            have cS := fun w' (h : Bl W2 w') => String_tx q t' Z w' (i2.bl h) hTZ
            have HS : Hid (∀ w', Bl W2 w' → w'.cell? ⟨wr.heap.size, 0, none⟩ = some (.string Z) ∧ w'.cell? ⟨bt, 0, none⟩ = some (.pointer q) ∧ w'.cell? ⟨wr.heap.size + 1, 0, none⟩ = some (.int .i64 (St : Int)) ∧ w'.cell? ⟨w.heap.size, 0, none⟩ = some (.int .i64 (St : Int))) := fun w' h => ⟨(za.bl h).cell, (zt.bl h).cell, (e1.bl h).cell, (e4.bl h).cell⟩
            go_wp2
            have HBd : Bl W2 W2.drew := (Bl.refl W2).drew
            have hsd := HS.out _ HBd
            go_region_held3 (fun w' => w'.cell? ⟨wr.heap.size, 0, none⟩ = some (.string Z) ∧ w'.cell? ⟨bt, 0, none⟩ = some (.pointer q) ∧ w'.cell? ⟨wr.heap.size + 1, 0, none⟩ = some (.int .i64 (St : Int)) ∧ w'.cell? ⟨w.heap.size, 0, none⟩ = some (.int .i64 (St : Int))) (first | assumption | exact fin_keep (by assumption) (by omega) (by omega) (by omega) (by omega)) (first | (go_at_call 13; refine (cS _ HBd).mono ?_; clear cS; rintro e we ⟨rfl, hbe⟩; have HBe := HBd.trans hbe; have hse := HS.out _ HBe; have zc := (z10.bl HBe).cell; have zf := (z10.bl HBe).frozen))
            go_wp2
            have hlD : D < w9.heap.size := by omega
            have hlD2 : D2 < W2.heap.size := (Array.getElem?_eq_some_iff.1 hK2).1
            have hlD1 : D < W2.heap.size := (Array.getElem?_eq_some_iff.1 e6).1
            have zf10 : Bx (we.setCell ⟨w.heap.size + 1, 0, none⟩ (.bool true)) (w.heap.size + 1) (.bool true) 4 := (z10.bl HBe).set _
            have hKa : (we.setCell ⟨w.heap.size + 1, 0, none⟩ (.bool true)).heap[D2]? = some (.deferred (some [])) := (KeepsOthers.setCell we ⟨w.heap.size + 1, 0, none⟩ (.bool true)).same D2 _ ((Below.block HBe D2 hlD2).trans hK2) rfl
            have hKb : (we.setCell ⟨w.heap.size + 1, 0, none⟩ (.bool true)).heap[D]? = some (.deferred (some [])) := (KeepsOthers.setCell we ⟨w.heap.size + 1, 0, none⟩ (.bool true)).same D _ ((Below.block HBe D hlD1).trans e6) rfl
            have hKc : ((we.setCell ⟨w.heap.size + 1, 0, none⟩ (.bool true)).putObj D2 (.deferred none)).heap[D]? = some (.deferred (some [])) := (World.putObj_heap_other (by omega)).trans hKb
            have BE : Bl w (we.setCell ⟨w.heap.size + 1, 0, none⟩ (.bool true)) := (Q2.trans HBe).setCell (Nat.le_succ _) _
            have BF : Bl w ((we.setCell ⟨w.heap.size + 1, 0, none⟩ (.bool true)).putObj D2 (.deferred none)) := Below.trans BE (belowK_b (w := w) (Nat.le_refl _) _ D2 _ _ (by omega) hKa rfl rfl)
            have BG : Bl w (((we.setCell ⟨w.heap.size + 1, 0, none⟩ (.bool true)).putObj D2 (.deferred none)).putObj D (.deferred none)) := Below.trans BF (belowK_b (w := w) (Nat.le_refl _) _ D _ _ (by omega) hKc rfl rfl)
            have nD : D ≠ w.heap.size + 1 := by omega
            have nD2 : D2 ≠ w.heap.size + 1 := by omega
            have zg : Bx (((we.setCell ⟨w.heap.size + 1, 0, none⟩ (.bool true)).putObj D2 (.deferred none)).putObj D (.deferred none)) (w.heap.size + 1) (.bool true) 4 := (World.putObj_heap_other nD.symm).trans ((World.putObj_heap_other nD2.symm).trans zf10)
            have zgc := zg.cell
            refine ⟨by simp, .inl ⟨_, _, rfl, run_takeDeferred hKa, by simp, .inl ⟨_, _, rfl, run_takeDeferred hKc, ?_⟩⟩⟩
            exact ⟨.bool true, by simp [results, Try.f3, go_sem, zgc], rfl, BG⟩
  · have hs' : (200 : Int) < (a0.size : Int) ∨ (a0.size : Int) ≤ 200 ∧ ((60 : Int) < (l1.length : Int) ∨ (l1.length : Int) ≤ 60 ∧ (40 : Int) < (a3.size : Int)) := by omega
    clear hs
    rcases hs' with h1 | ⟨h1, h2 | ⟨h2, h3⟩⟩
    · go_wp2_with (go_at_call 5; refine (cF _).mono ?_; clear cF; rintro e v0 ⟨rfl, hb0⟩; have x10 := HX10.out.bl hb0; have c10 := x10.cell; have f10 := x10.frozen)
      exact ⟨.bool true, by simp [results, Try.f3, go_sem, (x10.set (.bool true)).cell], rfl, (B0.trans hb0).setCell (Nat.le_succ _) _⟩
    · go_wp2_with (go_at_call 5; refine (cF _).mono ?_; clear cF; rintro e v0 ⟨rfl, hb0⟩; have x10 := HX10.out.bl hb0; have c10 := x10.cell; have f10 := x10.frozen)
      exact ⟨.bool true, by simp [results, Try.f3, go_sem, (x10.set (.bool true)).cell], rfl, (B0.trans hb0).setCell (Nat.le_succ _) _⟩
    · go_wp2_with (go_at_call 5; refine (cF _).mono ?_; clear cF; rintro e v0 ⟨rfl, hb0⟩; have x10 := HX10.out.bl hb0; have c10 := x10.cell; have f10 := x10.frozen)
      exact ⟨.bool true, by simp [results, Try.f3, go_sem, (x10.set (.bool true)).cell], rfl, (B0.trans hb0).setCell (Nat.le_succ _) _⟩

set_option maxRecDepth 100000 in
theorem lifted (os : Os) (started : os.Started) (H : Type) (enc : TypeId × Value → H) :
    ReturnsInHanded {} Try.checked os 3 .any (Rows.piecePartsSpec.pre6 enc Try.prog Try.f3 Rows.piecePartsRow.domain false) (Rows.piecePartsSpec.post enc Try.prog Try.f3 false true false false) := by
  refine returnsInHanded_of_change (C := Try.checked) own started (by kernel_rfl) Try.func3
    (ChangeSpec.witness6 (enc := enc) (C := Try.checked) false ⟨#[], #[.string ByteArray.empty, .slice none 0 0, .slice none 0 0, .string ByteArray.empty, .int .i64 0], []⟩ 8 (by kernel_rfl) (by kernel_rfl) (by kernel_rfl) (by kernel_rfl)) ?_
  intro W base args ds gs before hval0 hW hcnd _
  have hval : ∀ (j : Nat) t v, Try.f3.params[j]? = some t → args[j]? = some v → Value.okWide Try.prog W .any base t v := hval0
  have hW' := hW
  obtain ⟨p, q, hA0, hV, rfl, hfz, hnd⟩ := hW
  have hA : DataW.TrodAll enc Try.prog W 0 (fun _ => true) true Try.f3.params.toList args.toList ds p := hA0
  rw [Try.params3] at hA hval
  obtain ⟨v0, vs0, d0, ds0, p0, q0, hargs, rfl, rfl, h0, r0⟩ := trodAll_cons hA
  obtain ⟨v1, vs1, d1, ds1, p1, q1, rfl, rfl, rfl, h1, r1⟩ := trodAll_cons r0
  obtain ⟨v2, vs2, d2, ds2, p2, q2, rfl, rfl, rfl, h2, r2⟩ := trodAll_cons r1
  obtain ⟨v3, vs3, d3, ds3, p3, q3, rfl, rfl, rfl, h3, r3⟩ := trodAll_cons r2
  obtain ⟨v4, vs4, d4, ds4, p4, q4, rfl, rfl, rfl, h4, r4⟩ := trodAll_cons r3
  obtain ⟨rfl, rfl, rfl⟩ := trodAll_nil r4
  obtain rfl : args = #[v0, v1, v2, v3, v4] := by cases args; simp_all
  obtain ⟨rfl, rfl⟩ := trodVars_none hV
  obtain ⟨a0, rfl, rfl, rfl, w0⟩ := open_string Try.underlying9 (hval 0 9 v0 rfl rfl) h0
  obtain ⟨a1, len1, cap1, rfl⟩ := okWide_slice Try.underlying22 (hval 1 22 v1 rfl rfl)
  have k1 := h1
  have lt1 : ∀ x ∈ p1, x.block < W.heap.size := by obtain ⟨m, hm⟩ := k1; exact DataW.trod_lt m _ _ _ hm
  obtain ⟨z1, w1⟩ : ∃ zs, IsRow .i64 W a1 len1 cap1 zs := by
    obtain ⟨fuel, hf⟩ := h1
    rcases open_ints Try.underlying22 Try.underlying3 (by kernel_rfl) hf with ⟨hcs, _⟩ | ⟨x, l, c, zs, hcs, _, hl, hm, hz, _, hcell, hwz⟩
    · simp [Value.cells] at hcs
      obtain ⟨rfl, rfl, rfl⟩ := hcs
      exact ⟨[], .inl ⟨rfl, rfl, rfl, rfl⟩⟩
    · simp [Value.cells] at hcs
      obtain ⟨rfl, rfl, rfl⟩ := hcs
      exact ⟨zs, .inr ⟨_, rfl, hl, hm, by simpa using hz, hcell, hwz⟩⟩
  obtain ⟨a2, len2, cap2, rfl⟩ := okWide_slice Try.underlying22 (hval 2 22 v2 rfl rfl)
  have k2 := h2
  have lt2 : ∀ x ∈ p2, x.block < W.heap.size := by obtain ⟨m, hm⟩ := k2; exact DataW.trod_lt m _ _ _ hm
  obtain ⟨z2, w2⟩ : ∃ zs, IsRow .i64 W a2 len2 cap2 zs := by
    obtain ⟨fuel, hf⟩ := h2
    rcases open_ints Try.underlying22 Try.underlying3 (by kernel_rfl) hf with ⟨hcs, _⟩ | ⟨x, l, c, zs, hcs, _, hl, hm, hz, _, hcell, hwz⟩
    · simp [Value.cells] at hcs
      obtain ⟨rfl, rfl, rfl⟩ := hcs
      exact ⟨[], .inl ⟨rfl, rfl, rfl, rfl⟩⟩
    · simp [Value.cells] at hcs
      obtain ⟨rfl, rfl, rfl⟩ := hcs
      exact ⟨zs, .inr ⟨_, rfl, hl, hm, by simpa using hz, hcell, hwz⟩⟩
  obtain ⟨a3, rfl, rfl, rfl, w3⟩ := open_string Try.underlying9 (hval 3 9 v3 rfl rfl) h3
  obtain ⟨a4, rfl, rfl, rfl, w4⟩ := open_int Try.underlying3 (hval 4 3 v4 rfl rfl) h4
  clear hA0 hval0
  refine (walk a0 a1 len1 cap1 z1 a2 len2 cap2 z2 a3 a4 W w0 w1 w2 w3 w4).mono fun e W' ⟨he, bel⟩ => ?_
  subst he
  exact ⟨_, rfl, _, _, _, [], _, [], hW', trodAll_mk1 (shut_bool Try.underlying4 _), (trodAll_cons_mk (shut_string Try.underlying9 w0) (trodAll_cons_mk (Below.trod laidOut (by kernel_rfl) (of_decide_eq_true (by kernel_rfl)) k1 bel lt1) (trodAll_cons_mk (Below.trod laidOut (by kernel_rfl) (of_decide_eq_true (by kernel_rfl)) k2 bel lt2) (trodAll_cons_mk (shut_string Try.underlying9 w3) (trodAll_cons_mk (shut_int Try.underlying3 w4) trodAll_mk0))))), rfl, bel.frame _, fun h => by cases h⟩

theorem over : Rows.piecePartsRow.holds Try.pinned (OpenSpec.ofChange Rows.piecePartsSpec) :=
  OpenClaim.holds_of_wide 3 Try.f3 rfl rfl rfl rfl rfl rfl rfl ⟨rfl, rfl, rfl, rfl, rfl⟩ rfl rfl rfl rfl rfl (by kernel_rfl) Try.func3 (by kernel_rfl)
    (of_decide_eq_true (by kernel_rfl)) (by unfold Func.isWrapper; first | (rw [if_pos (by decide +kernel)]; kernel_rfl) | (rw [if_neg (by decide +kernel)]; exact ⟨rfl, rfl⟩))
    (fun os started H enc _ => lifted os started H enc)

end Go.Proofs.Ytkjlcgclabgkaaa.pieceParts
namespace Go.Proofs.Ytkjlcgclabgkaaa
/-- The given statement. -/
theorem pieceParts_holds : Rows.PiecePartsSaid := pieceParts.over
#print axioms pieceParts_holds
end Go.Proofs.Ytkjlcgclabgkaaa
