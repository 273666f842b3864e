/- Texts laid together: TmL, Ty1, Ty2, Ty3. -/
import Derived.Test.YtpanodaecjlgaaaGreatDoorZ18
import Derived.Test.YtpanodaecjlgaaaGreatDoorZ10
/- Templates, printed. -/
namespace Go.Proofs.YtpanodaecjlgaaaGreatDoor.tm
set_option linter.unusedVariables false
open Go.ChangeShapes Go.WideShapes Go.ChangeAt Go.RowKit Go.Shelf
open mem lx ex bld

def pre2 (l : List Ty) (j : Nat) : List UInt8 := (l.take j).flatMap tyx
theorem pre2_step (l : List Ty) (j : Nat) (t : Ty) (h : l[j]? = some t) : pre2 l (j + 1) = pre2 l j ++ tyx t := by
  unfold pre2
  rw [List.take_add_one, h, List.flatMap_append]
  simp
theorem pre2_all (l : List Ty) : pre2 l l.length = ptxt l := by
  unfold pre2
  rw [List.take_length]; rfl
theorem pre2_len (l : List Ty) (j : Nat) : (pre2 l j).length ≤ (ptxt l).length := by
  unfold ptxt
  conv => rhs; rw [← List.take_append_drop j l, List.flatMap_append, List.length_append]
  exact Nat.le_add_right _ _
theorem RepT.at {w : World} {ok : Nat → Prop} {l : List Ty} : ∀ {cs : List CT}, RepT w ok l cs → ∀ j, j < l.length → ∃ c t, cs[j]? = some c ∧ l[j]? = some t ∧ c.nm = t.nm ∧ c.a = t.at_ ∧ ∃ cs2, ir.Lie w ok c.p c.n c.c cs2 ∧ Rep w ok t.l cs2 := by
  induction l with
  | nil => intro cs h j hj; exact absurd hj (Nat.not_lt_zero _)
  | cons t l it =>
    intro cs h j hj
    obtain ⟨c, r, rfl, h2, h3, h4, h6⟩ := h
    cases j with
    | zero => exact ⟨c, t, rfl, rfl, h2, h3, h4⟩
    | succ j =>
      obtain ⟨c', t', k1, k2, k3⟩ := it h6 j (by simpa using hj)
      exact ⟨c', t', by simpa using k1, by simpa using k2, k3⟩
theorem lieT_low {w w' : World} {B : Nat} {p : Option Addr} {n c : Nat} {cs : List CT} (h : sr.Lie w (fun g => g < B) p n c cs) (hb : Below B w w') : sr.Lie w' (fun g => g < B) p n c cs := h.keep (fun g hg _ => hb.block g hg) hb.size
theorem lieT_at {w : World} {ok : Nat → Prop} {p : Option Addr} {n c : Nat} {l : List CT} (h : sr.Lie w ok p n c l) (k : Nat) (y : CT) (hy : l[k]? = some y) : ∃ x : Addr, p = some x ∧ ok x.block ∧ w.cell? (x.add (k * 3)) = (clT y)[0]? ∧ ∀ j u, (clT y)[j]? = some u → w.cell? ⟨(x.add (k * 3)).block, (x.add (k * 3)).off + j, none⟩ = some u := by
  obtain ⟨hk, hy'⟩ := List.getElem?_eq_some_iff.1 hy
  obtain ⟨x, e1, e2, e3, e4⟩ := h.at k hk
  rw [hy'] at e4
  refine ⟨x, e1, e3, ?_, e4⟩
  have h0 := e4 0 _ rfl
  obtain ⟨_, _, h3⟩ := h
  rcases h3 with h3 | ⟨g, e, _⟩
  · subst h3; exact absurd hk (Nat.not_lt_zero _)
  · rw [e] at e1
    injection e1 with e1
    subst e1
    rw [Addr.add_lit] at h0 ⊢
    exact h0
set_option maxRecDepth 10000 in
set_option maxHeartbeats 4000000 in
theorem Print_at (l : List Ty) (v : Value) (w : World) (ok : Nat → Prop) (h : IsTs w ok v l) (hw : WT l) (hG : Gt w) (hl : (ptxt l).length + 20 ≤ 1000000) :
    Calls Tryz.prog 13 #[v] w fun e w' => e = .returned (.string (tx (ptxt l))) ∧ Bl w w' := by
  obtain ⟨p, c, cs, rfl, h1, h2⟩ := h
  have h1 := h1.mono (ok' := fun g => g < w.heap.size) (fun g _ hg => hg)
  have h2 := h2.mono (ok' := fun g => g < w.heap.size) (fun g _ hg => hg)
  have hNG : 6 ≤ w.heap.size := by have := hG.gd.lt; omega
  have hb0 := Bd.new w
  obtain ⟨B, hB⟩ : ∃ B, B = w.heap.size := ⟨_, rfl⟩
  obtain ⟨w1, hw1⟩ : ∃ w1, w1 = w.alloc (.cells #[.pointer none, .slice none 0 0] 80) := ⟨_, rfl⟩
  have hbl : Bl w w1 := by rw [hw1]; exact (Bl.refl _).alloc _
  rw [← hw1, ← hB] at hb0
  rw [← hB] at h1 h2 hNG
  have hbl' : Below B w w1 := by rw [hB]; exact hbl
  obtain ⟨n, hn⟩ : ∃ n, n = l.length := ⟨_, rfl⟩
  have hn8 : n ≤ 8 := by rw [hn]; exact hw.1
  have H1 : Hid (Wb B B w1 w1 [] ∧ sr.Lie w1 (fun g => g < B) p l.length c cs ∧ RepT w1 (fun g => g < B) l cs ∧ Gt w1 ∧ 6 ≤ B ∧ WT l ∧ (ptxt l).length + 20 ≤ 1000000 ∧ n = l.length ∧ Below B w w1) :=
    ⟨⟨hb0, Below.refl _ _, Kb.refl _ _⟩, lieT_low h1 hbl', h2.keep (fun g hg _ => hbl'.block g hg) hbl'.size (Kx.bl hbl), hG.bl hbl, hNG, hw, hl, hn, hbl'⟩
  have HBe : Hid (B = w.heap.size) := hB
  rw [← hn]
  clear h1 h2 hNG hb0 hbl hbl' hn hw hG hl
  go_enter Tryz.func13, Tryz.ntmps13
  go_upto_region 2 with fail
  rw [← hw1, ← hB]
  clear hw1 hB
  go_wp2
  go_loopw [8] (fun i wr => ∃ j : Nat, j ≤ n ∧ i = .int .i64 (j : Int) ∧ Hid (Wb B B w1 wr (pre2 l j))) (fun i _ => n - (intOf i).toNat)
  case atStart => exact ⟨0, by omega, rfl, H1.out.1⟩
  case round =>
    obtain ⟨j, hj, rfl, HB⟩ := hrel
    obtain ⟨H10, Hlie, Hrep, HGt, HNG, HWT, Hl, Hn, Hbl⟩ := H1.out
    by_cases hjn : j < n
    · have d1 : decide ((j : Int) < (n : Int)) = true := decide_eq_true (by omega)
      have i0 : (0 : Int) ≤ (j : Int) := by omega
      have i1 : (j : Int) < (n : Int) := by omega
      obtain ⟨x, t, e1, e2, e3, e4, cs2, e5, e6⟩ := Hrep.at j (by rw [← Hn]; exact hjn)
      have hkx : Kx w1 wr := Kb.kx HB.out.kb H10.bd
      obtain ⟨X, rfl, _, g0', g⟩ := lieT_at (lieT_low Hlie HB.out.bl) j x e1
      have g0 : wr.cell? (X.add (j * 3)) = some (.string (tx x.nm)) := g0'
      clear g0'
      have g1 := g 1 _ rfl
      have g2 := g 2 _ rfl
      clear g e1
      obtain ⟨w3, hw3⟩ : ∃ w3, w3 = wr.alloc (.cells (clT x).toArray 36) := ⟨_, rfl⟩
      obtain ⟨M, hM⟩ : ∃ M, M = wr.heap.size := ⟨_, rfl⟩
      have hv3 : w3.heap[M]? = some (.cells (clT x).toArray 36 (0, 0)) := by rw [hw3, hM]; exact new_at _ _
      have hbl3 : Bl wr w3 := by rw [hw3]; exact (Bl.refl _).alloc _
      have hMb : M ≠ B := by have := HB.out.bd.lt; omega
      have hpl := pre2_len l (j + 1)
      rw [pre2_step l j _ e2, List.length_append] at hpl
      have W3 := HB.out.bl' hbl3
      have hit : (tyx t).length = 7 + t.nm.length + 3 + (itx [] t.l).length + 2 := by
        unfold tyx
        simp only [List.length_append, List.length_cons, List.length_nil]
        rw [show wStruct.length = 6 from rfl]
      obtain ⟨t1, t2, t3⟩ := HWT.2 t (List.mem_of_getElem? e2)
      obtain ⟨NMs, hNM⟩ : ∃ NMs, NMs = tx x.nm := ⟨_, rfl⟩
      have hNMs : NMs.size ≤ 12 := by rw [hNM, tx_size, e3]; exact t1.2.2.1
      have cW := write_at B B _ (⟨#[115, 116, 114, 117, 99, 116, 32]⟩ ++ NMs) w3 W3.bd (by
        rw [ByteArray.size_append]
        show _ + (7 + _) ≤ _
        omega)
      have hppl : (⟨#[115, 116, 114, 117, 99, 116, 32]⟩ ++ NMs : ByteArray).data.toList = wStruct ++ [32] ++ t.nm := by
        rw [hNM, e3, show ({ data := #[115, 116, 114, 117, 99, 116, 32] } : ByteArray) = tx (wStruct ++ [32]) from rfl, tx_app]
        exact L_tx _
      rw [hppl] at cW
      have hen : x.n = t.l.len := by rw [e5.1]; exact e6.len.1
      have H3 : Hid (Wb B B w1 w3 (pre2 l j) ∧ w3.heap[M]? = some (.cells (clT x).toArray 36 (0, 0)) ∧ l[j]? = some t ∧ t.l.len ≤ 16 ∧ WI 7 t.l ∧ x.n = t.l.len ∧ ir.Lie w1 (fun g => g < B) x.p t.l.len x.c cs2 ∧ Rep w1 (fun g => g < B) t.l cs2) := ⟨W3, hv3, e2, t2, t3, hen, by rw [← hen]; exact e5, e6⟩
      have HL : Hid ((pre2 l j).length + (tyx t).length ≤ (ptxt l).length ∧ (tyx t).length = 7 + t.nm.length + 3 + (itx [] t.l).length + 2 ∧ (ptxt l).length + 20 ≤ 1000000) := ⟨hpl, hit, Hl⟩
      have hMs : M < w3.heap.size := lt_of_heap hv3
      have c0 : w3.cell? ⟨M, 0, none⟩ = some (.string NMs) := by rw [cell_of hv3, hNM]; rfl
      clear hpl hit W3 hv3 hbl3 hppl t1 t2 t3 e2 e3 e4 e5 e6 hkx H10 Hlie Hrep HGt HNG HWT Hl Hbl hen Hn hNM
      go_upto_region 5 with fail
      change Code.wp _ _ _ _ (wr.alloc (.cells (clT x).toArray 36))
      rw [← hw3, ← hM]
      clear hw3 hM g0 g1 g2
      go_wp2_with fail
      refine cW.mono ?_
      rintro e w4 ⟨rfl, hB4, hb4, hk4⟩
      have H4 : Hid (Wb B B w1 w4 (pre2 l j ++ (wStruct ++ [32] ++ t.nm)) ∧ w4.heap[M]? = some (.cells (clT x).toArray 36 (0, 0))) := ⟨H3.out.1.go hB4 hb4 hk4, hk4.same M _ H3.out.2.1 hMb (fun c fz e => by injection e with _ e2 _; exact absurd e2 (by decide))⟩
      have c2 : w4.cell? ⟨M, 2, none⟩ = some (.slice x.p x.n x.c) := by rw [cell_of H4.out.2]; rfl
      have hlens := HL.out
      have cR := block_wa 7 t.l B B _ [] x.p x.c cs2 w4 H3.out.2.2.2.2.1 H3.out.2.2.2.1 hB4 (lie_low H3.out.2.2.2.2.2.2.1 H4.out.1.bl) (H3.out.2.2.2.2.2.2.2.low H4.out.1.bl (Kb.kx H4.out.1.kb H1.out.1.bd)) (H1.out.2.2.2.1.low H4.out.1.bl H1.out.2.2.2.2.1) H1.out.2.2.2.2.1 (by
        simp only [List.length_append, List.length_cons, List.length_nil]
        rw [show wStruct.length = 6 from rfl]
        omega)
      rw [← H3.out.2.2.2.2.2.1] at cR
      rw [show tx [] = (⟨#[]⟩ : ByteArray) from rfl] at cR
      clear hB4 hb4 hk4 cW c0 hlens
      go_wp2_with fail
      refine cR.mono ?_
      rintro e w7 ⟨rfl, hB7, hb7, hk7⟩
      have H7 : Hid (Wb B B w1 w7 (pre2 l (j + 1))) := by
        show Wb B B w1 w7 _
        rw [pre2_step l j _ H3.out.2.2.1]
        have h7 := H4.out.1.go hB7 hb7 hk7
        have e9 : pre2 l j ++ tyx t = pre2 l j ++ (wStruct ++ [32] ++ t.nm) ++ ([32, 123, 10] ++ itx [] t.l ++ [] ++ [125, 10]) := by
          unfold tyx
          simp
        rw [e9]
        exact h7
      clear hB7 hb7 hk7 cR c2
      go_wp2
      go_roundw
      case rel => exact ⟨j + 1, by omega, by go_num, H7.out⟩
      case measure => simp [intOf]; omega
    · obtain rfl : j = n := by omega
      have hpe : pre2 l j = ptxt l := by rw [Hn]; exact pre2_all l
      have hB9 := HB.out.bd
      rw [hpe] at hB9
      have HBl : Hid (Below B w wr) := Hbl.trans HB.out.bl
      clear H10 Hlie Hrep HGt HNG HWT Hl Hn Hbl hpe
      go_wp2_with fail
      refine (string_at _ _ _ _ hB9).mono ?_
      rintro e w3 ⟨rfl, hb3, _⟩
      have HBl3 : Hid (Bl w w3) := by
        have := HBl.out.trans hb3
        rw [HBe.out] at this
        exact this
      clear hb3 hB9
      go_wp2
      go_ret
      exact ⟨rfl, HBl3.out⟩
end Go.Proofs.YtpanodaecjlgaaaGreatDoor.tm
/- Whether templates fit together: an item by its name. -/
namespace Go.Proofs.YtpanodaecjlgaaaGreatDoor.tm
set_option linter.unusedVariables false
open Go.ChangeShapes Go.WideShapes Go.ChangeAt Go.RowKit Go.Shelf
open mem lx ex

theorem lie_bl {w w' : World} {ok : Nat → Prop} {p : Option Addr} {n c : Nat} {cs : List C} (h : ir.Lie w ok p n c cs) (hb : Bl w w') : ir.Lie w' ok p n c cs := h.keep (fun g _ hg => Below.block hb g hg) hb.size
theorem named_is (m : ByteArray) (b : Nat) (x : C) (w : World) (hb : w.cell? ⟨b, 0, none⟩ = some (.string m)) : Calls Tryz.prog 137 #[itV x, .pointer (some ⟨b, 0, none⟩)] w fun e w' => e = .returned (.bool (decide (x.d.nm = L m))) ∧ Bl w w' := by
  have hb' := at_bl ((Bl.refl w).alloc (.cells (cl x).toArray 75)) hb
  have hlt : b < w.heap.size := by
    rcases Nat.lt_or_ge b w.heap.size with h | h
    · exact h
    · simp [World.cell?, Array.getElem?_eq_none h] at hb
  have hne : ¬ b = w.heap.size := by omega
  have htl := tl_tx x.d.nm
  have hml : m.toList = L m := ByteArray.toList_eq m
  have hD : (decide (x.d.nm = L m)) = ((tx x.d.nm).toList == m.toList) := by rw [htl, hml, Bool.eq_iff_iff]; simp
  rw [hD]
  obtain ⟨w1, hw1⟩ : ∃ w1, w1 = w.alloc (.cells (cl x).toArray 75) := ⟨_, rfl⟩
  obtain ⟨N, hN⟩ : ∃ N, N = w.heap.size := ⟨_, rfl⟩
  have hv : Iv w1 N x := ⟨by rw [hw1, hN]; exact new_at _ _⟩
  have HB : Hid (Bl w w1) := by show Bl w w1; rw [hw1]; exact (Bl.refl _).alloc _
  have g2 := hv.facts.2.2.1
  rw [← hw1] at hb'
  clear hD htl hml hv hne hlt hb
  unfold itV
  go_enter Tryz.func137, Tryz.ntmps137
  go_upto_region 1 with fail
  change Code.wp _ _ _ _ (w.alloc (.cells (cl x).toArray 75))
  rw [← hw1, ← hN]
  clear hw1 hN
  go_wp2
  go_ret
  exact ⟨rfl, HB.out⟩
/-- Where an item stands that is called so, or -1. -/
def idx : Option Nat → Int
  | some k => (k : Int)
  | none => -1
theorem nmd_idx (cs : List C) (t : List UInt8) : idx (nmd (cs.map C.d) t) = if cs.findIdx (fun c => c.d.nm == t) < cs.length then ((cs.findIdx (fun c => c.d.nm == t) : Nat) : Int) else -1 := by
  unfold nmd
  induction cs with
  | nil => rfl
  | cons c r ih =>
    rw [List.map_cons, List.findIdx?_cons, List.findIdx_cons]
    cases hc : (c.d.nm == t) with
    | true => simp [idx]
    | false =>
      simp only [cond_false, Bool.false_eq_true, if_false, List.length_cons, Nat.add_lt_add_iff_right]
      cases hr : List.findIdx? (fun d => d.nm == t) (r.map C.d) with
      | none =>
        rw [hr] at ih
        have ih' : (-1 : Int) = if r.findIdx (fun c => c.d.nm == t) < r.length then ((r.findIdx (fun c => c.d.nm == t) : Nat) : Int) else -1 := ih
        split at ih'
        · omega
        · rename_i h; rw [if_neg h]; rfl
      | some k =>
        rw [hr] at ih
        have ih' : ((k : Nat) : Int) = if r.findIdx (fun c => c.d.nm == t) < r.length then ((r.findIdx (fun c => c.d.nm == t) : Nat) : Int) else -1 := ih
        split at ih'
        · rename_i h
          rw [if_pos h]
          show ((k + 1 : Nat) : Int) = _
          omega
        · omega
set_option maxRecDepth 10000 in
set_option maxHeartbeats 1000000 in
theorem indexI_at (m : ByteArray) (b : Nat) (cs : List C) (ok : Nat → Prop) (p : Option Addr) (n c : Nat) (w : World) (hin : ir.Lie w ok p n c cs) (hn : n ≤ 3000) (hb : w.cell? ⟨b, 0, none⟩ = some (.string m)) :
    Calls Tryz.prog 136 #[.slice p n c, .func (.func 137) #[] #[.pointer (some ⟨b, 0, none⟩)]] w fun e w' => e = .returned (.int .i64 (idx (nmd (cs.map C.d) (L m)))) ∧ Bl w w' := by
  rw [nmd_idx]
  obtain ⟨U, hU⟩ : ∃ U, U = cs.findIdx (fun c => c.d.nm == L m) := ⟨_, rfl⟩
  rw [← hU]
  have hnc : n = cs.length := hin.1
  have hncap : n ≤ c := hin.2.1
  have u1 : U ≤ n := by rw [hnc, hU]; exact List.findIdx_le_length
  have u2 : ∀ i x, cs[i]? = some x → i < U → x.d.nm ≠ L m := by
    intro i x hx hi
    obtain ⟨hl, he⟩ := List.getElem?_eq_some_iff.1 hx
    have := List.not_of_lt_findIdx (p := fun c : C => c.d.nm == L m) (xs := cs) (i := i) (by rw [← hU]; exact hi)
    rw [he] at this
    simpa using this
  have u3 : ∀ x, cs[U]? = some x → x.d.nm = L m := by
    intro x hx
    obtain ⟨hl, he⟩ := List.getElem?_eq_some_iff.1 hx
    subst hU
    have := List.findIdx_getElem (p := fun c : C => c.d.nm == L m) (xs := cs) (w := hl)
    rw [he] at this
    simpa using this
  rw [← hnc]
  have HI : Hid (ir.Lie w ok p n c cs ∧ n = cs.length ∧ (∀ i x, cs[i]? = some x → i < U → x.d.nm ≠ L m) ∧ (∀ x, cs[U]? = some x → x.d.nm = L m)) := ⟨hin, hnc, u2, u3⟩
  clear hin u2 u3 hnc hU
  go_enter Tryz.func136, Tryz.ntmps136
  go_wp2
  go_loopw [8] (fun i wr => ∃ k : Nat, k ≤ U ∧ i = .int .i64 (k : Int) ∧ Hid (Bl w wr)) (fun i _ => n - (intOf i).toNat)
  case atStart => exact ⟨0, by omega, rfl, Bl.refl _⟩
  case round =>
    obtain ⟨k, hk, rfl, HB⟩ := hrel
    by_cases hkn : k < n
    · have d1 : decide ((k : Int) < (n : Int)) = true := decide_eq_true (by omega)
      have i0 : (0 : Int) ≤ (k : Int) := by omega
      have i1 : (k : Int) < (n : Int) := by omega
      obtain ⟨x, hx⟩ : ∃ x, cs[k]? = some x := ⟨_, List.getElem?_eq_getElem (by have := HI.out.2.1; omega)⟩
      obtain ⟨X, rfl, _, g0', g⟩ := lie_at (lie_bl HI.out.1 HB.out) k x hx
      have g0 : wr.cell? (X.add (k * 13)) = some (.int .i64 (x.d.kd : Int)) := g0'
      clear g0'
      have g1 := g 1 _ rfl
      have g2 := g 2 _ rfl
      have g3 := g 3 _ rfl
      have g4 := g 4 _ rfl
      have g5 := g 5 _ rfl
      have g6 := g 6 _ rfl
      have g7 := g 7 _ rfl
      have g8 := g 8 _ rfl
      have g9 := g 9 _ rfl
      have g10 := g 10 _ rfl
      have g11 := g 11 _ rfl
      have g12 := g 12 _ rfl
      have cM := named_is m b x wr (at_bl HB.out hb)
      unfold itV cl at cM
      have HT : Hid (k < U → x.d.nm ≠ L m) := HI.out.2.2.1 k x hx
      have HT2 : Hid (k = U → x.d.nm = L m) := fun h => HI.out.2.2.2 x (by rw [← h]; exact hx)
      clear g hx
      by_cases hkU : k < U
      · have hD : decide (x.d.nm = L m) = false := decide_eq_false (HT.out hkU)
        rw [hD] at cM
        clear hD
        go_wp2_with fail
        refine cM.mono ?_
        rintro e w2 ⟨rfl, hb2⟩
        clear cM g0 g1 g2 g3 g4 g5 g6 g7 g8 g9 g10 g11 g12
        go_wp2
        go_roundw
        case rel => exact ⟨k + 1, by omega, by go_num, HB.out.trans hb2⟩
        case measure => simp [intOf]; omega
      · obtain rfl : k = U := by omega
        have hD : decide (x.d.nm = L m) = true := decide_eq_true (HT2.out rfl)
        rw [hD] at cM
        clear hD
        go_wp2_with fail
        refine cM.mono ?_
        rintro e w2 ⟨rfl, hb2⟩
        clear cM g0 g1 g2 g3 g4 g5 g6 g7 g8 g9 g10 g11 g12
        go_wp2
        go_ret
        exact ⟨ret_int rfl, HB.out.trans hb2⟩
    · have d1 : decide ((k : Int) < (n : Int)) = false := decide_eq_false (by omega)
      have hUn : ¬ U < n := by omega
      go_wp2
      go_ret
      exact ⟨ret_int rfl, HB.out⟩
set_option maxHeartbeats 1000000 in
theorem named_at (m : ByteArray) (cs : List C) (ok : Nat → Prop) (p : Option Addr) (n c : Nat) (w : World) (hin : ir.Lie w ok p n c cs) (hn : n ≤ 3000) :
    Calls Tryz.prog 119 #[.slice p n c, .string m] w fun e w' => e = .returned (.int .i64 (idx (nmd (cs.map C.d) (L m)))) ∧ Bl w w' := by
  have hmf : ∀ (fn : Fn) (first cap : Array Value) (w : World), (Instr.makeFunc fn first cap).run Tryz.prog w = .ok (.func fn first cap) w := fun _ _ _ _ => rfl
  have hb1 : Bl w (w.alloc (.cells #[.string m] 9)) := (Bl.refl _).alloc _
  have c1 := indexI_at m w.heap.size cs ok p n c _ (lie_bl hin hb1) hn (by rw [cell_of (new_at w (.cells #[.string m] 9))]; rfl)
  have HB : Hid (Bl w (w.alloc (.cells #[.string m] 9))) := hb1
  clear hin hb1
  go_enter Tryz.func119, Tryz.ntmps119
  go_wp2_with fail
  refine c1.mono ?_
  rintro e w2 ⟨rfl, hb2⟩
  go_wp2
  go_ret
  exact ⟨rfl, HB.out.trans hb2⟩
end Go.Proofs.YtpanodaecjlgaaaGreatDoor.tm
/- Whether templates fit together: the ends of a rule; what is told. -/
namespace Go.Proofs.YtpanodaecjlgaaaGreatDoor.tm
set_option linter.unusedVariables false
open Go.ChangeShapes Go.WideShapes Go.ChangeAt Go.RowKit Go.Shelf
open mem lx ex

theorem ends_is (ds : List D) (d : D) : (¬ d.ru = 3 → ends ds d = (nmd ds d.f1, nmd ds d.f1)) ∧ (d.ru = 3 → ends ds d = (nmd ds d.f1, nmd ds d.l1)) := by
  unfold ends
  exact ⟨fun h => by rw [if_neg h], fun h => by rw [if_pos h]⟩
set_option maxRecDepth 10000 in
set_option maxHeartbeats 1000000 in
theorem ends_at (x : C) (cs : List C) (ok : Nat → Prop) (p : Option Addr) (n c : Nat) (w : World) (hin : ir.Lie w ok p n c cs) (hn : n ≤ 3000) :
    Calls Tryz.prog 98 #[.slice p n c, itV x] w fun e w' => e = .returned (.tuple #[.int .i64 (idx (ends (cs.map C.d) x.d).1), .int .i64 (idx (ends (cs.map C.d) x.d).2)]) ∧ Bl w w' := by
  obtain ⟨o1, o2⟩ := ends_is (cs.map C.d) x.d
  obtain ⟨w1, hw1⟩ : ∃ w1, w1 = w.alloc (.cells (cl x).toArray 75) := ⟨_, rfl⟩
  obtain ⟨N, hN⟩ : ∃ N, N = w.heap.size := ⟨_, rfl⟩
  have hv : Iv w1 N x := ⟨by rw [hw1, hN]; exact new_at _ _⟩
  have hb1 : Bl w w1 := by rw [hw1]; exact (Bl.refl _).alloc _
  have HB : Hid (Bl w w1 ∧ Iv w1 N x ∧ ir.Lie w1 ok p n c cs) := ⟨hb1, hv, lie_bl hin hb1⟩
  obtain ⟨a0, a1, a2, a3, a4, a5, a6, a7, a8, a9, a10, a11, a12⟩ := hv.facts
  have c1 := named_at (tx x.d.f1) cs ok p n c w1 HB.out.2.2 hn
  rw [L_tx] at c1
  clear hv hb1 hin a0 a1 a2 a3 a4 a5 a6 a7 a8 a11 a12
  unfold itV
  go_enter Tryz.func98, Tryz.ntmps98
  go_upto_region 1 with fail
  change Code.wp _ _ _ _ (w.alloc (.cells (cl x).toArray 75))
  rw [← hw1, ← hN]
  clear hw1 hN
  go_wp2_with fail
  refine c1.mono ?_
  rintro e w2 ⟨rfl, hb2⟩
  have c2 := named_at (tx x.d.l1) cs ok p n c w2 (lie_bl HB.out.2.2 hb2) hn
  rw [L_tx] at c2
  have g9 := at_bl hb2 a9
  have g11 := (HB.out.2.1.bl hb2).facts.2.2.2.2.2.2.2.2.2.2.2.1
  have H2 : Hid (Bl w w2) := HB.out.1.trans hb2
  clear c1 hb2 a9 a10
  by_cases h3 : x.d.ru = 3
  · have HO : Hid (ends (cs.map C.d) x.d = (nmd (cs.map C.d) x.d.f1, nmd (cs.map C.d) x.d.l1)) := o2 h3
    rw [h3] at g9
    clear o1 o2 h3
    go_wp2_with fail
    refine c2.mono ?_
    rintro e w3 ⟨rfl, hb3⟩
    go_wp2
    rw [HO.out]
    go_ret2
    exact ⟨rfl, H2.out.trans hb3⟩
  · have HO : Hid (ends (cs.map C.d) x.d = (nmd (cs.map C.d) x.d.f1, nmd (cs.map C.d) x.d.f1)) := o1 h3
    have h3' : ¬ ((x.d.ru : Int) = 3) := by omega
    clear o1 o2 h3
    go_wp2
    rw [HO.out]
    go_ret2
    exact ⟨rfl, H2.out⟩
def thrownY (B : Nat) : Ending := .panicked [{ v := .iface 86 (.agg #[.iface 110 (.pointer (some ⟨B, 0, none⟩))]), recovered := false }]
/-- An error is thrown. -/
def ThrY (w : World) (c p : Int) (e : Ending) (w' : World) : Prop := ∃ B : Nat, e = thrownY B ∧ w.heap.size ≤ B ∧ AtX w' B c p ∧ Bl w w'
theorem ythrow_at (a c : Int) (w : World) : Calls Tryz.prog 43 #[.int .i64 a, .int .i64 c] w fun e w' => ThrY w c a e w' := by
  go_enter Tryz.func43, Tryz.ntmps43
  go_wp2
  refine ⟨rfl, w.heap.size, rfl, Nat.le_refl _, new_at _ _, (Bl.refl _).alloc _⟩
end Go.Proofs.YtpanodaecjlgaaaGreatDoor.tm
/- Whether templates fit together: sets of names; whether an expression's names are seen. -/
namespace Go.Proofs.YtpanodaecjlgaaaGreatDoor.tm
set_option linter.unusedVariables false
open Go.ChangeShapes Go.WideShapes Go.ChangeAt Go.RowKit Go.Shelf
open mem lx ex
open Go.Maps

theorem om_drop {w : World} {b c : Nat} {f : List UInt8 → Option Int} (h : Om w b f c) (t : ByteArray) (ht : t.size ≤ 5000) (ty : TypeId) :
    ∃ w', (Builtin.delete_ #[66, 9] ty #[.map (some b), .string t]).run Tryz.prog w = .ok (.tuple #[]) w' ∧ Om w' b (fun y => if y = t.data.toList then none else f y) c ∧ w.grownBy w' (some b) := by
  obtain ⟨D, h1, h2⟩ := h
  obtain ⟨w', hr, ho, hg⟩ := h1.drop lawS Tryz.underlying66 (WideMaps.keyOf_string_mk Tryz.underlying9 (s := t) (by unfold maxLen; omega)) ty
  refine ⟨w', hr, ⟨_, ho, fun y hy => ?_⟩, hg.grown⟩
  show Maps.has (D.del (skey t.data.toList)) (skey y) = _ ∧ (D.del (skey t.data.toList)).atKey (skey y) _ = _
  by_cases e : y = t.data.toList
  · subst e
    rw [has_del_same, atKey_del_same]
    simp
  · rw [has_del_other (skey_inj e), atKey_del_other (skey_inj e)]
    simp only [if_neg e]
    exact h2 y hy
/-- A map that holds just these names. -/
def SetM (w : World) (b : Nat) (S : List (List UInt8)) (k : Nat) : Prop := ∃ f c, Om w b f c ∧ c ≤ k ∧ ∀ y, (f y).isSome = true ↔ y ∈ S
theorem SetM.made (w : World) : SetM (w.alloc (.map #[] 0)) w.heap.size [] 0 := ⟨_, _, Om.made w, Nat.le_refl _, fun y => by simp⟩
theorem SetM.step {w w' : World} {b k : Nat} {S : List (List UInt8)} {row : Option Nat} (h : SetM w b S k) (hg : w.grownBy w' row) (hne : some b ≠ row) : SetM w' b S k := by
  obtain ⟨f, c, h1, h2, h3⟩ := h
  exact ⟨f, c, h1.step hg hne, h2, h3⟩
theorem SetM.bl {w w' : World} {b k : Nat} {S : List (List UInt8)} (h : SetM w b S k) (hb : Bl w w') : SetM w' b S k := h.step (row := none) ⟨hb.os, hb.tape, hb.output, hb.size, fun k hk _ => Below.block hb k hk⟩ (by simp)
theorem SetM.mono {w : World} {b k k' : Nat} {S : List (List UInt8)} (h : SetM w b S k) (hk : k ≤ k') : SetM w b S k' := by
  obtain ⟨f, c, h1, h2, h3⟩ := h
  exact ⟨f, c, h1, by omega, h3⟩
theorem SetM.same {w : World} {b k : Nat} {S S' : List (List UInt8)} (h : SetM w b S k) (hs : ∀ y, y ∈ S ↔ y ∈ S') : SetM w b S' k := by
  obtain ⟨f, c, h1, h2, h3⟩ := h
  exact ⟨f, c, h1, h2, fun y => (h3 y).trans (hs y)⟩
theorem SetM.lt {w : World} {b k : Nat} {S : List (List UInt8)} (h : SetM w b S k) : b < w.heap.size := by
  obtain ⟨f, c, h1, h2, h3⟩ := h
  exact om_lt h1
theorem SetM.look {w : World} {b k : Nat} {S : List (List UInt8)} (h : SetM w b S k) (t : List UInt8) (ht : t.length ≤ 5000) :
    ∃ x : Int, (Instr.lookup 66 (.map (some b)) (.string (tx t)) true).run Tryz.prog w = .ok (.tuple #[.int .i64 x, .bool (decide (t ∈ S))]) w := by
  obtain ⟨f, c, h1, h2, h3⟩ := h
  have := h1.look (tx t) (by rw [tx_size]; exact ht)
  have e : (tx t).data.toList = t := L_tx _
  rw [e] at this
  have hb : (f t).isSome = decide (t ∈ S) := by rw [Bool.eq_iff_iff, h3 t]; simp
  rw [hb] at this
  exact ⟨_, this⟩
theorem SetM.put {w : World} {b k : Nat} {S : List (List UInt8)} (h : SetM w b S k) (t : List UInt8) (x : Int) (ht : t.length ≤ 5000) (hx : R64 x) (hk : k ≤ 5000) :
    ∃ w', (Instr.mapUpdate 66 (.map (some b)) (.string (tx t)) (.int .i64 x)).run Tryz.prog w = .ok () w' ∧ SetM w' b (t :: S) (k + 1) ∧ w.grownBy w' (some b) := by
  obtain ⟨f, c, h1, h2, h3⟩ := h
  obtain ⟨w', r, o, g⟩ := h1.put (tx t) x (by rw [tx_size]; exact ht) hx (by omega)
  have e : (tx t).data.toList = t := L_tx _
  rw [e] at o
  refine ⟨w', r, ⟨_, _, o, by omega, fun y => ?_⟩, g⟩
  by_cases hy : y = t
  · simp [hy]
  · simp only [List.mem_cons, hy, false_or]
    exact h3 y
theorem SetM.drop {w : World} {b k : Nat} {S : List (List UInt8)} (h : SetM w b S k) (t : List UInt8) (ht : t.length ≤ 5000) (ty : TypeId) :
    ∃ w', (Builtin.delete_ #[66, 9] ty #[.map (some b), .string (tx t)]).run Tryz.prog w = .ok (.tuple #[]) w' ∧ SetM w' b (S.filter (fun y => y ≠ t)) k ∧ w.grownBy w' (some b) := by
  obtain ⟨f, c, h1, h2, h3⟩ := h
  obtain ⟨w', r, o, g⟩ := om_drop h1 (tx t) (by rw [tx_size]; exact ht) ty
  have e : (tx t).data.toList = t := L_tx _
  rw [e] at o
  refine ⟨w', r, ⟨_, _, o, h2, fun y => ?_⟩, g⟩
  by_cases hy : y = t
  · simp [hy]
  · simp only [if_neg hy, List.mem_filter]
    rw [h3 y]
    simp [hy]
theorem ev_mis {f : List UInt8 → Option Int} {S : List (List UInt8)} (h : ∀ y, (f y).isSome = true ↔ y ∈ S) (x : Ex) : (∀ p, mis S x = some p → ev f x = .error p) ∧ (mis S x = none → ∃ n, ev f x = .ok n) := by
  induction x with
  | num a n => exact ⟨fun p hp => (by cases hp), fun _ => ⟨_, rfl⟩⟩
  | nam a t =>
    rw [mis, ev]
    by_cases ht : t ∈ S
    · rw [if_pos ht]
      have := (h t).2 ht
      cases hf : f t with
      | none => rw [hf] at this; cases this
      | some n => exact ⟨fun p hp => (by cases hp), fun _ => ⟨_, rfl⟩⟩
    · rw [if_neg ht]
      cases hf : f t with
      | none => exact ⟨fun p hp => (by injection hp with hp; rw [hp]), fun hp => (by cases hp)⟩
      | some n => exact absurd ((h t).1 (by rw [hf]; rfl)) ht
  | bin a o l r il ir =>
    rw [mis, ev]
    cases hl : mis S l with
    | some p =>
      rw [il.1 p hl]
      exact ⟨fun q hq => (by injection hq with hq; rw [hq]), fun hp => (by cases hp)⟩
    | none =>
      obtain ⟨n, hn⟩ := il.2 hl
      rw [hn]
      dsimp only
      cases hr : mis S r with
      | some p =>
        rw [ir.1 p hr]
        exact ⟨fun q hq => (by injection hq with hq; rw [hq]), fun hp => (by cases hp)⟩
      | none =>
        obtain ⟨m, hm⟩ := ir.2 hr
        rw [hm]
        exact ⟨fun q hq => (by cases hq), fun _ => ⟨_, rfl⟩⟩
theorem value_nil (m : Option Nat) (w : World) : Calls Tryz.prog 135 #[.pointer none, .map m] w fun e w' => e = .returned (.int .i64 0) ∧ w' = w := by
  go_enter Tryz.func135, Tryz.ntmps135
  go_wp2
  go_ret
  exact ⟨rfl, rfl⟩
set_option maxRecDepth 10000 in
theorem reckoned_nil (m : Option Nat) (w : World) :
    Calls Tryz.prog 118 #[.pointer none, .map m] w fun e w' => e = .returned (.tuple #[.int .i64 0, .nilIface]) ∧ Bl w w' := by
  have hmf : ∀ (fn : Fn) (first cap : Array Value) (w : World), (Instr.makeFunc fn first cap).run Tryz.prog w = .ok (.func fn first cap) w := fun _ _ _ _ => rfl
  have H0 : Hid _ := Ev.new w
  have cV := value_nil m
  obtain ⟨N, hN⟩ : ∃ N, N = w.heap.size := ⟨_, rfl⟩
  rw [← hN] at H0
  obtain ⟨w2, hw2⟩ : ∃ w2, w2 = (w.alloc (.cells #[.int .i64 0] 3)).alloc (.cells #[.nilIface] 30) := ⟨_, rfl⟩
  rw [← hw2] at H0
  go_enter_defers Tryz.func118, Tryz.ntmps118
  go_wp2_with fail
  rw [← hw2, ← hN]
  clear hw2 hN
  refine (cV _).mono ?_
  rintro e w4 ⟨rfl, rfl⟩
  have H4 : Hid (Ev w w4 N (.int .i64 0) .nilIface) := H0.out
  have d1 := H4.out.v1.cell
  have d2 := H4.out.v2.cell
  have e1 := H4.out.v1.frozen
  have e2 := H4.out.v2.frozen
  go_wp2
  have H9 := (H4.out.set1 (.int .i64 0)).set2 .nilIface
  generalize (w4.setCell ⟨N, 0, none⟩ (.int .i64 0)).setCell ⟨N + 1, 0, none⟩ .nilIface = w9 at H9 ⊢
  have c1' := H9.v1.cell
  have c2' := H9.v2.cell
  refine leaves_cons (f := 134) (args := #[.pointer (some ⟨N, 0, none⟩), .pointer (some ⟨N + 1, 0, none⟩)]) (by simp) (by simp [go_sem]) ?_
  refine (ecatch_idle _ _ _).mono ?_
  rintro e u' w'' ⟨rfl, rfl, rfl⟩
  simp [Leaves, settle, results, Tryz.results118, go_sem, c1', c2']
  exact H9.bl
theorem Eval_nil (m : Option Nat) (w : World) :
    Calls Tryz.prog 97 #[.pointer none, .map m] w fun e w' => e = .returned (.tuple #[.int .i64 0, .nilIface]) ∧ Bl w w' := by
  have c := reckoned_nil m w
  go_enter Tryz.func97, Tryz.ntmps97
  go_wp2_with fail
  refine c.mono ?_
  rintro e w4 ⟨rfl, hb4⟩
  go_wp2
  go_ret2
  exact ⟨rfl, hb4⟩
theorem isO_lt {w : World} {pc : Option Addr} {o : Option Ex} (h : IsO w pc o) : o = none ∧ pc = none ∨ ∃ x, o = some x ∧ IsX w (.pointer pc) x := by
  cases o with
  | none => exact Or.inl ⟨rfl, h⟩
  | some x => exact Or.inr ⟨x, rfl, h⟩
/-- What asking answers. -/
def AskA (w : World) (q : Option Nat) (e : Ending) (w' : World) : Prop := Bl w w' ∧ match q with
  | none => e = .returned (.tuple #[])
  | some p => ∃ B : Nat, e = thrownY B ∧ w.heap.size ≤ B ∧ AtX w' B 5 (p : Int)
set_option maxRecDepth 10000 in
theorem ask_at (w : World) (K eb nb' sb k : Nat) (S : List (List UInt8)) (pc : Option Addr) (o : Option Ex) (hK : w.heap[K]? = some (.cells #[.map (some eb), .map (some nb'), .map (some sb)] 92 (0, 0))) (hS : SetM w sb S k) (hx : IsO w pc o) (ho : ∀ x, o = some x → Okb x) :
    Calls Tryz.prog 65 #[.pointer (some ⟨K, 0, none⟩), .pointer pc] w fun e w' => AskA w (misO S o) e w' := by
  have c2 : w.cell? ⟨K, 2, none⟩ = some (.map (some sb)) := by rw [cell_of hK]; rfl
  have hKs : K < w.heap.size := lt_of_heap hK
  rcases isO_lt hx with ⟨rfl, rfl⟩ | ⟨x, rfl, hxx⟩
  · have cE := Eval_nil (some sb) w
    clear hK hS hx ho
    go_enter Tryz.func65, Tryz.ntmps65
    go_wp2_with fail
    refine cE.mono ?_
    rintro e w4 ⟨rfl, hb4⟩
    go_wp2
    go_end0
    exact ⟨hb4, rfl⟩
  · obtain ⟨f, c, h1, h2, h3⟩ := hS
    have cE := Eval_at f (.map (some sb)) x (.pointer pc) w hxx (ho x rfl) h1.isM
    obtain ⟨m1, m2⟩ := ev_mis h3 x
    obtain ⟨xb, hxb, _⟩ := hxx.ptr
    injection hxb with hxb
    subst hxb
    cases hm : mis S x with
    | none =>
      obtain ⟨n, hn⟩ := m2 hm
      have HM : Hid (misO S (some x) = none) := hm
      rw [hn] at cE
      clear hK hx ho h1 h3 m1 m2 hxx hm hn
      go_enter Tryz.func65, Tryz.ntmps65
      go_wp2_with fail
      refine cE.mono ?_
      rintro e w4 ⟨hb4, rfl⟩
      go_wp2
      rw [HM.out]
      go_end0
      exact ⟨hb4, rfl⟩
    | some p =>
      have HM : Hid (misO S (some x) = some p) := hm
      rw [m1 p hm] at cE
      clear hK hx ho h1 h3 m1 m2 hxx hm
      go_enter Tryz.func65, Tryz.ntmps65
      go_wp2_with fail
      refine cE.mono ?_
      rintro e w4 ⟨hb4, B, rfl, hB1, hB2⟩
      go_wp2
      rw [HM.out]
      exact ⟨rfl, hb4, B, rfl, hB1, hB2⟩
end Go.Proofs.YtpanodaecjlgaaaGreatDoor.tm
