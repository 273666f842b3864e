/- Texts laid together: TmJ, TmK, TmL, Ty1, Ty2. -/
import Derived.Test.YtpanodaecjlgaaaGreatDoorXTypesFinds14
import Derived.BigQuiet
import Derived.Test.YtpanodaecjlgaaaGreatDoorXTypesFinds9
/- Templates, printed: an item that has no others. -/
namespace Go.Proofs.YtpanodaecjlgaaaGreatDoor.tm
set_option linter.unusedVariables false
open Go.ChangeShapes Go.WideShapes Go.ChangeAt Go.RowKit Go.Shelf
open mem lx ex

theorem kw_len {d : D} (h : WD d) (h4 : d.kd ≠ 4) : (kw d).length ≤ 12 := by
  unfold kw
  rcases h with h | h | h | h
  · exact absurd h.1 h4
  · rw [if_pos h.1]; decide
  · rw [if_neg (by rw [h.1]; decide), if_pos h.1]; exact h.2.1.2.2.1
  · rw [if_neg (by rw [h.1]; decide), if_neg (by rw [h.1]; decide)]
    have key : ∀ p ∈ numW, p.1.length ≤ 12 := by decide
    cases hf : numW.find? (fun p => p.2.1 == d.wd && p.2.2.1 == d.od && p.2.2.2 == d.sg) with
    | none => exact Nat.zero_le _
    | some p => exact key p (List.mem_of_find?_eq_some hf)
end Go.Proofs.YtpanodaecjlgaaaGreatDoor.tm
/- Templates, printed: items in their brackets. -/
namespace Go.Proofs.YtpanodaecjlgaaaGreatDoor.tm
set_option linter.unusedVariables false
open Go.ChangeShapes Go.WideShapes Go.ChangeAt Go.RowKit Go.Shelf
open mem lx ex bld

def Its.ps : Its → List (D × Its)
  | .nil => []
  | .cons d s t => (d, s) :: t.ps
theorem Its.ps_len (l : Its) : l.ps.length = l.len := by
  induction l with
  | nil => rfl
  | cons d s t _ it => simp [Its.ps, Its.len, it]
theorem Rep.at {w : World} {ok : Nat → Prop} {l : Its} : ∀ {cs : List C}, Rep w ok l cs → ∀ j, j < l.len → ∃ c d s, cs[j]? = some c ∧ l.ps[j]? = some (d, s) ∧ c.d = d ∧ IsO w c.pc d.ct ∧ ∃ cs2, ir.Lie w ok c.p c.n c.c cs2 ∧ Rep w ok s cs2 := by
  induction l with
  | nil => intro cs h j hj; exact absurd hj (Nat.not_lt_zero _)
  | cons d s t _ it =>
    intro cs h j hj
    obtain ⟨c, r, rfl, h2, h3, h4, h6⟩ := h
    cases j with
    | zero => exact ⟨c, d, s, rfl, rfl, h2, h3, h4⟩
    | succ j =>
      obtain ⟨c', d', s', k1, k2, k3⟩ := it h6 j (by simp [Its.len] at hj; omega)
      exact ⟨c', d', s', by simpa using k1, by simpa [Its.ps] using k2, k3⟩
theorem WI.at {k : Nat} {l : Its} (h : WI k l) : ∀ (j : Nat) (d : D) (s : Its), l.ps[j]? = some (d, s) → WD d ∧ (d.kd ≠ 4 → noSub s = true) ∧ (d.kd = 4 → 0 < k ∧ s.len ≤ 16 ∧ WI (k - 1) s) := by
  induction l with
  | nil => intro j d s hj; cases hj
  | cons d s t _ it =>
    intro j d' s' hj
    obtain ⟨w1, w2, w3, w4⟩ := h
    cases j with
    | zero => simp [Its.ps] at hj; obtain ⟨rfl, rfl⟩ := hj; exact ⟨w1, w2, w3⟩
    | succ j => exact it w4 j d' s' (by simpa [Its.ps] using hj)
theorem Rep.low {w w' : World} {B : Nat} {l : Its} {cs : List C} (h : Rep w (fun g => g < B) l cs) (hb : Below B w w') (hx : Kx w w') : Rep w' (fun g => g < B) l cs := h.keep (fun g hg _ => hb.block g hg) hb.size hx
theorem lie_low {w w' : World} {B : Nat} {p : Option Addr} {n c : Nat} {cs : List C} (h : ir.Lie w (fun g => g < B) p n c cs) (hb : Below B w w') : ir.Lie w' (fun g => g < B) p n c cs := h.keep (fun g hg _ => hb.block g hg) hb.size
theorem lie_at {w : World} {ok : Nat → Prop} {p : Option Addr} {n c : Nat} {l : List C} (h : ir.Lie w ok p n c l) (k : Nat) (y : C) (hy : l[k]? = some y) : ∃ x : Addr, p = some x ∧ ok x.block ∧ w.cell? (x.add (k * 13)) = (cl y)[0]? ∧ ∀ j u, (cl y)[j]? = some u → w.cell? ⟨(x.add (k * 13)).block, (x.add (k * 13)).off + j, none⟩ = some u := by
  obtain ⟨hk, hy'⟩ := List.getElem?_eq_some_iff.1 hy
  obtain ⟨x, e1, e2, e3, e4⟩ := h.at k hk
  rw [hy'] at e4
  refine ⟨x, e1, e3, ?_, e4⟩
  have h0 := e4 0 _ rfl
  obtain ⟨_, _, h3⟩ := h
  rcases h3 with h3 | ⟨g, e, _⟩
  · subst h3; exact absurd hk (Nat.not_lt_zero _)
  · rw [e] at e1
    injection e1 with e1
    subst e1
    rw [Addr.add_lit] at h0 ⊢
    exact h0
/-- How far writing has come. -/
structure Wb (B b : Nat) (w wr : World) (acc : List UInt8) : Prop where
  bd : Bd B b acc wr
  bl : Below B w wr
  kb : Kb b w wr
theorem Wb.bl' {B b : Nat} {w wr w' : World} {acc : List UInt8} (h : Wb B b w wr acc) (hb : Bl wr w') : Wb B b w w' acc := ⟨h.bd.bl hb, h.bl.trans (hb.mono h.bd.le), h.kb.trans (Kb.bl hb)⟩
theorem Wb.go {B b : Nat} {w wr w' : World} {acc acc' : List UInt8} (h : Wb B b w wr acc) (h1 : Bd B b acc' w') (h2 : Below B wr w') (h3 : Kb b wr w') : Wb B b w w' acc' := ⟨h1, h.bl.trans h2, h.kb.trans h3⟩
theorem Iv.kb {w w' : World} {b M : Nat} {c : C} (h : Iv w M c) (hk : Kb b w w') (hne : M ≠ b) : Iv w' M c := ⟨hk.same M _ h.h hne (fun c fz e => by injection e with _ e2 _; exact absurd e2 (by decide))⟩
theorem Gt.low {w w' : World} {B : Nat} (h : Gt w) (hb : Below B w w') (hB : 6 ≤ B) : Gt w' := h.below (hb.mono hB)
end Go.Proofs.YtpanodaecjlgaaaGreatDoor.tm
/- Templates, printed. -/
namespace Go.Proofs.YtpanodaecjlgaaaGreatDoor.tm
set_option linter.unusedVariables false
open Go.ChangeShapes Go.WideShapes Go.ChangeAt Go.RowKit Go.Shelf
open mem lx ex bld

theorem RepT.at {w : World} {ok : Nat → Prop} {l : List Ty} : ∀ {cs : List CT}, RepT w ok l cs → ∀ j, j < l.length → ∃ c t, cs[j]? = some c ∧ l[j]? = some t ∧ c.nm = t.nm ∧ c.a = t.at_ ∧ ∃ cs2, ir.Lie w ok c.p c.n c.c cs2 ∧ Rep w ok t.l cs2 := by
  induction l with
  | nil => intro cs h j hj; exact absurd hj (Nat.not_lt_zero _)
  | cons t l it =>
    intro cs h j hj
    obtain ⟨c, r, rfl, h2, h3, h4, h6⟩ := h
    cases j with
    | zero => exact ⟨c, t, rfl, rfl, h2, h3, h4⟩
    | succ j =>
      obtain ⟨c', t', k1, k2, k3⟩ := it h6 j (by simpa using hj)
      exact ⟨c', t', by simpa using k1, by simpa using k2, k3⟩
theorem lieT_low {w w' : World} {B : Nat} {p : Option Addr} {n c : Nat} {cs : List CT} (h : sr.Lie w (fun g => g < B) p n c cs) (hb : Below B w w') : sr.Lie w' (fun g => g < B) p n c cs := h.keep (fun g hg _ => hb.block g hg) hb.size
theorem lieT_at {w : World} {ok : Nat → Prop} {p : Option Addr} {n c : Nat} {l : List CT} (h : sr.Lie w ok p n c l) (k : Nat) (y : CT) (hy : l[k]? = some y) : ∃ x : Addr, p = some x ∧ ok x.block ∧ w.cell? (x.add (k * 3)) = (clT y)[0]? ∧ ∀ j u, (clT y)[j]? = some u → w.cell? ⟨(x.add (k * 3)).block, (x.add (k * 3)).off + j, none⟩ = some u := by
  obtain ⟨hk, hy'⟩ := List.getElem?_eq_some_iff.1 hy
  obtain ⟨x, e1, e2, e3, e4⟩ := h.at k hk
  rw [hy'] at e4
  refine ⟨x, e1, e3, ?_, e4⟩
  have h0 := e4 0 _ rfl
  obtain ⟨_, _, h3⟩ := h
  rcases h3 with h3 | ⟨g, e, _⟩
  · subst h3; exact absurd hk (Nat.not_lt_zero _)
  · rw [e] at e1
    injection e1 with e1
    subst e1
    rw [Addr.add_lit] at h0 ⊢
    exact h0
end Go.Proofs.YtpanodaecjlgaaaGreatDoor.tm
/- Whether templates fit together: an item by its name. -/
namespace Go.Proofs.YtpanodaecjlgaaaGreatDoor.tm
set_option linter.unusedVariables false
open Go.ChangeShapes Go.WideShapes Go.ChangeAt Go.RowKit Go.Shelf
open mem lx ex

theorem lie_bl {w w' : World} {ok : Nat → Prop} {p : Option Addr} {n c : Nat} {cs : List C} (h : ir.Lie w ok p n c cs) (hb : Bl w w') : ir.Lie w' ok p n c cs := h.keep (fun g _ hg => Below.block hb g hg) hb.size
theorem named_is (m : ByteArray) (b : Nat) (x : C) (w : World) (hb : w.cell? ⟨b, 0, none⟩ = some (.string m)) : Calls Tryz.prog 137 #[itV x, .pointer (some ⟨b, 0, none⟩)] w fun e w' => e = .returned (.bool (decide (x.d.nm = L m))) ∧ Bl w w' := by
  have hb' := at_bl ((Bl.refl w).alloc (.cells (cl x).toArray 75)) hb
  have hlt : b < w.heap.size := by
    rcases Nat.lt_or_ge b w.heap.size with h | h
    · exact h
    · simp [World.cell?, Array.getElem?_eq_none h] at hb
  have hne : ¬ b = w.heap.size := by omega
  have htl := tl_tx x.d.nm
  have hml : m.toList = L m := ByteArray.toList_eq m
  have hD : (decide (x.d.nm = L m)) = ((tx x.d.nm).toList == m.toList) := by rw [htl, hml, Bool.eq_iff_iff]; simp
  rw [hD]
  obtain ⟨w1, hw1⟩ : ∃ w1, w1 = w.alloc (.cells (cl x).toArray 75) := ⟨_, rfl⟩
  obtain ⟨N, hN⟩ : ∃ N, N = w.heap.size := ⟨_, rfl⟩
  have hv : Iv w1 N x := ⟨by rw [hw1, hN]; exact new_at _ _⟩
  have HB : Hid (Bl w w1) := by show Bl w w1; rw [hw1]; exact (Bl.refl _).alloc _
  have g2 := hv.facts.2.2.1
  rw [← hw1] at hb'
  clear hD htl hml hv hne hlt hb
  unfold itV
  go_enter Tryz.func137, Tryz.ntmps137
  go_upto_region 1 with fail
  change Code.wp _ _ _ _ (w.alloc (.cells (cl x).toArray 75))
  rw [← hw1, ← hN]
  clear hw1 hN
  go_wp2
  go_ret
  exact ⟨rfl, HB.out⟩
/-- Where an item stands that is called so, or -1. -/
def idx : Option Nat → Int
  | some k => (k : Int)
  | none => -1
theorem nmd_idx (cs : List C) (t : List UInt8) : idx (nmd (cs.map C.d) t) = if cs.findIdx (fun c => c.d.nm == t) < cs.length then ((cs.findIdx (fun c => c.d.nm == t) : Nat) : Int) else -1 := by
  unfold nmd
  induction cs with
  | nil => rfl
  | cons c r ih =>
    rw [List.map_cons, List.findIdx?_cons, List.findIdx_cons]
    cases hc : (c.d.nm == t) with
    | true => simp [idx]
    | false =>
      simp only [cond_false, Bool.false_eq_true, if_false, List.length_cons, Nat.add_lt_add_iff_right]
      cases hr : List.findIdx? (fun d => d.nm == t) (r.map C.d) with
      | none =>
        rw [hr] at ih
        have ih' : (-1 : Int) = if r.findIdx (fun c => c.d.nm == t) < r.length then ((r.findIdx (fun c => c.d.nm == t) : Nat) : Int) else -1 := ih
        split at ih'
        · omega
        · rename_i h; rw [if_neg h]; rfl
      | some k =>
        rw [hr] at ih
        have ih' : ((k : Nat) : Int) = if r.findIdx (fun c => c.d.nm == t) < r.length then ((r.findIdx (fun c => c.d.nm == t) : Nat) : Int) else -1 := ih
        split at ih'
        · rename_i h
          rw [if_pos h]
          show ((k + 1 : Nat) : Int) = _
          omega
        · omega
set_option maxRecDepth 10000 in
set_option maxHeartbeats 1000000 in
theorem indexI_at (m : ByteArray) (b : Nat) (cs : List C) (ok : Nat → Prop) (p : Option Addr) (n c : Nat) (w : World) (hin : ir.Lie w ok p n c cs) (hn : n ≤ 3000) (hb : w.cell? ⟨b, 0, none⟩ = some (.string m)) :
    Calls Tryz.prog 136 #[.slice p n c, .func (.func 137) #[] #[.pointer (some ⟨b, 0, none⟩)]] w fun e w' => e = .returned (.int .i64 (idx (nmd (cs.map C.d) (L m)))) ∧ Bl w w' := by
  rw [nmd_idx]
  obtain ⟨U, hU⟩ : ∃ U, U = cs.findIdx (fun c => c.d.nm == L m) := ⟨_, rfl⟩
  rw [← hU]
  have hnc : n = cs.length := hin.1
  have hncap : n ≤ c := hin.2.1
  have u1 : U ≤ n := by rw [hnc, hU]; exact List.findIdx_le_length
  have u2 : ∀ i x, cs[i]? = some x → i < U → x.d.nm ≠ L m := by
    intro i x hx hi
    obtain ⟨hl, he⟩ := List.getElem?_eq_some_iff.1 hx
    have := List.not_of_lt_findIdx (p := fun c : C => c.d.nm == L m) (xs := cs) (i := i) (by rw [← hU]; exact hi)
    rw [he] at this
    simpa using this
  have u3 : ∀ x, cs[U]? = some x → x.d.nm = L m := by
    intro x hx
    obtain ⟨hl, he⟩ := List.getElem?_eq_some_iff.1 hx
    subst hU
    have := List.findIdx_getElem (p := fun c : C => c.d.nm == L m) (xs := cs) (w := hl)
    rw [he] at this
    simpa using this
  rw [← hnc]
  have HI : Hid (ir.Lie w ok p n c cs ∧ n = cs.length ∧ (∀ i x, cs[i]? = some x → i < U → x.d.nm ≠ L m) ∧ (∀ x, cs[U]? = some x → x.d.nm = L m)) := ⟨hin, hnc, u2, u3⟩
  clear hin u2 u3 hnc hU
  go_enter Tryz.func136, Tryz.ntmps136
  go_wp2
  go_loopw [8] (fun i wr => ∃ k : Nat, k ≤ U ∧ i = .int .i64 (k : Int) ∧ Hid (Bl w wr)) (fun i _ => n - (intOf i).toNat)
  case atStart => exact ⟨0, by omega, rfl, Bl.refl _⟩
  case round =>
    obtain ⟨k, hk, rfl, HB⟩ := hrel
    by_cases hkn : k < n
    · have d1 : decide ((k : Int) < (n : Int)) = true := decide_eq_true (by omega)
      have i0 : (0 : Int) ≤ (k : Int) := by omega
      have i1 : (k : Int) < (n : Int) := by omega
      obtain ⟨x, hx⟩ : ∃ x, cs[k]? = some x := ⟨_, List.getElem?_eq_getElem (by have := HI.out.2.1; omega)⟩
      obtain ⟨X, rfl, _, g0', g⟩ := lie_at (lie_bl HI.out.1 HB.out) k x hx
      have g0 : wr.cell? (X.add (k * 13)) = some (.int .i64 (x.d.kd : Int)) := g0'
      clear g0'
      have g1 := g 1 _ rfl
      have g2 := g 2 _ rfl
      have g3 := g 3 _ rfl
      have g4 := g 4 _ rfl
      have g5 := g 5 _ rfl
      have g6 := g 6 _ rfl
      have g7 := g 7 _ rfl
      have g8 := g 8 _ rfl
      have g9 := g 9 _ rfl
      have g10 := g 10 _ rfl
      have g11 := g 11 _ rfl
      have g12 := g 12 _ rfl
      have cM := named_is m b x wr (at_bl HB.out hb)
      unfold itV cl at cM
      have HT : Hid (k < U → x.d.nm ≠ L m) := HI.out.2.2.1 k x hx
      have HT2 : Hid (k = U → x.d.nm = L m) := fun h => HI.out.2.2.2 x (by rw [← h]; exact hx)
      clear g hx
      by_cases hkU : k < U
      · have hD : decide (x.d.nm = L m) = false := decide_eq_false (HT.out hkU)
        rw [hD] at cM
        clear hD
        go_wp2_with fail
        refine cM.mono ?_
        rintro e w2 ⟨rfl, hb2⟩
        clear cM g0 g1 g2 g3 g4 g5 g6 g7 g8 g9 g10 g11 g12
        go_wp2
        go_roundw
        case rel => exact ⟨k + 1, by omega, by go_num, HB.out.trans hb2⟩
        case measure => simp [intOf]; omega
      · obtain rfl : k = U := by omega
        have hD : decide (x.d.nm = L m) = true := decide_eq_true (HT2.out rfl)
        rw [hD] at cM
        clear hD
        go_wp2_with fail
        refine cM.mono ?_
        rintro e w2 ⟨rfl, hb2⟩
        clear cM g0 g1 g2 g3 g4 g5 g6 g7 g8 g9 g10 g11 g12
        go_wp2
        go_ret
        exact ⟨ret_int rfl, HB.out.trans hb2⟩
    · have d1 : decide ((k : Int) < (n : Int)) = false := decide_eq_false (by omega)
      have hUn : ¬ U < n := by omega
      go_wp2
      go_ret
      exact ⟨ret_int rfl, HB.out⟩
set_option maxHeartbeats 1000000 in
theorem named_at (m : ByteArray) (cs : List C) (ok : Nat → Prop) (p : Option Addr) (n c : Nat) (w : World) (hin : ir.Lie w ok p n c cs) (hn : n ≤ 3000) :
    Calls Tryz.prog 119 #[.slice p n c, .string m] w fun e w' => e = .returned (.int .i64 (idx (nmd (cs.map C.d) (L m)))) ∧ Bl w w' := by
  have hmf : ∀ (fn : Fn) (first cap : Array Value) (w : World), (Instr.makeFunc fn first cap).run Tryz.prog w = .ok (.func fn first cap) w := fun _ _ _ _ => rfl
  have hb1 : Bl w (w.alloc (.cells #[.string m] 9)) := (Bl.refl _).alloc _
  have c1 := indexI_at m w.heap.size cs ok p n c _ (lie_bl hin hb1) hn (by rw [cell_of (new_at w (.cells #[.string m] 9))]; rfl)
  have HB : Hid (Bl w (w.alloc (.cells #[.string m] 9))) := hb1
  clear hin hb1
  go_enter Tryz.func119, Tryz.ntmps119
  go_wp2_with fail
  refine c1.mono ?_
  rintro e w2 ⟨rfl, hb2⟩
  go_wp2
  go_ret
  exact ⟨rfl, HB.out.trans hb2⟩
end Go.Proofs.YtpanodaecjlgaaaGreatDoor.tm
/- Whether templates fit together: the ends of a rule; what is told. -/
namespace Go.Proofs.YtpanodaecjlgaaaGreatDoor.tm
set_option linter.unusedVariables false
open Go.ChangeShapes Go.WideShapes Go.ChangeAt Go.RowKit Go.Shelf
open mem lx ex

theorem ends_is (ds : List D) (d : D) : (¬ d.ru = 3 → ends ds d = (nmd ds d.f1, nmd ds d.f1)) ∧ (d.ru = 3 → ends ds d = (nmd ds d.f1, nmd ds d.l1)) := by
  unfold ends
  exact ⟨fun h => by rw [if_neg h], fun h => by rw [if_pos h]⟩
set_option maxRecDepth 10000 in
set_option maxHeartbeats 1000000 in
theorem ends_at (x : C) (cs : List C) (ok : Nat → Prop) (p : Option Addr) (n c : Nat) (w : World) (hin : ir.Lie w ok p n c cs) (hn : n ≤ 3000) :
    Calls Tryz.prog 98 #[.slice p n c, itV x] w fun e w' => e = .returned (.tuple #[.int .i64 (idx (ends (cs.map C.d) x.d).1), .int .i64 (idx (ends (cs.map C.d) x.d).2)]) ∧ Bl w w' := by
  obtain ⟨o1, o2⟩ := ends_is (cs.map C.d) x.d
  obtain ⟨w1, hw1⟩ : ∃ w1, w1 = w.alloc (.cells (cl x).toArray 75) := ⟨_, rfl⟩
  obtain ⟨N, hN⟩ : ∃ N, N = w.heap.size := ⟨_, rfl⟩
  have hv : Iv w1 N x := ⟨by rw [hw1, hN]; exact new_at _ _⟩
  have hb1 : Bl w w1 := by rw [hw1]; exact (Bl.refl _).alloc _
  have HB : Hid (Bl w w1 ∧ Iv w1 N x ∧ ir.Lie w1 ok p n c cs) := ⟨hb1, hv, lie_bl hin hb1⟩
  obtain ⟨a0, a1, a2, a3, a4, a5, a6, a7, a8, a9, a10, a11, a12⟩ := hv.facts
  have c1 := named_at (tx x.d.f1) cs ok p n c w1 HB.out.2.2 hn
  rw [L_tx] at c1
  clear hv hb1 hin a0 a1 a2 a3 a4 a5 a6 a7 a8 a11 a12
  unfold itV
  go_enter Tryz.func98, Tryz.ntmps98
  go_upto_region 1 with fail
  change Code.wp _ _ _ _ (w.alloc (.cells (cl x).toArray 75))
  rw [← hw1, ← hN]
  clear hw1 hN
  go_wp2_with fail
  refine c1.mono ?_
  rintro e w2 ⟨rfl, hb2⟩
  have c2 := named_at (tx x.d.l1) cs ok p n c w2 (lie_bl HB.out.2.2 hb2) hn
  rw [L_tx] at c2
  have g9 := at_bl hb2 a9
  have g11 := (HB.out.2.1.bl hb2).facts.2.2.2.2.2.2.2.2.2.2.2.1
  have H2 : Hid (Bl w w2) := HB.out.1.trans hb2
  clear c1 hb2 a9 a10
  by_cases h3 : x.d.ru = 3
  · have HO : Hid (ends (cs.map C.d) x.d = (nmd (cs.map C.d) x.d.f1, nmd (cs.map C.d) x.d.l1)) := o2 h3
    rw [h3] at g9
    clear o1 o2 h3
    go_wp2_with fail
    refine c2.mono ?_
    rintro e w3 ⟨rfl, hb3⟩
    go_wp2
    rw [HO.out]
    go_ret2
    exact ⟨rfl, H2.out.trans hb3⟩
  · have HO : Hid (ends (cs.map C.d) x.d = (nmd (cs.map C.d) x.d.f1, nmd (cs.map C.d) x.d.f1)) := o1 h3
    have h3' : ¬ ((x.d.ru : Int) = 3) := by omega
    clear o1 o2 h3
    go_wp2
    rw [HO.out]
    go_ret2
    exact ⟨rfl, H2.out⟩
def thrownY (B : Nat) : Ending := .panicked [{ v := .iface 86 (.agg #[.iface 110 (.pointer (some ⟨B, 0, none⟩))]), recovered := false }]
/-- An error is thrown. -/
def ThrY (w : World) (c p : Int) (e : Ending) (w' : World) : Prop := ∃ B : Nat, e = thrownY B ∧ w.heap.size ≤ B ∧ AtX w' B c p ∧ Bl w w'
theorem ythrow_at (a c : Int) (w : World) : Calls Tryz.prog 43 #[.int .i64 a, .int .i64 c] w fun e w' => ThrY w c a e w' := by
  go_enter Tryz.func43, Tryz.ntmps43
  go_wp2
  refine ⟨rfl, w.heap.size, rfl, Nat.le_refl _, new_at _ _, (Bl.refl _).alloc _⟩
end Go.Proofs.YtpanodaecjlgaaaGreatDoor.tm
