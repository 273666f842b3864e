/- What And of package spans answers. -/
import Derived.Test.YtfblmfjgbbeheaaSp10
import Derived.Deep.RegionHeld3
namespace Go.Proofs.Ytfblmfjgbbeheaa.sp
set_option linter.unusedVariables false
open Go.ChangeShapes Go.WideShapes Go.ChangeAt Go.RowKit
open mem rows span

theorem step_append_run {P : Program} {ops : Array Oper} {o : Oper} {a : Act} {w : World} {K : Act → World → Prop} {Q : Exit → Act → World → Prop} {E : Prop}
    (hg : o.guard = none) (s x : Operand) (t tx : TypeId) (hop : o.op = Op.call { callee := Callee.builtin Builtin.append, args := #[s, x], argTypes := #[t, tx] })
    (vs vx : Value) (hs : a.eval s = vs) (hx : a.eval x = vx) (v' : Value) (w' : World) (hr : (Builtin.append_ #[t, tx] o.type #[vs, vx]).run P w = .ok v' w') (hK : K (a.put o.dst v') w') :
    if Region.wanted o (yielded ops a.tmps) = true then Oper.wp P o a w K Q else E := by
  have hw : Region.wanted o (yielded ops a.tmps) = true := by simp [Region.wanted, hg]
  rw [if_pos hw]
  exact Lib.wp_append_run w s x t tx hop vs vx hs hx v' w' hr hK
/-- The first one of both, and the one that ends first left out. -/
theorem both_left {m m' : Int} {x y : Int × Int} {a b : List (Int × Int)} (ha : rightFrom m (x :: a)) (hb : rightFrom m' (y :: b)) (h : x.2 < y.2) (p : Int) :
    has (x :: a) p ∧ has (y :: b) p ↔ (max x.1 y.1 ≤ p ∧ p < min x.2 y.2) ∨ (has a p ∧ has (y :: b) p) := by
  have hgb : has b p → y.2 < p := fun hp => has_gt hb.2.2 hp
  simp only [has_cons]
  constructor
  · rintro ⟨h1 | h1, h2⟩
    · rcases h2 with h2 | h2
      · exact Or.inl ⟨by omega, by omega⟩
      · have := hgb h2; omega
    · exact Or.inr ⟨h1, h2⟩
  · rintro (h1 | ⟨h1, h2⟩)
    · exact ⟨Or.inl ⟨by omega, by omega⟩, Or.inl ⟨by omega, by omega⟩⟩
    · exact ⟨Or.inr h1, h2⟩
theorem both_right {m m' : Int} {x y : Int × Int} {a b : List (Int × Int)} (ha : rightFrom m (x :: a)) (hb : rightFrom m' (y :: b)) (h : ¬ x.2 < y.2) (p : Int) :
    has (x :: a) p ∧ has (y :: b) p ↔ (max x.1 y.1 ≤ p ∧ p < min x.2 y.2) ∨ (has (x :: a) p ∧ has b p) := by
  have hga : has a p → x.2 < p := fun hp => has_gt ha.2.2 hp
  simp only [has_cons]
  constructor
  · rintro ⟨h1, h2 | h2⟩
    · rcases h1 with h1 | h1
      · exact Or.inl ⟨by omega, by omega⟩
      · have := hga h1; omega
    · exact Or.inr ⟨h1, h2⟩
  · rintro (h1 | ⟨h1, h2⟩)
    · exact ⟨Or.inl ⟨by omega, by omega⟩, Or.inl ⟨by omega, by omega⟩⟩
    · exact ⟨h1, Or.inr h2⟩
/-- What is left of both, and what was told. -/
structure Bo (A B L a b : List (Int × Int)) : Prop where
  ra : ∃ m, rightFrom m a
  rb : ∃ m, rightFrom m b
  n : L.length + a.length + b.length = A.length + B.length
  h : ∀ p, has A p ∧ has B p ↔ has L p ∨ (has a p ∧ has b p)
theorem Bo.start {A B : List (Int × Int)} (ha : right A) (hb : right B) : Bo A B [] A B := ⟨⟨_, ha⟩, ⟨_, hb⟩, by simp, fun p => ⟨Or.inr, fun h => h.elim (fun h => absurd h (has_nil p)) id⟩⟩
theorem Bo.left {A B L a b : List (Int × Int)} {x y : Int × Int} (h : Bo A B L (x :: a) (y :: b)) (hlt : x.2 < y.2) : Bo A B (L ++ [(max x.1 y.1, min x.2 y.2)]) a (y :: b) := by
  obtain ⟨⟨m, ha⟩, ⟨m', hb⟩, hn, hh⟩ := h
  refine ⟨⟨_, ha.2.2⟩, ⟨m', hb⟩, by simp at hn ⊢; omega, fun p => ?_⟩
  rw [hh p, both_left ha hb hlt, has_append, has_one, or_assoc]
theorem Bo.rightS {A B L a b : List (Int × Int)} {x y : Int × Int} (h : Bo A B L (x :: a) (y :: b)) (hlt : ¬ x.2 < y.2) : Bo A B (L ++ [(max x.1 y.1, min x.2 y.2)]) (x :: a) b := by
  obtain ⟨⟨m, ha⟩, ⟨m', hb⟩, hn, hh⟩ := h
  refine ⟨⟨m, ha⟩, ⟨_, hb.2.2⟩, by simp at hn ⊢; omega, fun p => ?_⟩
  rw [hh p, both_right ha hb hlt, has_append, has_one, or_assoc]
theorem Bo.none {A B L a b : List (Int × Int)} (h : Bo A B L a b) (h0 : a = [] ∨ b = []) (p : Int) : has L p ↔ has A p ∧ has B p := by
  rw [h.h p]
  refine ⟨Or.inl, fun h' => h'.elim id fun h' => ?_⟩
  rcases h0 with rfl | rfl
  · exact absurd h'.1 (has_nil p)
  · exact absurd h'.2 (has_nil p)
/-- How many a slice has. -/
def slen : Value → Nat
  | .slice _ n _ => n
  | _ => 0
theorem own_cap {w : World} {base : Nat} {v : Value} {l : List (Int × Int)} (h : OwnS w base v l) : ∃ p c, v = .slice p l.length c ∧ l.length ≤ c ∧ InS w p l := by
  obtain ⟨p, c, rfl, hin⟩ := h.view
  rcases h.shape with ⟨e, rfl⟩ | ⟨g, cap, e, _, _, hc, _⟩
  · injection e with e1 e2 e3
    subst e3
    exact ⟨p, 0, rfl, Nat.zero_le _, hin⟩
  · injection e with e1 e2 e3
    subst e3
    exact ⟨p, c, rfl, hc, hin⟩
theorem InS.first {w : World} {p : Option Addr} {x : Int × Int} {l : List (Int × Int)} (h : InS w p (x :: l)) : ∃ a : Addr, p = some a ∧ w.cell? a = some (.int .i64 x.1) ∧ w.cell? { block := a.block, off := a.off + 1 } = some (.int .i64 x.2) ∧ InS w (some (a.add 2)) l := by
  rcases h with h | ⟨a, h1, h2⟩
  · cases h
  · obtain ⟨c0, c1⟩ := h2 0 (by simp)
    refine ⟨a, h1, ?_, ?_, Or.inr ⟨_, rfl, fun k hk => ?_⟩⟩
    · rw [Nat.zero_mul, Addr.add_zero'] at c0
      exact c0
    · rw [Nat.zero_mul, Nat.zero_add, Addr.add_succ'] at c1
      exact c1
    · have := h2 (k + 1) (by simpa using hk)
      rw [Addr.add_add, Addr.add_add, show 2 + k * 2 = (k + 1) * 2 by omega, show 2 + (k * 2 + 1) = (k + 1) * 2 + 1 by omega]
      exact this
theorem in_cut {w : World} {x : Addr} {l : List (Int × Int)} {n c : Nat} (h : InS w (some (x.add 2)) l) (hn : n - 1 = l.length) (hc : n ≤ c) (h0 : 0 < n) : Hid (InS w (if c = 1 then some x else some { block := x.block, off := x.off + 2 }) l) := by
  by_cases h1 : c = 1
  · exact Or.inl (List.eq_nil_of_length_eq_zero (by omega))
  · rw [Hid, if_neg h1]
    rw [Addr.add_succ'] at h
    exact h
set_option maxRecDepth 20000 in
set_option maxHeartbeats 1000000 in
theorem And_at (v v' : Value) (l l' : List (Int × Int)) (w : World) (hv : View w v l) (hv' : View w v' l') (hl : l.length ≤ 1500) (hl' : l'.length ≤ 1500) :
    Calls Try.prog 21 #[v, v'] w fun e w' => ∃ u L, e = .returned u ∧ OwnS w' w.heap.size u L ∧ IsOf (fun q => has l q ∧ has l' q) L ∧ L.length ≤ l.length + l'.length ∧ Bl w w' := by
  have c1 := fun w h => Of_at v l w h (by omega)
  have c2 := fun w h => Of_at v' l' w h (by omega)
  have c3 := fun u L w h1 h2 => Of_at u L w h1 h2
  obtain ⟨n, hn⟩ : ∃ n, n = l.length := ⟨_, rfl⟩
  obtain ⟨n', hn'⟩ : ∃ n', n' = l'.length := ⟨_, rfl⟩
  rw [← hn] at hl c1 ⊢
  rw [← hn'] at hl' c2 ⊢
  clear hn hn'
  have HV : Hid (View w v l) := hv
  have HV' : Hid (View w v' l') := hv'
  clear hv hv'
  go_enter Try.func21, Try.ntmps21
  go_wp2_with (first
    | (go_at_call_of 19 v; refine (c1 _ HV.out).mono ?_; rintro e w1 ⟨v1, A, rfl, ho1, hi1, hn1, hb1⟩)
    | (go_at_call_of 19 v'; refine (c2 _ (HV'.out.step hb1)).mono ?_; rintro e w2 ⟨v2, B, rfl, ho2, hi2, hn2, hb2⟩))
  obtain ⟨pa, ca, rfl, hca, hia⟩ := own_cap ho1
  obtain ⟨pb, cb, rfl, hcb, hib⟩ := own_cap ho2
  obtain ⟨b2, hb2e⟩ : ∃ b, b = w2.heap.size := ⟨_, rfl⟩
  have HB2 : Hid (b2 = w2.heap.size) := hb2e
  have HS : Hid (Bo A B [] A B) := Bo.start hi1.1 hi2.1
  have HI1 : Hid (IsOf (has l) A) := hi1
  have HI2 : Hid (IsOf (has l') B) := hi2
  have HN1 : Hid (A.length ≤ n) := hn1
  have HN2 : Hid (B.length ≤ n') := hn2
  have hia := hia.step hb2
  obtain ⟨la, hla⟩ : ∃ k, k = A.length := ⟨_, rfl⟩
  obtain ⟨lb, hlb⟩ : ∃ k, k = B.length := ⟨_, rfl⟩
  rw [← hla] at hca ⊢
  rw [← hlb] at hcb ⊢
  have HLA : Hid (la = A.length) := hla
  have HLB : Hid (lb = B.length) := hlb
  have hb02 := hb1.trans hb2
  clear hb2e hi1 hi2 hn1 hn2 hla hlb ho1 ho2 c1 c2 HV HV' hb1 hb2
  go_loopw [0, 1, 5] (fun av bv sv wr => ∃ (a b L : List (Int × Int)) (pa pb : Option Addr) (la lb ca cb : Nat), av = .slice pa la ca ∧ bv = .slice pb lb cb ∧ Hid (la = a.length) ∧ Hid (lb = b.length) ∧ la ≤ ca ∧ lb ≤ cb ∧ Hid (InS w2 pa a) ∧ Hid (InS w2 pb b) ∧ Hid (Bo A B L a b) ∧ OwnS wr b2 sv L ∧ Bl w2 wr) (fun av bv _ _ => slen av + slen bv)
  case atStart => exact ⟨A, B, [], pa, pb, la, lb, ca, cb, rfl, rfl, HLA, HLB, hca, hcb, hia, hib, HS, OwnS.nil _ _, Bl.refl _⟩
  case round =>
    clear hia hib hca hcb HLA HLB HS
    obtain ⟨a, b, L, pa, pb, la, lb, ca, cb, rfl, rfl, HLA, HLB, hca, hcb, HIA, HIB, HG, hown, hbl⟩ := hrel
    have hLn : L.length ≤ n + n' := by have h1 := HG.out.n; have h2 := HN1.out; have h3 := HN2.out; omega
    by_cases h0 : a = [] ∨ b = []
    · have HH : Hid (∀ p, has L p ↔ has A p ∧ has B p) := HG.out.none h0
      have hcase : la = 0 ∨ (0 < la ∧ lb = 0) := by
        rcases h0 with h | h
        · exact Or.inl (by rw [HLA.out, h]; rfl)
        · by_cases h' : la = 0
          · exact Or.inl h'
          · exact Or.inr ⟨by omega, by rw [HLB.out, h]; rfl⟩
      have HLn : Hid (L.length ≤ n + n') := hLn
      clear HG h0 hLn
      have hfin : ∀ w4 v4 l4, OwnS w4 wr.heap.size v4 l4 → IsOf (has L) l4 → l4.length ≤ L.length → Bl wr w4 → (∃ u L, Ending.returned v4 = .returned u ∧ OwnS w4 w.heap.size u L ∧ IsOf (fun q => has l q ∧ has l' q) L ∧ L.length ≤ n + n' ∧ Bl w w4) := by
        intro w4 v4 l4 ho4 hi4 hn4 hb4
        refine ⟨v4, l4, rfl, ho4.down ((hb02.trans hbl).size), hi4.congr (fun q hq => ?_), Nat.le_trans hn4 HLn.out, (hb02.trans hbl).trans hb4⟩
        rw [HH.out q, HI1.out.2, HI2.out.2]
        exact ⟨fun h => ⟨h.1.2, h.2.2⟩, fun h => ⟨⟨hq, h.1⟩, ⟨hq, h.2⟩⟩⟩
      have HF : Hid _ := hfin
      clear hfin
      rcases hcase with rfl | ⟨h1, rfl⟩
      · go_wp2_with (go_at_call 19; refine (c3 _ _ _ hown.view (Nat.le_trans HLn.out (by omega))).mono ?_; rintro e w4 ⟨v4, l4, rfl, ho4, hi4, hn4, hb4⟩)
        go_ret
        exact HF.out _ _ _ ho4 hi4 hn4 hb4
      · have h1z : (0 : Int) < (la : Int) := by omega
        go_wp2_with (go_at_call 19; refine (c3 _ _ _ hown.view (Nat.le_trans HLn.out (by omega))).mono ?_; rintro e w4 ⟨v4, l4, rfl, ho4, hi4, hn4, hb4⟩)
        go_ret
        exact HF.out _ _ _ ho4 hi4 hn4 hb4
    · obtain ⟨x, a', rfl⟩ : ∃ x a', a = x :: a' := by
        cases a with
        | nil => exact absurd (Or.inl rfl) h0
        | cons x a' => exact ⟨x, a', rfl⟩
      obtain ⟨y, b', rfl⟩ : ∃ y b', b = y :: b' := by
        cases b with
        | nil => exact absurd (Or.inr rfl) h0
        | cons y b' => exact ⟨y, b', rfl⟩
      clear h0
      obtain ⟨xa, rfl, hx1, hx2, hxr⟩ := HIA.out.first
      obtain ⟨ya, rfl, hy1, hy2, hyr⟩ := HIB.out.first
      have HXR : Hid (InS w2 (some (xa.add 2)) a') := hxr
      have HYR : Hid (InS w2 (some (ya.add 2)) b') := hyr
      have hla1 : 0 < la := by rw [HLA.out]; simp
      have hlb1 : 0 < lb := by rw [HLB.out]; simp
      have hla2 : (0 : Int) < (la : Int) := by omega
      have hlb2 : (0 : Int) < (lb : Int) := by omega
      have HLA' : Hid (la - 1 = a'.length) := by rw [Hid, HLA.out]; simp
      have HLB' : Hid (lb - 1 = b'.length) := by rw [Hid, HLB.out]; simp
      have HGl : Hid (x.2 < y.2 → Bo A B (L ++ [(max x.1 y.1, min x.2 y.2)]) a' (y :: b')) := HG.out.left
      have HGr : Hid (¬ x.2 < y.2 → Bo A B (L ++ [(max x.1 y.1, min x.2 y.2)]) (x :: a') b') := HG.out.rightS
      clear HG hxr hyr
      have HIA := HIA
      have HIB := HIB
      obtain ⟨M, hM⟩ : ∃ M, max x.1 y.1 = M := ⟨_, rfl⟩
      obtain ⟨m, hm⟩ : ∃ m, min x.2 y.2 = m := ⟨_, rfl⟩
      rw [hM, hm] at HGl HGr
      obtain ⟨x1, x2⟩ := x
      obtain ⟨y1, y2⟩ := y
      simp only at hx1 hx2 hy1 hy2 hM hm HGl HGr
      have hbs : b2 ≤ wr.heap.size := by rw [HB2.out]; exact hbl.size
      obtain ⟨v', w', hr, ho', hg'⟩ := appS_one (wr.drew.alloc (.cells #[.int .i64 M, .int .i64 m] 28)) b2 _ L (M, m) wr.heap.size (hown.step (((Bl.refl wr).drew).alloc _)) (by go_simp) (by go_simp) (by omega) (Nat.le_trans hbs (by simp))
      have HR : Hid _ := hr
      have hb3 : Bl w2 w' := bl_grown ((hbl.drew).alloc _) hg' (fun k e => by rw [← HB2.out]; exact (hown.block k e).1)
      have hx1r := at_bl hbl hx1
      have hx2r := at_bl hbl hx2
      have hy1r := at_bl hbl hy1
      have hy2r := at_bl hbl hy2
      have hx1w := at_bl hb3 hx1
      have hx2w := at_bl hb3 hx2
      have hy1w := at_bl hb3 hy1
      have hy2w := at_bl hb3 hy2
      clear hx1 hx2 hy1 hy2 hr hg'
      go_wp2
      go_region_held3 (fun w' => w'.cell? xa = some (.int .i64 x1) ∧ w'.cell? { block := xa.block, off := xa.off + 1 } = some (.int .i64 x2) ∧ w'.cell? ya = some (.int .i64 y1) ∧ w'.cell? { block := ya.block, off := ya.off + 1 } = some (.int .i64 y2)) (refine ⟨?_, ?_, ?_, ?_⟩ <;> first | assumption | exact at_bl (Bl.drew (Bl.refl _)) (by assumption) | exact at_bl ((Bl.refl _).alloc _) (by assumption) | exact at_bl (Bl.drew ((Bl.refl _).alloc _)) (by assumption) | exact at_bl ((Bl.drew (Bl.refl _)).alloc _) (by assumption)) (refine step_append_run rfl _ _ _ _ rfl _ _ rfl rfl _ _ HR.out ?_)
      all_goals
        clear hx1r hx2r hy1r hy2r HR hown
        by_cases hlt : x2 < y2
        · have HG2 : Hid (Bo A B (L ++ [(M, m)]) a' ((y1, y2) :: b')) := HGl.out hlt
          clear HGl HGr
          go_wp2
          go_quiet (fail)
          go_wp2
          go_roundw
          case rel => exact ⟨a', (y1, y2) :: b', L ++ [(M, m)], _, _, _, _, _, _, rfl, rfl, HLA', HLB, by omega, hcb, in_cut HXR.out HLA'.out hca hla1, HIB, HG2, ho'.step ((Bl.refl _).drewN _), hb3.drewN _⟩
          case measure => simp only [slen]; omega
        · have HG2 : Hid (Bo A B (L ++ [(M, m)]) ((x1, x2) :: a') b') := HGr.out (by omega)
          clear HGl HGr
          go_wp2
          go_quiet (fail)
          go_wp2
          go_roundw
          case rel => exact ⟨(x1, x2) :: a', b', L ++ [(M, m)], _, _, _, _, _, _, rfl, rfl, HLA, HLB', hca, by omega, HIA, in_cut HYR.out HLB'.out hcb hlb1, HG2, ho'.step ((Bl.refl _).drewN _), hb3.drewN _⟩
          case measure => simp only [slen]; omega
end Go.Proofs.Ytfblmfjgbbeheaa.sp
