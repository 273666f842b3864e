/- Texts laid together: Ty1, Ty2, Ty3, Ty4. -/
import Derived.Test.YtpanodaecjlgaaaZ18
import Derived.Test.YtpanodaecjlgaaaZ9
/- Whether templates fit together: an item by its name. -/
namespace Go.Proofs.Ytpanodaecjlgaaa.tm
set_option linter.unusedVariables false
open Go.ChangeShapes Go.WideShapes Go.ChangeAt Go.RowKit Go.Shelf
open mem lx ex

theorem lie_bl {w w' : World} {ok : Nat → Prop} {p : Option Addr} {n c : Nat} {cs : List C} (h : ir.Lie w ok p n c cs) (hb : Bl w w') : ir.Lie w' ok p n c cs := h.keep (fun g _ hg => Below.block hb g hg) hb.size
theorem named_is (m : ByteArray) (b : Nat) (x : C) (w : World) (hb : w.cell? ⟨b, 0, none⟩ = some (.string m)) : Calls Try.prog 60 #[itV x, .pointer (some ⟨b, 0, none⟩)] w fun e w' => e = .returned (.bool (decide (x.d.nm = L m))) ∧ Bl w w' := by
  have hb' := at_bl ((Bl.refl w).alloc (.cells (cl x).toArray 42)) hb
  have hlt : b < w.heap.size := by
    rcases Nat.lt_or_ge b w.heap.size with h | h
    · exact h
    · simp [World.cell?, Array.getElem?_eq_none h] at hb
  have hne : ¬ b = w.heap.size := by omega
  have htl := tl_tx x.d.nm
  have hml : m.toList = L m := ByteArray.toList_eq m
  have hD : (decide (x.d.nm = L m)) = ((tx x.d.nm).toList == m.toList) := by rw [htl, hml, Bool.eq_iff_iff]; simp
  rw [hD]
  obtain ⟨w1, hw1⟩ : ∃ w1, w1 = w.alloc (.cells (cl x).toArray 42) := ⟨_, rfl⟩
  obtain ⟨N, hN⟩ : ∃ N, N = w.heap.size := ⟨_, rfl⟩
  have hv : Iv w1 N x := ⟨by rw [hw1, hN]; exact new_at _ _⟩
  have HB : Hid (Bl w w1) := by show Bl w w1; rw [hw1]; exact (Bl.refl _).alloc _
  have g2 := hv.facts.2.2.1
  rw [← hw1] at hb'
  clear hD htl hml hv hne hlt hb
  unfold itV
  go_enter Try.func60, Try.ntmps60
  go_upto_region 1 with fail
  change Code.wp _ _ _ _ (w.alloc (.cells (cl x).toArray 42))
  rw [← hw1, ← hN]
  clear hw1 hN
  go_wp2
  go_ret
  exact ⟨rfl, HB.out⟩
/-- Where an item stands that is called so, or -1. -/
def idx : Option Nat → Int
  | some k => (k : Int)
  | none => -1
theorem nmd_idx (cs : List C) (t : List UInt8) : idx (nmd (cs.map C.d) t) = if cs.findIdx (fun c => c.d.nm == t) < cs.length then ((cs.findIdx (fun c => c.d.nm == t) : Nat) : Int) else -1 := by
  unfold nmd
  induction cs with
  | nil => rfl
  | cons c r ih =>
    rw [List.map_cons, List.findIdx?_cons, List.findIdx_cons]
    cases hc : (c.d.nm == t) with
    | true => simp [idx]
    | false =>
      simp only [cond_false, Bool.false_eq_true, if_false, List.length_cons, Nat.add_lt_add_iff_right]
      cases hr : List.findIdx? (fun d => d.nm == t) (r.map C.d) with
      | none =>
        rw [hr] at ih
        have ih' : (-1 : Int) = if r.findIdx (fun c => c.d.nm == t) < r.length then ((r.findIdx (fun c => c.d.nm == t) : Nat) : Int) else -1 := ih
        split at ih'
        · omega
        · rename_i h; rw [if_neg h]; rfl
      | some k =>
        rw [hr] at ih
        have ih' : ((k : Nat) : Int) = if r.findIdx (fun c => c.d.nm == t) < r.length then ((r.findIdx (fun c => c.d.nm == t) : Nat) : Int) else -1 := ih
        split at ih'
        · rename_i h
          rw [if_pos h]
          show ((k + 1 : Nat) : Int) = _
          omega
        · omega
set_option maxRecDepth 10000 in
set_option maxHeartbeats 1000000 in
theorem indexI_at (m : ByteArray) (b : Nat) (cs : List C) (ok : Nat → Prop) (p : Option Addr) (n c : Nat) (w : World) (hin : ir.Lie w ok p n c cs) (hn : n ≤ 3000) (hb : w.cell? ⟨b, 0, none⟩ = some (.string m)) :
    Calls Try.prog 59 #[.slice p n c, .func (.func 60) #[] #[.pointer (some ⟨b, 0, none⟩)]] w fun e w' => e = .returned (.int .i64 (idx (nmd (cs.map C.d) (L m)))) ∧ Bl w w' := by
  rw [nmd_idx]
  obtain ⟨U, hU⟩ : ∃ U, U = cs.findIdx (fun c => c.d.nm == L m) := ⟨_, rfl⟩
  rw [← hU]
  have hnc : n = cs.length := hin.1
  have hncap : n ≤ c := hin.2.1
  have u1 : U ≤ n := by rw [hnc, hU]; exact List.findIdx_le_length
  have u2 : ∀ i x, cs[i]? = some x → i < U → x.d.nm ≠ L m := by
    intro i x hx hi
    obtain ⟨hl, he⟩ := List.getElem?_eq_some_iff.1 hx
    have := List.not_of_lt_findIdx (p := fun c : C => c.d.nm == L m) (xs := cs) (i := i) (by rw [← hU]; exact hi)
    rw [he] at this
    simpa using this
  have u3 : ∀ x, cs[U]? = some x → x.d.nm = L m := by
    intro x hx
    obtain ⟨hl, he⟩ := List.getElem?_eq_some_iff.1 hx
    subst hU
    have := List.findIdx_getElem (p := fun c : C => c.d.nm == L m) (xs := cs) (w := hl)
    rw [he] at this
    simpa using this
  rw [← hnc]
  have HI : Hid (ir.Lie w ok p n c cs ∧ n = cs.length ∧ (∀ i x, cs[i]? = some x → i < U → x.d.nm ≠ L m) ∧ (∀ x, cs[U]? = some x → x.d.nm = L m)) := ⟨hin, hnc, u2, u3⟩
  clear hin u2 u3 hnc hU
  go_enter Try.func59, Try.ntmps59
  go_wp2
  go_loopw [8] (fun i wr => ∃ k : Nat, k ≤ U ∧ i = .int .i64 (k : Int) ∧ Hid (Bl w wr)) (fun i _ => n - (intOf i).toNat)
  case atStart => exact ⟨0, by omega, rfl, Bl.refl _⟩
  case round =>
    obtain ⟨k, hk, rfl, HB⟩ := hrel
    by_cases hkn : k < n
    · have d1 : decide ((k : Int) < (n : Int)) = true := decide_eq_true (by omega)
      have i0 : (0 : Int) ≤ (k : Int) := by omega
      have i1 : (k : Int) < (n : Int) := by omega
      obtain ⟨x, hx⟩ : ∃ x, cs[k]? = some x := ⟨_, List.getElem?_eq_getElem (by have := HI.out.2.1; omega)⟩
      obtain ⟨X, rfl, _, g0', g⟩ := lie_at (lie_bl HI.out.1 HB.out) k x hx
      have g0 : wr.cell? (X.add (k * 13)) = some (.int .i64 (x.d.kd : Int)) := g0'
      clear g0'
      have g1 := g 1 _ rfl
      have g2 := g 2 _ rfl
      have g3 := g 3 _ rfl
      have g4 := g 4 _ rfl
      have g5 := g 5 _ rfl
      have g6 := g 6 _ rfl
      have g7 := g 7 _ rfl
      have g8 := g 8 _ rfl
      have g9 := g 9 _ rfl
      have g10 := g 10 _ rfl
      have g11 := g 11 _ rfl
      have g12 := g 12 _ rfl
      have cM := named_is m b x wr (at_bl HB.out hb)
      unfold itV cl at cM
      have HT : Hid (k < U → x.d.nm ≠ L m) := HI.out.2.2.1 k x hx
      have HT2 : Hid (k = U → x.d.nm = L m) := fun h => HI.out.2.2.2 x (by rw [← h]; exact hx)
      clear g hx
      by_cases hkU : k < U
      · have hD : decide (x.d.nm = L m) = false := decide_eq_false (HT.out hkU)
        rw [hD] at cM
        clear hD
        go_wp2_with fail
        refine cM.mono ?_
        rintro e w2 ⟨rfl, hb2⟩
        clear cM g0 g1 g2 g3 g4 g5 g6 g7 g8 g9 g10 g11 g12
        go_wp2
        go_roundw
        case rel => exact ⟨k + 1, by omega, by go_num, HB.out.trans hb2⟩
        case measure => simp [intOf]; omega
      · obtain rfl : k = U := by omega
        have hD : decide (x.d.nm = L m) = true := decide_eq_true (HT2.out rfl)
        rw [hD] at cM
        clear hD
        go_wp2_with fail
        refine cM.mono ?_
        rintro e w2 ⟨rfl, hb2⟩
        clear cM g0 g1 g2 g3 g4 g5 g6 g7 g8 g9 g10 g11 g12
        go_wp2
        go_ret
        exact ⟨ret_int rfl, HB.out.trans hb2⟩
    · have d1 : decide ((k : Int) < (n : Int)) = false := decide_eq_false (by omega)
      have hUn : ¬ U < n := by omega
      go_wp2
      go_ret
      exact ⟨ret_int rfl, HB.out⟩
set_option maxHeartbeats 1000000 in
theorem named_at (m : ByteArray) (cs : List C) (ok : Nat → Prop) (p : Option Addr) (n c : Nat) (w : World) (hin : ir.Lie w ok p n c cs) (hn : n ≤ 3000) :
    Calls Try.prog 53 #[.slice p n c, .string m] w fun e w' => e = .returned (.int .i64 (idx (nmd (cs.map C.d) (L m)))) ∧ Bl w w' := by
  have hmf : ∀ (fn : Fn) (first cap : Array Value) (w : World), (Instr.makeFunc fn first cap).run Try.prog w = .ok (.func fn first cap) w := fun _ _ _ _ => rfl
  have hb1 : Bl w (w.alloc (.cells #[.string m] 9)) := (Bl.refl _).alloc _
  have c1 := indexI_at m w.heap.size cs ok p n c _ (lie_bl hin hb1) hn (by rw [cell_of (new_at w (.cells #[.string m] 9))]; rfl)
  have HB : Hid (Bl w (w.alloc (.cells #[.string m] 9))) := hb1
  clear hin hb1
  go_enter Try.func53, Try.ntmps53
  go_wp2_with fail
  refine c1.mono ?_
  rintro e w2 ⟨rfl, hb2⟩
  go_wp2
  go_ret
  exact ⟨rfl, HB.out.trans hb2⟩
end Go.Proofs.Ytpanodaecjlgaaa.tm
/- Whether templates fit together: the ends of a rule; what is told. -/
namespace Go.Proofs.Ytpanodaecjlgaaa.tm
set_option linter.unusedVariables false
open Go.ChangeShapes Go.WideShapes Go.ChangeAt Go.RowKit Go.Shelf
open mem lx ex

theorem ends_is (ds : List D) (d : D) : (¬ d.ru = 3 → ends ds d = (nmd ds d.f1, nmd ds d.f1)) ∧ (d.ru = 3 → ends ds d = (nmd ds d.f1, nmd ds d.l1)) := by
  unfold ends
  exact ⟨fun h => by rw [if_neg h], fun h => by rw [if_pos h]⟩
set_option maxRecDepth 10000 in
set_option maxHeartbeats 1000000 in
theorem ends_at (x : C) (cs : List C) (ok : Nat → Prop) (p : Option Addr) (n c : Nat) (w : World) (hin : ir.Lie w ok p n c cs) (hn : n ≤ 3000) :
    Calls Try.prog 44 #[.slice p n c, itV x] w fun e w' => e = .returned (.tuple #[.int .i64 (idx (ends (cs.map C.d) x.d).1), .int .i64 (idx (ends (cs.map C.d) x.d).2)]) ∧ Bl w w' := by
  obtain ⟨o1, o2⟩ := ends_is (cs.map C.d) x.d
  obtain ⟨w1, hw1⟩ : ∃ w1, w1 = w.alloc (.cells (cl x).toArray 42) := ⟨_, rfl⟩
  obtain ⟨N, hN⟩ : ∃ N, N = w.heap.size := ⟨_, rfl⟩
  have hv : Iv w1 N x := ⟨by rw [hw1, hN]; exact new_at _ _⟩
  have hb1 : Bl w w1 := by rw [hw1]; exact (Bl.refl _).alloc _
  have HB : Hid (Bl w w1 ∧ Iv w1 N x ∧ ir.Lie w1 ok p n c cs) := ⟨hb1, hv, lie_bl hin hb1⟩
  obtain ⟨a0, a1, a2, a3, a4, a5, a6, a7, a8, a9, a10, a11, a12⟩ := hv.facts
  have c1 := named_at (tx x.d.f1) cs ok p n c w1 HB.out.2.2 hn
  rw [L_tx] at c1
  clear hv hb1 hin a0 a1 a2 a3 a4 a5 a6 a7 a8 a11 a12
  unfold itV
  go_enter Try.func44, Try.ntmps44
  go_upto_region 1 with fail
  change Code.wp _ _ _ _ (w.alloc (.cells (cl x).toArray 42))
  rw [← hw1, ← hN]
  clear hw1 hN
  go_wp2_with fail
  refine c1.mono ?_
  rintro e w2 ⟨rfl, hb2⟩
  have c2 := named_at (tx x.d.l1) cs ok p n c w2 (lie_bl HB.out.2.2 hb2) hn
  rw [L_tx] at c2
  have g9 := at_bl hb2 a9
  have g11 := (HB.out.2.1.bl hb2).facts.2.2.2.2.2.2.2.2.2.2.2.1
  have H2 : Hid (Bl w w2) := HB.out.1.trans hb2
  clear c1 hb2 a9 a10
  by_cases h3 : x.d.ru = 3
  · have HO : Hid (ends (cs.map C.d) x.d = (nmd (cs.map C.d) x.d.f1, nmd (cs.map C.d) x.d.l1)) := o2 h3
    rw [h3] at g9
    clear o1 o2 h3
    go_wp2_with fail
    refine c2.mono ?_
    rintro e w3 ⟨rfl, hb3⟩
    go_wp2
    rw [HO.out]
    go_ret2
    exact ⟨rfl, H2.out.trans hb3⟩
  · have HO : Hid (ends (cs.map C.d) x.d = (nmd (cs.map C.d) x.d.f1, nmd (cs.map C.d) x.d.f1)) := o1 h3
    have h3' : ¬ ((x.d.ru : Int) = 3) := by omega
    clear o1 o2 h3
    go_wp2
    rw [HO.out]
    go_ret2
    exact ⟨rfl, H2.out⟩
end Go.Proofs.Ytpanodaecjlgaaa.tm
/- Whether templates fit together: sets of names; whether an expression's names are seen. -/
namespace Go.Proofs.Ytpanodaecjlgaaa.tm
set_option linter.unusedVariables false
open Go.ChangeShapes Go.WideShapes Go.ChangeAt Go.RowKit Go.Shelf
open mem lx ex
open Go.Maps

/-- A map that holds just these names. -/
def SetM (w : World) (b : Nat) (S : List (List UInt8)) (k : Nat) : Prop := ∃ f c, Om w b f c ∧ c ≤ k ∧ ∀ y, (f y).isSome = true ↔ y ∈ S
theorem SetM.made (w : World) : SetM (w.alloc (.map #[] 0)) w.heap.size [] 0 := ⟨_, _, Om.made w, Nat.le_refl _, fun y => by simp⟩
theorem SetM.step {w w' : World} {b k : Nat} {S : List (List UInt8)} {row : Option Nat} (h : SetM w b S k) (hg : w.grownBy w' row) (hne : some b ≠ row) : SetM w' b S k := by
  obtain ⟨f, c, h1, h2, h3⟩ := h
  exact ⟨f, c, h1.step hg hne, h2, h3⟩
theorem SetM.bl {w w' : World} {b k : Nat} {S : List (List UInt8)} (h : SetM w b S k) (hb : Bl w w') : SetM w' b S k := h.step (row := none) ⟨hb.os, hb.tape, hb.output, hb.size, fun k hk _ => Below.block hb k hk⟩ (by simp)
theorem SetM.mono {w : World} {b k k' : Nat} {S : List (List UInt8)} (h : SetM w b S k) (hk : k ≤ k') : SetM w b S k' := by
  obtain ⟨f, c, h1, h2, h3⟩ := h
  exact ⟨f, c, h1, by omega, h3⟩
theorem SetM.same {w : World} {b k : Nat} {S S' : List (List UInt8)} (h : SetM w b S k) (hs : ∀ y, y ∈ S ↔ y ∈ S') : SetM w b S' k := by
  obtain ⟨f, c, h1, h2, h3⟩ := h
  exact ⟨f, c, h1, h2, fun y => (h3 y).trans (hs y)⟩
theorem SetM.lt {w : World} {b k : Nat} {S : List (List UInt8)} (h : SetM w b S k) : b < w.heap.size := by
  obtain ⟨f, c, h1, h2, h3⟩ := h
  exact om_lt h1
theorem ev_mis {f : List UInt8 → Option Int} {S : List (List UInt8)} (h : ∀ y, (f y).isSome = true ↔ y ∈ S) (x : Ex) : (∀ p, mis S x = some p → ev f x = .error p) ∧ (mis S x = none → ∃ n, ev f x = .ok n) := by
  induction x with
  | num a n => exact ⟨fun p hp => (by cases hp), fun _ => ⟨_, rfl⟩⟩
  | nam a t =>
    rw [mis, ev]
    by_cases ht : t ∈ S
    · rw [if_pos ht]
      have := (h t).2 ht
      cases hf : f t with
      | none => rw [hf] at this; cases this
      | some n => exact ⟨fun p hp => (by cases hp), fun _ => ⟨_, rfl⟩⟩
    · rw [if_neg ht]
      cases hf : f t with
      | none => exact ⟨fun p hp => (by injection hp with hp; rw [hp]), fun hp => (by cases hp)⟩
      | some n => exact absurd ((h t).1 (by rw [hf]; rfl)) ht
  | bin a o l r il ir =>
    rw [mis, ev]
    cases hl : mis S l with
    | some p =>
      rw [il.1 p hl]
      exact ⟨fun q hq => (by injection hq with hq; rw [hq]), fun hp => (by cases hp)⟩
    | none =>
      obtain ⟨n, hn⟩ := il.2 hl
      rw [hn]
      dsimp only
      cases hr : mis S r with
      | some p =>
        rw [ir.1 p hr]
        exact ⟨fun q hq => (by injection hq with hq; rw [hq]), fun hp => (by cases hp)⟩
      | none =>
        obtain ⟨m, hm⟩ := ir.2 hr
        rw [hm]
        exact ⟨fun q hq => (by cases hq), fun _ => ⟨_, rfl⟩⟩
theorem isO_lt {w : World} {pc : Option Addr} {o : Option Ex} (h : IsO w pc o) : o = none ∧ pc = none ∨ ∃ x, o = some x ∧ IsX w (.pointer pc) x := by
  cases o with
  | none => exact Or.inl ⟨rfl, h⟩
  | some x => exact Or.inr ⟨x, rfl, h⟩
end Go.Proofs.Ytpanodaecjlgaaa.tm
/- Whether templates fit together: a rule. -/
namespace Go.Proofs.Ytpanodaecjlgaaa.tm
set_option linter.unusedVariables false
open Go.ChangeShapes Go.WideShapes Go.ChangeAt Go.RowKit Go.Shelf
open mem lx ex

theorem nmd_lt {ds : List D} {t : List UInt8} {k : Nat} (h : nmd ds t = some k) : k < ds.length := by
  unfold nmd at h
  exact (List.findIdx?_eq_some_iff_getElem.1 h).1
theorem ends_lt {ds : List D} {d : D} {a b : Nat} (h : ends ds d = (some a, some b)) : a < ds.length ∧ b < ds.length := by
  obtain ⟨o1, o2⟩ := ends_is ds d
  by_cases h3 : d.ru = 3
  · rw [o2 h3] at h
    injection h with h1 h2
    exact ⟨nmd_lt h1, nmd_lt h2⟩
  · rw [o1 h3] at h
    injection h with h1 h2
    exact ⟨nmd_lt h1, nmd_lt h2⟩
end Go.Proofs.Ytpanodaecjlgaaa.tm
