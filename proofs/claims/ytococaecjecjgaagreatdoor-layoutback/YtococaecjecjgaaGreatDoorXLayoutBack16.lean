/- Texts laid together: Ty1, Ty2, Ty3, Ty4, Ri. -/
import Derived.Test.YtococaecjecjgaaGreatDoorXLayoutBack15
import Derived.Test.YtococaecjecjgaaGreatDoorXLayoutBack7
import Derived.Test.YtococaecjecjgaaGreatDoorXLayoutBack4
import Derived.Laws.AppendOwn
import Derived.Lib.AppendZeros
/- Whether templates fit together: an item by its name. -/
namespace Go.Proofs.YtococaecjecjgaaGreatDoor.tm
set_option linter.unusedVariables false
open Go.ChangeShapes Go.WideShapes Go.ChangeAt Go.RowKit Go.Shelf
open mem lx ex

theorem lie_bl {w w' : World} {ok : Nat → Prop} {p : Option Addr} {n c : Nat} {cs : List C} (h : ir.Lie w ok p n c cs) (hb : Bl w w') : ir.Lie w' ok p n c cs := h.keep (fun g _ hg => Below.block hb g hg) hb.size
theorem named_is (m : ByteArray) (b : Nat) (x : C) (w : World) (hb : w.cell? ⟨b, 0, none⟩ = some (.string m)) : Calls Tryz.prog 183 #[itV x, .pointer (some ⟨b, 0, none⟩)] w fun e w' => e = .returned (.bool (decide (x.d.nm = L m))) ∧ Bl w w' := by
  have hb' := at_bl ((Bl.refl w).alloc (.cells (cl x).toArray 60)) hb
  have hlt : b < w.heap.size := by
    rcases Nat.lt_or_ge b w.heap.size with h | h
    · exact h
    · simp [World.cell?, Array.getElem?_eq_none h] at hb
  have hne : ¬ b = w.heap.size := by omega
  have htl := tl_tx x.d.nm
  have hml : m.toList = L m := ByteArray.toList_eq m
  have hD : (decide (x.d.nm = L m)) = ((tx x.d.nm).toList == m.toList) := by rw [htl, hml, Bool.eq_iff_iff]; simp
  rw [hD]
  obtain ⟨w1, hw1⟩ : ∃ w1, w1 = w.alloc (.cells (cl x).toArray 60) := ⟨_, rfl⟩
  obtain ⟨N, hN⟩ : ∃ N, N = w.heap.size := ⟨_, rfl⟩
  have hv : Iv w1 N x := ⟨by rw [hw1, hN]; exact new_at _ _⟩
  have HB : Hid (Bl w w1) := by show Bl w w1; rw [hw1]; exact (Bl.refl _).alloc _
  have g2 := hv.facts.2.2.1
  rw [← hw1] at hb'
  clear hD htl hml hv hne hlt hb
  unfold itV
  go_enter Tryz.func183, Tryz.ntmps183
  go_upto_region 1 with fail
  change Code.wp _ _ _ _ (w.alloc (.cells (cl x).toArray 60))
  rw [← hw1, ← hN]
  clear hw1 hN
  go_wp2
  go_ret
  exact ⟨rfl, HB.out⟩
/-- Where an item stands that is called so, or -1. -/
def idx : Option Nat → Int
  | some k => (k : Int)
  | none => -1
theorem nmd_idx (cs : List C) (t : List UInt8) : idx (nmd (cs.map C.d) t) = if cs.findIdx (fun c => c.d.nm == t) < cs.length then ((cs.findIdx (fun c => c.d.nm == t) : Nat) : Int) else -1 := by
  unfold nmd
  induction cs with
  | nil => rfl
  | cons c r ih =>
    rw [List.map_cons, List.findIdx?_cons, List.findIdx_cons]
    cases hc : (c.d.nm == t) with
    | true => simp [idx]
    | false =>
      simp only [cond_false, Bool.false_eq_true, if_false, List.length_cons, Nat.add_lt_add_iff_right]
      cases hr : List.findIdx? (fun d => d.nm == t) (r.map C.d) with
      | none =>
        rw [hr] at ih
        have ih' : (-1 : Int) = if r.findIdx (fun c => c.d.nm == t) < r.length then ((r.findIdx (fun c => c.d.nm == t) : Nat) : Int) else -1 := ih
        split at ih'
        · omega
        · rename_i h; rw [if_neg h]; rfl
      | some k =>
        rw [hr] at ih
        have ih' : ((k : Nat) : Int) = if r.findIdx (fun c => c.d.nm == t) < r.length then ((r.findIdx (fun c => c.d.nm == t) : Nat) : Int) else -1 := ih
        split at ih'
        · rename_i h
          rw [if_pos h]
          show ((k + 1 : Nat) : Int) = _
          omega
        · omega
set_option maxRecDepth 10000 in
set_option maxHeartbeats 1000000 in
theorem indexI_at (m : ByteArray) (b : Nat) (cs : List C) (ok : Nat → Prop) (p : Option Addr) (n c : Nat) (w : World) (hin : ir.Lie w ok p n c cs) (hn : n ≤ 3000) (hb : w.cell? ⟨b, 0, none⟩ = some (.string m)) :
    Calls Tryz.prog 182 #[.slice p n c, .func (.func 183) #[] #[.pointer (some ⟨b, 0, none⟩)]] w fun e w' => e = .returned (.int .i64 (idx (nmd (cs.map C.d) (L m)))) ∧ Bl w w' := by
  rw [nmd_idx]
  obtain ⟨U, hU⟩ : ∃ U, U = cs.findIdx (fun c => c.d.nm == L m) := ⟨_, rfl⟩
  rw [← hU]
  have hnc : n = cs.length := hin.1
  have hncap : n ≤ c := hin.2.1
  have u1 : U ≤ n := by rw [hnc, hU]; exact List.findIdx_le_length
  have u2 : ∀ i x, cs[i]? = some x → i < U → x.d.nm ≠ L m := by
    intro i x hx hi
    obtain ⟨hl, he⟩ := List.getElem?_eq_some_iff.1 hx
    have := List.not_of_lt_findIdx (p := fun c : C => c.d.nm == L m) (xs := cs) (i := i) (by rw [← hU]; exact hi)
    rw [he] at this
    simpa using this
  have u3 : ∀ x, cs[U]? = some x → x.d.nm = L m := by
    intro x hx
    obtain ⟨hl, he⟩ := List.getElem?_eq_some_iff.1 hx
    subst hU
    have := List.findIdx_getElem (p := fun c : C => c.d.nm == L m) (xs := cs) (w := hl)
    rw [he] at this
    simpa using this
  rw [← hnc]
  have HI : Hid (ir.Lie w ok p n c cs ∧ n = cs.length ∧ (∀ i x, cs[i]? = some x → i < U → x.d.nm ≠ L m) ∧ (∀ x, cs[U]? = some x → x.d.nm = L m)) := ⟨hin, hnc, u2, u3⟩
  clear hin u2 u3 hnc hU
  go_enter Tryz.func182, Tryz.ntmps182
  go_wp2
  go_loopw [8] (fun i wr => ∃ k : Nat, k ≤ U ∧ i = .int .i64 (k : Int) ∧ Hid (Bl w wr)) (fun i _ => n - (intOf i).toNat)
  case atStart => exact ⟨0, by omega, rfl, Bl.refl _⟩
  case round =>
    obtain ⟨k, hk, rfl, HB⟩ := hrel
    by_cases hkn : k < n
    · have d1 : decide ((k : Int) < (n : Int)) = true := decide_eq_true (by omega)
      have i0 : (0 : Int) ≤ (k : Int) := by omega
      have i1 : (k : Int) < (n : Int) := by omega
      obtain ⟨x, hx⟩ : ∃ x, cs[k]? = some x := ⟨_, List.getElem?_eq_getElem (by have := HI.out.2.1; omega)⟩
      obtain ⟨X, rfl, _, g0', g⟩ := lie_at (lie_bl HI.out.1 HB.out) k x hx
      have g0 : wr.cell? (X.add (k * 13)) = some (.int .i64 (x.d.kd : Int)) := g0'
      clear g0'
      have g1 := g 1 _ rfl
      have g2 := g 2 _ rfl
      have g3 := g 3 _ rfl
      have g4 := g 4 _ rfl
      have g5 := g 5 _ rfl
      have g6 := g 6 _ rfl
      have g7 := g 7 _ rfl
      have g8 := g 8 _ rfl
      have g9 := g 9 _ rfl
      have g10 := g 10 _ rfl
      have g11 := g 11 _ rfl
      have g12 := g 12 _ rfl
      have cM := named_is m b x wr (at_bl HB.out hb)
      unfold itV cl at cM
      have HT : Hid (k < U → x.d.nm ≠ L m) := HI.out.2.2.1 k x hx
      have HT2 : Hid (k = U → x.d.nm = L m) := fun h => HI.out.2.2.2 x (by rw [← h]; exact hx)
      clear g hx
      by_cases hkU : k < U
      · have hD : decide (x.d.nm = L m) = false := decide_eq_false (HT.out hkU)
        rw [hD] at cM
        clear hD
        go_wp2_with fail
        refine cM.mono ?_
        rintro e w2 ⟨rfl, hb2⟩
        clear cM g0 g1 g2 g3 g4 g5 g6 g7 g8 g9 g10 g11 g12
        go_wp2
        go_roundw
        case rel => exact ⟨k + 1, by omega, by go_num, HB.out.trans hb2⟩
        case measure => simp [intOf]; omega
      · obtain rfl : k = U := by omega
        have hD : decide (x.d.nm = L m) = true := decide_eq_true (HT2.out rfl)
        rw [hD] at cM
        clear hD
        go_wp2_with fail
        refine cM.mono ?_
        rintro e w2 ⟨rfl, hb2⟩
        clear cM g0 g1 g2 g3 g4 g5 g6 g7 g8 g9 g10 g11 g12
        go_wp2
        go_ret
        exact ⟨ret_int rfl, HB.out.trans hb2⟩
    · have d1 : decide ((k : Int) < (n : Int)) = false := decide_eq_false (by omega)
      have hUn : ¬ U < n := by omega
      go_wp2
      go_ret
      exact ⟨ret_int rfl, HB.out⟩
set_option maxHeartbeats 1000000 in
theorem named_at (m : ByteArray) (cs : List C) (ok : Nat → Prop) (p : Option Addr) (n c : Nat) (w : World) (hin : ir.Lie w ok p n c cs) (hn : n ≤ 3000) :
    Calls Tryz.prog 163 #[.slice p n c, .string m] w fun e w' => e = .returned (.int .i64 (idx (nmd (cs.map C.d) (L m)))) ∧ Bl w w' := by
  have hmf : ∀ (fn : Fn) (first cap : Array Value) (w : World), (Instr.makeFunc fn first cap).run Tryz.prog w = .ok (.func fn first cap) w := fun _ _ _ _ => rfl
  have hb1 : Bl w (w.alloc (.cells #[.string m] 9)) := (Bl.refl _).alloc _
  have c1 := indexI_at m w.heap.size cs ok p n c _ (lie_bl hin hb1) hn (by rw [cell_of (new_at w (.cells #[.string m] 9))]; rfl)
  have HB : Hid (Bl w (w.alloc (.cells #[.string m] 9))) := hb1
  clear hin hb1
  go_enter Tryz.func163, Tryz.ntmps163
  go_wp2_with fail
  refine c1.mono ?_
  rintro e w2 ⟨rfl, hb2⟩
  go_wp2
  go_ret
  exact ⟨rfl, HB.out.trans hb2⟩
end Go.Proofs.YtococaecjecjgaaGreatDoor.tm
/- Whether templates fit together: the ends of a rule; what is told. -/
namespace Go.Proofs.YtococaecjecjgaaGreatDoor.tm
set_option linter.unusedVariables false
open Go.ChangeShapes Go.WideShapes Go.ChangeAt Go.RowKit Go.Shelf
open mem lx ex

theorem ends_is (ds : List D) (d : D) : (¬ d.ru = 3 → ends ds d = (nmd ds d.f1, nmd ds d.f1)) ∧ (d.ru = 3 → ends ds d = (nmd ds d.f1, nmd ds d.l1)) := by
  unfold ends
  exact ⟨fun h => by rw [if_neg h], fun h => by rw [if_pos h]⟩
set_option maxRecDepth 10000 in
set_option maxHeartbeats 1000000 in
theorem ends_at (x : C) (cs : List C) (ok : Nat → Prop) (p : Option Addr) (n c : Nat) (w : World) (hin : ir.Lie w ok p n c cs) (hn : n ≤ 3000) :
    Calls Tryz.prog 135 #[.slice p n c, itV x] w fun e w' => e = .returned (.tuple #[.int .i64 (idx (ends (cs.map C.d) x.d).1), .int .i64 (idx (ends (cs.map C.d) x.d).2)]) ∧ Bl w w' := by
  obtain ⟨o1, o2⟩ := ends_is (cs.map C.d) x.d
  obtain ⟨w1, hw1⟩ : ∃ w1, w1 = w.alloc (.cells (cl x).toArray 60) := ⟨_, rfl⟩
  obtain ⟨N, hN⟩ : ∃ N, N = w.heap.size := ⟨_, rfl⟩
  have hv : Iv w1 N x := ⟨by rw [hw1, hN]; exact new_at _ _⟩
  have hb1 : Bl w w1 := by rw [hw1]; exact (Bl.refl _).alloc _
  have HB : Hid (Bl w w1 ∧ Iv w1 N x ∧ ir.Lie w1 ok p n c cs) := ⟨hb1, hv, lie_bl hin hb1⟩
  obtain ⟨a0, a1, a2, a3, a4, a5, a6, a7, a8, a9, a10, a11, a12⟩ := hv.facts
  have c1 := named_at (tx x.d.f1) cs ok p n c w1 HB.out.2.2 hn
  rw [L_tx] at c1
  clear hv hb1 hin a0 a1 a2 a3 a4 a5 a6 a7 a8 a11 a12
  unfold itV
  go_enter Tryz.func135, Tryz.ntmps135
  go_upto_region 1 with fail
  change Code.wp _ _ _ _ (w.alloc (.cells (cl x).toArray 60))
  rw [← hw1, ← hN]
  clear hw1 hN
  go_wp2_with fail
  refine c1.mono ?_
  rintro e w2 ⟨rfl, hb2⟩
  have c2 := named_at (tx x.d.l1) cs ok p n c w2 (lie_bl HB.out.2.2 hb2) hn
  rw [L_tx] at c2
  have g9 := at_bl hb2 a9
  have g11 := (HB.out.2.1.bl hb2).facts.2.2.2.2.2.2.2.2.2.2.2.1
  have H2 : Hid (Bl w w2) := HB.out.1.trans hb2
  clear c1 hb2 a9 a10
  by_cases h3 : x.d.ru = 3
  · have HO : Hid (ends (cs.map C.d) x.d = (nmd (cs.map C.d) x.d.f1, nmd (cs.map C.d) x.d.l1)) := o2 h3
    rw [h3] at g9
    clear o1 o2 h3
    go_wp2_with fail
    refine c2.mono ?_
    rintro e w3 ⟨rfl, hb3⟩
    go_wp2
    rw [HO.out]
    go_ret2
    exact ⟨rfl, H2.out.trans hb3⟩
  · have HO : Hid (ends (cs.map C.d) x.d = (nmd (cs.map C.d) x.d.f1, nmd (cs.map C.d) x.d.f1)) := o1 h3
    have h3' : ¬ ((x.d.ru : Int) = 3) := by omega
    clear o1 o2 h3
    go_wp2
    rw [HO.out]
    go_ret2
    exact ⟨rfl, H2.out⟩
def thrownY (B : Nat) : Ending := .panicked [{ v := .iface 132 (.agg #[.iface 113 (.pointer (some ⟨B, 0, none⟩))]), recovered := false }]
/-- An error is thrown. -/
def ThrY (w : World) (c p : Int) (e : Ending) (w' : World) : Prop := ∃ B : Nat, e = thrownY B ∧ w.heap.size ≤ B ∧ AtX w' B c p ∧ Bl w w'
theorem ythrow_at (a c : Int) (w : World) : Calls Tryz.prog 62 #[.int .i64 a, .int .i64 c] w fun e w' => ThrY w c a e w' := by
  go_enter Tryz.func62, Tryz.ntmps62
  go_wp2
  refine ⟨rfl, w.heap.size, rfl, Nat.le_refl _, new_at _ _, (Bl.refl _).alloc _⟩
end Go.Proofs.YtococaecjecjgaaGreatDoor.tm
/- Whether templates fit together: sets of names; whether an expression's names are seen. -/
namespace Go.Proofs.YtococaecjecjgaaGreatDoor.tm
set_option linter.unusedVariables false
open Go.ChangeShapes Go.WideShapes Go.ChangeAt Go.RowKit Go.Shelf
open mem lx ex
open Go.Maps

theorem om_drop {w : World} {b c : Nat} {f : List UInt8 → Option Int} (h : Om w b f c) (t : ByteArray) (ht : t.size ≤ 5000) (ty : TypeId) :
    ∃ w', (Builtin.delete_ #[100, 9] ty #[.map (some b), .string t]).run Tryz.prog w = .ok (.tuple #[]) w' ∧ Om w' b (fun y => if y = t.data.toList then none else f y) c ∧ w.grownBy w' (some b) := by
  obtain ⟨D, h1, h2⟩ := h
  obtain ⟨w', hr, ho, hg⟩ := h1.drop lawS Tryz.underlying100 (WideMaps.keyOf_string_mk Tryz.underlying9 (s := t) (by unfold maxLen; omega)) ty
  refine ⟨w', hr, ⟨_, ho, fun y hy => ?_⟩, hg.grown⟩
  show Maps.has (D.del (skey t.data.toList)) (skey y) = _ ∧ (D.del (skey t.data.toList)).atKey (skey y) _ = _
  by_cases e : y = t.data.toList
  · subst e
    rw [has_del_same, atKey_del_same]
    simp
  · rw [has_del_other (skey_inj e), atKey_del_other (skey_inj e)]
    simp only [if_neg e]
    exact h2 y hy
/-- A map that holds just these names. -/
def SetM (w : World) (b : Nat) (S : List (List UInt8)) (k : Nat) : Prop := ∃ f c, Om w b f c ∧ c ≤ k ∧ ∀ y, (f y).isSome = true ↔ y ∈ S
theorem SetM.made (w : World) : SetM (w.alloc (.map #[] 0)) w.heap.size [] 0 := ⟨_, _, Om.made w, Nat.le_refl _, fun y => by simp⟩
theorem SetM.step {w w' : World} {b k : Nat} {S : List (List UInt8)} {row : Option Nat} (h : SetM w b S k) (hg : w.grownBy w' row) (hne : some b ≠ row) : SetM w' b S k := by
  obtain ⟨f, c, h1, h2, h3⟩ := h
  exact ⟨f, c, h1.step hg hne, h2, h3⟩
theorem SetM.bl {w w' : World} {b k : Nat} {S : List (List UInt8)} (h : SetM w b S k) (hb : Bl w w') : SetM w' b S k := h.step (row := none) ⟨hb.os, hb.tape, hb.output, hb.size, fun k hk _ => Below.block hb k hk⟩ (by simp)
theorem SetM.mono {w : World} {b k k' : Nat} {S : List (List UInt8)} (h : SetM w b S k) (hk : k ≤ k') : SetM w b S k' := by
  obtain ⟨f, c, h1, h2, h3⟩ := h
  exact ⟨f, c, h1, by omega, h3⟩
theorem SetM.same {w : World} {b k : Nat} {S S' : List (List UInt8)} (h : SetM w b S k) (hs : ∀ y, y ∈ S ↔ y ∈ S') : SetM w b S' k := by
  obtain ⟨f, c, h1, h2, h3⟩ := h
  exact ⟨f, c, h1, h2, fun y => (h3 y).trans (hs y)⟩
theorem SetM.lt {w : World} {b k : Nat} {S : List (List UInt8)} (h : SetM w b S k) : b < w.heap.size := by
  obtain ⟨f, c, h1, h2, h3⟩ := h
  exact om_lt h1
theorem SetM.look {w : World} {b k : Nat} {S : List (List UInt8)} (h : SetM w b S k) (t : List UInt8) (ht : t.length ≤ 5000) :
    ∃ x : Int, (Instr.lookup 100 (.map (some b)) (.string (tx t)) true).run Tryz.prog w = .ok (.tuple #[.int .i64 x, .bool (decide (t ∈ S))]) w := by
  obtain ⟨f, c, h1, h2, h3⟩ := h
  have := h1.look (tx t) (by rw [tx_size]; exact ht)
  have e : (tx t).data.toList = t := L_tx _
  rw [e] at this
  have hb : (f t).isSome = decide (t ∈ S) := by rw [Bool.eq_iff_iff, h3 t]; simp
  rw [hb] at this
  exact ⟨_, this⟩
theorem SetM.put {w : World} {b k : Nat} {S : List (List UInt8)} (h : SetM w b S k) (t : List UInt8) (x : Int) (ht : t.length ≤ 5000) (hx : R64 x) (hk : k ≤ 5000) :
    ∃ w', (Instr.mapUpdate 100 (.map (some b)) (.string (tx t)) (.int .i64 x)).run Tryz.prog w = .ok () w' ∧ SetM w' b (t :: S) (k + 1) ∧ w.grownBy w' (some b) := by
  obtain ⟨f, c, h1, h2, h3⟩ := h
  obtain ⟨w', r, o, g⟩ := h1.put (tx t) x (by rw [tx_size]; exact ht) hx (by omega)
  have e : (tx t).data.toList = t := L_tx _
  rw [e] at o
  refine ⟨w', r, ⟨_, _, o, by omega, fun y => ?_⟩, g⟩
  by_cases hy : y = t
  · simp [hy]
  · simp only [List.mem_cons, hy, false_or]
    exact h3 y
theorem SetM.drop {w : World} {b k : Nat} {S : List (List UInt8)} (h : SetM w b S k) (t : List UInt8) (ht : t.length ≤ 5000) (ty : TypeId) :
    ∃ w', (Builtin.delete_ #[100, 9] ty #[.map (some b), .string (tx t)]).run Tryz.prog w = .ok (.tuple #[]) w' ∧ SetM w' b (S.filter (fun y => y ≠ t)) k ∧ w.grownBy w' (some b) := by
  obtain ⟨f, c, h1, h2, h3⟩ := h
  obtain ⟨w', r, o, g⟩ := om_drop h1 (tx t) (by rw [tx_size]; exact ht) ty
  have e : (tx t).data.toList = t := L_tx _
  rw [e] at o
  refine ⟨w', r, ⟨_, _, o, h2, fun y => ?_⟩, g⟩
  by_cases hy : y = t
  · simp [hy]
  · simp only [if_neg hy, List.mem_filter]
    rw [h3 y]
    simp [hy]
theorem ev_mis {f : List UInt8 → Option Int} {S : List (List UInt8)} (h : ∀ y, (f y).isSome = true ↔ y ∈ S) (x : Ex) : (∀ p, mis S x = some p → ev f x = .error p) ∧ (mis S x = none → ∃ n, ev f x = .ok n) := by
  induction x with
  | num a n => exact ⟨fun p hp => (by cases hp), fun _ => ⟨_, rfl⟩⟩
  | nam a t =>
    rw [mis, ev]
    by_cases ht : t ∈ S
    · rw [if_pos ht]
      have := (h t).2 ht
      cases hf : f t with
      | none => rw [hf] at this; cases this
      | some n => exact ⟨fun p hp => (by cases hp), fun _ => ⟨_, rfl⟩⟩
    · rw [if_neg ht]
      cases hf : f t with
      | none => exact ⟨fun p hp => (by injection hp with hp; rw [hp]), fun hp => (by cases hp)⟩
      | some n => exact absurd ((h t).1 (by rw [hf]; rfl)) ht
  | bin a o l r il ir =>
    rw [mis, ev]
    cases hl : mis S l with
    | some p =>
      rw [il.1 p hl]
      exact ⟨fun q hq => (by injection hq with hq; rw [hq]), fun hp => (by cases hp)⟩
    | none =>
      obtain ⟨n, hn⟩ := il.2 hl
      rw [hn]
      dsimp only
      cases hr : mis S r with
      | some p =>
        rw [ir.1 p hr]
        exact ⟨fun q hq => (by injection hq with hq; rw [hq]), fun hp => (by cases hp)⟩
      | none =>
        obtain ⟨m, hm⟩ := ir.2 hr
        rw [hm]
        exact ⟨fun q hq => (by cases hq), fun _ => ⟨_, rfl⟩⟩
theorem value_nil (m : Option Nat) (w : World) : Calls Tryz.prog 171 #[.pointer none, .map m] w fun e w' => e = .returned (.int .i64 0) ∧ w' = w := by
  go_enter Tryz.func171, Tryz.ntmps171
  go_wp2
  go_ret
  exact ⟨rfl, rfl⟩
set_option maxRecDepth 10000 in
theorem reckoned_nil (m : Option Nat) (w : World) :
    Calls Tryz.prog 150 #[.pointer none, .map m] w fun e w' => e = .returned (.tuple #[.int .i64 0, .nilIface]) ∧ Bl w w' := by
  have hmf : ∀ (fn : Fn) (first cap : Array Value) (w : World), (Instr.makeFunc fn first cap).run Tryz.prog w = .ok (.func fn first cap) w := fun _ _ _ _ => rfl
  have H0 : Hid _ := Ev.new w
  have cV := value_nil m
  obtain ⟨N, hN⟩ : ∃ N, N = w.heap.size := ⟨_, rfl⟩
  rw [← hN] at H0
  obtain ⟨w2, hw2⟩ : ∃ w2, w2 = (w.alloc (.cells #[.int .i64 0] 3)).alloc (.cells #[.nilIface] 34) := ⟨_, rfl⟩
  rw [← hw2] at H0
  go_enter_defers Tryz.func150, Tryz.ntmps150
  go_wp2_with fail
  rw [← hw2, ← hN]
  clear hw2 hN
  refine (cV _).mono ?_
  rintro e w4 ⟨rfl, rfl⟩
  have H4 : Hid (Ev w w4 N (.int .i64 0) .nilIface) := H0.out
  have d1 := H4.out.v1.cell
  have d2 := H4.out.v2.cell
  have e1 := H4.out.v1.frozen
  have e2 := H4.out.v2.frozen
  go_wp2
  have H9 := (H4.out.set1 (.int .i64 0)).set2 .nilIface
  generalize (w4.setCell ⟨N, 0, none⟩ (.int .i64 0)).setCell ⟨N + 1, 0, none⟩ .nilIface = w9 at H9 ⊢
  have c1' := H9.v1.cell
  have c2' := H9.v2.cell
  refine leaves_cons (f := 170) (args := #[.pointer (some ⟨N, 0, none⟩), .pointer (some ⟨N + 1, 0, none⟩)]) (by simp) (by simp [go_sem]) ?_
  refine (ecatch_idle _ _ _).mono ?_
  rintro e u' w'' ⟨rfl, rfl, rfl⟩
  simp [Leaves, settle, results, Tryz.results150, go_sem, c1', c2']
  exact H9.bl
theorem Eval_nil (m : Option Nat) (w : World) :
    Calls Tryz.prog 119 #[.pointer none, .map m] w fun e w' => e = .returned (.tuple #[.int .i64 0, .nilIface]) ∧ Bl w w' := by
  have c := reckoned_nil m w
  go_enter Tryz.func119, Tryz.ntmps119
  go_wp2_with fail
  refine c.mono ?_
  rintro e w4 ⟨rfl, hb4⟩
  go_wp2
  go_ret2
  exact ⟨rfl, hb4⟩
theorem isO_lt {w : World} {pc : Option Addr} {o : Option Ex} (h : IsO w pc o) : o = none ∧ pc = none ∨ ∃ x, o = some x ∧ IsX w (.pointer pc) x := by
  cases o with
  | none => exact Or.inl ⟨rfl, h⟩
  | some x => exact Or.inr ⟨x, rfl, h⟩
/-- What asking answers. -/
def AskA (w : World) (q : Option Nat) (e : Ending) (w' : World) : Prop := Bl w w' ∧ match q with
  | none => e = .returned (.tuple #[])
  | some p => ∃ B : Nat, e = thrownY B ∧ w.heap.size ≤ B ∧ AtX w' B 5 (p : Int)
set_option maxRecDepth 10000 in
theorem ask_at (w : World) (K eb nb' sb k : Nat) (S : List (List UInt8)) (pc : Option Addr) (o : Option Ex) (hK : w.heap[K]? = some (.cells #[.map (some eb), .map (some nb'), .map (some sb)] 138 (0, 0))) (hS : SetM w sb S k) (hx : IsO w pc o) (ho : ∀ x, o = some x → Okb x) :
    Calls Tryz.prog 100 #[.pointer (some ⟨K, 0, none⟩), .pointer pc] w fun e w' => AskA w (misO S o) e w' := by
  have c2 : w.cell? ⟨K, 2, none⟩ = some (.map (some sb)) := by rw [cell_of hK]; rfl
  have hKs : K < w.heap.size := lt_of_heap hK
  rcases isO_lt hx with ⟨rfl, rfl⟩ | ⟨x, rfl, hxx⟩
  · have cE := Eval_nil (some sb) w
    clear hK hS hx ho
    go_enter Tryz.func100, Tryz.ntmps100
    go_wp2_with fail
    refine cE.mono ?_
    rintro e w4 ⟨rfl, hb4⟩
    go_wp2
    go_end0
    exact ⟨hb4, rfl⟩
  · obtain ⟨f, c, h1, h2, h3⟩ := hS
    have cE := Eval_at f (.map (some sb)) x (.pointer pc) w hxx (ho x rfl) h1.isM
    obtain ⟨m1, m2⟩ := ev_mis h3 x
    obtain ⟨xb, hxb, _⟩ := hxx.ptr
    injection hxb with hxb
    subst hxb
    cases hm : mis S x with
    | none =>
      obtain ⟨n, hn⟩ := m2 hm
      have HM : Hid (misO S (some x) = none) := hm
      rw [hn] at cE
      clear hK hx ho h1 h3 m1 m2 hxx hm hn
      go_enter Tryz.func100, Tryz.ntmps100
      go_wp2_with fail
      refine cE.mono ?_
      rintro e w4 ⟨hb4, rfl⟩
      go_wp2
      rw [HM.out]
      go_end0
      exact ⟨hb4, rfl⟩
    | some p =>
      have HM : Hid (misO S (some x) = some p) := hm
      rw [m1 p hm] at cE
      clear hK hx ho h1 h3 m1 m2 hxx hm
      go_enter Tryz.func100, Tryz.ntmps100
      go_wp2_with fail
      refine cE.mono ?_
      rintro e w4 ⟨hb4, B, rfl, hB1, hB2⟩
      go_wp2
      rw [HM.out]
      exact ⟨rfl, hb4, B, rfl, hB1, hB2⟩
end Go.Proofs.YtococaecjecjgaaGreatDoor.tm
/- Whether templates fit together: a rule. -/
namespace Go.Proofs.YtococaecjecjgaaGreatDoor.tm
set_option linter.unusedVariables false
open Go.ChangeShapes Go.WideShapes Go.ChangeAt Go.RowKit Go.Shelf
open mem lx ex

theorem nmd_lt {ds : List D} {t : List UInt8} {k : Nat} (h : nmd ds t = some k) : k < ds.length := by
  unfold nmd at h
  exact (List.findIdx?_eq_some_iff_getElem.1 h).1
theorem ends_lt {ds : List D} {d : D} {a b : Nat} (h : ends ds d = (some a, some b)) : a < ds.length ∧ b < ds.length := by
  obtain ⟨o1, o2⟩ := ends_is ds d
  by_cases h3 : d.ru = 3
  · rw [o2 h3] at h
    injection h with h1 h2
    exact ⟨nmd_lt h1, nmd_lt h2⟩
  · rw [o1 h3] at h
    injection h with h1 h2
    exact ⟨nmd_lt h1, nmd_lt h2⟩
/-- What looking answers. -/
def LookA (w : World) (q : Option (Int × Nat)) (e : Ending) (w' : World) : Prop := Bl w w' ∧ match q with
  | none => e = .returned (.tuple #[])
  | some (c, p) => ∃ B : Nat, e = thrownY B ∧ w.heap.size ≤ B ∧ AtX w' B c (p : Int)
theorem LookA.of_thr {w w1 w' : World} {q : Option (Int × Nat)} {c : Int} {p : Nat} {e : Ending} (hq : q = some (c, p)) (hb : Bl w w1) (h : ThrY w1 c (p : Int) e w') : LookA w q e w' := by
  obtain ⟨B, h1, h2, h3, h4⟩ := h
  rw [hq]
  exact ⟨hb.trans h4, B, h1, Nat.le_trans hb.size h2, h3⟩
theorem LookA.of_none {w w' : World} {q : Option (Int × Nat)} (hq : q = none) (hb : Bl w w') : LookA w q (.returned (.tuple #[])) w' := by
  rw [hq]
  exact ⟨hb, rfl⟩
set_option maxRecDepth 10000 in
set_option maxHeartbeats 8000000 in
theorem checkRule_at (x : C) (i : Nat) (cs : List C) (ok : Nat → Prop) (p : Option Addr) (n c : Nat) (w : World) (hin : ir.Lie w ok p n c cs) (hn : n ≤ 3000) (hx : cs[i]? = some x) (hr : x.d.ru ≠ 0) :
    Calls Tryz.prog 102 #[.slice p n c, .int .i64 (i : Int)] w fun e w' => LookA w (ruleW (cs.map C.d) i x.d) e w' := by
  have hil := (List.getElem?_eq_some_iff.1 hx).1
  have hnc := hin.1
  have hncap := hin.2.1
  obtain ⟨X, rfl, _, g0', g⟩ := lie_at hin i x hx
  have g0 : w.cell? (X.add (i * 13)) = some (.int .i64 (x.d.kd : Int)) := g0'
  clear g0'
  have g1 := g 1 _ rfl
  have g2 := g 2 _ rfl
  have g3 := g 3 _ rfl
  have g4 := g 4 _ rfl
  have g5 := g 5 _ rfl
  have g6 := g 6 _ rfl
  have g7 := g 7 _ rfl
  have g8 := g 8 _ rfl
  have g9 := g 9 _ rfl
  have g10 := g 10 _ rfl
  have g11 := g 11 _ rfl
  have g12 := g 12 _ rfl
  clear g
  have i0 : (0 : Int) ≤ (i : Int) := by omega
  have i1 : (i : Int) < (n : Int) := by omega
  obtain ⟨w1, hw1⟩ : ∃ w1, w1 = w.alloc (.cells (cl x).toArray 60) := ⟨_, rfl⟩
  obtain ⟨N, hN⟩ : ∃ N, N = w.heap.size := ⟨_, rfl⟩
  have hv : Iv w1 N x := ⟨by rw [hw1, hN]; exact new_at _ _⟩
  have hb1 : Bl w w1 := by rw [hw1]; exact (Bl.refl _).alloc _
  have cE := ends_at x cs ok (some X) n c w1 (lie_bl hin hb1) hn
  have HI : Hid (Bl w w1 ∧ Iv w1 N x ∧ ir.Lie w1 ok (some X) n c cs ∧ n = cs.length ∧ cs[i]? = some x ∧ x.d.ru ≠ 0) := ⟨hb1, hv, lie_bl hin hb1, hnc, hx, hr⟩
  obtain ⟨q, hq⟩ : ∃ q, q = ruleW (cs.map C.d) i x.d := ⟨_, rfl⟩
  rw [← hq]
  obtain ⟨E, hE⟩ : ∃ E, E = ends (cs.map C.d) x.d := ⟨_, rfl⟩
  rw [← hE] at cE
  have HQ : Hid (q = ruleW (cs.map C.d) i x.d ∧ E = ends (cs.map C.d) x.d) := ⟨hq, hE⟩
  unfold itV cl at cE
  clear hin hnc hx hr hb1 hq hE
  go_enter Tryz.func102, Tryz.ntmps102
  go_upto_region 1 with fail
  change Code.wp _ _ _ _ (w.alloc (.cells (cl x).toArray 60))
  rw [← hw1, ← hN]
  obtain ⟨a0, a1, a2, a3, a4, a5, a6, a7, a8, a9, a10, a11, a12⟩ := hv.facts
  have hNs := hv.lt
  clear hw1 hN hv g0 g1 g2 g3 g4 g5 g6 g7 g8 g9 g10 g11 g12
  go_upto_region 1 with fail
  go_wp2_with fail
  refine cE.mono ?_
  rintro e w2 ⟨rfl, hb2⟩
  clear cE a0 a1 a2 a3 a4 a5 a6 a7 a8 a9 a10 a11 a12
  obtain ⟨a0, a1, a2, a3, a4, a5, a6, a7, a8, a9, a10, a11, a12⟩ := (HI.out.2.1.bl hb2).facts
  have H2 : Hid (Bl w w2 ∧ ir.Lie w2 ok (some X) n c cs) := ⟨HI.out.1.trans hb2, lie_bl HI.out.2.2.1 hb2⟩
  have cT := ythrow_at (x.d.at_ : Int)
  clear hb2 a0 a2 a3 a5 a7 a8 a10 a11 a12
  obtain ⟨ea, eb⟩ := E
  cases ea with
  | none =>
    have hi : idx (none : Option Nat) = -1 := rfl
    have HT : Hid (q = some (7, x.d.at_)) := by
      show q = _
      rw [HQ.out.1]
      unfold ruleW
      rw [if_neg HI.out.2.2.2.2.2, ← HQ.out.2]

    go_wp2_with fail
    refine (cT 7 w2).mono ?_
    rintro e w3 hth
    have hfin := LookA.of_thr HT.out H2.out.1 hth
    obtain ⟨B, rfl, _⟩ := hth
    unfold thrownY
    go_wp2
    exact ⟨rfl, hfin⟩
  | some a =>
    cases eb with
    | none =>
      have hi : idx (none : Option Nat) = -1 := rfl
      have hi2 : idx (some a) = (a : Int) := rfl
      have ha0 : ¬ ((a : Int) < 0) := by omega
      have HT : Hid (q = some (7, x.d.at_)) := by
        show q = _
        rw [HQ.out.1]
        unfold ruleW
        rw [if_neg HI.out.2.2.2.2.2, ← HQ.out.2]

      go_wp2_with fail
      refine (cT 7 w2).mono ?_
      rintro e w3 hth
      have hfin := LookA.of_thr HT.out H2.out.1 hth
      obtain ⟨B, rfl, _⟩ := hth
      unfold thrownY
      go_wp2
      exact ⟨rfl, hfin⟩
    | some b =>
      obtain ⟨l1, l2⟩ := ends_lt (HQ.out.2.symm)
      rw [List.length_map, ← HI.out.2.2.2.1] at l1 l2
      have hi2 : idx (some a) = (a : Int) := rfl
      have hi3 : idx (some b) = (b : Int) := rfl
      have ha0 : ¬ ((a : Int) < 0) := by omega
      have hb0 : ¬ ((b : Int) < 0) := by omega
      have ha1 : (0 : Int) ≤ (a : Int) := by omega
      have ha2 : (a : Int) < (n : Int) := by omega
      obtain ⟨y, hy⟩ : ∃ y, cs[a]? = some y := ⟨_, List.getElem?_eq_getElem (by have := HI.out.2.2.2.1; omega)⟩
      obtain ⟨Y, hY, _, _, gy⟩ := lie_at H2.out.2 a y hy
      injection hY with hY
      subst hY
      have y7 := gy 7 _ rfl
      have HY : Hid (((cs.map C.d)[a]?.map (·.mn)) = some y.d.mn) := by
        show ((cs.map C.d)[a]?.map (·.mn)) = some y.d.mn
        rw [List.getElem?_map, hy]; rfl
      clear hy gy
      by_cases r2 : x.d.ru = 2
      · rw [r2] at a9
        cases hm : y.d.mn with
        | false =>
          rw [hm] at y7
          have HT : Hid (q = some (13, x.d.at_)) := by
            show q = _
            rw [HQ.out.1]
            unfold ruleW
            rw [if_neg HI.out.2.2.2.2.2, ← HQ.out.2]
            dsimp only
            rw [if_pos ⟨r2, by rw [HY.out, hm]; decide⟩]
          go_wp2_with fail
          refine (cT 13 w2).mono ?_
          rintro e w3 hth
          have hfin := LookA.of_thr HT.out H2.out.1 hth
          obtain ⟨B, rfl, _⟩ := hth
          unfold thrownY
          go_wp2
          exact ⟨rfl, hfin⟩
        | true =>
          rw [hm] at y7
          by_cases hba : b < a
          · have hba' : (b : Int) < (a : Int) := by omega
            have HT : Hid (q = some (10, x.d.at_)) := by
              show q = _
              rw [HQ.out.1]
              unfold ruleW
              rw [if_neg HI.out.2.2.2.2.2, ← HQ.out.2]
              dsimp only
              rw [if_neg (fun hc => hc.2 (by rw [HY.out, hm])), if_neg (fun hc => by omega)]
              rw [if_pos hba]
            go_wp2_with fail
            refine (cT 10 w2).mono ?_
            rintro e w3 hth
            have hfin := LookA.of_thr HT.out H2.out.1 hth
            obtain ⟨B, rfl, _⟩ := hth
            unfold thrownY
            go_wp2
            exact ⟨rfl, hfin⟩
          · have hba' : ¬ ((b : Int) < (a : Int)) := by omega
            by_cases hai : a ≤ i
            · have hai' : (a : Int) ≤ (i : Int) := by omega
              by_cases hib : i ≤ b
              · have hib' : (i : Int) ≤ (b : Int) := by omega
                have HT : Hid (q = some (6, x.d.at_)) := by
                  show q = _
                  rw [HQ.out.1]
                  unfold ruleW
                  rw [if_neg HI.out.2.2.2.2.2, ← HQ.out.2]
                  dsimp only
                  rw [if_neg (fun hc => hc.2 (by rw [HY.out, hm])), if_neg (fun hc => by omega)]
                  rw [if_neg hba, if_pos ⟨hai, hib⟩]
                go_wp2_with fail
                refine (cT 6 w2).mono ?_
                rintro e w3 hth
                have hfin := LookA.of_thr HT.out H2.out.1 hth
                obtain ⟨B, rfl, _⟩ := hth
                unfold thrownY
                go_wp2
                exact ⟨rfl, hfin⟩
              · have hib' : ¬ ((i : Int) ≤ (b : Int)) := by omega
                have HT : Hid (q = none) := by
                  show q = _
                  rw [HQ.out.1]
                  unfold ruleW
                  rw [if_neg HI.out.2.2.2.2.2, ← HQ.out.2]
                  dsimp only
                  rw [if_neg (fun hc => hc.2 (by rw [HY.out, hm])), if_neg (fun hc => by omega)]
                  rw [if_neg hba, if_neg (fun hc => hib hc.2)]
                have hfin := LookA.of_none HT.out H2.out.1
                go_wp2
                go_end0
                exact hfin
            · have hai' : ¬ ((a : Int) ≤ (i : Int)) := by omega
              have HT : Hid (q = none) := by
                show q = _
                rw [HQ.out.1]
                unfold ruleW
                rw [if_neg HI.out.2.2.2.2.2, ← HQ.out.2]
                dsimp only
                rw [if_neg (fun hc => hc.2 (by rw [HY.out, hm])), if_neg (fun hc => by omega)]
                rw [if_neg hba, if_neg (fun hc => hai hc.1)]
              have hfin := LookA.of_none HT.out H2.out.1
              go_wp2
              go_end0
              exact hfin
      · have r2' : ¬ ((x.d.ru : Int) = 2) := by omega
        by_cases r3 : x.d.ru = 3
        · rw [r3] at a9
          by_cases hwd : x.d.wd = 4
          · rw [hwd] at a4
            cases hs : x.d.sg with
            | true =>
              rw [hs] at a6
              have HT : Hid (q = some (13, x.d.at_)) := by
                show q = _
                rw [HQ.out.1]
                unfold ruleW
                rw [if_neg HI.out.2.2.2.2.2, ← HQ.out.2]
                dsimp only
                rw [if_neg (fun hc => r2 hc.1), if_pos ⟨r3, Or.inr hs⟩]
              go_wp2_with fail
              refine (cT 13 w2).mono ?_
              rintro e w3 hth
              have hfin := LookA.of_thr HT.out H2.out.1 hth
              obtain ⟨B, rfl, _⟩ := hth
              unfold thrownY
              go_wp2
              exact ⟨rfl, hfin⟩
            | false =>
              rw [hs] at a6
              by_cases hba : b < a
              · have hba' : (b : Int) < (a : Int) := by omega
                have HT : Hid (q = some (10, x.d.at_)) := by
                  show q = _
                  rw [HQ.out.1]
                  unfold ruleW
                  rw [if_neg HI.out.2.2.2.2.2, ← HQ.out.2]
                  dsimp only
                  rw [if_neg (fun hc => r2 hc.1), if_neg (fun hc => by rcases hc.2 with h | h; exact h hwd; rw [hs] at h; cases h)]
                  rw [if_pos hba]
                go_wp2_with fail
                refine (cT 10 w2).mono ?_
                rintro e w3 hth
                have hfin := LookA.of_thr HT.out H2.out.1 hth
                obtain ⟨B, rfl, _⟩ := hth
                unfold thrownY
                go_wp2
                exact ⟨rfl, hfin⟩
              · have hba' : ¬ ((b : Int) < (a : Int)) := by omega
                by_cases hai : a ≤ i
                · have hai' : (a : Int) ≤ (i : Int) := by omega
                  by_cases hib : i ≤ b
                  · have hib' : (i : Int) ≤ (b : Int) := by omega
                    have HT : Hid (q = some (6, x.d.at_)) := by
                      show q = _
                      rw [HQ.out.1]
                      unfold ruleW
                      rw [if_neg HI.out.2.2.2.2.2, ← HQ.out.2]
                      dsimp only
                      rw [if_neg (fun hc => r2 hc.1), if_neg (fun hc => by rcases hc.2 with h | h; exact h hwd; rw [hs] at h; cases h)]
                      rw [if_neg hba, if_pos ⟨hai, hib⟩]
                    go_wp2_with fail
                    refine (cT 6 w2).mono ?_
                    rintro e w3 hth
                    have hfin := LookA.of_thr HT.out H2.out.1 hth
                    obtain ⟨B, rfl, _⟩ := hth
                    unfold thrownY
                    go_wp2
                    exact ⟨rfl, hfin⟩
                  · have hib' : ¬ ((i : Int) ≤ (b : Int)) := by omega
                    have HT : Hid (q = none) := by
                      show q = _
                      rw [HQ.out.1]
                      unfold ruleW
                      rw [if_neg HI.out.2.2.2.2.2, ← HQ.out.2]
                      dsimp only
                      rw [if_neg (fun hc => r2 hc.1), if_neg (fun hc => by rcases hc.2 with h | h; exact h hwd; rw [hs] at h; cases h)]
                      rw [if_neg hba, if_neg (fun hc => hib hc.2)]
                    have hfin := LookA.of_none HT.out H2.out.1
                    go_wp2
                    go_end0
                    exact hfin
                · have hai' : ¬ ((a : Int) ≤ (i : Int)) := by omega
                  have HT : Hid (q = none) := by
                    show q = _
                    rw [HQ.out.1]
                    unfold ruleW
                    rw [if_neg HI.out.2.2.2.2.2, ← HQ.out.2]
                    dsimp only
                    rw [if_neg (fun hc => r2 hc.1), if_neg (fun hc => by rcases hc.2 with h | h; exact h hwd; rw [hs] at h; cases h)]
                    rw [if_neg hba, if_neg (fun hc => hai hc.1)]
                  have hfin := LookA.of_none HT.out H2.out.1
                  go_wp2
                  go_end0
                  exact hfin
          · have hwd' : ¬ ((x.d.wd : Int) = 4) := by omega
            have HT : Hid (q = some (13, x.d.at_)) := by
              show q = _
              rw [HQ.out.1]
              unfold ruleW
              rw [if_neg HI.out.2.2.2.2.2, ← HQ.out.2]
              dsimp only
              rw [if_neg (fun hc => r2 hc.1), if_pos ⟨r3, Or.inl hwd⟩]
            go_wp2_with fail
            refine (cT 13 w2).mono ?_
            rintro e w3 hth
            have hfin := LookA.of_thr HT.out H2.out.1 hth
            obtain ⟨B, rfl, _⟩ := hth
            unfold thrownY
            go_wp2
            exact ⟨rfl, hfin⟩
        · have r3' : ¬ ((x.d.ru : Int) = 3) := by omega
          by_cases hba : b < a
          · have hba' : (b : Int) < (a : Int) := by omega
            have HT : Hid (q = some (10, x.d.at_)) := by
              show q = _
              rw [HQ.out.1]
              unfold ruleW
              rw [if_neg HI.out.2.2.2.2.2, ← HQ.out.2]
              dsimp only
              rw [if_neg (fun hc => r2 hc.1), if_neg (fun hc => r3 hc.1)]
              rw [if_pos hba]
            go_wp2_with fail
            refine (cT 10 w2).mono ?_
            rintro e w3 hth
            have hfin := LookA.of_thr HT.out H2.out.1 hth
            obtain ⟨B, rfl, _⟩ := hth
            unfold thrownY
            go_wp2
            exact ⟨rfl, hfin⟩
          · have hba' : ¬ ((b : Int) < (a : Int)) := by omega
            by_cases hai : a ≤ i
            · have hai' : (a : Int) ≤ (i : Int) := by omega
              by_cases hib : i ≤ b
              · have hib' : (i : Int) ≤ (b : Int) := by omega
                have HT : Hid (q = some (6, x.d.at_)) := by
                  show q = _
                  rw [HQ.out.1]
                  unfold ruleW
                  rw [if_neg HI.out.2.2.2.2.2, ← HQ.out.2]
                  dsimp only
                  rw [if_neg (fun hc => r2 hc.1), if_neg (fun hc => r3 hc.1)]
                  rw [if_neg hba, if_pos ⟨hai, hib⟩]
                go_wp2_with fail
                refine (cT 6 w2).mono ?_
                rintro e w3 hth
                have hfin := LookA.of_thr HT.out H2.out.1 hth
                obtain ⟨B, rfl, _⟩ := hth
                unfold thrownY
                go_wp2
                exact ⟨rfl, hfin⟩
              · have hib' : ¬ ((i : Int) ≤ (b : Int)) := by omega
                have HT : Hid (q = none) := by
                  show q = _
                  rw [HQ.out.1]
                  unfold ruleW
                  rw [if_neg HI.out.2.2.2.2.2, ← HQ.out.2]
                  dsimp only
                  rw [if_neg (fun hc => r2 hc.1), if_neg (fun hc => r3 hc.1)]
                  rw [if_neg hba, if_neg (fun hc => hib hc.2)]
                have hfin := LookA.of_none HT.out H2.out.1
                go_wp2
                go_end0
                exact hfin
            · have hai' : ¬ ((a : Int) ≤ (i : Int)) := by omega
              have HT : Hid (q = none) := by
                show q = _
                rw [HQ.out.1]
                unfold ruleW
                rw [if_neg HI.out.2.2.2.2.2, ← HQ.out.2]
                dsimp only
                rw [if_neg (fun hc => r2 hc.1), if_neg (fun hc => r3 hc.1)]
                rw [if_neg hba, if_neg (fun hc => hai hc.1)]
              have hfin := LookA.of_none HT.out H2.out.1
              go_wp2
              go_end0
              exact hfin
end Go.Proofs.YtococaecjecjgaaGreatDoor.tm
/- A row of numbers that grows: what append makes of it, and what lies in it then; two rows that lie apart. -/
namespace Go.Proofs.YtococaecjecjgaaGreatDoor.ri
set_option linter.unusedVariables false
open Go.ChangeShapes Go.WideShapes Go.ChangeAt Go.RowKit
open mem

def rowI (l : List Int) : List Value := l.map (Value.int .i64)
theorem rowI_get (l : List Int) (k : Nat) (h : k < l.length) : (rowI l)[k]? = some (.int .i64 (l.getD k 0)) := by simp [rowI, h]
theorem infoI : (Tryz.prog.info? 3).map (fun i => (i.zero, i.size, i.bytes)) = some (some (.int .i64 0), 1, 8) := by kernel_rfl
theorem infoI' : ∃ i, Tryz.prog.info? 3 = some i ∧ i.zero = some (.int .i64 0) ∧ i.size = 1 ∧ i.bytes = 8 := by
  obtain ⟨i, h1, h2⟩ := Option.map_eq_some_iff.1 infoI
  simp only [Prod.mk.injEq] at h2
  exact ⟨i, h1, h2.1, h2.2.1, h2.2.2⟩
/-- A row of the call's own that holds just these numbers. -/
def Own (w : World) (base : Nat) (v : Value) (l : List Int) : Prop := w.ownsRow base 3 1 v l.length (rowI l)
theorem Own.nil (w : World) (base : Nat) : Own w base (.slice none 0 0) [] := World.ownsRow_nil _ _ _ _
theorem Own.shape {w : World} {base : Nat} {v : Value} {l : List Int} (h : Own w base v l) : (v = .slice none 0 0 ∧ l = []) ∨
    ∃ g cap, v = .slice (some ⟨g, 0, none⟩) l.length cap ∧ base ≤ g ∧ g < w.heap.size ∧ l.length ≤ cap ∧ cap ≤ maxLen ∧ ∀ k, k < l.length → w.cell? ⟨g, k, none⟩ = some (.int .i64 (l.getD k 0)) := by
  rcases h.2 with ⟨h1, h2⟩ | ⟨g, cap, cur, rfl, hbg, hg, hnc, hcm, hcs, htake⟩
  · exact Or.inl ⟨h1, List.eq_nil_of_length_eq_zero h2⟩
  · refine Or.inr ⟨g, cap, rfl, hbg, ?_, hnc, hcm, fun k hk => ?_⟩
    · rcases Nat.lt_or_ge g w.heap.size with h | h
      · exact h
      · rw [Array.getElem?_eq_none h] at hg; cases hg
    · have := rowI_get l k hk
      rw [← htake, Nat.mul_one, List.getElem?_take, if_pos hk] at this
      simp only [World.cell?, hg]
      simpa using this
theorem Own.block {w : World} {base : Nat} {v : Value} {l : List Int} (h : Own w base v l) : ∀ k, v.ownBlock = some k → base ≤ k ∧ k < w.heap.size := World.ownsRow.lt h
theorem Own.step {w w' : World} {base : Nat} {v : Value} {l : List Int} (h : Own w base v l) (hb : Bl w w') : Own w' base v l := by
  refine ⟨h.1, ?_⟩
  rcases h.2 with h | ⟨g, cap, cur, h1, h2, h3, h4⟩
  · exact Or.inl h
  · refine Or.inr ⟨g, cap, cur, h1, h2, ?_, h4⟩
    have hg : g < w.heap.size := by
      rcases Nat.lt_or_ge g w.heap.size with h | h
      · exact h
      · rw [Array.getElem?_eq_none h] at h3; cases h3
    rw [Below.block hb g hg]
    exact h3
theorem Own.kept {w w' : World} {base : Nat} {v : Value} {l : List Int} {row : Option Nat} (h : Own w base v l) (hg : w.grownBy w' row) (hne : ∀ k, v.ownBlock = some k → row ≠ some k) : Own w' base v l :=
  World.ownsRow.kept h hg (by
    cases e : v.ownBlock with
    | none => exact Or.inl rfl
    | some k => exact Or.inr (fun e' => hne k e e'.symm))
theorem bl_grown {w0 w w' : World} {row : Option Nat} (h : Bl w0 w) (hg : w.grownBy w' row) (hrow : ∀ k, row = some k → w0.heap.size ≤ k) : Bl w0 w' := by
  refine ⟨hg.os.trans h.os, hg.tape.trans h.tape, hg.output.trans h.output, Nat.le_trans h.size hg.size, fun k hk => ?_⟩
  rw [hg.block k (Nat.lt_of_lt_of_le hk h.size) (fun e => by have := hrow k e.symm; omega)]
  exact h.block k hk
theorem app_one (w : World) (base : Nat) (v : Value) (l : List Int) (z : Int) (X : Nat) (hown : Own w base v l) (hX : w.cell? ⟨X, 0, none⟩ = some (.int .i64 z)) (hn : l.length ≤ 5000) (hb : base ≤ w.heap.size) :
    ∃ v' w', (Builtin.append_ #[198, 198] 198 #[v, .slice (some ⟨X, 0, none⟩) 1 1]).run Tryz.prog w = .ok v' w' ∧ Own w' base v' (l ++ [z]) ∧ w.grownBy w' v.ownBlock ∧ (v'.ownBlock = v.ownBlock ∨ v'.ownBlock = some w.heap.size) := by
  obtain ⟨i, hi, hz, h1, h2⟩ := infoI'
  have hnews : ∀ j u, [Value.int .i64 z][j]? = some u → w.cell? ((⟨X, 0, none⟩ : Addr).add j) = some u := fun j u hu => by
    cases j with
    | zero => simp at hu; subst hu; simpa [Addr.add] using hX
    | succ j => simp at hu
  obtain ⟨v', w', hr, ho, hg, _⟩ := run_append_own (P := Tryz.prog) w base 198 198 3 i (.int .i64 0) 1 8 Tryz.underlying198 hi hz h1 h2 rfl (by decide) v l.length (rowI l) hown
    ⟨X, 0, none⟩ 1 1 [.int .i64 z] rfl hnews (fun u hu => by simp at hu; subst hu; rfl) (by simp [maxLen]; omega) (by omega) hb
  refine ⟨v', w', hr, ?_, hg, ?_⟩
  · have e : rowI (l ++ [z]) = rowI l ++ [.int .i64 z] := by simp [rowI]
    unfold Own
    rw [e, List.length_append]
    exact ho
  · rcases hown.2 with ⟨rfl, hl0⟩ | ⟨g, cap, cur, rfl, hbg, hg, hnc, hcm, hcs, htake⟩
    · have hr2 := run_append_nil (P := Tryz.prog) w 198 198 3 i (.int .i64 0) Tryz.underlying198 hi hz ⟨X, 0, none⟩ 1 1 [.int .i64 z] (by rw [h1]; rfl) hnews (by omega) (by omega) (by rw [h2]; omega)
      rw [hr2] at hr
      injection hr with e1 _
      exact Or.inr (by rw [← e1]; rfl)
    · by_cases hroom : l.length + 1 ≤ cap
      · have hr2 := run_append_room (P := Tryz.prog) w 198 198 3 i Tryz.underlying198 hi g l.length cap cur hg ⟨X, 0, none⟩ 1 1 [.int .i64 z] (by rw [h1]; rfl) hnews (fun u hu => by simp at hu; subst hu; rfl) hroom (by rw [h1, hcs]; simp; omega)
        rw [hr2] at hr
        injection hr with e1 _
        exact Or.inl (by rw [← e1]; rfl)
      · have holds : ∀ j u, (rowI l)[j]? = some u → w.cell? ((⟨g, 0, none⟩ : Addr).add j) = some u := World.ownsRow.cells hown (g := g) rfl
        have hr2 := run_append_grow (P := Tryz.prog) w 198 198 3 i (.int .i64 0) Tryz.underlying198 hi hz ⟨g, 0, none⟩ l.length cap (rowI l) (by rw [h1]; exact hown.1) holds ⟨X, 0, none⟩ 1 1 [.int .i64 z] (by rw [h1]; rfl) hnews (by omega) (by omega) (growslice_fits (by omega) (by rw [h2]; omega))
        rw [hr2] at hr
        injection hr with e1 _
        exact Or.inr (by rw [← e1]; rfl)
/-- Two rows of the call's own that lie apart. -/
structure Own2 (w : World) (base : Nat) (v1 : Value) (l1 : List Int) (v2 : Value) (l2 : List Int) : Prop where
  a : Own w base v1 l1
  b : Own w base v2 l2
  apart : ∀ k, v1.ownBlock = some k → v2.ownBlock ≠ some k
  le : base ≤ w.heap.size
theorem Own2.step {w w' : World} {base : Nat} {v1 v2 : Value} {l1 l2 : List Int} (h : Own2 w base v1 l1 v2 l2) (hb : Bl w w') : Own2 w' base v1 l1 v2 l2 :=
  ⟨h.a.step hb, h.b.step hb, h.apart, Nat.le_trans h.le hb.size⟩
theorem Own2.alloc {w : World} {base : Nat} {v1 v2 : Value} {l1 l2 : List Int} (h : Own2 w base v1 l1 v2 l2) (o : Obj) : Own2 (w.alloc o) base v1 l1 v2 l2 := h.step ((Bl.refl w).alloc o)
theorem Own2.first {w w' : World} {base : Nat} {v1 v2 v' : Value} {l1 l2 l' : List Int} (h : Own2 w base v1 l1 v2 l2) (ho : Own w' base v' l') (hg : w.grownBy w' v1.ownBlock) (hv : v'.ownBlock = v1.ownBlock ∨ v'.ownBlock = some w.heap.size) : Own2 w' base v' l' v2 l2 := by
  refine ⟨ho, h.b.kept hg (fun k e e' => h.apart k e' e), fun k e e' => ?_, Nat.le_trans h.le hg.size⟩
  rcases hv with hv | hv
  · exact h.apart k (by rw [← hv]; exact e) e'
  · have := (h.b.block k e').2
    rw [hv] at e
    injection e with e
    omega
end Go.Proofs.YtococaecjecjgaaGreatDoor.ri
