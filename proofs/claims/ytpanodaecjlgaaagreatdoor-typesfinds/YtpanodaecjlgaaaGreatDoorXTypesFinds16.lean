/- Texts laid together: Ty3, Ty4, Ri, Ty5, TyP. -/
import Derived.Test.YtpanodaecjlgaaaGreatDoorXTypesFinds15
import Derived.Test.YtpanodaecjlgaaaGreatDoorXTypesFinds8
import Derived.Test.YtpanodaecjlgaaaGreatDoorXTypesFinds5
import Derived.Laws.AppendOwn
import Derived.Lib.AppendZeros
/- Whether templates fit together: sets of names; whether an expression's names are seen. -/
namespace Go.Proofs.YtpanodaecjlgaaaGreatDoor.tm
set_option linter.unusedVariables false
open Go.ChangeShapes Go.WideShapes Go.ChangeAt Go.RowKit Go.Shelf
open mem lx ex
open Go.Maps

theorem om_drop {w : World} {b c : Nat} {f : List UInt8 → Option Int} (h : Om w b f c) (t : ByteArray) (ht : t.size ≤ 5000) (ty : TypeId) :
    ∃ w', (Builtin.delete_ #[66, 9] ty #[.map (some b), .string t]).run Tryz.prog w = .ok (.tuple #[]) w' ∧ Om w' b (fun y => if y = t.data.toList then none else f y) c ∧ w.grownBy w' (some b) := by
  obtain ⟨D, h1, h2⟩ := h
  obtain ⟨w', hr, ho, hg⟩ := h1.drop lawS Tryz.underlying66 (WideMaps.keyOf_string_mk Tryz.underlying9 (s := t) (by unfold maxLen; omega)) ty
  refine ⟨w', hr, ⟨_, ho, fun y hy => ?_⟩, hg.grown⟩
  show Maps.has (D.del (skey t.data.toList)) (skey y) = _ ∧ (D.del (skey t.data.toList)).atKey (skey y) _ = _
  by_cases e : y = t.data.toList
  · subst e
    rw [has_del_same, atKey_del_same]
    simp
  · rw [has_del_other (skey_inj e), atKey_del_other (skey_inj e)]
    simp only [if_neg e]
    exact h2 y hy
/-- A map that holds just these names. -/
def SetM (w : World) (b : Nat) (S : List (List UInt8)) (k : Nat) : Prop := ∃ f c, Om w b f c ∧ c ≤ k ∧ ∀ y, (f y).isSome = true ↔ y ∈ S
theorem SetM.made (w : World) : SetM (w.alloc (.map #[] 0)) w.heap.size [] 0 := ⟨_, _, Om.made w, Nat.le_refl _, fun y => by simp⟩
theorem SetM.step {w w' : World} {b k : Nat} {S : List (List UInt8)} {row : Option Nat} (h : SetM w b S k) (hg : w.grownBy w' row) (hne : some b ≠ row) : SetM w' b S k := by
  obtain ⟨f, c, h1, h2, h3⟩ := h
  exact ⟨f, c, h1.step hg hne, h2, h3⟩
theorem SetM.bl {w w' : World} {b k : Nat} {S : List (List UInt8)} (h : SetM w b S k) (hb : Bl w w') : SetM w' b S k := h.step (row := none) ⟨hb.os, hb.tape, hb.output, hb.size, fun k hk _ => Below.block hb k hk⟩ (by simp)
theorem SetM.mono {w : World} {b k k' : Nat} {S : List (List UInt8)} (h : SetM w b S k) (hk : k ≤ k') : SetM w b S k' := by
  obtain ⟨f, c, h1, h2, h3⟩ := h
  exact ⟨f, c, h1, by omega, h3⟩
theorem SetM.same {w : World} {b k : Nat} {S S' : List (List UInt8)} (h : SetM w b S k) (hs : ∀ y, y ∈ S ↔ y ∈ S') : SetM w b S' k := by
  obtain ⟨f, c, h1, h2, h3⟩ := h
  exact ⟨f, c, h1, h2, fun y => (h3 y).trans (hs y)⟩
theorem SetM.lt {w : World} {b k : Nat} {S : List (List UInt8)} (h : SetM w b S k) : b < w.heap.size := by
  obtain ⟨f, c, h1, h2, h3⟩ := h
  exact om_lt h1
theorem SetM.look {w : World} {b k : Nat} {S : List (List UInt8)} (h : SetM w b S k) (t : List UInt8) (ht : t.length ≤ 5000) :
    ∃ x : Int, (Instr.lookup 66 (.map (some b)) (.string (tx t)) true).run Tryz.prog w = .ok (.tuple #[.int .i64 x, .bool (decide (t ∈ S))]) w := by
  obtain ⟨f, c, h1, h2, h3⟩ := h
  have := h1.look (tx t) (by rw [tx_size]; exact ht)
  have e : (tx t).data.toList = t := L_tx _
  rw [e] at this
  have hb : (f t).isSome = decide (t ∈ S) := by rw [Bool.eq_iff_iff, h3 t]; simp
  rw [hb] at this
  exact ⟨_, this⟩
theorem SetM.put {w : World} {b k : Nat} {S : List (List UInt8)} (h : SetM w b S k) (t : List UInt8) (x : Int) (ht : t.length ≤ 5000) (hx : R64 x) (hk : k ≤ 5000) :
    ∃ w', (Instr.mapUpdate 66 (.map (some b)) (.string (tx t)) (.int .i64 x)).run Tryz.prog w = .ok () w' ∧ SetM w' b (t :: S) (k + 1) ∧ w.grownBy w' (some b) := by
  obtain ⟨f, c, h1, h2, h3⟩ := h
  obtain ⟨w', r, o, g⟩ := h1.put (tx t) x (by rw [tx_size]; exact ht) hx (by omega)
  have e : (tx t).data.toList = t := L_tx _
  rw [e] at o
  refine ⟨w', r, ⟨_, _, o, by omega, fun y => ?_⟩, g⟩
  by_cases hy : y = t
  · simp [hy]
  · simp only [List.mem_cons, hy, false_or]
    exact h3 y
theorem SetM.drop {w : World} {b k : Nat} {S : List (List UInt8)} (h : SetM w b S k) (t : List UInt8) (ht : t.length ≤ 5000) (ty : TypeId) :
    ∃ w', (Builtin.delete_ #[66, 9] ty #[.map (some b), .string (tx t)]).run Tryz.prog w = .ok (.tuple #[]) w' ∧ SetM w' b (S.filter (fun y => y ≠ t)) k ∧ w.grownBy w' (some b) := by
  obtain ⟨f, c, h1, h2, h3⟩ := h
  obtain ⟨w', r, o, g⟩ := om_drop h1 (tx t) (by rw [tx_size]; exact ht) ty
  have e : (tx t).data.toList = t := L_tx _
  rw [e] at o
  refine ⟨w', r, ⟨_, _, o, h2, fun y => ?_⟩, g⟩
  by_cases hy : y = t
  · simp [hy]
  · simp only [if_neg hy, List.mem_filter]
    rw [h3 y]
    simp [hy]
theorem ev_mis {f : List UInt8 → Option Int} {S : List (List UInt8)} (h : ∀ y, (f y).isSome = true ↔ y ∈ S) (x : Ex) : (∀ p, mis S x = some p → ev f x = .error p) ∧ (mis S x = none → ∃ n, ev f x = .ok n) := by
  induction x with
  | num a n => exact ⟨fun p hp => (by cases hp), fun _ => ⟨_, rfl⟩⟩
  | nam a t =>
    rw [mis, ev]
    by_cases ht : t ∈ S
    · rw [if_pos ht]
      have := (h t).2 ht
      cases hf : f t with
      | none => rw [hf] at this; cases this
      | some n => exact ⟨fun p hp => (by cases hp), fun _ => ⟨_, rfl⟩⟩
    · rw [if_neg ht]
      cases hf : f t with
      | none => exact ⟨fun p hp => (by injection hp with hp; rw [hp]), fun hp => (by cases hp)⟩
      | some n => exact absurd ((h t).1 (by rw [hf]; rfl)) ht
  | bin a o l r il ir =>
    rw [mis, ev]
    cases hl : mis S l with
    | some p =>
      rw [il.1 p hl]
      exact ⟨fun q hq => (by injection hq with hq; rw [hq]), fun hp => (by cases hp)⟩
    | none =>
      obtain ⟨n, hn⟩ := il.2 hl
      rw [hn]
      dsimp only
      cases hr : mis S r with
      | some p =>
        rw [ir.1 p hr]
        exact ⟨fun q hq => (by injection hq with hq; rw [hq]), fun hp => (by cases hp)⟩
      | none =>
        obtain ⟨m, hm⟩ := ir.2 hr
        rw [hm]
        exact ⟨fun q hq => (by cases hq), fun _ => ⟨_, rfl⟩⟩
theorem value_nil (m : Option Nat) (w : World) : Calls Tryz.prog 135 #[.pointer none, .map m] w fun e w' => e = .returned (.int .i64 0) ∧ w' = w := by
  go_enter Tryz.func135, Tryz.ntmps135
  go_wp2
  go_ret
  exact ⟨rfl, rfl⟩
set_option maxRecDepth 10000 in
theorem reckoned_nil (m : Option Nat) (w : World) :
    Calls Tryz.prog 118 #[.pointer none, .map m] w fun e w' => e = .returned (.tuple #[.int .i64 0, .nilIface]) ∧ Bl w w' := by
  have hmf : ∀ (fn : Fn) (first cap : Array Value) (w : World), (Instr.makeFunc fn first cap).run Tryz.prog w = .ok (.func fn first cap) w := fun _ _ _ _ => rfl
  have H0 : Hid _ := Ev.new w
  have cV := value_nil m
  obtain ⟨N, hN⟩ : ∃ N, N = w.heap.size := ⟨_, rfl⟩
  rw [← hN] at H0
  obtain ⟨w2, hw2⟩ : ∃ w2, w2 = (w.alloc (.cells #[.int .i64 0] 3)).alloc (.cells #[.nilIface] 30) := ⟨_, rfl⟩
  rw [← hw2] at H0
  go_enter_defers Tryz.func118, Tryz.ntmps118
  go_wp2_with fail
  rw [← hw2, ← hN]
  clear hw2 hN
  refine (cV _).mono ?_
  rintro e w4 ⟨rfl, rfl⟩
  have H4 : Hid (Ev w w4 N (.int .i64 0) .nilIface) := H0.out
  have d1 := H4.out.v1.cell
  have d2 := H4.out.v2.cell
  have e1 := H4.out.v1.frozen
  have e2 := H4.out.v2.frozen
  go_wp2
  have H9 := (H4.out.set1 (.int .i64 0)).set2 .nilIface
  generalize (w4.setCell ⟨N, 0, none⟩ (.int .i64 0)).setCell ⟨N + 1, 0, none⟩ .nilIface = w9 at H9 ⊢
  have c1' := H9.v1.cell
  have c2' := H9.v2.cell
  refine leaves_cons (f := 134) (args := #[.pointer (some ⟨N, 0, none⟩), .pointer (some ⟨N + 1, 0, none⟩)]) (by simp) (by simp [go_sem]) ?_
  refine (ecatch_idle _ _ _).mono ?_
  rintro e u' w'' ⟨rfl, rfl, rfl⟩
  simp [Leaves, settle, results, Tryz.results118, go_sem, c1', c2']
  exact H9.bl
theorem Eval_nil (m : Option Nat) (w : World) :
    Calls Tryz.prog 97 #[.pointer none, .map m] w fun e w' => e = .returned (.tuple #[.int .i64 0, .nilIface]) ∧ Bl w w' := by
  have c := reckoned_nil m w
  go_enter Tryz.func97, Tryz.ntmps97
  go_wp2_with fail
  refine c.mono ?_
  rintro e w4 ⟨rfl, hb4⟩
  go_wp2
  go_ret2
  exact ⟨rfl, hb4⟩
theorem isO_lt {w : World} {pc : Option Addr} {o : Option Ex} (h : IsO w pc o) : o = none ∧ pc = none ∨ ∃ x, o = some x ∧ IsX w (.pointer pc) x := by
  cases o with
  | none => exact Or.inl ⟨rfl, h⟩
  | some x => exact Or.inr ⟨x, rfl, h⟩
/-- What asking answers. -/
def AskA (w : World) (q : Option Nat) (e : Ending) (w' : World) : Prop := Bl w w' ∧ match q with
  | none => e = .returned (.tuple #[])
  | some p => ∃ B : Nat, e = thrownY B ∧ w.heap.size ≤ B ∧ AtX w' B 5 (p : Int)
set_option maxRecDepth 10000 in
theorem ask_at (w : World) (K eb nb' sb k : Nat) (S : List (List UInt8)) (pc : Option Addr) (o : Option Ex) (hK : w.heap[K]? = some (.cells #[.map (some eb), .map (some nb'), .map (some sb)] 92 (0, 0))) (hS : SetM w sb S k) (hx : IsO w pc o) (ho : ∀ x, o = some x → Okb x) :
    Calls Tryz.prog 65 #[.pointer (some ⟨K, 0, none⟩), .pointer pc] w fun e w' => AskA w (misO S o) e w' := by
  have c2 : w.cell? ⟨K, 2, none⟩ = some (.map (some sb)) := by rw [cell_of hK]; rfl
  have hKs : K < w.heap.size := lt_of_heap hK
  rcases isO_lt hx with ⟨rfl, rfl⟩ | ⟨x, rfl, hxx⟩
  · have cE := Eval_nil (some sb) w
    clear hK hS hx ho
    go_enter Tryz.func65, Tryz.ntmps65
    go_wp2_with fail
    refine cE.mono ?_
    rintro e w4 ⟨rfl, hb4⟩
    go_wp2
    go_end0
    exact ⟨hb4, rfl⟩
  · obtain ⟨f, c, h1, h2, h3⟩ := hS
    have cE := Eval_at f (.map (some sb)) x (.pointer pc) w hxx (ho x rfl) h1.isM
    obtain ⟨m1, m2⟩ := ev_mis h3 x
    obtain ⟨xb, hxb, _⟩ := hxx.ptr
    injection hxb with hxb
    subst hxb
    cases hm : mis S x with
    | none =>
      obtain ⟨n, hn⟩ := m2 hm
      have HM : Hid (misO S (some x) = none) := hm
      rw [hn] at cE
      clear hK hx ho h1 h3 m1 m2 hxx hm hn
      go_enter Tryz.func65, Tryz.ntmps65
      go_wp2_with fail
      refine cE.mono ?_
      rintro e w4 ⟨hb4, rfl⟩
      go_wp2
      rw [HM.out]
      go_end0
      exact ⟨hb4, rfl⟩
    | some p =>
      have HM : Hid (misO S (some x) = some p) := hm
      rw [m1 p hm] at cE
      clear hK hx ho h1 h3 m1 m2 hxx hm
      go_enter Tryz.func65, Tryz.ntmps65
      go_wp2_with fail
      refine cE.mono ?_
      rintro e w4 ⟨hb4, B, rfl, hB1, hB2⟩
      go_wp2
      rw [HM.out]
      exact ⟨rfl, hb4, B, rfl, hB1, hB2⟩
end Go.Proofs.YtpanodaecjlgaaaGreatDoor.tm
/- Whether templates fit together: a rule. -/
namespace Go.Proofs.YtpanodaecjlgaaaGreatDoor.tm
set_option linter.unusedVariables false
open Go.ChangeShapes Go.WideShapes Go.ChangeAt Go.RowKit Go.Shelf
open mem lx ex

theorem nmd_lt {ds : List D} {t : List UInt8} {k : Nat} (h : nmd ds t = some k) : k < ds.length := by
  unfold nmd at h
  exact (List.findIdx?_eq_some_iff_getElem.1 h).1
theorem ends_lt {ds : List D} {d : D} {a b : Nat} (h : ends ds d = (some a, some b)) : a < ds.length ∧ b < ds.length := by
  obtain ⟨o1, o2⟩ := ends_is ds d
  by_cases h3 : d.ru = 3
  · rw [o2 h3] at h
    injection h with h1 h2
    exact ⟨nmd_lt h1, nmd_lt h2⟩
  · rw [o1 h3] at h
    injection h with h1 h2
    exact ⟨nmd_lt h1, nmd_lt h2⟩
/-- What looking answers. -/
def LookA (w : World) (q : Option (Int × Nat)) (e : Ending) (w' : World) : Prop := Bl w w' ∧ match q with
  | none => e = .returned (.tuple #[])
  | some (c, p) => ∃ B : Nat, e = thrownY B ∧ w.heap.size ≤ B ∧ AtX w' B c (p : Int)
theorem LookA.of_thr {w w1 w' : World} {q : Option (Int × Nat)} {c : Int} {p : Nat} {e : Ending} (hq : q = some (c, p)) (hb : Bl w w1) (h : ThrY w1 c (p : Int) e w') : LookA w q e w' := by
  obtain ⟨B, h1, h2, h3, h4⟩ := h
  rw [hq]
  exact ⟨hb.trans h4, B, h1, Nat.le_trans hb.size h2, h3⟩
theorem LookA.of_none {w w' : World} {q : Option (Int × Nat)} (hq : q = none) (hb : Bl w w') : LookA w q (.returned (.tuple #[])) w' := by
  rw [hq]
  exact ⟨hb, rfl⟩
set_option maxRecDepth 10000 in
set_option maxHeartbeats 8000000 in
theorem checkRule_at (x : C) (i : Nat) (cs : List C) (ok : Nat → Prop) (p : Option Addr) (n c : Nat) (w : World) (hin : ir.Lie w ok p n c cs) (hn : n ≤ 3000) (hx : cs[i]? = some x) (hr : x.d.ru ≠ 0) :
    Calls Tryz.prog 67 #[.slice p n c, .int .i64 (i : Int)] w fun e w' => LookA w (ruleW (cs.map C.d) i x.d) e w' := by
  have hil := (List.getElem?_eq_some_iff.1 hx).1
  have hnc := hin.1
  have hncap := hin.2.1
  obtain ⟨X, rfl, _, g0', g⟩ := lie_at hin i x hx
  have g0 : w.cell? (X.add (i * 13)) = some (.int .i64 (x.d.kd : Int)) := g0'
  clear g0'
  have g1 := g 1 _ rfl
  have g2 := g 2 _ rfl
  have g3 := g 3 _ rfl
  have g4 := g 4 _ rfl
  have g5 := g 5 _ rfl
  have g6 := g 6 _ rfl
  have g7 := g 7 _ rfl
  have g8 := g 8 _ rfl
  have g9 := g 9 _ rfl
  have g10 := g 10 _ rfl
  have g11 := g 11 _ rfl
  have g12 := g 12 _ rfl
  clear g
  have i0 : (0 : Int) ≤ (i : Int) := by omega
  have i1 : (i : Int) < (n : Int) := by omega
  obtain ⟨w1, hw1⟩ : ∃ w1, w1 = w.alloc (.cells (cl x).toArray 75) := ⟨_, rfl⟩
  obtain ⟨N, hN⟩ : ∃ N, N = w.heap.size := ⟨_, rfl⟩
  have hv : Iv w1 N x := ⟨by rw [hw1, hN]; exact new_at _ _⟩
  have hb1 : Bl w w1 := by rw [hw1]; exact (Bl.refl _).alloc _
  have cE := ends_at x cs ok (some X) n c w1 (lie_bl hin hb1) hn
  have HI : Hid (Bl w w1 ∧ Iv w1 N x ∧ ir.Lie w1 ok (some X) n c cs ∧ n = cs.length ∧ cs[i]? = some x ∧ x.d.ru ≠ 0) := ⟨hb1, hv, lie_bl hin hb1, hnc, hx, hr⟩
  obtain ⟨q, hq⟩ : ∃ q, q = ruleW (cs.map C.d) i x.d := ⟨_, rfl⟩
  rw [← hq]
  obtain ⟨E, hE⟩ : ∃ E, E = ends (cs.map C.d) x.d := ⟨_, rfl⟩
  rw [← hE] at cE
  have HQ : Hid (q = ruleW (cs.map C.d) i x.d ∧ E = ends (cs.map C.d) x.d) := ⟨hq, hE⟩
  unfold itV cl at cE
  clear hin hnc hx hr hb1 hq hE
  go_enter Tryz.func67, Tryz.ntmps67
  go_upto_region 1 with fail
  change Code.wp _ _ _ _ (w.alloc (.cells (cl x).toArray 75))
  rw [← hw1, ← hN]
  obtain ⟨a0, a1, a2, a3, a4, a5, a6, a7, a8, a9, a10, a11, a12⟩ := hv.facts
  have hNs := hv.lt
  clear hw1 hN hv g0 g1 g2 g3 g4 g5 g6 g7 g8 g9 g10 g11 g12
  go_upto_region 1 with fail
  go_wp2_with fail
  refine cE.mono ?_
  rintro e w2 ⟨rfl, hb2⟩
  clear cE a0 a1 a2 a3 a4 a5 a6 a7 a8 a9 a10 a11 a12
  obtain ⟨a0, a1, a2, a3, a4, a5, a6, a7, a8, a9, a10, a11, a12⟩ := (HI.out.2.1.bl hb2).facts
  have H2 : Hid (Bl w w2 ∧ ir.Lie w2 ok (some X) n c cs) := ⟨HI.out.1.trans hb2, lie_bl HI.out.2.2.1 hb2⟩
  have cT := ythrow_at (x.d.at_ : Int)
  clear hb2 a0 a2 a3 a5 a7 a8 a10 a11 a12
  obtain ⟨ea, eb⟩ := E
  cases ea with
  | none =>
    have hi : idx (none : Option Nat) = -1 := rfl
    have HT : Hid (q = some (7, x.d.at_)) := by
      show q = _
      rw [HQ.out.1]
      unfold ruleW
      rw [if_neg HI.out.2.2.2.2.2, ← HQ.out.2]

    go_wp2_with fail
    refine (cT 7 w2).mono ?_
    rintro e w3 hth
    have hfin := LookA.of_thr HT.out H2.out.1 hth
    obtain ⟨B, rfl, _⟩ := hth
    unfold thrownY
    go_wp2
    exact ⟨rfl, hfin⟩
  | some a =>
    cases eb with
    | none =>
      have hi : idx (none : Option Nat) = -1 := rfl
      have hi2 : idx (some a) = (a : Int) := rfl
      have ha0 : ¬ ((a : Int) < 0) := by omega
      have HT : Hid (q = some (7, x.d.at_)) := by
        show q = _
        rw [HQ.out.1]
        unfold ruleW
        rw [if_neg HI.out.2.2.2.2.2, ← HQ.out.2]

      go_wp2_with fail
      refine (cT 7 w2).mono ?_
      rintro e w3 hth
      have hfin := LookA.of_thr HT.out H2.out.1 hth
      obtain ⟨B, rfl, _⟩ := hth
      unfold thrownY
      go_wp2
      exact ⟨rfl, hfin⟩
    | some b =>
      obtain ⟨l1, l2⟩ := ends_lt (HQ.out.2.symm)
      rw [List.length_map, ← HI.out.2.2.2.1] at l1 l2
      have hi2 : idx (some a) = (a : Int) := rfl
      have hi3 : idx (some b) = (b : Int) := rfl
      have ha0 : ¬ ((a : Int) < 0) := by omega
      have hb0 : ¬ ((b : Int) < 0) := by omega
      have ha1 : (0 : Int) ≤ (a : Int) := by omega
      have ha2 : (a : Int) < (n : Int) := by omega
      obtain ⟨y, hy⟩ : ∃ y, cs[a]? = some y := ⟨_, List.getElem?_eq_getElem (by have := HI.out.2.2.2.1; omega)⟩
      obtain ⟨Y, hY, _, _, gy⟩ := lie_at H2.out.2 a y hy
      injection hY with hY
      subst hY
      have y7 := gy 7 _ rfl
      have HY : Hid (((cs.map C.d)[a]?.map (·.mn)) = some y.d.mn) := by
        show ((cs.map C.d)[a]?.map (·.mn)) = some y.d.mn
        rw [List.getElem?_map, hy]; rfl
      clear hy gy
      by_cases r2 : x.d.ru = 2
      · rw [r2] at a9
        cases hm : y.d.mn with
        | false =>
          rw [hm] at y7
          have HT : Hid (q = some (13, x.d.at_)) := by
            show q = _
            rw [HQ.out.1]
            unfold ruleW
            rw [if_neg HI.out.2.2.2.2.2, ← HQ.out.2]
            dsimp only
            rw [if_pos ⟨r2, by rw [HY.out, hm]; decide⟩]
          go_wp2_with fail
          refine (cT 13 w2).mono ?_
          rintro e w3 hth
          have hfin := LookA.of_thr HT.out H2.out.1 hth
          obtain ⟨B, rfl, _⟩ := hth
          unfold thrownY
          go_wp2
          exact ⟨rfl, hfin⟩
        | true =>
          rw [hm] at y7
          by_cases hba : b < a
          · have hba' : (b : Int) < (a : Int) := by omega
            have HT : Hid (q = some (10, x.d.at_)) := by
              show q = _
              rw [HQ.out.1]
              unfold ruleW
              rw [if_neg HI.out.2.2.2.2.2, ← HQ.out.2]
              dsimp only
              rw [if_neg (fun hc => hc.2 (by rw [HY.out, hm])), if_neg (fun hc => by omega)]
              rw [if_pos hba]
            go_wp2_with fail
            refine (cT 10 w2).mono ?_
            rintro e w3 hth
            have hfin := LookA.of_thr HT.out H2.out.1 hth
            obtain ⟨B, rfl, _⟩ := hth
            unfold thrownY
            go_wp2
            exact ⟨rfl, hfin⟩
          · have hba' : ¬ ((b : Int) < (a : Int)) := by omega
            by_cases hai : a ≤ i
            · have hai' : (a : Int) ≤ (i : Int) := by omega
              by_cases hib : i ≤ b
              · have hib' : (i : Int) ≤ (b : Int) := by omega
                have HT : Hid (q = some (6, x.d.at_)) := by
                  show q = _
                  rw [HQ.out.1]
                  unfold ruleW
                  rw [if_neg HI.out.2.2.2.2.2, ← HQ.out.2]
                  dsimp only
                  rw [if_neg (fun hc => hc.2 (by rw [HY.out, hm])), if_neg (fun hc => by omega)]
                  rw [if_neg hba, if_pos ⟨hai, hib⟩]
                go_wp2_with fail
                refine (cT 6 w2).mono ?_
                rintro e w3 hth
                have hfin := LookA.of_thr HT.out H2.out.1 hth
                obtain ⟨B, rfl, _⟩ := hth
                unfold thrownY
                go_wp2
                exact ⟨rfl, hfin⟩
              · have hib' : ¬ ((i : Int) ≤ (b : Int)) := by omega
                have HT : Hid (q = none) := by
                  show q = _
                  rw [HQ.out.1]
                  unfold ruleW
                  rw [if_neg HI.out.2.2.2.2.2, ← HQ.out.2]
                  dsimp only
                  rw [if_neg (fun hc => hc.2 (by rw [HY.out, hm])), if_neg (fun hc => by omega)]
                  rw [if_neg hba, if_neg (fun hc => hib hc.2)]
                have hfin := LookA.of_none HT.out H2.out.1
                go_wp2
                go_end0
                exact hfin
            · have hai' : ¬ ((a : Int) ≤ (i : Int)) := by omega
              have HT : Hid (q = none) := by
                show q = _
                rw [HQ.out.1]
                unfold ruleW
                rw [if_neg HI.out.2.2.2.2.2, ← HQ.out.2]
                dsimp only
                rw [if_neg (fun hc => hc.2 (by rw [HY.out, hm])), if_neg (fun hc => by omega)]
                rw [if_neg hba, if_neg (fun hc => hai hc.1)]
              have hfin := LookA.of_none HT.out H2.out.1
              go_wp2
              go_end0
              exact hfin
      · have r2' : ¬ ((x.d.ru : Int) = 2) := by omega
        by_cases r3 : x.d.ru = 3
        · rw [r3] at a9
          by_cases hwd : x.d.wd = 4
          · rw [hwd] at a4
            cases hs : x.d.sg with
            | true =>
              rw [hs] at a6
              have HT : Hid (q = some (13, x.d.at_)) := by
                show q = _
                rw [HQ.out.1]
                unfold ruleW
                rw [if_neg HI.out.2.2.2.2.2, ← HQ.out.2]
                dsimp only
                rw [if_neg (fun hc => r2 hc.1), if_pos ⟨r3, Or.inr hs⟩]
              go_wp2_with fail
              refine (cT 13 w2).mono ?_
              rintro e w3 hth
              have hfin := LookA.of_thr HT.out H2.out.1 hth
              obtain ⟨B, rfl, _⟩ := hth
              unfold thrownY
              go_wp2
              exact ⟨rfl, hfin⟩
            | false =>
              rw [hs] at a6
              by_cases hba : b < a
              · have hba' : (b : Int) < (a : Int) := by omega
                have HT : Hid (q = some (10, x.d.at_)) := by
                  show q = _
                  rw [HQ.out.1]
                  unfold ruleW
                  rw [if_neg HI.out.2.2.2.2.2, ← HQ.out.2]
                  dsimp only
                  rw [if_neg (fun hc => r2 hc.1), if_neg (fun hc => by rcases hc.2 with h | h; exact h hwd; rw [hs] at h; cases h)]
                  rw [if_pos hba]
                go_wp2_with fail
                refine (cT 10 w2).mono ?_
                rintro e w3 hth
                have hfin := LookA.of_thr HT.out H2.out.1 hth
                obtain ⟨B, rfl, _⟩ := hth
                unfold thrownY
                go_wp2
                exact ⟨rfl, hfin⟩
              · have hba' : ¬ ((b : Int) < (a : Int)) := by omega
                by_cases hai : a ≤ i
                · have hai' : (a : Int) ≤ (i : Int) := by omega
                  by_cases hib : i ≤ b
                  · have hib' : (i : Int) ≤ (b : Int) := by omega
                    have HT : Hid (q = some (6, x.d.at_)) := by
                      show q = _
                      rw [HQ.out.1]
                      unfold ruleW
                      rw [if_neg HI.out.2.2.2.2.2, ← HQ.out.2]
                      dsimp only
                      rw [if_neg (fun hc => r2 hc.1), if_neg (fun hc => by rcases hc.2 with h | h; exact h hwd; rw [hs] at h; cases h)]
                      rw [if_neg hba, if_pos ⟨hai, hib⟩]
                    go_wp2_with fail
                    refine (cT 6 w2).mono ?_
                    rintro e w3 hth
                    have hfin := LookA.of_thr HT.out H2.out.1 hth
                    obtain ⟨B, rfl, _⟩ := hth
                    unfold thrownY
                    go_wp2
                    exact ⟨rfl, hfin⟩
                  · have hib' : ¬ ((i : Int) ≤ (b : Int)) := by omega
                    have HT : Hid (q = none) := by
                      show q = _
                      rw [HQ.out.1]
                      unfold ruleW
                      rw [if_neg HI.out.2.2.2.2.2, ← HQ.out.2]
                      dsimp only
                      rw [if_neg (fun hc => r2 hc.1), if_neg (fun hc => by rcases hc.2 with h | h; exact h hwd; rw [hs] at h; cases h)]
                      rw [if_neg hba, if_neg (fun hc => hib hc.2)]
                    have hfin := LookA.of_none HT.out H2.out.1
                    go_wp2
                    go_end0
                    exact hfin
                · have hai' : ¬ ((a : Int) ≤ (i : Int)) := by omega
                  have HT : Hid (q = none) := by
                    show q = _
                    rw [HQ.out.1]
                    unfold ruleW
                    rw [if_neg HI.out.2.2.2.2.2, ← HQ.out.2]
                    dsimp only
                    rw [if_neg (fun hc => r2 hc.1), if_neg (fun hc => by rcases hc.2 with h | h; exact h hwd; rw [hs] at h; cases h)]
                    rw [if_neg hba, if_neg (fun hc => hai hc.1)]
                  have hfin := LookA.of_none HT.out H2.out.1
                  go_wp2
                  go_end0
                  exact hfin
          · have hwd' : ¬ ((x.d.wd : Int) = 4) := by omega
            have HT : Hid (q = some (13, x.d.at_)) := by
              show q = _
              rw [HQ.out.1]
              unfold ruleW
              rw [if_neg HI.out.2.2.2.2.2, ← HQ.out.2]
              dsimp only
              rw [if_neg (fun hc => r2 hc.1), if_pos ⟨r3, Or.inl hwd⟩]
            go_wp2_with fail
            refine (cT 13 w2).mono ?_
            rintro e w3 hth
            have hfin := LookA.of_thr HT.out H2.out.1 hth
            obtain ⟨B, rfl, _⟩ := hth
            unfold thrownY
            go_wp2
            exact ⟨rfl, hfin⟩
        · have r3' : ¬ ((x.d.ru : Int) = 3) := by omega
          by_cases hba : b < a
          · have hba' : (b : Int) < (a : Int) := by omega
            have HT : Hid (q = some (10, x.d.at_)) := by
              show q = _
              rw [HQ.out.1]
              unfold ruleW
              rw [if_neg HI.out.2.2.2.2.2, ← HQ.out.2]
              dsimp only
              rw [if_neg (fun hc => r2 hc.1), if_neg (fun hc => r3 hc.1)]
              rw [if_pos hba]
            go_wp2_with fail
            refine (cT 10 w2).mono ?_
            rintro e w3 hth
            have hfin := LookA.of_thr HT.out H2.out.1 hth
            obtain ⟨B, rfl, _⟩ := hth
            unfold thrownY
            go_wp2
            exact ⟨rfl, hfin⟩
          · have hba' : ¬ ((b : Int) < (a : Int)) := by omega
            by_cases hai : a ≤ i
            · have hai' : (a : Int) ≤ (i : Int) := by omega
              by_cases hib : i ≤ b
              · have hib' : (i : Int) ≤ (b : Int) := by omega
                have HT : Hid (q = some (6, x.d.at_)) := by
                  show q = _
                  rw [HQ.out.1]
                  unfold ruleW
                  rw [if_neg HI.out.2.2.2.2.2, ← HQ.out.2]
                  dsimp only
                  rw [if_neg (fun hc => r2 hc.1), if_neg (fun hc => r3 hc.1)]
                  rw [if_neg hba, if_pos ⟨hai, hib⟩]
                go_wp2_with fail
                refine (cT 6 w2).mono ?_
                rintro e w3 hth
                have hfin := LookA.of_thr HT.out H2.out.1 hth
                obtain ⟨B, rfl, _⟩ := hth
                unfold thrownY
                go_wp2
                exact ⟨rfl, hfin⟩
              · have hib' : ¬ ((i : Int) ≤ (b : Int)) := by omega
                have HT : Hid (q = none) := by
                  show q = _
                  rw [HQ.out.1]
                  unfold ruleW
                  rw [if_neg HI.out.2.2.2.2.2, ← HQ.out.2]
                  dsimp only
                  rw [if_neg (fun hc => r2 hc.1), if_neg (fun hc => r3 hc.1)]
                  rw [if_neg hba, if_neg (fun hc => hib hc.2)]
                have hfin := LookA.of_none HT.out H2.out.1
                go_wp2
                go_end0
                exact hfin
            · have hai' : ¬ ((a : Int) ≤ (i : Int)) := by omega
              have HT : Hid (q = none) := by
                show q = _
                rw [HQ.out.1]
                unfold ruleW
                rw [if_neg HI.out.2.2.2.2.2, ← HQ.out.2]
                dsimp only
                rw [if_neg (fun hc => r2 hc.1), if_neg (fun hc => r3 hc.1)]
                rw [if_neg hba, if_neg (fun hc => hai hc.1)]
              have hfin := LookA.of_none HT.out H2.out.1
              go_wp2
              go_end0
              exact hfin
end Go.Proofs.YtpanodaecjlgaaaGreatDoor.tm
/- A row of numbers that grows: what append makes of it, and what lies in it then; two rows that lie apart. -/
namespace Go.Proofs.YtpanodaecjlgaaaGreatDoor.ri
set_option linter.unusedVariables false
open Go.ChangeShapes Go.WideShapes Go.ChangeAt Go.RowKit
open mem

def rowI (l : List Int) : List Value := l.map (Value.int .i64)
theorem rowI_get (l : List Int) (k : Nat) (h : k < l.length) : (rowI l)[k]? = some (.int .i64 (l.getD k 0)) := by simp [rowI, h]
theorem infoI : (Tryz.prog.info? 3).map (fun i => (i.zero, i.size, i.bytes)) = some (some (.int .i64 0), 1, 8) := by kernel_rfl
theorem infoI' : ∃ i, Tryz.prog.info? 3 = some i ∧ i.zero = some (.int .i64 0) ∧ i.size = 1 ∧ i.bytes = 8 := by
  obtain ⟨i, h1, h2⟩ := Option.map_eq_some_iff.1 infoI
  simp only [Prod.mk.injEq] at h2
  exact ⟨i, h1, h2.1, h2.2.1, h2.2.2⟩
/-- A row of the call's own that holds just these numbers. -/
def Own (w : World) (base : Nat) (v : Value) (l : List Int) : Prop := w.ownsRow base 3 1 v l.length (rowI l)
theorem Own.nil (w : World) (base : Nat) : Own w base (.slice none 0 0) [] := World.ownsRow_nil _ _ _ _
theorem Own.shape {w : World} {base : Nat} {v : Value} {l : List Int} (h : Own w base v l) : (v = .slice none 0 0 ∧ l = []) ∨
    ∃ g cap, v = .slice (some ⟨g, 0, none⟩) l.length cap ∧ base ≤ g ∧ g < w.heap.size ∧ l.length ≤ cap ∧ cap ≤ maxLen ∧ ∀ k, k < l.length → w.cell? ⟨g, k, none⟩ = some (.int .i64 (l.getD k 0)) := by
  rcases h.2 with ⟨h1, h2⟩ | ⟨g, cap, cur, rfl, hbg, hg, hnc, hcm, hcs, htake⟩
  · exact Or.inl ⟨h1, List.eq_nil_of_length_eq_zero h2⟩
  · refine Or.inr ⟨g, cap, rfl, hbg, ?_, hnc, hcm, fun k hk => ?_⟩
    · rcases Nat.lt_or_ge g w.heap.size with h | h
      · exact h
      · rw [Array.getElem?_eq_none h] at hg; cases hg
    · have := rowI_get l k hk
      rw [← htake, Nat.mul_one, List.getElem?_take, if_pos hk] at this
      simp only [World.cell?, hg]
      simpa using this
theorem Own.block {w : World} {base : Nat} {v : Value} {l : List Int} (h : Own w base v l) : ∀ k, v.ownBlock = some k → base ≤ k ∧ k < w.heap.size := World.ownsRow.lt h
theorem Own.step {w w' : World} {base : Nat} {v : Value} {l : List Int} (h : Own w base v l) (hb : Bl w w') : Own w' base v l := by
  refine ⟨h.1, ?_⟩
  rcases h.2 with h | ⟨g, cap, cur, h1, h2, h3, h4⟩
  · exact Or.inl h
  · refine Or.inr ⟨g, cap, cur, h1, h2, ?_, h4⟩
    have hg : g < w.heap.size := by
      rcases Nat.lt_or_ge g w.heap.size with h | h
      · exact h
      · rw [Array.getElem?_eq_none h] at h3; cases h3
    rw [Below.block hb g hg]
    exact h3
theorem Own.kept {w w' : World} {base : Nat} {v : Value} {l : List Int} {row : Option Nat} (h : Own w base v l) (hg : w.grownBy w' row) (hne : ∀ k, v.ownBlock = some k → row ≠ some k) : Own w' base v l :=
  World.ownsRow.kept h hg (by
    cases e : v.ownBlock with
    | none => exact Or.inl rfl
    | some k => exact Or.inr (fun e' => hne k e e'.symm))
theorem bl_grown {w0 w w' : World} {row : Option Nat} (h : Bl w0 w) (hg : w.grownBy w' row) (hrow : ∀ k, row = some k → w0.heap.size ≤ k) : Bl w0 w' := by
  refine ⟨hg.os.trans h.os, hg.tape.trans h.tape, hg.output.trans h.output, Nat.le_trans h.size hg.size, fun k hk => ?_⟩
  rw [hg.block k (Nat.lt_of_lt_of_le hk h.size) (fun e => by have := hrow k e.symm; omega)]
  exact h.block k hk
theorem app_one (w : World) (base : Nat) (v : Value) (l : List Int) (z : Int) (X : Nat) (hown : Own w base v l) (hX : w.cell? ⟨X, 0, none⟩ = some (.int .i64 z)) (hn : l.length ≤ 5000) (hb : base ≤ w.heap.size) :
    ∃ v' w', (Builtin.append_ #[162, 162] 162 #[v, .slice (some ⟨X, 0, none⟩) 1 1]).run Tryz.prog w = .ok v' w' ∧ Own w' base v' (l ++ [z]) ∧ w.grownBy w' v.ownBlock ∧ (v'.ownBlock = v.ownBlock ∨ v'.ownBlock = some w.heap.size) := by
  obtain ⟨i, hi, hz, h1, h2⟩ := infoI'
  have hnews : ∀ j u, [Value.int .i64 z][j]? = some u → w.cell? ((⟨X, 0, none⟩ : Addr).add j) = some u := fun j u hu => by
    cases j with
    | zero => simp at hu; subst hu; simpa [Addr.add] using hX
    | succ j => simp at hu
  obtain ⟨v', w', hr, ho, hg, _⟩ := run_append_own (P := Tryz.prog) w base 162 162 3 i (.int .i64 0) 1 8 Tryz.underlying162 hi hz h1 h2 rfl (by decide) v l.length (rowI l) hown
    ⟨X, 0, none⟩ 1 1 [.int .i64 z] rfl hnews (fun u hu => by simp at hu; subst hu; rfl) (by simp [maxLen]; omega) (by omega) hb
  refine ⟨v', w', hr, ?_, hg, ?_⟩
  · have e : rowI (l ++ [z]) = rowI l ++ [.int .i64 z] := by simp [rowI]
    unfold Own
    rw [e, List.length_append]
    exact ho
  · rcases hown.2 with ⟨rfl, hl0⟩ | ⟨g, cap, cur, rfl, hbg, hg, hnc, hcm, hcs, htake⟩
    · have hr2 := run_append_nil (P := Tryz.prog) w 162 162 3 i (.int .i64 0) Tryz.underlying162 hi hz ⟨X, 0, none⟩ 1 1 [.int .i64 z] (by rw [h1]; rfl) hnews (by omega) (by omega) (by rw [h2]; omega)
      rw [hr2] at hr
      injection hr with e1 _
      exact Or.inr (by rw [← e1]; rfl)
    · by_cases hroom : l.length + 1 ≤ cap
      · have hr2 := run_append_room (P := Tryz.prog) w 162 162 3 i Tryz.underlying162 hi g l.length cap cur hg ⟨X, 0, none⟩ 1 1 [.int .i64 z] (by rw [h1]; rfl) hnews (fun u hu => by simp at hu; subst hu; rfl) hroom (by rw [h1, hcs]; simp; omega)
        rw [hr2] at hr
        injection hr with e1 _
        exact Or.inl (by rw [← e1]; rfl)
      · have holds : ∀ j u, (rowI l)[j]? = some u → w.cell? ((⟨g, 0, none⟩ : Addr).add j) = some u := World.ownsRow.cells hown (g := g) rfl
        have hr2 := run_append_grow (P := Tryz.prog) w 162 162 3 i (.int .i64 0) Tryz.underlying162 hi hz ⟨g, 0, none⟩ l.length cap (rowI l) (by rw [h1]; exact hown.1) holds ⟨X, 0, none⟩ 1 1 [.int .i64 z] (by rw [h1]; rfl) hnews (by omega) (by omega) (growslice_fits (by omega) (by rw [h2]; omega))
        rw [hr2] at hr
        injection hr with e1 _
        exact Or.inr (by rw [← e1]; rfl)
/-- Two rows of the call's own that lie apart. -/
structure Own2 (w : World) (base : Nat) (v1 : Value) (l1 : List Int) (v2 : Value) (l2 : List Int) : Prop where
  a : Own w base v1 l1
  b : Own w base v2 l2
  apart : ∀ k, v1.ownBlock = some k → v2.ownBlock ≠ some k
  le : base ≤ w.heap.size
theorem Own2.step {w w' : World} {base : Nat} {v1 v2 : Value} {l1 l2 : List Int} (h : Own2 w base v1 l1 v2 l2) (hb : Bl w w') : Own2 w' base v1 l1 v2 l2 :=
  ⟨h.a.step hb, h.b.step hb, h.apart, Nat.le_trans h.le hb.size⟩
theorem Own2.alloc {w : World} {base : Nat} {v1 v2 : Value} {l1 l2 : List Int} (h : Own2 w base v1 l1 v2 l2) (o : Obj) : Own2 (w.alloc o) base v1 l1 v2 l2 := h.step ((Bl.refl w).alloc o)
theorem Own2.first {w w' : World} {base : Nat} {v1 v2 v' : Value} {l1 l2 l' : List Int} (h : Own2 w base v1 l1 v2 l2) (ho : Own w' base v' l') (hg : w.grownBy w' v1.ownBlock) (hv : v'.ownBlock = v1.ownBlock ∨ v'.ownBlock = some w.heap.size) : Own2 w' base v' l' v2 l2 := by
  refine ⟨ho, h.b.kept hg (fun k e e' => h.apart k e' e), fun k e e' => ?_, Nat.le_trans h.le hg.size⟩
  rcases hv with hv | hv
  · exact h.apart k (by rw [← hv]; exact e) e'
  · have := (h.b.block k e').2
    rw [hv] at e
    injection e with e
    omega
theorem Own2.second {w w' : World} {base : Nat} {v1 v2 v' : Value} {l1 l2 l' : List Int} (h : Own2 w base v1 l1 v2 l2) (ho : Own w' base v' l') (hg : w.grownBy w' v2.ownBlock) (hv : v'.ownBlock = v2.ownBlock ∨ v'.ownBlock = some w.heap.size) : Own2 w' base v1 l1 v' l' := by
  refine ⟨h.a.kept hg (fun k e e' => h.apart k e e'), ho, fun k e e' => ?_, Nat.le_trans h.le hg.size⟩
  rcases hv with hv | hv
  · exact h.apart k e (by rw [← hv]; exact e')
  · have := (h.a.block k e).2
    rw [hv] at e'
    injection e' with e'
    omega
end Go.Proofs.YtpanodaecjlgaaaGreatDoor.ri
/- Whether templates fit together: the Checks under a Check. -/
namespace Go.Proofs.YtpanodaecjlgaaaGreatDoor.tm
set_option linter.unusedVariables false
open Go.ChangeShapes Go.WideShapes Go.ChangeAt Go.RowKit Go.Shelf
open mem lx ex

def pf (ds : List D) (a j : Nat) : List Nat := ((List.range j).drop a).filter (isC ds)
theorem pf_start (ds : List D) (a j : Nat) (h : j ≤ a) : pf ds a j = [] := by
  unfold pf
  rw [List.drop_eq_nil_of_le (by rw [List.length_range]; exact h)]
  rfl
theorem pf_step (ds : List D) (a j : Nat) (h : a ≤ j) : pf ds a (j + 1) = pf ds a j ++ (if isC ds j = true then [j] else []) := by
  unfold pf
  rw [List.range_succ, List.drop_append_of_le_length (by rw [List.length_range]; exact h), List.filter_append]
  congr 1
  cases hc : isC ds j <;> simp [hc]
theorem pf_len (ds : List D) (a j : Nat) : (pf ds a j).length ≤ j := by
  unfold pf
  refine Nat.le_trans (List.length_filter_le _ _) ?_
  rw [List.length_drop, List.length_range]
  omega
theorem under_is (ds : List D) (i : Nat) (d : D) (h : ds[i]? = some d) : (∀ a b, ends ds d = (some a, some b) → under ds i = pf ds a (b + 1)) ∧ (∀ b, ends ds d = (none, b) → under ds i = []) ∧ (∀ a, ends ds d = (a, none) → under ds i = []) := by
  unfold under
  rw [h]
  dsimp only
  refine ⟨fun a b he => by rw [he]; rfl, fun b he => by rw [he], fun a he => by rw [he]; cases a <;> rfl⟩
def ints (l : List Nat) : List Int := l.map (fun k : Nat => (k : Int))
theorem ints_app (a : List Nat) (k : Nat) : ints (a ++ [k]) = ints a ++ [(k : Int)] := by simp [ints]
theorem ints_len (a : List Nat) : (ints a).length = a.length := by simp [ints]
set_option maxRecDepth 10000 in
set_option maxHeartbeats 4000000 in
theorem under_at (x : C) (i : Nat) (cs : List C) (ok : Nat → Prop) (p : Option Addr) (n c : Nat) (w : World) (hin : ir.Lie w ok p n c cs) (hn : n ≤ 3000) (hx : cs[i]? = some x) :
    Calls Tryz.prog 99 #[.slice p n c, .int .i64 (i : Int)] w fun e w' => ∃ v, e = .returned v ∧ Bl w w' ∧ ri.Own w' w.heap.size v (ints (under (cs.map C.d) i)) := by
  have hil := (List.getElem?_eq_some_iff.1 hx).1
  have hnc := hin.1
  have hncap := hin.2.1
  obtain ⟨X, rfl, _, g0', g⟩ := lie_at hin i x hx
  have g0 : w.cell? (X.add (i * 13)) = some (.int .i64 (x.d.kd : Int)) := g0'
  clear g0'
  have g1 := g 1 _ rfl
  have g2 := g 2 _ rfl
  have g3 := g 3 _ rfl
  have g4 := g 4 _ rfl
  have g5 := g 5 _ rfl
  have g6 := g 6 _ rfl
  have g7 := g 7 _ rfl
  have g8 := g 8 _ rfl
  have g9 := g 9 _ rfl
  have g10 := g 10 _ rfl
  have g11 := g 11 _ rfl
  have g12 := g 12 _ rfl
  clear g
  have i0 : (0 : Int) ≤ (i : Int) := by omega
  have i1 : (i : Int) < (n : Int) := by omega
  have cE := ends_at x cs ok (some X) n c w hin hn
  obtain ⟨o1, o2, o3⟩ := under_is (cs.map C.d) i x.d (by rw [List.getElem?_map, hx]; rfl)
  obtain ⟨U, hU⟩ : ∃ U, U = under (cs.map C.d) i := ⟨_, rfl⟩
  rw [← hU] at o1 o2 o3 ⊢
  obtain ⟨E, hE⟩ : ∃ E, E = ends (cs.map C.d) x.d := ⟨_, rfl⟩
  rw [← hE] at cE o1 o2 o3
  have HI : Hid (ir.Lie w ok (some X) n c cs ∧ n = cs.length ∧ E = ends (cs.map C.d) x.d) := ⟨hin, hnc, hE⟩
  unfold itV cl at cE
  clear hin hnc hx hE hU
  go_enter Tryz.func99, Tryz.ntmps99
  go_wp2_with fail
  refine cE.mono ?_
  rintro e w2 ⟨rfl, hb2⟩
  have H2 : Hid (Bl w w2) := hb2
  clear cE hb2 g0 g1 g2 g3 g4 g5 g6 g7 g8 g9 g10 g11 g12
  obtain ⟨ea, eb⟩ := E
  cases ea with
  | none =>
    have hi : idx (none : Option Nat) = -1 := rfl
    have HU : Hid (U = []) := o2 _ rfl
    clear o1 o2 o3
    go_wp2
    go_ret
    exact ⟨.slice none 0 0, rfl, H2.out, by rw [HU.out]; exact ri.Own.nil _ _⟩
  | some a =>
    have hi : idx (none : Option Nat) = -1 := rfl
    have hi2 : idx (some a) = (a : Int) := rfl
    have ha0 : ¬ ((a : Int) < 0) := by omega
    -- where it ends
    obtain ⟨b1, hb1, hUb, hbn⟩ : ∃ b1 : Nat, idx eb = (b1 : Int) - 1 ∧ U = pf (cs.map C.d) a b1 ∧ b1 ≤ n := by
      cases eb with
      | none => exact ⟨0, rfl, by rw [o3 _ rfl, pf_start _ _ _ (Nat.zero_le _)], Nat.zero_le _⟩
      | some b =>
        refine ⟨b + 1, ?_, o1 a b rfl, ?_⟩
        · show ((b : Nat) : Int) = _
          omega
        · have := (ends_lt HI.out.2.2.symm).2
          rw [List.length_map, ← HI.out.2.1] at this
          omega
    have HU : Hid (U = pf (cs.map C.d) a b1) := hUb
    clear o1 o2 o3 hUb
    obtain ⟨B, hB⟩ : ∃ B, B = idx eb := ⟨_, rfl⟩
    rw [← hB]
    have hB1 : B = (b1 : Int) - 1 := by rw [hB, hb1]
    clear hB hb1
    subst hB1
    go_wp2
    go_loopw [7, 8] (fun v s8 wr => ∃ j : Nat, a ≤ j ∧ (j ≤ b1 ∨ j = a) ∧ s8 = .int .i64 (j : Int) ∧ Hid (Bl w wr ∧ ri.Own wr w.heap.size v (ints (pf (cs.map C.d) a j)))) (fun _ s8 _ => b1 - (intOf s8).toNat)
    case atStart => exact ⟨a, Nat.le_refl _, Or.inr rfl, rfl, H2.out, by rw [pf_start _ _ _ (Nat.le_refl _)]; exact ri.Own.nil _ _⟩
    case round =>
      obtain ⟨j, hj1, hj2, rfl, HB⟩ := hrel
      have hb64 : (b1 : Int) - 1 < 9223372036854775808 := by omega
      by_cases hjb : j < b1
      · have d1 : decide ((j : Int) ≤ (b1 : Int) - 1) = true := decide_eq_true (by omega)
        have d1' : (j : Int) ≤ (b1 : Int) - 1 := by omega
        have j0 : (0 : Int) ≤ (j : Int) := by omega
        have j1 : (j : Int) < (n : Int) := by omega
        obtain ⟨y, hy⟩ : ∃ y, cs[j]? = some y := ⟨_, List.getElem?_eq_getElem (by have := HI.out.2.1; omega)⟩
        obtain ⟨Y, hY, _, _, gy⟩ := lie_at (lie_bl HI.out.1 HB.out.1) j y hy
        injection hY with hY
        subst hY
        have y9 := gy 9 _ rfl
        have hisC : isC (cs.map C.d) j = (y.d.ru == 3) := by
          unfold isC
          rw [List.getElem?_map, hy]
          rfl
        clear gy
        by_cases r3 : y.d.ru = 3
        · rw [r3] at y9
          obtain ⟨M, hM⟩ : ∃ M, M = wr.heap.size := ⟨_, rfl⟩
          obtain ⟨w7, hw7⟩ : ∃ w7, w7 = wr.alloc (.cells #[.int .i64 (j : Int)] 3) := ⟨_, rfl⟩
          have hb7 : Bl wr w7 := by rw [hw7]; exact (Bl.refl _).alloc _
          have c7 : w7.cell? ⟨M, 0, none⟩ = some (.int .i64 (j : Int)) := by rw [hw7, hM, cell_of (new_at _ _)]; rfl
          obtain ⟨v', w8, hr8, ho8, hg8, _⟩ := ri.app_one w7 w.heap.size u7 _ (j : Int) M (HB.out.2.step hb7) c7 (by rw [ints_len]; have := pf_len (cs.map C.d) a j; omega) (Nat.le_trans HB.out.1.size hb7.size)
          have hb8 : Bl w w8 := bl_grown (HB.out.1.trans hb7) hg8 (fun k hk => (HB.out.2.block k hk).1)
          have HR : Hid _ := hr8
          have H8 : Hid (Bl w w8 ∧ ri.Own w8 w.heap.size v' (ints (pf (cs.map C.d) a (j + 1)))) := by
            refine ⟨hb8, ?_⟩
            rw [pf_step _ _ _ hj1, hisC, r3]
            rw [show (if ((3 : Nat) == 3) = true then [j] else []) = [j] from rfl, ints_app]
            exact ho8
          clear c7 hr8 ho8 hg8 hb8 hb7 hy hisC
          go_upto_region 9 with fail
          go_wp2_with (at_builtin; rw [← hw7, ← hM]; refine Lib.wpList_append_run _ rfl (.tmp 32) (.tmp 34) _ _ rfl _ _ rfl rfl _ _ HR.out ?_)
          go_roundw
          case rel => exact ⟨j + 1, by omega, Or.inl (by omega), by go_num, H8.out⟩
          case measure => simp [intOf]; omega
        · have r3' : ¬ ((y.d.ru : Int) = 3) := by omega
          have H8 : Hid (Bl w wr ∧ ri.Own wr w.heap.size u7 (ints (pf (cs.map C.d) a (j + 1)))) := by
            refine ⟨HB.out.1, ?_⟩
            rw [pf_step _ _ _ hj1, hisC]
            rw [show (y.d.ru == 3) = false by simpa using r3]
            rw [show (if false = true then [j] else []) = ([] : List Nat) from rfl, List.append_nil]
            exact HB.out.2
          clear hy hisC
          go_wp2
          go_roundw
          case rel => exact ⟨j + 1, by omega, Or.inl (by omega), by go_num, H8.out⟩
          case measure => simp [intOf]; omega
      · have d1 : decide ((j : Int) ≤ (b1 : Int) - 1) = false := decide_eq_false (by omega)
        have d1' : ¬ ((j : Int) ≤ (b1 : Int) - 1) := by omega
        have H9 : Hid (Bl w wr ∧ ri.Own wr w.heap.size u7 (ints U)) := by
          refine ⟨HB.out.1, ?_⟩
          have h := HB.out.2
          rw [HU.out]
          rcases hj2 with h2 | h2
          · obtain rfl : j = b1 := by omega
            exact h
          · subst h2
            rw [pf_start _ _ _ (Nat.le_refl _)] at h
            rw [pf_start _ _ _ (by omega)]
            exact h
        go_wp2
        go_ret
        exact ⟨_, rfl, H9.out⟩
end Go.Proofs.YtpanodaecjlgaaaGreatDoor.tm
/- Whether templates fit together: going round comes to an end (pure). -/
namespace Go.Proofs.YtpanodaecjlgaaaGreatDoor.tm
set_option linter.unusedVariables false
open lx ex

def unm (n : Nat) (met : List Nat) : Nat := ((List.range n).filter (fun k => decide (k ∉ met))).length
theorem filter_lt (p q : Nat → Bool) (l : List Nat) (h : ∀ x, q x = true → p x = true) (j : Nat) (hj : j ∈ l) (hp : p j = true) (hq : q j = false) : (l.filter q).length < (l.filter p).length := by
  have le : ∀ l : List Nat, (l.filter q).length ≤ (l.filter p).length := by
    intro l
    induction l with
    | nil => exact Nat.le_refl _
    | cons x r ih =>
      rw [List.filter_cons, List.filter_cons]
      cases hx : q x with
      | true => rw [if_pos (h x hx), if_pos rfl]; simp; exact ih
      | false =>
        rw [if_neg (by simp)]
        split
        · simp; omega
        · exact ih
  induction l with
  | nil => cases hj
  | cons x r ih =>
    rw [List.filter_cons, List.filter_cons]
    by_cases hxj : x = j
    · subst hxj
      rw [hp, hq]
      simp
      have := le r
      omega
    · have hj' : j ∈ r := by
        rw [List.mem_cons] at hj
        rcases hj with e | e
        · exact absurd e.symm hxj
        · exact e
      have := ih hj'
      cases hx : q x with
      | true => rw [if_pos (h x hx), if_pos rfl]; simp; exact this
      | false =>
        rw [if_neg (by simp)]
        split
        · simp; omega
        · exact this
theorem unm_lt (n : Nat) (met : List Nat) (j : Nat) (hj : j < n) (hm : j ∉ met) : unm n (j :: met) < unm n met := by
  unfold unm
  refine filter_lt _ _ _ ?_ j (List.mem_range.2 hj) (by simpa using hm) (by simp)
  intro x hx
  simp only [List.mem_cons, not_or, decide_eq_true_eq] at hx ⊢
  exact hx.2
theorem unm_le (n : Nat) (met : List Nat) : unm n met ≤ n := by
  unfold unm
  refine Nat.le_trans (List.length_filter_le _ _) ?_
  rw [List.length_range]
  exact Nat.le_refl _
def mu (ds : List D) (met todo : List Nat) : Nat := todo.length + unm ds.length met * (ds.length + 1)
theorem isC_lt {ds : List D} {k : Nat} (h : isC ds k = true) : k < ds.length := by
  unfold isC at h
  rcases Nat.lt_or_ge k ds.length with hk | hk
  · exact hk
  · rw [List.getElem?_eq_none hk] at h
    simp at h
theorem under_lt {ds : List D} {j k : Nat} (h : k ∈ under ds j) : k < ds.length := by
  unfold under at h
  split at h
  · cases h
  · split at h
    · exact isC_lt (List.mem_filter.1 h).2
    · cases h
theorem under_len (ds : List D) (j : Nat) : (under ds j).length ≤ ds.length := by
  unfold under
  split
  · exact Nat.zero_le _
  · rename_i d _
    split
    · rename_i a b he
      have := (ends_lt he).2
      have h2 := pf_len ds a (b + 1)
      unfold pf at h2
      unfold upTo
      omega
    · exact Nat.zero_le _
theorem mu_step (ds : List D) (met r : List Nat) (j : Nat) (hj : j < ds.length) (hm : j ∉ met) : mu ds (j :: met) (r ++ under ds j) < mu ds met (j :: r) := by
  unfold mu
  have h1 := under_len ds j
  have h2 := unm_lt ds.length met j hj hm
  rw [List.length_append, List.length_cons]
  have h3 : (unm ds.length (j :: met) + 1) * (ds.length + 1) ≤ unm ds.length met * (ds.length + 1) := Nat.mul_le_mul_right _ h2
  rw [Nat.add_mul, Nat.one_mul] at h3
  omega
theorem bfs_enough (ds : List D) (tg : Nat) (f : Nat) : ∀ met todo, mu ds met todo < f → (∀ j ∈ todo, j < ds.length) → bfs ds tg f met todo = bfs ds tg (f + 1) met todo ∧ (bfs ds tg f met todo).isSome = true := by
  induction f with
  | zero => intro met todo h; exact absurd h (Nat.not_lt_zero _)
  | succ f ih =>
    intro met todo h ht
    cases todo with
    | nil => exact ⟨rfl, rfl⟩
    | cons j r =>
      rw [bfs, bfs]
      by_cases e : j = tg
      · rw [if_pos e, if_pos e]; exact ⟨rfl, rfl⟩
      · rw [if_neg e, if_neg e]
        by_cases hm : j ∈ met
        · rw [if_pos hm, if_pos hm]
          refine ih met r ?_ (fun k hk => ht k (by simp [hk]))
          unfold mu at h ⊢
          rw [List.length_cons] at h
          omega
        · rw [if_neg hm, if_neg hm]
          refine ih _ _ ?_ ?_
          · have := mu_step ds met r j (ht j (by simp)) hm
            omega
          · intro k hk
            rw [List.mem_append] at hk
            rcases hk with hk | hk
            · exact ht k (by simp [hk])
            · exact under_lt hk
theorem bfs_more (ds : List D) (tg f met todo) (h : mu ds met todo < f) (ht : ∀ j ∈ todo, j < ds.length) (g : Nat) : bfs ds tg (f + g) met todo = bfs ds tg f met todo := by
  induction g with
  | zero => rfl
  | succ g ih => rw [← Nat.add_assoc, ← (bfs_enough ds tg (f + g) met todo (by omega) ht).1, ih]
/-- Whether one comes to it, at last. -/
def bR (ds : List D) (tg : Nat) (met todo : List Nat) : Bool := bfs ds tg (mu ds met todo + 1) met todo == some true
theorem bR_of (ds : List D) (tg f met todo) (h : mu ds met todo < f) (ht : ∀ j ∈ todo, j < ds.length) : (bfs ds tg f met todo == some true) = bR ds tg met todo := by
  unfold bR
  obtain ⟨g, rfl⟩ : ∃ g, f = mu ds met todo + 1 + g := ⟨f - (mu ds met todo + 1), by omega⟩
  rw [bfs_more ds tg _ met todo (by omega) ht g]
theorem bR_nil (ds : List D) (tg : Nat) (met : List Nat) : bR ds tg met [] = false := rfl
theorem bR_hit (ds : List D) (tg : Nat) (met r : List Nat) : bR ds tg met (tg :: r) = true := by
  unfold bR
  rw [bfs, if_pos rfl]; rfl
theorem bR_met (ds : List D) (tg : Nat) (met r : List Nat) (j : Nat) (h1 : j ≠ tg) (h2 : j ∈ met) (ht : ∀ k ∈ j :: r, k < ds.length) : bR ds tg met (j :: r) = bR ds tg met r := by
  have h3 : bR ds tg met (j :: r) = (bfs ds tg (mu ds met (j :: r)) met r == some true) := by
    unfold bR
    rw [bfs, if_neg h1, if_pos h2]
  rw [h3]
  refine bR_of _ _ _ _ _ ?_ (fun k hk => ht k (by simp [hk]))
  unfold mu
  rw [List.length_cons]
  omega
theorem bR_new (ds : List D) (tg : Nat) (met r : List Nat) (j : Nat) (h1 : j ≠ tg) (h2 : j ∉ met) (ht : ∀ k ∈ j :: r, k < ds.length) : bR ds tg met (j :: r) = bR ds tg (j :: met) (r ++ under ds j) := by
  have h3 : bR ds tg met (j :: r) = (bfs ds tg (mu ds met (j :: r)) (j :: met) (r ++ under ds j) == some true) := by
    unfold bR
    rw [bfs, if_neg h1, if_neg h2]
  rw [h3]
  refine bR_of _ _ _ _ _ (mu_step ds met r j (ht j (by simp)) h2) ?_
  intro k hk
  rw [List.mem_append] at hk
  rcases hk with hk | hk
  · exact ht k (by simp [hk])
  · exact under_lt hk
theorem rnd_is (ds : List D) (i : Nat) : rnd ds i = bR ds i [] (under ds i) := by
  unfold rnd
  refine bR_of _ _ _ _ _ ?_ (fun k hk => under_lt hk)
  unfold mu
  have h1 := under_len ds i
  have h2 := unm_le ds.length []
  have h3 : unm ds.length [] * (ds.length + 1) ≤ ds.length * (ds.length + 1) := Nat.mul_le_mul_right _ h2
  have h4 : (ds.length + 1) * (ds.length + 1) = ds.length * (ds.length + 1) + (ds.length + 1) := by rw [Nat.add_mul, Nat.one_mul]
  omega
end Go.Proofs.YtpanodaecjlgaaaGreatDoor.tm
