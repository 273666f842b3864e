/- Texts in pieces: Of, Len, Parts, Edit. -/
import Derived.Test.YtkjlcgclabgkaaaDoorPc5
namespace Go.Proofs.YtkjlcgclabgkaaaDoor.pc
set_option linter.unusedVariables false
open Go.ChangeShapes Go.WideShapes Go.ChangeAt Go.RowKit
open mem

/-- These bytes, in a level tree of pieces of which none is empty. -/
structure Tx (s : List UInt8) (t : Tr) : Prop where
  c : cat t.ps = s
  f : fit t.ps
  b : t.bal
theorem Tx.leaf : Tx [] .leaf := ⟨rfl, ⟨by simp [Tr.ps], by simp [Tr.ps, tot]⟩, trivial⟩
theorem Tx.tot {s : List UInt8} {t : Tr} (h : Tx s t) : tot t.ps = s.length := by rw [← cat_len, h.c]
theorem Tx.ed {s : List UInt8} {t t' : Tr} {a o : Nat} {x : ByteArray} (h : Tx s t) (k : Ed t a o x t') : Tx (s.take a ++ x.data.toList ++ s.drop (a + o)) t' := ⟨by rw [k.c, h.c], k.f, k.b h.b⟩
theorem size_zero {s : ByteArray} (h : s.size = 0) : s = { data := #[] } := by
  obtain ⟨a⟩ := s
  have : a.size = 0 := h
  rw [Array.eq_empty_of_size_eq_zero this]
theorem isEmpty_at (s : ByteArray) : s.toList.isEmpty = decide (s.size = 0) := by
  rw [ByteArray.toList_eq]
  have e : s.size = s.data.toList.length := rfl
  rw [e]
  cases s.data.toList <;> simp
/-- A variable of one cell. -/
def Bx (w : World) (b : Nat) (v : Value) (t : TypeId) : Prop := w.heap[b]? = some (.cells #[v] t (0, 0))
theorem Bx.new (w : World) (v : Value) (t : TypeId) : Bx (w.alloc (.cells #[v] t)) w.heap.size v t := heap_new _ _
theorem Bx.lt {w : World} {b : Nat} {v : Value} {t : TypeId} (h : Bx w b v t) : b < w.heap.size := by
  unfold Bx at h
  exact (Array.getElem?_eq_some_iff.1 h).1
theorem Bx.bl {A B : World} {b : Nat} {v : Value} {t : TypeId} (h : Bx A b v t) (k : Bl A B) : Bx B b v t := (Below.block k b h.lt).trans h
theorem Bx.cell {w : World} {b : Nat} {v : Value} {t : TypeId} (h : Bx w b v t) : w.cell? ⟨b, 0, none⟩ = some v := by
  unfold Bx at h
  simp [World.cell?, h]
theorem Bx.frozen {w : World} {b : Nat} {v : Value} {t : TypeId} (h : Bx w b v t) : w.frozen? ⟨b, 0, none⟩ = false := by
  unfold Bx at h
  simp [World.frozen?, h]
theorem Bx.set {w : World} {b : Nat} {v : Value} {t : TypeId} (h : Bx w b v t) (u : Value) : Bx (w.setCell ⟨b, 0, none⟩ u) b u t := by
  unfold Bx at h ⊢
  simp [World.setCell, Array.getElem?_modify, h]
theorem Bx.other {w : World} {b : Nat} {v : Value} {t : TypeId} (h : Bx w b v t) {a : Addr} (ha : a.block ≠ b) (u : Value) : Bx (w.setCell a u) b v t := by
  unfold Bx at h ⊢
  simp [World.setCell, Array.getElem?_modify, h, ha]
theorem Is.far {w : World} {b : Nat} {v : Value} {ty : TypeId} (h : Bx w b v ty) (u : Value) : ∀ {p : Option Addr} {t : Tr}, Is w p t → Is (w.setCell ⟨b, 0, none⟩ u) p t
  | _, .leaf, ht => ht
  | _, .node l s r, ⟨d, pl, pr, hp, hd, h0, h1, h2, h3, h4, h5, hl, hr⟩ => by
    have hne : d ≠ b := by
      intro e
      subst e
      unfold Bx at h
      simp [World.cell?, h] at h1
    have hk : ∀ i, (w.setCell ⟨b, 0, none⟩ u).cell? ⟨d, i, none⟩ = w.cell? ⟨d, i, none⟩ := fun i => World.cell?_setCell_far _ _ _ _ (fun e => hne e.symm)
    exact ⟨d, pl, pr, hp, ⟨by simpa using hd.1, (show (w.setCell ⟨b, 0, none⟩ u).shape? d = w.shape? d by simp [World.shape?, World.setCell, Array.getElem?_modify, Ne.symm hne]).trans hd.2⟩, (hk 0).trans h0, (hk 1).trans h1, (hk 2).trans h2, (hk 3).trans h3, (hk 4).trans h4, (hk 5).trans h5, (Is.far h u (show Is w pl l from hl)), (Is.far h u (show Is w pr r from hr))⟩
set_option maxRecDepth 100000 in
set_option maxHeartbeats 4000000 in
/-- Of. -/
theorem Of_at (s : ByteArray) (w : World) (hs : s.size ≤ 1000000) :
    Calls Tryd.prog 4 #[.string s] w fun e w' => ∃ p t, e = .returned (.agg #[.pointer p]) ∧ Is w' p t ∧ Tx s.data.toList t ∧ Bl w w' := by
  by_cases h0 : s.size = 0
  · have e := size_zero h0
    subst e
    go_enter Tryd.func4, Tryd.ntmps4
    go_wp2
    exact bodyPost_ret (v := .agg #[.pointer none]) (by simp [results, Tryd.f4, go_sem]) rfl ⟨_, .leaf, rfl, rfl, Tx.leaf, (Bl.refl w).alloc _⟩
  · have hne : s.toList.isEmpty = false := by rw [isEmpty_at]; exact decide_eq_false h0
    have hx := Bx.new w (.pointer none) 26
    have c1 := fun w' => join_at none none .leaf .leaf s w' rfl rfl ⟨by simp [Tr.ps]; omega, by simp [Tr.ps, tot]; omega⟩
    go_enter Tryd.func4, Tryd.ntmps4
    go_wp2_with (go_at_call 11; refine (c1 _).mono ?_; clear c1; rintro e w1 ⟨q, t, rfl, hq, hj, hb⟩; have hx1 := hx.bl hb; have hxc := hx1.cell; have hxf := hx1.frozen)
    have hs := hx1.set (.pointer q)
    have hsc := hs.cell
    refine bodyPost_ret (v := .agg #[.pointer q]) (by simp [results, Tryd.f4, go_sem, hsc]) rfl ⟨_, t, rfl, hq.far hx1 _, ?_, ?_⟩
    · exact ⟨by rw [hj.p]; simp [Tr.ps, cat], by rw [hj.p]; exact ⟨by simp [Tr.ps]; omega, by simp [Tr.ps, tot]; omega⟩, (hj.b trivial trivial).1⟩
    · exact (((Bl.refl w).alloc _).trans hb).setCell (Nat.le_refl _) _
/-- Len. -/
theorem Len_at (p : Option Addr) (t : Tr) (w : World) (h : Is w p t) :
    Calls Tryd.prog 7 #[.agg #[.pointer p]] w fun e w' => e = .returned (.int .i64 ((tot t.ps : Nat) : Int)) ∧ Bl w w' := by
  have ct := fun w' (k : Bl w w') => total_at p t w' (h.bl k)
  have hfd := fd0
  go_enter Tryd.func7, Tryd.ntmps7
  go_wp2_with (go_at_call 16; refine (ct _ ((Bl.refl w).alloc _)).mono ?_; clear ct; rintro e w1 ⟨rfl, hb⟩)
  go_ret
  exact ⟨rfl, ((Bl.refl w).alloc _).trans hb⟩
set_option maxRecDepth 100000 in
set_option maxHeartbeats 4000000 in
/-- Edit, where all is right. -/
theorem Edit_at (p : Option Addr) (t : Tr) (a o : Nat) (s : ByteArray) (w : World) (h : Is w p t) (hf : fit t.ps) (ho : a + o ≤ tot t.ps) (hm : tot t.ps - o + s.size ≤ 4000) :
    Calls Tryd.prog 5 #[.agg #[.pointer p], .int .i64 (a : Int), .int .i64 (o : Int), .string s] w fun e w' => ∃ q t', e = .returned (.tuple #[.agg #[.pointer q], .nilIface]) ∧ Is w' q t' ∧ Ed t a o s t' ∧ Bl w w' := by
  have hto := hf.2
  obtain ⟨T, hT⟩ : ∃ T, T = tot t.ps := ⟨_, rfl⟩
  have cl := fun w' (k : Bl w w') => Len_at p t w' (h.bl k)
  rw [← hT] at cl ho hm hto
  have h1 : (0 : Int) ≤ (a : Int) := by omega
  have h2 : (0 : Int) ≤ (o : Int) := by omega
  have hw1 : IntKind.i64.wrap ((T : Int) - (a : Int)) = (T : Int) - (a : Int) := by rw [IntKind.wrap_i64]; omega
  have h3 : (o : Int) ≤ (T : Int) - (a : Int) := by omega
  have hw2 : IntKind.i64.wrap ((T : Int) - (o : Int)) = (T : Int) - (o : Int) := by rw [IntKind.wrap_i64]; omega
  have hw3 : IntKind.i64.wrap ((T : Int) - (o : Int) + (s.size : Int)) = (T : Int) - (o : Int) + (s.size : Int) := by rw [IntKind.wrap_i64]; omega
  have h4 : (T : Int) - (o : Int) + (s.size : Int) ≤ 4000 := by omega
  have hw4 : IntKind.i64.wrap ((a : Int) + (o : Int)) = (a : Int) + (o : Int) := by rw [IntKind.wrap_i64]; omega
  have hx0 := Bx.new w (.pointer p) 26
  have hx1 := Bx.new (w.alloc (.cells #[.pointer p] 26)) (.pointer none) 26
  have hx0' := hx0.bl ((Bl.refl _).alloc (.cells #[.pointer none] 26))
  rw [World.size_alloc] at hx1
  have HX : Hid (_ ∧ _) := ⟨hx0', hx1⟩
  clear hx0 hx0' hx1
  have hb0 : Bl w ((w.alloc (.cells #[.pointer p] 26)).alloc (.cells #[.pointer none] 26)) := ((Bl.refl w).alloc _).alloc _
  have HT : Hid (T = tot t.ps) := hT
  clear hT
  have c1 := fun w' (k : Bl w w') => first_to t (a : Int) p w' (h.bl k) hf (by omega) (by omega)
  have c2 := fun w' (k : Bl w w') => behind_to t ((a : Int) + (o : Int)) p w' (h.bl k) hf (by omega) (by omega)
  rw [show ((a : Int) + (o : Int)).toNat = a + o by omega] at c2
  rw [show ((a : Int)).toNat = a by omega] at c1
  by_cases hs : s.size = 0
  · have hne : s.toList.isEmpty = true := by rw [isEmpty_at]; exact decide_eq_true hs
    by_cases ho0 : o = 0
    · subst ho0
      have hE : Hid (Ed t a 0 s t) := ed_same hf hs
      clear c1 c2
      go_enter Tryd.func5, Tryd.ntmps5
      go_wp2_with (first | (go_at_call 7; refine (cl _ hb0).mono ?_; clear cl; rintro e w1 ⟨rfl, hb1⟩; have hx2 := HX.out.1.bl hb1; have hx3 := HX.out.2.bl hb1; have g0 := hx2.cell; have g1 := hx3.cell; have g2 := hx3.frozen))
      have hv := (hx3.set (.pointer p)).cell
      exact bodyPost_ret (v := .tuple #[.agg #[.pointer p], .nilIface]) (by simp [results, Tryd.f5, go_sem, hv]) rfl ⟨_, _, rfl, (h.bl (hb0.trans hb1)).far hx3 _, hE.out, (hb0.trans hb1).setCell (Nat.le_succ _) _⟩
    have ho1 : ¬ (o : Int) = 0 := by omega
    have c4 := fun w' q1 q2 t1 t2 (h1 : Is w' q1 t1) (h2 : Is w' q2 t2) (e1 : t1.ps = takeP a t.ps) (e2 : t2.ps = dropP (a + o) t.ps) => meet_at q1 q2 t1 t2 w' h1 h2 (by rw [e1, e2]; exact ⟨fun x hx => (List.mem_append.1 hx).elim (takeP_ne hf.1 x) (dropP_ne hf.1 x), by rw [tot_app, tot_take, tot_drop, ← HT.out]; omega⟩)
    have HE : Hid (∀ t1 t2 t' : Tr, t1.ps = takeP a t.ps → (t.bal → t1.bal) → t2.ps = dropP (a + o) t.ps → (t.bal → t2.bal) → t'.ps = t1.ps ++ t2.ps → (t1.bal → t2.bal → t'.bal) → Ed t a o s t') := fun t1 t2 t' e1 b1 e2 b2 e3 b3 => ed_meet hf e1 e2 hs e3 (fun h => b3 (b1 h) (b2 h))
    clear hf ho hm hto
    go_enter Tryd.func5, Tryd.ntmps5
    go_wp2_with (first | (go_at_call 7; refine (cl _ hb0).mono ?_; clear cl; rintro e w1 ⟨rfl, hb1⟩; have hx2 := HX.out.1.bl hb1; have hx3 := HX.out.2.bl hb1; have g0 := hx2.cell; have g1 := hx3.cell; have g2 := hx3.frozen))
    have HB : Bl w w1.drew := (hb0.trans hb1).drew
    have hy2 := hx2.bl ((Bl.refl w1).drew)
    have hy3 := hx3.bl ((Bl.refl w1).drew)
    have hz2 := hy2.cell
    go_region_held3 (fun w' => w'.cell? ⟨w.heap.size, 0, none⟩ = some (.pointer p)) (assumption) (first | (go_at_call 12; refine (c1 _ HB).mono ?_; clear c1; rintro e w3 ⟨q1, t1, rfl, hq1, hp1, hbal1, hb3⟩; have HB3 := HB.trans hb3; have hu2 := hy2.bl hb3; have hu3 := hy3.bl hb3; have hz3 := hu2.cell; have c3 := c2 _ HB3; clear c2) | (go_at_call 13; refine c3.mono ?_; clear c3; rintro e w4 ⟨q2, t2, rfl, hq2, hp2, hbal2, hb4⟩; have HB4 := HB3.trans hb4; have hv2 := hu2.bl hb4; have hv3 := hu3.bl hb4; have hz4 := hv2.cell))
    have hq1' := hq1.bl hb4
    clear hz2 hz3 hz4 g0 g1 g2
    go_wp2_with (go_at_call 14; refine (c4 _ _ _ _ _ hq1' hq2 hp1 hp2).mono ?_; clear c4; rintro e w5 ⟨q', t', rfl, hq', hp', hbal', hb5⟩; have hw5 := hv3.bl hb5; have g1 := hw5.cell; have g2 := hw5.frozen)
    have hv := (hw5.set (.pointer q')).cell
    exact bodyPost_ret (v := .tuple #[.agg #[.pointer q'], .nilIface]) (by simp [results, Tryd.f5, go_sem, hv]) rfl ⟨_, _, rfl, hq'.far hw5 _, HE.out _ _ _ hp1 hbal1 hp2 hbal2 hp' hbal', (HB4.trans hb5).setCell (Nat.le_succ _) _⟩
  · have hne : s.toList.isEmpty = false := by rw [isEmpty_at]; exact decide_eq_false hs
    have c4 := fun w' q1 q2 t1 t2 (h1 : Is w' q1 t1) (h2 : Is w' q2 t2) (e1 : t1.ps = takeP a t.ps) (e2 : t2.ps = dropP (a + o) t.ps) => join_at q1 q2 t1 t2 s w' h1 h2 (by rw [e1, e2]; exact ⟨fun x hx => (List.mem_append.1 hx).elim (takeP_ne hf.1 x) (fun hx => (List.mem_cons.1 hx).elim (fun e => by rw [e]; omega) (dropP_ne hf.1 x)), by rw [tot_app, tot, tot_take, tot_drop, ← HT.out]; omega⟩)
    have HE : Hid (∀ t1 t2 t' : Tr, t1.ps = takeP a t.ps → (t.bal → t1.bal) → t2.ps = dropP (a + o) t.ps → (t.bal → t2.bal) → Jn t1 s t2 t' → Ed t a o s t') := fun t1 t2 t' e1 b1 e2 b2 hj => ed_join hf e1 b1 e2 b2 (by omega) (by rw [← HT.out]; omega) (by rw [← HT.out]; omega) hj
    by_cases ho0 : o = 0
    · subst ho0
      have hw5 : IntKind.i64.wrap (a : Int) = (a : Int) := by rw [IntKind.wrap_i64]; omega
      have c2 := fun w' (k : Bl w w') => behind_to t (a : Int) p w' (h.bl k) hf (by omega) (by omega)
      rw [show ((a : Int)).toNat = a by omega] at c2
      clear hf ho hm hto hw4 h2
      go_enter Tryd.func5, Tryd.ntmps5
      go_wp2_with (first | (go_at_call 7; refine (cl _ hb0).mono ?_; clear cl; rintro e w1 ⟨rfl, hb1⟩; have hx2 := HX.out.1.bl hb1; have hx3 := HX.out.2.bl hb1; have g0 := hx2.cell; have g1 := hx3.cell; have g2 := hx3.frozen))
      have HB : Bl w w1.drew := (hb0.trans hb1).drew
      have hy2 := hx2.bl ((Bl.refl w1).drew)
      have hy3 := hx3.bl ((Bl.refl w1).drew)
      have hz2 := hy2.cell
      go_region_held3 (fun w' => w'.cell? ⟨w.heap.size, 0, none⟩ = some (.pointer p)) (assumption) (first | (go_at_call 12; refine (c1 _ HB).mono ?_; clear c1; rintro e w3 ⟨q1, t1, rfl, hq1, hp1, hbal1, hb3⟩; have HB3 := HB.trans hb3; have hu2 := hy2.bl hb3; have hu3 := hy3.bl hb3; have hz3 := hu2.cell; have c3 := c2 _ HB3; clear c2) | (go_at_call 13; refine c3.mono ?_; clear c3; rintro e w4 ⟨q2, t2, rfl, hq2, hp2, hbal2, hb4⟩; have HB4 := HB3.trans hb4; have hv2 := hu2.bl hb4; have hv3 := hu3.bl hb4; have hz4 := hv2.cell))
      have hq1' := hq1.bl hb4
      clear hz2 hz3 hz4 g0 g1 g2
      go_wp2_with (go_at_call 11; refine (c4 _ _ _ _ _ hq1' hq2 hp1 hp2).mono ?_; clear c4; rintro e w5 ⟨q', t', rfl, hq', hj, hb5⟩; have hw5 := hv3.bl hb5; have g1 := hw5.cell; have g2 := hw5.frozen)
      have hv := (hw5.set (.pointer q')).cell
      exact bodyPost_ret (v := .tuple #[.agg #[.pointer q'], .nilIface]) (by simp [results, Tryd.f5, go_sem, hv]) rfl ⟨_, _, rfl, hq'.far hw5 _, HE.out _ _ _ hp1 hbal1 hp2 hbal2 hj, (HB4.trans hb5).setCell (Nat.le_succ _) _⟩
    · have ho1 : ¬ (o : Int) = 0 := by omega
      clear hf ho hm hto
      go_enter Tryd.func5, Tryd.ntmps5
      go_wp2_with (first | (go_at_call 7; refine (cl _ hb0).mono ?_; clear cl; rintro e w1 ⟨rfl, hb1⟩; have hx2 := HX.out.1.bl hb1; have hx3 := HX.out.2.bl hb1; have g0 := hx2.cell; have g1 := hx3.cell; have g2 := hx3.frozen))
      have HB : Bl w w1.drew := (hb0.trans hb1).drew
      have hy2 := hx2.bl ((Bl.refl w1).drew)
      have hy3 := hx3.bl ((Bl.refl w1).drew)
      have hz2 := hy2.cell
      go_region_held3 (fun w' => w'.cell? ⟨w.heap.size, 0, none⟩ = some (.pointer p)) (assumption) (first | (go_at_call 12; refine (c1 _ HB).mono ?_; clear c1; rintro e w3 ⟨q1, t1, rfl, hq1, hp1, hbal1, hb3⟩; have HB3 := HB.trans hb3; have hu2 := hy2.bl hb3; have hu3 := hy3.bl hb3; have hz3 := hu2.cell; have c3 := c2 _ HB3; clear c2) | (go_at_call 13; refine c3.mono ?_; clear c3; rintro e w4 ⟨q2, t2, rfl, hq2, hp2, hbal2, hb4⟩; have HB4 := HB3.trans hb4; have hv2 := hu2.bl hb4; have hv3 := hu3.bl hb4; have hz4 := hv2.cell))
      have hq1' := hq1.bl hb4
      clear hz2 hz3 hz4 g0 g1 g2
      go_wp2_with (go_at_call 11; refine (c4 _ _ _ _ _ hq1' hq2 hp1 hp2).mono ?_; clear c4; rintro e w5 ⟨q', t', rfl, hq', hj, hb5⟩; have hw5 := hv3.bl hb5; have g1 := hw5.cell; have g2 := hw5.frozen)
      have hv := (hw5.set (.pointer q')).cell
      exact bodyPost_ret (v := .tuple #[.agg #[.pointer q'], .nilIface]) (by simp [results, Tryd.f5, go_sem, hv]) rfl ⟨_, _, rfl, hq'.far hw5 _, HE.out _ _ _ hp1 hbal1 hp2 hbal2 hj, (HB4.trans hb5).setCell (Nat.le_succ _) _⟩
end Go.Proofs.YtkjlcgclabgkaaaDoor.pc
