/- Trees that are cut: the first bytes; what stands behind some; two trees one behind the other. -/
import Derived.Test.YtkjlcgclabgkaaaDoorPc3
namespace Go.Proofs.YtkjlcgclabgkaaaDoor.pc
set_option linter.unusedVariables false
open Go.ChangeShapes Go.WideShapes Go.ChangeAt Go.RowKit
open mem

set_option maxRecDepth 100000 in
set_option maxHeartbeats 4000000 in
theorem first_to (t : Tr) : ∀ (m : Int) (p : Option Addr) (w : World), Is w p t → fit t.ps → -9000000 ≤ m → m ≤ 9000000 →
    Calls Tryd.prog 12 #[.pointer p, .int .i64 m] w fun e w' => ∃ q t', e = .returned (.pointer q) ∧ Is w' q t' ∧ t'.ps = takeP m.toNat t.ps ∧ (t.bal → t'.bal) ∧ Bl w w' := by
  induction t with
  | leaf =>
    intro m p w h hf hm0 hm1
    obtain rfl : p = none := h
    have ct := total_at none .leaf w rfl
    have hfd := fd0
    have e0 : tot Tr.leaf.ps = 0 := rfl
    rw [e0] at ct
    clear hf e0
    go_enter Tryd.func12, Tryd.ntmps12
    by_cases h0 : m ≤ 0
    · go_wp2
      go_ret
      exact ⟨_, .leaf, rfl, rfl, rfl, id, Bl.refl _⟩
    · have h1 : (0 : Int) ≤ m := by omega
      go_wp2_with (go_at_call 16; refine ct.mono ?_; rintro e w1 ⟨rfl, hb1⟩)
      go_ret
      exact ⟨_, .leaf, rfl, rfl, rfl, id, hb1⟩
  | node l s r ihl ihr =>
    intro m p w h hf hm0 hm1
    have hfl : fit l.ps := hf.sub (by simp [Tr.ps])
    have hfr : fit r.ps := hf.sub (by simp [Tr.ps])
    have ct := total_at p (.node l s r) w h
    have hfd := fd0
    by_cases h0 : m ≤ 0
    · clear ct ihl ihr
      go_enter Tryd.func12, Tryd.ntmps12
      go_wp2
      go_ret
      exact ⟨_, .leaf, rfl, rfl, by rw [show m.toNat = 0 by omega, takeP_zero]; rfl, fun _ => trivial, Bl.refl _⟩
    obtain ⟨k, rfl⟩ : ∃ k : Nat, m = (k : Int) := ⟨m.toNat, by omega⟩
    rw [Int.toNat_natCast]
    have h0' : ¬ (k : Int) ≤ 0 := h0
    by_cases h1 : tot (Tr.node l s r).ps ≤ k
    · have HT : Hid (takeP k (Tr.node l s r).ps = (Tr.node l s r).ps) := takeP_all k h1 hf.1
      clear ihl ihr hf hfl hfr
      generalize tot (Tr.node l s r).ps = T at *
      have h1' : (T : Int) ≤ (k : Int) := by omega
      go_enter Tryd.func12, Tryd.ntmps12
      go_wp2_with (go_at_call 16; refine ct.mono ?_; rintro e w1 ⟨rfl, hb1⟩)
      go_ret
      exact ⟨_, _, rfl, h.bl hb1, HT.out.symm, id, hb1⟩
    obtain ⟨b, p0, p2, rfl, hn⟩ := h.nd
    have hto := hf.2
    have e1 : tot (Tr.node l s r).ps = tot l.ps + s.size + tot r.ps := by rw [Tr.ps, tot_app, tot]; omega
    have cp := fun w' (h : Bl w w') => place_at b p0 l s w' (cell_bl h hn.c0) (cell_bl h hn.c1) (hn.l.bl h) (by omega)
    have HS : Hid (∀ w', Bl w w' → (fun w' => w'.cell? ⟨b, 0, none⟩ = some (.pointer p0) ∧ w'.cell? ⟨b, 1, none⟩ = some (.string s) ∧ w'.cell? ⟨b, 2, none⟩ = some (.pointer p2)) w') := fun w' k => ⟨cell_bl k hn.c0, cell_bl k hn.c1, cell_bl k hn.c2⟩
    have h1' : ¬ ((tot (Tr.node l s r).ps : Nat) : Int) ≤ (k : Int) := by omega
    by_cases h2 : k ≤ tot l.ps
    · have HT : Hid (takeP k (Tr.node l s r).ps = takeP k l.ps) := take_left hf h2
      have c1 := fun w' (h : Bl w w') => ihl (k : Int) p0 w' (hn.l.bl h) hfl hm0 hm1
      clear ihl ihr hn hf hfl hfr h hto e1
      have h2' : (k : Int) ≤ ((tot l.ps : Nat) : Int) := by omega
      rw [HT.out]
      rw [Int.toNat_natCast] at c1
      generalize tot (Tr.node l s r).ps = T at *
      go_enter Tryd.func12, Tryd.ntmps12
      go_wp2_with (first | (go_at_call 16; refine ct.mono ?_; clear ct; rintro e w1 ⟨rfl, hb1⟩; have cp1 := cp _ hb1; clear cp) | (go_at_call 21; refine cp1.mono ?_; clear cp1; rintro e w2 ⟨rfl, hb2⟩; have HB := hb1.trans hb2; obtain ⟨g0, g1, g2⟩ := HS.out _ HB; have c2 := c1 _ HB; clear c1) | (go_at_call 12; refine c2.mono ?_; clear c2; rintro e w3 ⟨q, t', rfl, hq, hp, hbal, hb3⟩))
      go_ret
      exact ⟨_, _, rfl, hq, hp, fun h => hbal h.1, HB.trans hb3⟩
    · have h2' : ¬ (k : Int) ≤ ((tot l.ps : Nat) : Int) := by omega
      obtain ⟨B, hB⟩ : ∃ B, B = tot l.ps := ⟨_, rfl⟩
      obtain ⟨E, hE⟩ : ∃ E, E = tot l.ps + s.size := ⟨_, rfl⟩
      obtain ⟨J, hJ⟩ : ∃ J, J = min k E - B := ⟨_, rfl⟩
      have c1 := fun w' (h : Bl w w') => ihr ((k : Int) - (E : Int)) p2 w' (hn.r.bl h) hfr (by omega) (by omega)
      have e2 : ((k : Int) - (E : Int)).toNat = k - E := by omega
      rw [e2] at c1
      have c2 := fun w' q t (h : Bl w w') (i : Is w' q t) (e : t.ps = takeP (k - E) r.ps) => join_at p0 q l t (s.extract 0 J) w' (hn.l.bl h) i (by rw [e, hJ, hB, hE, ← take_right hf h2]; exact hf.take k)
      have HT : Hid (takeP k (Tr.node l s r).ps = l.ps ++ s.extract 0 J :: takeP (k - E) r.ps) := by unfold Hid; rw [take_right hf h2, hJ, hB, hE]
      obtain ⟨M, hM⟩ : ∃ M : Nat, M = min k E := ⟨_, rfl⟩
      have hmin : (if E < k then (E : Int) else (k : Int)) = (M : Int) := by split <;> omega
      have hw1 : IntKind.i64.wrap ((k : Int) - (E : Int)) = (k : Int) - (E : Int) := by rw [IntKind.wrap_i64]; omega
      have hw2 : IntKind.i64.wrap ((M : Int) - (B : Int)) = (J : Int) := by rw [IntKind.wrap_i64]; omega
      have hJs : (J : Int) ≤ (s.size : Int) := by omega
      have hJ0 : (0 : Int) ≤ (J : Int) := by omega
      rw [← hE, ← hB] at cp
      rw [← hB] at h2'
      rw [HT.out]
      clear ihl ihr hn hf hfl hfr h hto e1 e2 hB hE hJ h2 hM
      generalize tot (Tr.node l s r).ps = T at *
      go_enter Tryd.func12, Tryd.ntmps12
      go_wp2_with (first | (go_at_call 16; refine ct.mono ?_; clear ct; rintro e w1 ⟨rfl, hb1⟩; have cp1 := cp _ hb1; clear cp) | (go_at_call 21; refine cp1.mono ?_; clear cp1; rintro e w2 ⟨rfl, hb2⟩))
      have HB : Bl w w2.drew := (hb1.trans hb2).drew
      have hs2 := HS.out _ HB
      go_region_held3 (fun w' => w'.cell? ⟨b, 0, none⟩ = some (.pointer p0) ∧ w'.cell? ⟨b, 1, none⟩ = some (.string s) ∧ w'.cell? ⟨b, 2, none⟩ = some (.pointer p2)) (assumption) (first | (go_at_call 12; refine (c1 _ HB).mono ?_; clear c1; rintro e w3 ⟨q, t, rfl, hq, hp, hbal, hb3⟩; have HB3 := HB.trans hb3; have hs3 := HS.out _ HB3; have c3 := c2 _ _ _ HB3 hq hp; clear c2) | (go_at_call 11; refine c3.mono ?_; clear c3; rintro e w4 ⟨q', t', rfl, hq', hj, hb4⟩; have HB4 := HB3.trans hb4; have hs4 := HS.out _ HB4))
      all_goals go_wp2
      all_goals go_ret
      all_goals exact ⟨_, _, rfl, hq', by rw [hj.p, hp], fun h => (hj.b h.1 (hbal h.2.1)).1, HB4⟩
set_option maxRecDepth 100000 in
set_option maxHeartbeats 4000000 in
theorem behind_to (t : Tr) : ∀ (m : Int) (p : Option Addr) (w : World), Is w p t → fit t.ps → -9000000 ≤ m → m ≤ 9000000 →
    Calls Tryd.prog 13 #[.pointer p, .int .i64 m] w fun e w' => ∃ q t', e = .returned (.pointer q) ∧ Is w' q t' ∧ t'.ps = dropP m.toNat t.ps ∧ (t.bal → t'.bal) ∧ Bl w w' := by
  induction t with
  | leaf =>
    intro m p w h hf hm0 hm1
    obtain rfl : p = none := h
    have ct := total_at none .leaf w rfl
    have hfd := fd0
    have e0 : tot Tr.leaf.ps = 0 := rfl
    rw [e0] at ct
    clear hf e0
    go_enter Tryd.func13, Tryd.ntmps13
    by_cases h0 : m ≤ 0
    · go_wp2
      go_ret
      exact ⟨_, .leaf, rfl, rfl, rfl, id, Bl.refl _⟩
    · have h1 : (0 : Int) ≤ m := by omega
      go_wp2_with (go_at_call 16; refine ct.mono ?_; rintro e w1 ⟨rfl, hb1⟩)
      go_ret
      exact ⟨_, .leaf, rfl, rfl, rfl, id, hb1⟩
  | node l s r ihl ihr =>
    intro m p w h hf hm0 hm1
    have hfl : fit l.ps := hf.sub (by simp [Tr.ps])
    have hfr : fit r.ps := hf.sub (by simp [Tr.ps])
    have ct := total_at p (.node l s r) w h
    have hfd := fd0
    by_cases h0 : m ≤ 0
    · clear ct ihl ihr
      go_enter Tryd.func13, Tryd.ntmps13
      go_wp2
      go_ret
      exact ⟨_, _, rfl, h, by rw [show m.toNat = 0 by omega, dropP_zero], id, Bl.refl _⟩
    obtain ⟨k, rfl⟩ : ∃ k : Nat, m = (k : Int) := ⟨m.toNat, by omega⟩
    rw [Int.toNat_natCast]
    have h0' : ¬ (k : Int) ≤ 0 := h0
    by_cases h1 : tot (Tr.node l s r).ps ≤ k
    · have HT : Hid (dropP k (Tr.node l s r).ps = []) := dropP_all k h1 hf.1
      clear ihl ihr hf hfl hfr
      generalize tot (Tr.node l s r).ps = T at *
      have h1' : (T : Int) ≤ (k : Int) := by omega
      go_enter Tryd.func13, Tryd.ntmps13
      go_wp2_with (go_at_call 16; refine ct.mono ?_; rintro e w1 ⟨rfl, hb1⟩)
      go_ret
      exact ⟨_, .leaf, rfl, rfl, HT.out.symm, fun _ => trivial, hb1⟩
    obtain ⟨b, p0, p2, rfl, hn⟩ := h.nd
    have hto := hf.2
    have e1 : tot (Tr.node l s r).ps = tot l.ps + s.size + tot r.ps := by rw [Tr.ps, tot_app, tot]; omega
    have cp := fun w' (h : Bl w w') => place_at b p0 l s w' (cell_bl h hn.c0) (cell_bl h hn.c1) (hn.l.bl h) (by omega)
    have HS : Hid (∀ w', Bl w w' → (fun w' => w'.cell? ⟨b, 0, none⟩ = some (.pointer p0) ∧ w'.cell? ⟨b, 1, none⟩ = some (.string s) ∧ w'.cell? ⟨b, 2, none⟩ = some (.pointer p2)) w') := fun w' k => ⟨cell_bl k hn.c0, cell_bl k hn.c1, cell_bl k hn.c2⟩
    have h1' : ¬ ((tot (Tr.node l s r).ps : Nat) : Int) ≤ (k : Int) := by omega
    obtain ⟨B, hB⟩ : ∃ B, B = tot l.ps := ⟨_, rfl⟩
    obtain ⟨E, hE⟩ : ∃ E, E = tot l.ps + s.size := ⟨_, rfl⟩
    rw [← hE, ← hB] at cp
    by_cases h2 : tot l.ps + s.size ≤ k
    · have HT : Hid (dropP k (Tr.node l s r).ps = dropP (k - (tot l.ps + s.size)) r.ps) := drop_right hf h2
      have c1 := fun w' (h : Bl w w') => ihr ((k : Int) - (E : Int)) p2 w' (hn.r.bl h) hfr (by omega) (by omega)
      have e2 : ((k : Int) - (E : Int)).toNat = k - E := by omega
      have h2' : (E : Int) ≤ (k : Int) := by omega
      have hw1 : IntKind.i64.wrap ((k : Int) - (E : Int)) = (k : Int) - (E : Int) := by rw [IntKind.wrap_i64]; omega
      rw [e2] at c1
      rw [HT.out, ← hE]
      clear ihl ihr hn hf hfl hfr h hto e1 e2 hB hE h2
      generalize tot (Tr.node l s r).ps = T at *
      go_enter Tryd.func13, Tryd.ntmps13
      go_wp2_with (first | (go_at_call 16; refine ct.mono ?_; clear ct; rintro e w1 ⟨rfl, hb1⟩; have cp1 := cp _ hb1; clear cp) | (go_at_call 21; refine cp1.mono ?_; clear cp1; rintro e w2 ⟨rfl, hb2⟩; have HB := hb1.trans hb2; obtain ⟨g0, g1, g2⟩ := HS.out _ HB; have c2 := c1 _ HB; clear c1) | (go_at_call 13; refine c2.mono ?_; clear c2; rintro e w3 ⟨q, t', rfl, hq, hp, hbal, hb3⟩))
      go_ret
      exact ⟨_, _, rfl, hq, hp, fun h => hbal h.2.1, HB.trans hb3⟩
    · have h2' : ¬ (E : Int) ≤ (k : Int) := by omega
      obtain ⟨J, hJ⟩ : ∃ J, J = max k B - B := ⟨_, rfl⟩
      have c1 := fun w' (h : Bl w w') => ihl (k : Int) p0 w' (hn.l.bl h) hfl hm0 hm1
      rw [Int.toNat_natCast] at c1
      have c2 := fun w' q t (h : Bl w w') (i : Is w' q t) (e : t.ps = dropP k l.ps) => join_at q p2 t r (s.extract J s.size) w' i (hn.r.bl h) (by rw [e, hJ, hB, ← drop_left hf h2]; exact hf.drop k)
      have HT : Hid (dropP k (Tr.node l s r).ps = dropP k l.ps ++ s.extract J s.size :: r.ps) := by unfold Hid; rw [drop_left hf h2, hJ, hB]
      obtain ⟨M, hM⟩ : ∃ M : Nat, M = max k B := ⟨_, rfl⟩
      have hmin : (if k < B then (B : Int) else (k : Int)) = (M : Int) := by split <;> omega
      have hw2 : IntKind.i64.wrap ((M : Int) - (B : Int)) = (J : Int) := by rw [IntKind.wrap_i64]; omega
      have hJs : (J : Int) ≤ (s.size : Int) := by omega
      have hJ0 : (0 : Int) ≤ (J : Int) := by omega
      rw [HT.out]
      clear ihl ihr hn hf hfl hfr h hto e1 hB hE hJ h2 hM
      generalize tot (Tr.node l s r).ps = T at *
      go_enter Tryd.func13, Tryd.ntmps13
      go_wp2_with (first | (go_at_call 16; refine ct.mono ?_; clear ct; rintro e w1 ⟨rfl, hb1⟩; have cp1 := cp _ hb1; clear cp) | (go_at_call 21; refine cp1.mono ?_; clear cp1; rintro e w2 ⟨rfl, hb2⟩))
      have HB : Bl w w2.drew := (hb1.trans hb2).drew
      have hs2 := HS.out _ HB
      go_region_held3 (fun w' => w'.cell? ⟨b, 0, none⟩ = some (.pointer p0) ∧ w'.cell? ⟨b, 1, none⟩ = some (.string s) ∧ w'.cell? ⟨b, 2, none⟩ = some (.pointer p2)) (assumption) (first | (go_at_call 13; refine (c1 _ HB).mono ?_; clear c1; rintro e w3 ⟨q, t, rfl, hq, hp, hbal, hb3⟩; have HB3 := HB.trans hb3; have hs3 := HS.out _ HB3; have c3 := c2 _ _ _ HB3 hq hp; clear c2) | (go_at_call 11; refine c3.mono ?_; clear c3; rintro e w4 ⟨q', t', rfl, hq', hj, hb4⟩; have HB4 := HB3.trans hb4; have hs4 := HS.out _ HB4))
      all_goals go_wp2
      all_goals go_ret
      all_goals exact ⟨_, _, rfl, hq', by rw [hj.p, hp], fun h => (hj.b (hbal h.1) h.2.1).1, HB4⟩
end Go.Proofs.YtkjlcgclabgkaaaDoor.pc
