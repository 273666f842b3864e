/- Trees that are made level: rightwards, leftwards, level. -/
import Derived.Test.YtkjlcgclabgkaaaDoorPc1
namespace Go.Proofs.YtkjlcgclabgkaaaDoor.pc
set_option linter.unusedVariables false
open Go.ChangeShapes Go.WideShapes Go.ChangeAt Go.RowKit
open mem

/-- What a node holds, in a world. -/
structure Nd (w : World) (b : Nat) (pl : Option Addr) (s : ByteArray) (pr : Option Addr) (l r : Tr) : Prop where
  c0 : w.cell? ⟨b, 0, none⟩ = some (.pointer pl)
  c1 : w.cell? ⟨b, 1, none⟩ = some (.string s)
  c2 : w.cell? ⟨b, 2, none⟩ = some (.pointer pr)
  l : Is w pl l
  r : Is w pr r
theorem Nd.bl {A B : World} {b : Nat} {pl : Option Addr} {s : ByteArray} {pr : Option Addr} {l r : Tr} (h : Nd A b pl s pr l r) (k : Bl A B) : Nd B b pl s pr l r :=
  ⟨cell_bl k h.c0, cell_bl k h.c1, cell_bl k h.c2, h.l.bl k, h.r.bl k⟩
theorem Is.nd {w : World} {p : Option Addr} {l r : Tr} {s : ByteArray} (h : Is w p (.node l s r)) : ∃ b pl pr, p = some ⟨b, 0, none⟩ ∧ Nd w b pl s pr l r := by
  obtain ⟨b, pl, pr, rfl, hb, h0, h1, h2, h3, h4, h5, hl, hr⟩ := h
  exact ⟨b, pl, pr, rfl, h0, h1, h2, hl, hr⟩
set_option maxRecDepth 100000 in
set_option maxHeartbeats 4000000 in
theorem rightwards1 (p pr : Option Addr) (ll lr r : Tr) (a  s : ByteArray) (w : World) (h : Is w p (.node ll a lr)) (hr : Is w pr r) (hf : fit ((Tr.node ll a lr).ps ++ s :: r.ps)) (hd :  lr.dp ≤ ll.dp) :
    Calls Tryd.prog 29 #[.pointer p, .string s, .pointer pr] w fun e w' => ∃ q, e = .returned (.pointer q) ∧ Is w' q (.node ll a (.node lr s r)) ∧ Bl w w' := by
  obtain ⟨b, p0, p2, rfl, hn⟩ := h.nd
  clear h
  have ct1 := total_at p0 ll w hn.l
  have ct2 := fun w' (h : Bl w w') => total_at p2 lr w' (hn.r.bl h)
  have cp1 := fun w' (h : Bl w w') => put_at p2 pr lr r s w' (hn.r.bl h) (hr.bl h) (hf.sub (by simp [Tr.ps]))
  have cp2 := fun w' q (h : Bl w w') (k : Is w' q (.node lr s r)) => put_at p0 q ll (.node lr s r) a w' (hn.l.bl h) k (by simpa [Tr.ps] using hf)
  have HC : Hid ((fun w' => w'.cell? ⟨b, 0, none⟩ = some (.pointer p0) ∧ w'.cell? ⟨b, 1, none⟩ = some (.string a) ∧ w'.cell? ⟨b, 2, none⟩ = some (.pointer p2)) w) := ⟨hn.c0, hn.c1, hn.c2⟩
  have hS : ∀ w', Bl w w' → (fun w' => w'.cell? ⟨b, 0, none⟩ = some (.pointer p0) ∧ w'.cell? ⟨b, 1, none⟩ = some (.string a) ∧ w'.cell? ⟨b, 2, none⟩ = some (.pointer p2)) w' := fun w' k => ⟨cell_bl k hn.c0, cell_bl k hn.c1, cell_bl k hn.c2⟩
  have HS : Hid (∀ w', Bl w w' → (fun w' => w'.cell? ⟨b, 0, none⟩ = some (.pointer p0) ∧ w'.cell? ⟨b, 1, none⟩ = some (.string a) ∧ w'.cell? ⟨b, 2, none⟩ = some (.pointer p2)) w') := hS
  have hfd := fd2
  have hdd : ((lr.dp : Nat) : Int) ≤ ((ll.dp : Nat) : Int) := by omega
  obtain ⟨h0, h1, h2⟩ := HC.out
  clear HC hS
  clear hf hd hn
  go_enter Tryd.func29, Tryd.ntmps29
  go_wp2_with (go_at_call 16; first | (refine ct1.mono ?_; clear ct1; rintro e w1 ⟨rfl, hb1⟩; have ct3 := ct2 _ hb1; clear ct2; obtain ⟨g0, g1, g2⟩ := HS.out _ hb1) | (refine ct3.mono ?_; clear ct3; rintro e w2 ⟨rfl, hb2⟩))
  have HB : Bl w w2.drew := (hb1.trans hb2).drew
  have hs2 := HS.out _ HB
  clear h0 h1 h2 g0 g1 g2
  go_region_held3 (fun w' => w'.cell? ⟨b, 0, none⟩ = some (.pointer p0) ∧ w'.cell? ⟨b, 1, none⟩ = some (.string a) ∧ w'.cell? ⟨b, 2, none⟩ = some (.pointer p2)) (assumption) (first | (go_at_call 23; refine (cp1 _ HB).mono ?_; clear cp1; rintro e w3 ⟨q, rfl, hq, hb3⟩; have HB3 := HB.trans hb3; have hs3 := HS.out _ HB3; have cp4 := cp2 _ _ HB3 hq; clear cp2) | (go_at_call 23; refine cp4.mono ?_; clear cp4; rintro e w4 ⟨q', rfl, hq', hb4⟩; have HB4 := HB3.trans hb4; have hs4 := HS.out _ HB4))
  go_wp2
  go_ret
  exact ⟨_, rfl, hq', HB4⟩
set_option maxRecDepth 100000 in
set_option maxHeartbeats 4000000 in
theorem leftwards1 (pl p : Option Addr) (l rl rr : Tr) (s  a : ByteArray) (w : World) (h : Is w p (.node rl a rr)) (hl : Is w pl l) (hf : fit (l.ps ++ s :: (Tr.node rl a rr).ps)) (hd :  rl.dp ≤ rr.dp) :
    Calls Tryd.prog 30 #[.pointer pl, .string s, .pointer p] w fun e w' => ∃ q, e = .returned (.pointer q) ∧ Is w' q (.node (.node l s rl) a rr) ∧ Bl w w' := by
  obtain ⟨b, p0, p2, rfl, hn⟩ := h.nd
  clear h
  have ct1 := total_at p2 rr w hn.r
  have ct2 := fun w' (h : Bl w w') => total_at p0 rl w' (hn.l.bl h)
  have cp1 := fun w' (h : Bl w w') => put_at pl p0 l rl s w' (hl.bl h) (hn.l.bl h) (hf.sub (by simp [Tr.ps]))
  have cp2 := fun w' q (h : Bl w w') (k : Is w' q (.node l s rl)) => put_at q p2 (.node l s rl) rr a w' k (hn.r.bl h) (by simpa [Tr.ps] using hf)
  have HC : Hid ((fun w' => w'.cell? ⟨b, 0, none⟩ = some (.pointer p0) ∧ w'.cell? ⟨b, 1, none⟩ = some (.string a) ∧ w'.cell? ⟨b, 2, none⟩ = some (.pointer p2)) w) := ⟨hn.c0, hn.c1, hn.c2⟩
  have hS : ∀ w', Bl w w' → (fun w' => w'.cell? ⟨b, 0, none⟩ = some (.pointer p0) ∧ w'.cell? ⟨b, 1, none⟩ = some (.string a) ∧ w'.cell? ⟨b, 2, none⟩ = some (.pointer p2)) w' := fun w' k => ⟨cell_bl k hn.c0, cell_bl k hn.c1, cell_bl k hn.c2⟩
  have HS : Hid (∀ w', Bl w w' → (fun w' => w'.cell? ⟨b, 0, none⟩ = some (.pointer p0) ∧ w'.cell? ⟨b, 1, none⟩ = some (.string a) ∧ w'.cell? ⟨b, 2, none⟩ = some (.pointer p2)) w') := hS
  have hfd := fd2
  have hdd : ((rl.dp : Nat) : Int) ≤ ((rr.dp : Nat) : Int) := by omega
  obtain ⟨h0, h1, h2⟩ := HC.out
  clear HC hS
  clear hf hd hn
  go_enter Tryd.func30, Tryd.ntmps30
  go_wp2_with (go_at_call 16; first | (refine ct1.mono ?_; clear ct1; rintro e w1 ⟨rfl, hb1⟩; have ct3 := ct2 _ hb1; clear ct2; obtain ⟨g0, g1, g2⟩ := HS.out _ hb1) | (refine ct3.mono ?_; clear ct3; rintro e w2 ⟨rfl, hb2⟩))
  have HB : Bl w w2.drew := (hb1.trans hb2).drew
  have hs2 := HS.out _ HB
  clear h0 h1 h2 g0 g1 g2
  go_region_held3 (fun w' => w'.cell? ⟨b, 0, none⟩ = some (.pointer p0) ∧ w'.cell? ⟨b, 1, none⟩ = some (.string a) ∧ w'.cell? ⟨b, 2, none⟩ = some (.pointer p2)) (assumption) (first | (go_at_call 23; refine (cp1 _ HB).mono ?_; clear cp1; rintro e w3 ⟨q, rfl, hq, hb3⟩; have HB3 := HB.trans hb3; have hs3 := HS.out _ HB3; have cp4 := cp2 _ _ HB3 hq; clear cp2) | (go_at_call 23; refine cp4.mono ?_; clear cp4; rintro e w4 ⟨q', rfl, hq', hb4⟩; have HB4 := HB3.trans hb4; have hs4 := HS.out _ HB4))
  go_wp2
  go_ret
  exact ⟨_, rfl, hq', HB4⟩
set_option maxRecDepth 100000 in
set_option maxHeartbeats 4000000 in
theorem rightwards2 (p pr : Option Addr) (ll il ir r : Tr) (a c s : ByteArray) (w : World) (h : Is w p (.node ll a (.node il c ir))) (hr : Is w pr r) (hf : fit ((Tr.node ll a (.node il c ir)).ps ++ s :: r.ps)) (hd : ¬ (Tr.node il c ir).dp ≤ ll.dp) :
    Calls Tryd.prog 29 #[.pointer p, .string s, .pointer pr] w fun e w' => ∃ q, e = .returned (.pointer q) ∧ Is w' q (.node (.node ll a il) c (.node ir s r)) ∧ Bl w w' := by
  obtain ⟨b, p0, p2, rfl, hn⟩ := h.nd
  clear h
  obtain ⟨d, q0, q2, rfl, hm⟩ := hn.r.nd
  have ct1 := total_at p0 ll w hn.l
  have ct2 := fun w' (h : Bl w w') => total_at (some ⟨d, 0, none⟩) (Tr.node il c ir) w' (hn.r.bl h)
  have cp1 := fun w' (h : Bl w w') => put_at p0 q0 ll il a w' (hn.l.bl h) (hm.l.bl h) (hf.sub (by simp only [Tr.ps, List.append_assoc, List.cons_append]; exact (List.Sublist.refl _).append (List.Sublist.cons_cons _ (List.sublist_append_left _ _))))
  have cp2 := fun w' (h : Bl w w') => put_at q2 pr ir r s w' (hm.r.bl h) (hr.bl h) (hf.sub (by simp only [Tr.ps, List.append_assoc, List.cons_append]; exact ((((List.Sublist.refl _).cons c).trans (List.sublist_append_right il.ps _)).cons a).trans (List.sublist_append_right ll.ps _)))
  have cp3 := fun w' q q' (h : Is w' q (.node ll a il)) (k : Is w' q' (.node ir s r)) => put_at q q' (.node ll a il) (.node ir s r) c w' h k (by simpa [Tr.ps] using hf)
  have HC : Hid ((fun w' => w'.cell? ⟨b, 0, none⟩ = some (.pointer p0) ∧ w'.cell? ⟨b, 1, none⟩ = some (.string a) ∧ w'.cell? ⟨b, 2, none⟩ = some (.pointer (some ⟨d, 0, none⟩)) ∧ w'.cell? ⟨d, 0, none⟩ = some (.pointer q0) ∧ w'.cell? ⟨d, 1, none⟩ = some (.string c) ∧ w'.cell? ⟨d, 2, none⟩ = some (.pointer q2)) w) := ⟨hn.c0, hn.c1, hn.c2, hm.c0, hm.c1, hm.c2⟩
  have hS : ∀ w', Bl w w' → (fun w' => w'.cell? ⟨b, 0, none⟩ = some (.pointer p0) ∧ w'.cell? ⟨b, 1, none⟩ = some (.string a) ∧ w'.cell? ⟨b, 2, none⟩ = some (.pointer (some ⟨d, 0, none⟩)) ∧ w'.cell? ⟨d, 0, none⟩ = some (.pointer q0) ∧ w'.cell? ⟨d, 1, none⟩ = some (.string c) ∧ w'.cell? ⟨d, 2, none⟩ = some (.pointer q2)) w' := fun w' k => ⟨cell_bl k hn.c0, cell_bl k hn.c1, cell_bl k hn.c2, cell_bl k hm.c0, cell_bl k hm.c1, cell_bl k hm.c2⟩
  have HS : Hid (∀ w', Bl w w' → (fun w' => w'.cell? ⟨b, 0, none⟩ = some (.pointer p0) ∧ w'.cell? ⟨b, 1, none⟩ = some (.string a) ∧ w'.cell? ⟨b, 2, none⟩ = some (.pointer (some ⟨d, 0, none⟩)) ∧ w'.cell? ⟨d, 0, none⟩ = some (.pointer q0) ∧ w'.cell? ⟨d, 1, none⟩ = some (.string c) ∧ w'.cell? ⟨d, 2, none⟩ = some (.pointer q2)) w') := hS
  have hfd := fd2
  have hdd : ¬ (((Tr.node il c ir).dp : Nat) : Int) ≤ ((ll.dp : Nat) : Int) := by omega
  obtain ⟨h0, h1, h2, h3, h4, h5⟩ := HC.out
  clear HC hS
  generalize (Tr.node il c ir).dp = DI at *
  clear hf hd hn hm
  go_enter Tryd.func29, Tryd.ntmps29
  go_wp2_with (go_at_call 16; first | (refine ct1.mono ?_; clear ct1; rintro e w1 ⟨rfl, hb1⟩; have ct3 := ct2 _ hb1; clear ct2; obtain ⟨g0, g1, g2, g3, g4, g5⟩ := HS.out _ hb1) | (refine ct3.mono ?_; clear ct3; rintro e w2 ⟨rfl, hb2⟩))
  have HB : Bl w w2.drew := (hb1.trans hb2).drew
  have hs2 := HS.out _ HB
  clear h0 h1 h2 h3 h4 h5 g0 g1 g2 g3 g4 g5
  go_region_held3 (fun w' => w'.cell? ⟨b, 0, none⟩ = some (.pointer p0) ∧ w'.cell? ⟨b, 1, none⟩ = some (.string a) ∧ w'.cell? ⟨b, 2, none⟩ = some (.pointer (some ⟨d, 0, none⟩)) ∧ w'.cell? ⟨d, 0, none⟩ = some (.pointer q0) ∧ w'.cell? ⟨d, 1, none⟩ = some (.string c) ∧ w'.cell? ⟨d, 2, none⟩ = some (.pointer q2)) (assumption) (first | (go_at_call 23; refine (cp1 _ HB).mono ?_; clear cp1; rintro e w3 ⟨q, rfl, hq, hb3⟩; have HB3 := HB.trans hb3; have hs3 := HS.out _ HB3; have cp4 := cp2 _ HB3; clear cp2) | (go_at_call 23; refine cp4.mono ?_; clear cp4; rintro e w4 ⟨q', rfl, hq', hb4⟩; have HB4 := HB3.trans hb4; have hs4 := HS.out _ HB4; have cp5 := cp3 _ _ _ (hq.bl hb4) hq'; clear cp3) | (go_at_call 23; refine cp5.mono ?_; clear cp5; rintro e w5 ⟨q5, rfl, hq5, hb5⟩; have HB5 := HB4.trans hb5; have hs5 := HS.out _ HB5))
  go_wp2
  go_ret
  exact ⟨_, rfl, hq5, HB5⟩
set_option maxRecDepth 100000 in
set_option maxHeartbeats 4000000 in
theorem leftwards2 (pl p : Option Addr) (l il ir rr : Tr) (s c a : ByteArray) (w : World) (h : Is w p (.node (.node il c ir) a rr)) (hl : Is w pl l) (hf : fit (l.ps ++ s :: (Tr.node (.node il c ir) a rr).ps)) (hd : ¬ (Tr.node il c ir).dp ≤ rr.dp) :
    Calls Tryd.prog 30 #[.pointer pl, .string s, .pointer p] w fun e w' => ∃ q, e = .returned (.pointer q) ∧ Is w' q (.node (.node l s il) c (.node ir a rr)) ∧ Bl w w' := by
  obtain ⟨b, p0, p2, rfl, hn⟩ := h.nd
  clear h
  obtain ⟨d, q0, q2, rfl, hm⟩ := hn.l.nd
  have ct1 := total_at p2 rr w hn.r
  have ct2 := fun w' (h : Bl w w') => total_at (some ⟨d, 0, none⟩) (Tr.node il c ir) w' (hn.l.bl h)
  have cp1 := fun w' (h : Bl w w') => put_at pl q0 l il s w' (hl.bl h) (hm.l.bl h) (hf.sub (by simp only [Tr.ps, List.append_assoc, List.cons_append]; exact (List.Sublist.refl _).append (List.Sublist.cons_cons _ (List.sublist_append_left _ _))))
  have cp2 := fun w' (h : Bl w w') => put_at q2 p2 ir rr a w' (hm.r.bl h) (hn.r.bl h) (hf.sub (by simp only [Tr.ps, List.append_assoc, List.cons_append]; exact ((((List.Sublist.refl _).cons c).trans (List.sublist_append_right il.ps _)).cons s).trans (List.sublist_append_right l.ps _)))
  have cp3 := fun w' q q' (h : Is w' q (.node l s il)) (k : Is w' q' (.node ir a rr)) => put_at q q' (.node l s il) (.node ir a rr) c w' h k (by simpa [Tr.ps] using hf)
  have HC : Hid ((fun w' => w'.cell? ⟨b, 0, none⟩ = some (.pointer (some ⟨d, 0, none⟩)) ∧ w'.cell? ⟨b, 1, none⟩ = some (.string a) ∧ w'.cell? ⟨b, 2, none⟩ = some (.pointer p2) ∧ w'.cell? ⟨d, 0, none⟩ = some (.pointer q0) ∧ w'.cell? ⟨d, 1, none⟩ = some (.string c) ∧ w'.cell? ⟨d, 2, none⟩ = some (.pointer q2)) w) := ⟨hn.c0, hn.c1, hn.c2, hm.c0, hm.c1, hm.c2⟩
  have hS : ∀ w', Bl w w' → (fun w' => w'.cell? ⟨b, 0, none⟩ = some (.pointer (some ⟨d, 0, none⟩)) ∧ w'.cell? ⟨b, 1, none⟩ = some (.string a) ∧ w'.cell? ⟨b, 2, none⟩ = some (.pointer p2) ∧ w'.cell? ⟨d, 0, none⟩ = some (.pointer q0) ∧ w'.cell? ⟨d, 1, none⟩ = some (.string c) ∧ w'.cell? ⟨d, 2, none⟩ = some (.pointer q2)) w' := fun w' k => ⟨cell_bl k hn.c0, cell_bl k hn.c1, cell_bl k hn.c2, cell_bl k hm.c0, cell_bl k hm.c1, cell_bl k hm.c2⟩
  have HS : Hid (∀ w', Bl w w' → (fun w' => w'.cell? ⟨b, 0, none⟩ = some (.pointer (some ⟨d, 0, none⟩)) ∧ w'.cell? ⟨b, 1, none⟩ = some (.string a) ∧ w'.cell? ⟨b, 2, none⟩ = some (.pointer p2) ∧ w'.cell? ⟨d, 0, none⟩ = some (.pointer q0) ∧ w'.cell? ⟨d, 1, none⟩ = some (.string c) ∧ w'.cell? ⟨d, 2, none⟩ = some (.pointer q2)) w') := hS
  have hfd := fd2
  have hdd : ¬ (((Tr.node il c ir).dp : Nat) : Int) ≤ ((rr.dp : Nat) : Int) := by omega
  obtain ⟨h0, h1, h2, h3, h4, h5⟩ := HC.out
  clear HC hS
  generalize (Tr.node il c ir).dp = DI at *
  clear hf hd hn hm
  go_enter Tryd.func30, Tryd.ntmps30
  go_wp2_with (go_at_call 16; first | (refine ct1.mono ?_; clear ct1; rintro e w1 ⟨rfl, hb1⟩; have ct3 := ct2 _ hb1; clear ct2; obtain ⟨g0, g1, g2, g3, g4, g5⟩ := HS.out _ hb1) | (refine ct3.mono ?_; clear ct3; rintro e w2 ⟨rfl, hb2⟩))
  have HB : Bl w w2.drew := (hb1.trans hb2).drew
  have hs2 := HS.out _ HB
  clear h0 h1 h2 h3 h4 h5 g0 g1 g2 g3 g4 g5
  go_region_held3 (fun w' => w'.cell? ⟨b, 0, none⟩ = some (.pointer (some ⟨d, 0, none⟩)) ∧ w'.cell? ⟨b, 1, none⟩ = some (.string a) ∧ w'.cell? ⟨b, 2, none⟩ = some (.pointer p2) ∧ w'.cell? ⟨d, 0, none⟩ = some (.pointer q0) ∧ w'.cell? ⟨d, 1, none⟩ = some (.string c) ∧ w'.cell? ⟨d, 2, none⟩ = some (.pointer q2)) (assumption) (first | (go_at_call 23; refine (cp1 _ HB).mono ?_; clear cp1; rintro e w3 ⟨q, rfl, hq, hb3⟩; have HB3 := HB.trans hb3; have hs3 := HS.out _ HB3; have cp4 := cp2 _ HB3; clear cp2) | (go_at_call 23; refine cp4.mono ?_; clear cp4; rintro e w4 ⟨q', rfl, hq', hb4⟩; have HB4 := HB3.trans hb4; have hs4 := HS.out _ HB4; have cp5 := cp3 _ _ _ (hq.bl hb4) hq'; clear cp3) | (go_at_call 23; refine cp5.mono ?_; clear cp5; rintro e w5 ⟨q5, rfl, hq5, hb5⟩; have HB5 := HB4.trans hb5; have hs5 := HS.out _ HB5))
  go_wp2
  go_ret
  exact ⟨_, rfl, hq5, HB5⟩
set_option maxRecDepth 100000 in
set_option maxHeartbeats 2000000 in
/-- level: a piece between two trees of which one may be deeper. -/
theorem level_at (pl pr : Option Addr) (l r : Tr) (s : ByteArray) (w : World) (hl : Is w pl l) (hr : Is w pr r) (hf : fit (l.ps ++ s :: r.ps)) :
    Calls Tryd.prog 22 #[.pointer pl, .string s, .pointer pr] w fun e w' => ∃ q t, e = .returned (.pointer q) ∧ Is w' q t ∧ Lv l s r t ∧ Bl w w' := by
  have ct1 := total_at pl l w hl
  have ct2 := fun w' (h : Bl w w') => total_at pr r w' (hr.bl h)
  have hfd := fd2
  have hdl := (hf.sub (a := l.ps) (by simp)).dp
  have hdr := (hf.sub (a := r.ps) (by simp)).dp
  have cR : ¬ l.dp ≤ r.dp + 1 → ∀ w', Bl w w' → Calls Tryd.prog 29 #[.pointer pl, .string s, .pointer pr] w' fun e w'' => ∃ q t, e = .returned (.pointer q) ∧ Is w'' q t ∧ Lv l s r t ∧ Bl w' w'' := by
    intro hd w' hb
    obtain ⟨ll, a, lr, rfl⟩ := dp_pos (t := l) (by omega)
    by_cases hc : lr.dp ≤ ll.dp
    · exact (rightwards1 pl pr ll lr r a s w' (hl.bl hb) (hr.bl hb) hf hc).mono fun e w'' ⟨q, he, hq, hb'⟩ => ⟨q, _, he, hq, lv_r1 (by omega) hc, hb'⟩
    · obtain ⟨il, c, ir, rfl⟩ := dp_pos (t := lr) (by omega)
      exact (rightwards2 pl pr ll il ir r a c s w' (hl.bl hb) (hr.bl hb) hf hc).mono fun e w'' ⟨q, he, hq, hb'⟩ => ⟨q, _, he, hq, lv_r2 (by omega) hc, hb'⟩
  have cL : ¬ r.dp ≤ l.dp + 1 → ∀ w', Bl w w' → Calls Tryd.prog 30 #[.pointer pl, .string s, .pointer pr] w' fun e w'' => ∃ q t, e = .returned (.pointer q) ∧ Is w'' q t ∧ Lv l s r t ∧ Bl w' w'' := by
    intro hd w' hb
    obtain ⟨rl, a, rr, rfl⟩ := dp_pos (t := r) (by omega)
    by_cases hc : rl.dp ≤ rr.dp
    · exact (leftwards1 pl pr l rl rr s a w' (hr.bl hb) (hl.bl hb) hf hc).mono fun e w'' ⟨q, he, hq, hb'⟩ => ⟨q, _, he, hq, lv_l1 (by omega) hc, hb'⟩
    · obtain ⟨il, c, ir, rfl⟩ := dp_pos (t := rl) (by omega)
      exact (leftwards2 pl pr l il ir rr s c a w' (hr.bl hb) (hl.bl hb) hf hc).mono fun e w'' ⟨q, he, hq, hb'⟩ => ⟨q, _, he, hq, lv_l2 (by omega) hc, hb'⟩
  have cP : l.dp ≤ r.dp + 1 → r.dp ≤ l.dp + 1 → ∀ w', Bl w w' → Calls Tryd.prog 23 #[.pointer pl, .string s, .pointer pr] w' fun e w'' => ∃ q t, e = .returned (.pointer q) ∧ Is w'' q t ∧ Lv l s r t ∧ Bl w' w'' := by
    intro h1 h2 w' hb
    exact (put_at pl pr l r s w' (hl.bl hb) (hr.bl hb) hf).mono fun e w'' ⟨q, he, hq, hb'⟩ => ⟨q, _, he, hq, lv_put h1 h2, hb'⟩
  have hw : wrap64 (((l.dp : Nat) : Int) - ((r.dp : Nat) : Int)) = ((l.dp : Nat) : Int) - ((r.dp : Nat) : Int) := by unfold wrap64; omega
  have HD : Hid (wrap64 (((l.dp : Nat) : Int) - ((r.dp : Nat) : Int)) = ((l.dp : Nat) : Int) - ((r.dp : Nat) : Int)) := hw
  clear hf hdl hdr
  rcases (show (¬ l.dp ≤ r.dp + 1) ∨ (¬ r.dp ≤ l.dp + 1) ∨ (l.dp ≤ r.dp + 1 ∧ r.dp ≤ l.dp + 1) by omega) with hd | hd | ⟨hd1, hd2⟩
  · have c := cR hd
    clear cR cL cP
    generalize l.dp = dl at *
    generalize r.dp = dr at *
    go_enter Tryd.func22, Tryd.ntmps22
    go_wp2_with (first | (go_at_call 16; first | (refine ct1.mono ?_; clear ct1; rintro e w1 ⟨rfl, hb1⟩; have ct3 := ct2 _ hb1; clear ct2) | (refine ct3.mono ?_; clear ct3; rintro e w2 ⟨rfl, hb2⟩; have c' := c _ (hb1.trans hb2); clear c)) | (go_at_call 29; refine c'.mono ?_; clear c'; rintro e w3 ⟨q, t, rfl, hq, hv, hb3⟩))
    go_ret
    exact ⟨_, _, rfl, hq, hv, (hb1.trans hb2).trans hb3⟩
  · have c := cL hd
    clear cR cL cP
    generalize l.dp = dl at *
    generalize r.dp = dr at *
    go_enter Tryd.func22, Tryd.ntmps22
    go_wp2_with (first | (go_at_call 16; first | (refine ct1.mono ?_; clear ct1; rintro e w1 ⟨rfl, hb1⟩; have ct3 := ct2 _ hb1; clear ct2) | (refine ct3.mono ?_; clear ct3; rintro e w2 ⟨rfl, hb2⟩; have c' := c _ (hb1.trans hb2); clear c)) | (go_at_call 30; refine c'.mono ?_; clear c'; rintro e w3 ⟨q, t, rfl, hq, hv, hb3⟩))
    go_ret
    exact ⟨_, _, rfl, hq, hv, (hb1.trans hb2).trans hb3⟩
  · have c := cP hd1 hd2
    clear cR cL cP
    generalize l.dp = dl at *
    generalize r.dp = dr at *
    go_enter Tryd.func22, Tryd.ntmps22
    go_wp2_with (first | (go_at_call 16; first | (refine ct1.mono ?_; clear ct1; rintro e w1 ⟨rfl, hb1⟩; have ct3 := ct2 _ hb1; clear ct2) | (refine ct3.mono ?_; clear ct3; rintro e w2 ⟨rfl, hb2⟩; have c' := c _ (hb1.trans hb2); clear c)) | (go_at_call 23; refine c'.mono ?_; clear c'; rintro e w3 ⟨q, t, rfl, hq, hv, hb3⟩))
    go_ret
    exact ⟨_, _, rfl, hq, hv, (hb1.trans hb2).trans hb3⟩
end Go.Proofs.YtkjlcgclabgkaaaDoor.pc
