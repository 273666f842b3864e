/- A piece between two trees, however deep: join. -/
import Derived.Test.YtkjlcgclabgkaaaDoorPc2
namespace Go.Proofs.YtkjlcgclabgkaaaDoor.pc
set_option linter.unusedVariables false
open Go.ChangeShapes Go.WideShapes Go.ChangeAt Go.RowKit
open mem

set_option maxRecDepth 100000 in
set_option maxHeartbeats 4000000 in
theorem join_to (n : Nat) : ∀ (pl pr : Option Addr) (l r : Tr) (s : ByteArray) (w : World), l.ps.length + r.ps.length < n → Is w pl l → Is w pr r → fit (l.ps ++ s :: r.ps) →
    Calls Tryd.prog 11 #[.pointer pl, .string s, .pointer pr] w fun e w' => ∃ q t, e = .returned (.pointer q) ∧ Is w' q t ∧ Jn l s r t ∧ Bl w w' := by
  induction n with
  | zero => intro pl pr l r s w h; omega
  | succ n ih =>
    intro pl pr l r s w hn hl hr hf
    have ct1 := total_at pl l w hl
    have ct2 := fun w' (h : Bl w w') => total_at pr r w' (hr.bl h)
    have hfd := fd2
    have hdl := (hf.sub (a := l.ps) (by simp)).dp
    have hdr := (hf.sub (a := r.ps) (by simp)).dp
    have HD : Hid (wrap64 (((l.dp : Nat) : Int) - ((r.dp : Nat) : Int)) = ((l.dp : Nat) : Int) - ((r.dp : Nat) : Int)) := by unfold Hid wrap64; omega
    clear hdl hdr
    rcases (show (¬ l.dp ≤ r.dp + 1) ∨ (¬ r.dp ≤ l.dp + 1) ∨ (l.dp ≤ r.dp + 1 ∧ r.dp ≤ l.dp + 1) by omega) with hd | hd | ⟨hd1, hd2⟩
    · obtain ⟨ll, a, lr, rfl⟩ := dp_pos (t := l) (by omega)
      obtain ⟨b, p0, p2, rfl, hm⟩ := hl.nd
      have c1 := fun w' (h : Bl w w') => ih p2 pr lr r s w' (by simp [Tr.ps] at hn; omega) (hm.r.bl h) (hr.bl h) (hf.sub (by simp [Tr.ps]))
      have c2 := fun w' q t (h : Bl w w') (k : Is w' q t) (j : Jn lr s r t) => level_at p0 q ll t a w' (hm.l.bl h) k (by rw [j.p]; simpa [Tr.ps] using hf)
      have HS : Hid (∀ w', Bl w w' → (fun w' => w'.cell? ⟨b, 0, none⟩ = some (.pointer p0) ∧ w'.cell? ⟨b, 1, none⟩ = some (.string a) ∧ w'.cell? ⟨b, 2, none⟩ = some (.pointer p2)) w') := fun w' k => ⟨cell_bl k hm.c0, cell_bl k hm.c1, cell_bl k hm.c2⟩
      have HJ : Hid (∀ t t', Jn lr s r t → Lv ll a t t' → Jn (.node ll a lr) s r t') := fun t t' => jn_right (by omega)
      clear ih hm hf hn hl hr
      have hd' : ¬ ((((Tr.node ll a lr).dp : Nat) : Int) - ((r.dp : Nat) : Int)) ≤ 1 := by omega
      clear hd
      generalize (Tr.node ll a lr).dp = dl at *
      generalize r.dp = dr at *
      have hw := HD.out
      go_enter Tryd.func11, Tryd.ntmps11
      go_wp2_with (go_at_call 16; first | (refine ct1.mono ?_; clear ct1; rintro e w1 ⟨rfl, hb1⟩; have ct3 := ct2 _ hb1; clear ct2) | (refine ct3.mono ?_; clear ct3; rintro e w2 ⟨rfl, hb2⟩))
      have HB : Bl w w2.drew := (hb1.trans hb2).drew
      have hs2 := HS.out _ HB
      go_region_held3 (fun w' => w'.cell? ⟨b, 0, none⟩ = some (.pointer p0) ∧ w'.cell? ⟨b, 1, none⟩ = some (.string a) ∧ w'.cell? ⟨b, 2, none⟩ = some (.pointer p2)) (assumption) (first | (go_at_call 11; refine (c1 _ HB).mono ?_; clear c1; rintro e w3 ⟨q, t, rfl, hq, hj, hb3⟩; have HB3 := HB.trans hb3; have hs3 := HS.out _ HB3; have c3 := c2 _ _ _ HB3 hq hj; clear c2) | (go_at_call 22; refine c3.mono ?_; clear c3; rintro e w4 ⟨q', t', rfl, hq', hv, hb4⟩; have HB4 := HB3.trans hb4; have hs4 := HS.out _ HB4))
      go_wp2
      go_ret
      exact ⟨_, _, rfl, hq', HJ.out _ _ hj hv, HB4⟩
    · obtain ⟨rl, a, rr, rfl⟩ := dp_pos (t := r) (by omega)
      obtain ⟨b, p0, p2, rfl, hm⟩ := hr.nd
      have c1 := fun w' (h : Bl w w') => ih pl p0 l rl s w' (by simp [Tr.ps] at hn; omega) (hl.bl h) (hm.l.bl h) (hf.sub (by simp [Tr.ps]))
      have c2 := fun w' q t (h : Bl w w') (k : Is w' q t) (j : Jn l s rl t) => level_at q p2 t rr a w' k (hm.r.bl h) (by rw [j.p]; simpa [Tr.ps] using hf)
      have HS : Hid (∀ w', Bl w w' → (fun w' => w'.cell? ⟨b, 0, none⟩ = some (.pointer p0) ∧ w'.cell? ⟨b, 1, none⟩ = some (.string a) ∧ w'.cell? ⟨b, 2, none⟩ = some (.pointer p2)) w') := fun w' k => ⟨cell_bl k hm.c0, cell_bl k hm.c1, cell_bl k hm.c2⟩
      have HJ : Hid (∀ t t', Jn l s rl t → Lv t a rr t' → Jn l s (.node rl a rr) t') := fun t t' => jn_left (by omega)
      clear ih hm hf hn hl hr
      have hd' : ((l.dp : Nat) : Int) - (((Tr.node rl a rr).dp : Nat) : Int) < -1 := by omega
      clear hd
      generalize (Tr.node rl a rr).dp = dr at *
      generalize l.dp = dl at *
      have hw := HD.out
      go_enter Tryd.func11, Tryd.ntmps11
      go_wp2_with (go_at_call 16; first | (refine ct1.mono ?_; clear ct1; rintro e w1 ⟨rfl, hb1⟩; have ct3 := ct2 _ hb1; clear ct2) | (refine ct3.mono ?_; clear ct3; rintro e w2 ⟨rfl, hb2⟩))
      have HB : Bl w w2.drew := (hb1.trans hb2).drew
      have hs2 := HS.out _ HB
      go_region_held3 (fun w' => w'.cell? ⟨b, 0, none⟩ = some (.pointer p0) ∧ w'.cell? ⟨b, 1, none⟩ = some (.string a) ∧ w'.cell? ⟨b, 2, none⟩ = some (.pointer p2)) (assumption) (first | (go_at_call 11; refine (c1 _ HB).mono ?_; clear c1; rintro e w3 ⟨q, t, rfl, hq, hj, hb3⟩; have HB3 := HB.trans hb3; have hs3 := HS.out _ HB3; have c3 := c2 _ _ _ HB3 hq hj; clear c2) | (go_at_call 22; refine c3.mono ?_; clear c3; rintro e w4 ⟨q', t', rfl, hq', hv, hb4⟩; have HB4 := HB3.trans hb4; have hs4 := HS.out _ HB4))
      go_wp2
      go_ret
      exact ⟨_, _, rfl, hq', HJ.out _ _ hj hv, HB4⟩
    · have c1 := fun w' (h : Bl w w') => put_at pl pr l r s w' (hl.bl h) (hr.bl h) hf
      have HJ : Hid (Jn l s r (.node l s r)) := jn_put hd1 hd2
      clear ih hf hn
      generalize l.dp = dl at *
      generalize r.dp = dr at *
      have hw := HD.out
      go_enter Tryd.func11, Tryd.ntmps11
      go_wp2_with (first | (go_at_call 16; first | (refine ct1.mono ?_; clear ct1; rintro e w1 ⟨rfl, hb1⟩; have ct3 := ct2 _ hb1; clear ct2) | (refine ct3.mono ?_; clear ct3; rintro e w2 ⟨rfl, hb2⟩; have c' := c1 _ (hb1.trans hb2); clear c1)) | (go_at_call 23; refine c'.mono ?_; clear c'; rintro e w3 ⟨q, rfl, hq, hb3⟩))
      go_ret
      exact ⟨_, _, rfl, hq, HJ.out, (hb1.trans hb2).trans hb3⟩
/-- join. -/
theorem join_at (pl pr : Option Addr) (l r : Tr) (s : ByteArray) (w : World) (hl : Is w pl l) (hr : Is w pr r) (hf : fit (l.ps ++ s :: r.ps)) :
    Calls Tryd.prog 11 #[.pointer pl, .string s, .pointer pr] w fun e w' => ∃ q t, e = .returned (.pointer q) ∧ Is w' q t ∧ Jn l s r t ∧ Bl w w' :=
  join_to _ pl pr l r s w (Nat.lt_succ_self _) hl hr hf
end Go.Proofs.YtkjlcgclabgkaaaDoor.pc
