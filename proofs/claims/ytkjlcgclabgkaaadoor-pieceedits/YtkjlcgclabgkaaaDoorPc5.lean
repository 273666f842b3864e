/- Two trees one behind the other: meet. -/
import Derived.Test.YtkjlcgclabgkaaaDoorPc4
namespace Go.Proofs.YtkjlcgclabgkaaaDoor.pc
set_option linter.unusedVariables false
open Go.ChangeShapes Go.WideShapes Go.ChangeAt Go.RowKit
open mem

theorem Is.uniq {w : World} : ∀ {t t' : Tr} {p : Option Addr}, Is w p t → Is w p t' → t = t'
  | .leaf, .leaf, _, _, _ => rfl
  | .leaf, .node _ _ _, _, h, k => by
    obtain ⟨b, pl, pr, hp, _⟩ := k
    rw [show _ = none from h] at hp
    cases hp
  | .node _ _ _, .leaf, _, h, k => by
    obtain ⟨b, pl, pr, hp, _⟩ := h
    rw [show _ = none from k] at hp
    cases hp
  | .node l s r, .node l' s' r', _, h, k => by
    obtain ⟨b, pl, pr, rfl, hb, h0, h1, h2, _, _, _, hl, hr⟩ := h
    obtain ⟨b', pl', pr', hp, hb', h0', h1', h2', _, _, _, hl', hr'⟩ := k
    cases hp
    rw [h0] at h0'
    rw [h1] at h1'
    rw [h2] at h2'
    cases h0'
    cases h1'
    cases h2'
    rw [Is.uniq (show Is w pl l from hl) (show Is w pl l' from hl'), Is.uniq (show Is w pr r from hr) (show Is w pr r' from hr')]
open Classical in
/-- How many pieces the tree at this pointer has. -/
noncomputable def left (w : World) (v : Value) : Nat := if h : ∃ t : Tr, ∃ q, v = .pointer q ∧ Is w q t then (Classical.choose h).ps.length else 0
theorem left_eq {w : World} {q : Option Addr} {t : Tr} (h : Is w q t) : left w (.pointer q) = t.ps.length := by
  have k : ∃ t : Tr, ∃ q', Value.pointer q = .pointer q' ∧ Is w q' t := ⟨t, q, rfl, h⟩
  unfold left
  rw [dif_pos k]
  obtain ⟨q', e, h'⟩ := Classical.choose_spec k
  cases e
  rw [Is.uniq h' h]
theorem Is.nd3 {w : World} {p : Option Addr} {l r : Tr} {s : ByteArray} (h : Is w p (.node l s r)) : ∃ b pl pr, p = some ⟨b, 0, none⟩ ∧ Nd w b pl s pr l r ∧ w.cell? ⟨b, 3, none⟩ = some (.int .i64 ((tot (Tr.node l s r).ps : Nat) : Int)) := by
  obtain ⟨b, pl, pr, rfl, hb, h0, h1, h2, h3, h4, h5, hl, hr⟩ := h
  exact ⟨b, pl, pr, rfl, ⟨h0, h1, h2, hl, hr⟩, h3⟩
set_option maxRecDepth 100000 in
set_option maxHeartbeats 4000000 in
theorem meet_at (pl pr : Option Addr) (l r : Tr) (w : World) (hl : Is w pl l) (hr : Is w pr r) (hf : fit (l.ps ++ r.ps)) :
    Calls Tryd.prog 14 #[.pointer pl, .pointer pr] w fun e w' => ∃ q t, e = .returned (.pointer q) ∧ Is w' q t ∧ t.ps = l.ps ++ r.ps ∧ (l.bal → r.bal → t.bal) ∧ Bl w w' := by
  cases l with
  | leaf =>
    obtain rfl : pl = none := hl
    go_enter Tryd.func14, Tryd.ntmps14
    go_wp2
    go_ret
    exact ⟨_, _, rfl, hr, rfl, fun _ h => h, Bl.refl _⟩
  | node ll a lr =>
    obtain ⟨b, p0, p2, rfl, hn, hc3⟩ := hl.nd3
    have hfl : fit (Tr.node ll a lr).ps := hf.sub (by simp)
    have hto := hfl.2
    obtain ⟨T, hT⟩ : ∃ T : Nat, T = tot (Tr.node ll a lr).ps := ⟨_, rfl⟩
    rw [← hT] at hc3
    go_enter Tryd.func14, Tryd.ntmps14
    go_wp2
    go_loopw [5] (fun p wr => wr = w ∧ ∃ (d : Nat) (q0 q2 : Option Addr) (l' r' : Tr) (s' : ByteArray) (pre : List ByteArray), p = .pointer (some ⟨d, 0, none⟩) ∧ Nd w d q0 s' q2 l' r' ∧ Is w (some ⟨d, 0, none⟩) (.node l' s' r') ∧ (Tr.node ll a lr).ps = pre ++ (Tr.node l' s' r').ps) (fun p wr => left w p)
    case atStart => exact ⟨rfl, b, p0, p2, ll, lr, a, [], rfl, hn, hl, rfl⟩
    case round =>
      obtain ⟨rfl, d, q0, q2, l', r', s', pre, rfl, hm, hi, he⟩ := hrel
      cases r' with
      | leaf =>
        obtain rfl : q2 = none := hm.r
        have h0 := hm.c0
        have h1 := hm.c1
        have h2 := hm.c2
        have e1 : (Tr.node ll a lr).ps = (pre ++ l'.ps) ++ [s'] := by rw [he]; simp [Tr.ps]
        have e2 : T = tot (pre ++ l'.ps) + s'.size := by rw [hT, e1, tot_app]; simp [tot]
        have e3 : takeP (tot (pre ++ l'.ps)) (Tr.node ll a lr).ps = pre ++ l'.ps := by
          rw [e1, takeP_app _ _ _ (fun x hx => hfl.1 x (by rw [e1]; exact List.mem_append_left _ hx)), if_pos (Nat.le_refl _), takeP_all _ (Nat.le_refl _) (fun x hx => hfl.1 x (by rw [e1]; exact List.mem_append_left _ hx))]
        have c1 := fun w' (h : Bl wr w') => first_to (.node ll a lr) ((T : Int) - (s'.size : Int)) (some ⟨b, 0, none⟩) w' (hl.bl h) hfl (by omega) (by omega)
        rw [show ((T : Int) - (s'.size : Int)).toNat = tot (pre ++ l'.ps) by omega, e3] at c1
        have c2 := fun w' q t (h : Bl wr w') (i : Is w' q t) (e : t.ps = pre ++ l'.ps) => join_at q pr t r s' w' i (hr.bl h) (by rw [e]; rw [e1] at hf; simpa using hf)
        have HP : Hid (∀ t t' : Tr, t.ps = pre ++ l'.ps → t'.ps = t.ps ++ s' :: r.ps → t'.ps = (Tr.node ll a lr).ps ++ r.ps) := fun t t' h k => by rw [k, h, e1]; simp
        have hw1 : IntKind.i64.wrap ((T : Int) - (s'.size : Int)) = (T : Int) - (s'.size : Int) := by rw [IntKind.wrap_i64]; omega
        have HS : Hid (∀ w', Bl wr w' → (fun w' => w'.cell? ⟨b, 3, none⟩ = some (.int .i64 (T : Int)) ∧ w'.cell? ⟨d, 1, none⟩ = some (.string s')) w') := fun w' k => ⟨cell_bl k hc3, cell_bl k h1⟩
        clear e1 e2 e3 he hm hi hl hn hf hfl hto hT
        go_wp2
        have HB : Bl wr wr.drew := (Bl.refl wr).drew
        have hs2 := HS.out _ HB
        go_region_held3 (fun w' => w'.cell? ⟨b, 3, none⟩ = some (.int .i64 (T : Int)) ∧ w'.cell? ⟨d, 1, none⟩ = some (.string s')) (assumption) (first | (go_at_call 12; refine (c1 _ HB).mono ?_; clear c1; rintro e w3 ⟨q, t, rfl, hq, hp, hbal, hb3⟩; have HB3 := HB.trans hb3; have hs3 := HS.out _ HB3; have c3 := c2 _ _ _ HB3 hq hp; clear c2) | (go_at_call 11; refine c3.mono ?_; clear c3; rintro e w4 ⟨q', t', rfl, hq', hj, hb4⟩; have HB4 := HB3.trans hb4; have hs4 := HS.out _ HB4))
        all_goals go_wp2
        all_goals go_ret
        all_goals exact ⟨_, _, rfl, hq', HP.out _ _ hp hj.p, fun h k => (hj.b (hbal h) k).1, HB4⟩
      | node l2 s2 r2 =>
        obtain ⟨d2, q3, q4, rfl, hm2⟩ := hm.r.nd
        have h0 := hm.c0
        have h1 := hm.c1
        have h2 := hm.c2
        have k0 := hm2.c0
        have k1 := hm2.c1
        have k2 := hm2.c2
        go_wp2
        go_roundw
        case rel => exact ⟨trivial, d2, q3, q4, l2, r2, s2, pre ++ l'.ps ++ [s'], rfl, hm2, hm.r, by rw [he]; simp [Tr.ps]⟩
        case measure =>
          rw [left_eq hm.r, left_eq hi]
          simp [Tr.ps]
          omega
end Go.Proofs.YtkjlcgclabgkaaaDoor.pc
