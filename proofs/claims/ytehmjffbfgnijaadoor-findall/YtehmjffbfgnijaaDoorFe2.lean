/- The document's own: the next place, and the one ahead. -/
import Derived.Test.YtehmjffbfgnijaaDoorFe1
namespace Go.Proofs.YtehmjffbfgnijaaDoor.find
set_option linter.unusedVariables false
open Go.ChangeShapes Go.WideShapes Go.ChangeAt Go.RowKit
open mem rows fd

/-- Those ahead of a place, and those from it on. -/
def ah (f : Int) (l : List Int) : List Int := l.filter fun x => decide (x < f)
def bh (f : Int) (l : List Int) : List Int := l.filter fun x => !decide (x < f)
theorem take_next (l : List Int) (k : Nat) (h : k < l.length) : l.take (k + 1) = l.take k ++ [l.getD k 0] := by
  rw [List.take_add_one, List.getElem?_eq_getElem h]
  simp [h]
theorem ah_one (f z : Int) (h : z < f) : ah f [z] = [z] ∧ bh f [z] = [] := by simp [ah, bh, h]
theorem bh_one (f z : Int) (h : ¬ z < f) : ah f [z] = [] ∧ bh f [z] = [z] := by
  have h' : f ≤ z := by omega
  simp [ah, bh, h']
theorem ah_app (f : Int) (a b : List Int) : ah f (a ++ b) = ah f a ++ ah f b ∧ bh f (a ++ b) = bh f a ++ bh f b := by simp [ah, bh]
theorem ah_yes (f : Int) (l : List Int) (k : Nat) (h : k < l.length) (hz : l.getD k 0 < f) : ah f (l.take (k + 1)) = ah f (l.take k) ++ [l.getD k 0] ∧ bh f (l.take (k + 1)) = bh f (l.take k) := by
  rw [take_next l k h, (ah_app f _ _).1, (ah_app f _ _).2, (ah_one f _ hz).1, (ah_one f _ hz).2, List.append_nil]
  exact ⟨rfl, rfl⟩
theorem ah_no (f : Int) (l : List Int) (k : Nat) (h : k < l.length) (hz : ¬ l.getD k 0 < f) : ah f (l.take (k + 1)) = ah f (l.take k) ∧ bh f (l.take (k + 1)) = bh f (l.take k) ++ [l.getD k 0] := by
  rw [take_next l k h, (ah_app f _ _).1, (ah_app f _ _).2, (bh_one f _ hz).1, (bh_one f _ hz).2, List.append_nil]
  exact ⟨rfl, rfl⟩
theorem ah_len (f : Int) (l : List Int) : (ah f l).length + (bh f l).length = l.length := by
  induction l with
  | nil => rfl
  | cons x l ih =>
    have e : x :: l = [x] ++ l := rfl
    rw [e, (ah_app f _ _).1, (ah_app f _ _).2]
    by_cases h : x < f
    · rw [(ah_one f _ h).1, (ah_one f _ h).2]; simp; omega
    · rw [(bh_one f _ h).1, (bh_one f _ h).2]; simp; omega
/-- An append of a row, as a step of a walk. -/
theorem wpL_appR {ops : Array Oper} {rest : List Oper} {o : Oper} {a : Act} {Q : Exit → Act → World → Prop} {w : World} (hgd : o.guard = none) (s x : Operand)
    (ho : o.op = .call { callee := .builtin .append, args := #[s, x], argTypes := #[22, 22] }) (hty : o.type = 22) (v u : Value) (l m : List Int) (hs : a.eval s = v) (hx : a.eval x = u)
    (base : Nat) (hown : Own w base v l) (hu : Own w base u m) (hn : l.length + m.length ≤ 9000) (hb : base ≤ w.heap.size)
    (h : ∀ v' w', Own w' base v' (l ++ m) → w.grownBy w' v.ownBlock → wpList Tryd.prog ops Q rest (a.put o.dst v') w') : wpList Tryd.prog ops Q (o :: rest) a w := by
  obtain ⟨v', w', hr, h1, h2⟩ := app_row w base v u l m hown hu hn hb
  exact Lib.wpList_append_run w hgd s x _ _ ho v _ hs hx v' w' (by rw [hty]; exact hr) (h v' w' h1 h2)
set_option maxHeartbeats 2000000 in
set_option maxRecDepth 20000 in
theorem refNext_at (s p : ByteArray) (f : Int) (b : Bool) (w : World) (hs : s.size ≤ 4000) (hp : p.size ≤ 1000) (h0 : 0 < p.size) (l : List Int) (hl : l = ints (pls (sb p) (sb s) p.size s.size)) (hl0 : 0 < l.length) (r : Int) (hr : (bh f l ++ ah f l).getD (if b then 0 else l.length - 1) 0 = r) :
    Calls Tryd.prog 8 #[.string s, .string p, .int .i64 f, .bool b] w fun e w' => e = .returned (.tuple #[.int .i64 r, .int .i64 0]) ∧ Bl w w' := by
  have HR : Hid _ := hr
  clear hr
  have hlen := pls_len (sb p) (sb s) p.size s.size h0
  have cA := fun w => refAll_at s p w hs hp h0
  rw [← ints_len, ← hl] at hlen
  rw [← hl] at cA
  clear hl
  obtain ⟨m, hm⟩ : ∃ m, m = l.length := ⟨_, rfl⟩
  rw [← hm] at hlen hl0 HR
  have HM : Hid (m = l.length) := hm
  clear hm
  go_enter Tryd.func8, Tryd.ntmps8
  go_wp2_with (fail)
  refine (cA _).mono ?_
  rintro e w1 ⟨lv, rfl, ho1, hb1⟩
  have hv1 := view_own ho1
  obtain ⟨q, c, hve, hq⟩ := hv1
  rw [← HM.out] at hve
  have HQ : Hid (In w1 q l) := hq
  subst hve
  clear hq ho1 cA
  have d0 : ((m : Int) == 0) = false := by rw [beq_eq_false_iff_ne]; omega
  go_wp2_with (fail)
  obtain ⟨B, hB⟩ : ∃ B, B = w1.heap.size := ⟨_, rfl⟩
  have HB : Hid (B = w1.heap.size) := hB
  clear hB
  go_loopw [12, 13, 31] (fun av bv i wr => ∃ k : Nat, k ≤ m ∧ i = .int .i64 (k : Int) ∧ Own2 wr B av (ah f (l.take k)) bv (bh f (l.take k)) ∧ Bl w1 wr) (fun _ _ i _ => m - (intOf i).toNat)
  case atStart => exact ⟨0, Nat.zero_le _, rfl, ⟨Own.nil _ _, Own.nil _ _, fun k e => absurd e (by simp [Value.ownBlock]), by rw [HB.out]; exact Nat.le_refl _⟩, Bl.refl _⟩
  case round =>
    obtain ⟨k, hk, rfl, hown, hbl⟩ := hrel
    have hal := ah_len f (l.take k)
    rw [List.length_take] at hal
    by_cases hlt : k < m
    · have hlz : (k : Int) < (m : Int) := by omega
      have hkl : k < l.length := by rw [← HM.out]; exact hlt
      obtain ⟨x, rfl, hcx⟩ := (HQ.out.step hbl).at k hkl
      by_cases hz : l.getD k 0 < f
      · obtain ⟨e1, e2⟩ := ah_yes f l k hkl hz
        have HE1 : Hid _ := e1
        have HE2 : Hid _ := e2
        generalize l.getD k 0 = z at hcx HE1 HE2 hz
        clear e1 e2
        go_wp2_with (at_builtin; refine wpL_app rfl (.tmp 38) (.tmp 40) rfl rfl _ _ z wr.heap.size rfl rfl B (hown.alloc _).a (by go_simp) (by omega) (hown.alloc _).le ?_; intro v' w3 ho3 hg3 hv3; have ho4 := (hown.alloc _).first ho3 hg3 hv3; have hb3 : Bl w1 w3 := bl_grown (hbl.alloc _) hg3 (fun j e => by rw [← HB.out]; exact (hown.a.block j e).1); clear hg3 hv3 ho3)
        go_roundw
        case rel => exact ⟨k + 1, by omega, by go_num, by rw [HE1.out, HE2.out]; exact ho4, hb3⟩
        case measure => simp [intOf]; omega
      · obtain ⟨e1, e2⟩ := ah_no f l k hkl hz
        have HE1 : Hid _ := e1
        have HE2 : Hid _ := e2
        generalize l.getD k 0 = z at hcx HE1 HE2 hz
        clear e1 e2
        go_wp2_with (at_builtin; refine wpL_app rfl (.tmp 42) (.tmp 44) rfl rfl _ _ z wr.heap.size rfl rfl B (hown.alloc _).b (by go_simp) (by omega) (hown.alloc _).le ?_; intro v' w3 ho3 hg3 hv3; have ho4 := (hown.alloc _).second ho3 hg3 hv3; have hb3 : Bl w1 w3 := bl_grown (hbl.alloc _) hg3 (fun j e => by rw [← HB.out]; exact (hown.b.block j e).1); clear hg3 hv3 ho3)
        go_roundw
        case rel => exact ⟨k + 1, by omega, by go_num, by rw [HE1.out, HE2.out]; exact ho4, hb3⟩
        case measure => simp [intOf]; omega
    · have hnl : ¬ ((k : Int) < (m : Int)) := by omega
      have hkm : k = l.length := by rw [← HM.out]; omega
      rw [hkm, List.take_length] at hown
      have hbn := ah_len f l
      rw [← HM.out] at hbn
      have hlapp : (bh f l ++ ah f l).length = m := by rw [List.length_append]; omega
      clear hal hkm
      generalize ah f l = A at *
      generalize bh f l = C at *
      cases b with
      | true =>
        go_wp2_with (at_builtin; refine wpL_appR rfl (.tmp 48) (.tmp 49) rfl rfl _ _ _ _ rfl rfl B hown.b hown.a (by omega) hown.le ?_; intro v' w3 ho3 hg3; have hb3 : Bl w1 w3 := bl_grown hbl hg3 (fun j e => by rw [← HB.out]; exact (hown.b.block j e).1); obtain ⟨q3, c3, rfl, hq3⟩ := view_own ho3; obtain ⟨x3, rfl, hc3⟩ := hq3.at 0 (by omega); rw [hlapp]; rw [Addr.add_zero', show (C ++ A).getD 0 0 = r from HR.out] at hc3; clear hg3 hq3 ho3)
        go_ret2
        exact ⟨rfl, hb1.trans hb3⟩
      | false =>
        obtain ⟨m1, hm1⟩ : ∃ m1, m = m1 + 1 := ⟨m - 1, by omega⟩
        have hsub : (m : Int) - 1 = (m1 : Int) := by omega
        have hin : 0 ≤ (m1 : Int) ∧ (m1 : Int) < (m : Int) := by omega
        have HR2 : Hid ((C ++ A).getD m1 0 = r) := by
          have := HR.out
          rw [if_neg (by decide), hm1, Nat.add_sub_cancel] at this
          exact this
        have hlt1 : m1 < m := by omega
        clear HR hm1
        go_wp2_with (at_builtin; refine wpL_appR rfl (.tmp 53) (.tmp 54) rfl rfl _ _ _ _ rfl rfl B hown.b hown.a (by omega) hown.le ?_; intro v' w3 ho3 hg3; have hb3 : Bl w1 w3 := bl_grown hbl hg3 (fun j e => by rw [← HB.out]; exact (hown.b.block j e).1); obtain ⟨q3, c3, rfl, hq3⟩ := view_own ho3; obtain ⟨x3, rfl, hc3⟩ := hq3.at m1 (by omega); rw [hlapp]; rw [HR2.out] at hc3; clear hg3 hq3 ho3)
        go_ret2
        exact ⟨rfl, hb1.trans hb3⟩
set_option maxRecDepth 20000 in
theorem refNext_none (s p : ByteArray) (f : Int) (b : Bool) (w : World) (hs : s.size ≤ 4000) (hp : p.size ≤ 1000) (h0 : 0 < p.size) (hl : pls (sb p) (sb s) p.size s.size = []) :
    Calls Tryd.prog 8 #[.string s, .string p, .int .i64 f, .bool b] w fun e w' => e = .returned (.tuple #[.int .i64 0, .int .i64 8]) ∧ Bl w w' := by
  have cA := fun w => refAll_at s p w hs hp h0
  rw [hl] at cA
  clear hl
  go_enter Tryd.func8, Tryd.ntmps8
  go_wp2_with (fail)
  refine (cA _).mono ?_
  rintro e w1 ⟨lv, rfl, ho1, hb1⟩
  obtain ⟨q, c, hve, -⟩ := view_own ho1
  subst hve
  clear ho1 cA
  rw [show (ints []).length = 0 from rfl]
  go_wp2
  go_ret2
  exact ⟨rfl, hb1⟩
theorem refNext_arg (s p : ByteArray) (f : Int) (b : Bool) (w : World) (h0 : p.size = 0) :
    Calls Tryd.prog 8 #[.string s, .string p, .int .i64 f, .bool b] w fun e w' => e = .returned (.tuple #[.int .i64 0, .int .i64 1]) ∧ w' = w := by
  have cA := fun w => refAll_none s p w h0
  clear h0
  go_enter Tryd.func8, Tryd.ntmps8
  go_wp2_with (go_at_call 6; refine (cA _).mono ?_; rintro e w1 ⟨rfl, rfl⟩)
  go_ret2
  exact ⟨rfl, rfl⟩
end Go.Proofs.YtehmjffbfgnijaaDoor.find
