/- What some, Next and Prev of package find answer. -/
import Derived.Test.YtehmjffbfgnijaaDoorFe2
import Derived.RangeFuncNested
import Derived.RangeFuncBound
import Derived.RangeFuncCalls
import Derived.RangeFuncLeaves
import Derived.Shelf.Abstract
import Derived.Shelf.RegionOpen
import Derived.OwnWalkIn
import Derived.TacticsInMore
import Derived.LoopNIn
import Derived.LoopIn
namespace Go.Proofs.YtehmjffbfgnijaaDoor.find
set_option linter.unusedVariables false
open Go.ChangeShapes Go.WideShapes Go.ChangeAt Go.RowKit Go.Shelf
open mem rows fd

/-- The list of places, parted at one. -/
theorem part_at (l : List Int) (k : Nat) (h : k < l.length) : l = l.take k ++ l.getD k 0 :: l.drop (k + 1) := by
  have e : l.getD k 0 = l[k] := by simp [h]
  rw [e, List.getElem_cons_drop, List.take_append_drop]
theorem ah_all (f : Int) (l : List Int) (h : bh f l = []) : ah f l = l := by
  induction l with
  | nil => rfl
  | cons x l ih =>
    have e : x :: l = [x] ++ l := rfl
    rw [e, (ah_app f _ _).2] at h
    obtain ⟨h1, h2⟩ := List.append_eq_nil_iff.1 h
    by_cases hx : x < f
    · rw [e, (ah_app f _ _).1, (ah_one f x hx).1, ih h2]
    · rw [(bh_one f x hx).2] at h1; cases h1
theorem bh_all (f : Int) (l : List Int) (h : ah f l = []) : bh f l = l := by
  induction l with
  | nil => rfl
  | cons x l ih =>
    have e : x :: l = [x] ++ l := rfl
    rw [e, (ah_app f _ _).1] at h
    obtain ⟨h1, h2⟩ := List.append_eq_nil_iff.1 h
    by_cases hx : x < f
    · rw [(ah_one f x hx).1] at h1; cases h1
    · rw [e, (ah_app f _ _).2, (bh_one f x hx).2, ih h2]
theorem nx_hit (f : Int) (l : List Int) (k : Nat) (h : k < l.length) (h0 : bh f (l.take k) = []) (hz : ¬ l.getD k 0 < f) : (bh f l ++ ah f l).getD 0 0 = l.getD k 0 := by
  have e : bh f l = [l.getD k 0] ++ bh f (l.drop (k + 1)) := by
    have h1 := part_at l k h
    rw [show l.take k ++ l.getD k 0 :: l.drop (k + 1) = l.take k ++ ([l.getD k 0] ++ l.drop (k + 1)) from rfl] at h1
    have h2 := congrArg (bh f) h1
    rw [(ah_app f _ _).2, (ah_app f _ _).2, h0, (bh_one f _ hz).2] at h2
    exact h2
  rw [e]
  rfl
theorem nx_none (f : Int) (l : List Int) (h0 : bh f l = []) : (bh f l ++ ah f l).getD 0 0 = l.getD 0 0 := by rw [h0, ah_all f l h0]; rfl
theorem pv_hit (f : Int) (l : List Int) (k : Nat) (h : k < l.length) (h0 : ah f (l.drop (k + 1)) = []) (hz : l.getD k 0 < f) : (bh f l ++ ah f l).getD (l.length - 1) 0 = l.getD k 0 := by
  have e : ah f l = ah f (l.take k) ++ [l.getD k 0] := by
    have h1 := part_at l k h
    rw [show l.take k ++ l.getD k 0 :: l.drop (k + 1) = l.take k ++ ([l.getD k 0] ++ l.drop (k + 1)) from rfl] at h1
    have h2 := congrArg (ah f) h1
    rw [(ah_app f _ _).1, (ah_app f _ _).1, h0, (ah_one f _ hz).1, List.append_nil] at h2
    exact h2
  have hl := ah_len f l
  rw [e, List.length_append] at hl
  rw [e, List.getD_eq_getElem?_getD, ← List.append_assoc, List.getElem?_append_right (by rw [List.length_append]; simp at hl; omega)]
  rw [show l.length - 1 - (bh f l ++ ah f (l.take k)).length = 0 by rw [List.length_append]; simp at hl; omega]
  rfl
theorem pv_none (f : Int) (l : List Int) (h0 : ah f l = []) : (bh f l ++ ah f l).getD (l.length - 1) 0 = l.getD (l.length - 1) 0 := by rw [h0, bh_all f l h0, List.append_nil]
theorem some_yes (s p : ByteArray) (w : World) (hs : s.size ≤ 4000) (hp : p.size ≤ 1000) (h0 : 0 < p.size) (l : List Int) (hl : l = ints (pls (sb p) (sb s) p.size s.size)) (hl0 : 0 < l.length) :
    Calls Tryd.prog 23 #[.string s, .string p] w fun e w' => ∃ v, e = .returned (.tuple #[v, .nilIface]) ∧ rows.Own w' w.heap.size v l ∧ Bl w w' := by
  have cA := fun w => All_at s p w hs hp h0
  have hlen := pls_len (sb p) (sb s) p.size s.size h0
  rw [← ints_len, ← hl] at hlen
  rw [← hl] at cA
  clear hl
  obtain ⟨m, hm⟩ : ∃ m, m = l.length := ⟨_, rfl⟩
  rw [← hm] at hlen hl0
  have d0 : ((m : Int) == 0) = false := by rw [beq_eq_false_iff_ne]; omega
  go_enter Tryd.func23, Tryd.ntmps23
  go_wp2_with (fail)
  refine (cA _).mono ?_
  rintro e w1 ⟨lv, rfl, ho1, hb1⟩
  have ho2 := ho1
  obtain ⟨q, c, hve, -⟩ := view_own ho1
  rw [← hm] at hve
  subst hve
  clear cA hm ho1
  go_wp2
  go_ret2
  exact ⟨_, rfl, ho2, hb1⟩
theorem some_none (s p : ByteArray) (w : World) (hs : s.size ≤ 4000) (hp : p.size ≤ 1000) (h0 : 0 < p.size) (hl : pls (sb p) (sb s) p.size s.size = []) :
    Calls Tryd.prog 23 #[.string s, .string p] w fun e w' => ∃ v, e = .returned (.tuple #[v, .iface 23 (.int .i64 8)]) ∧ Bl w w' := by
  have cA := fun w => All_at s p w hs hp h0
  rw [hl] at cA
  clear hl
  go_enter Tryd.func23, Tryd.ntmps23
  go_wp2_with (fail)
  refine (cA _).mono ?_
  rintro e w1 ⟨lv, rfl, ho1, hb1⟩
  obtain ⟨q, c, hve, -⟩ := view_own ho1
  subst hve
  rw [show (ints []).length = 0 from rfl]
  clear cA ho1
  go_wp2
  go_ret2
  exact ⟨_, rfl, hb1⟩
theorem some_arg (s p : ByteArray) (w : World) (h0 : p.size = 0) :
    Calls Tryd.prog 23 #[.string s, .string p] w fun e w' => ∃ v, e = .returned (.tuple #[v, .iface 23 (.int .i64 1)]) ∧ Bl w w' := by
  have cA := fun w => All_none s p w h0
  clear h0
  go_enter Tryd.func23, Tryd.ntmps23
  go_wp2_with (go_at_call 7; refine (cA _).mono ?_; rintro e w1 ⟨rfl, rfl⟩)
  go_ret2
  exact ⟨_, rfl, Bl.refl _⟩
/-- Next and Prev where there is an error: told as it is. -/
theorem Next_err (s p : ByteArray) (f n : Int) (w : World) (cS : Calls Tryd.prog 23 #[.string s, .string p] w fun e w' => ∃ v, e = .returned (.tuple #[v, .iface 23 (.int .i64 n)]) ∧ Bl w w') :
    Calls Tryd.prog 9 #[.string s, .string p, .int .i64 f] w fun e w' => e = .returned (.tuple #[.int .i64 0, .iface 23 (.int .i64 n)]) ∧ Bl w w' := by
  go_enter Tryd.func9, Tryd.ntmps9
  go_wp2_with (go_at_call 23; refine cS.mono ?_; rintro e w1 ⟨v, rfl, hb1⟩)
  go_ret2
  exact ⟨rfl, hb1⟩
set_option maxRecDepth 10000 in
theorem Next_at (s p : ByteArray) (f : Int) (w : World) (hs : s.size ≤ 4000) (hp : p.size ≤ 1000) (h0 : 0 < p.size) (l : List Int) (hl : l = ints (pls (sb p) (sb s) p.size s.size)) (hl0 : 0 < l.length) (r : Int) (hr : (bh f l ++ ah f l).getD 0 0 = r) :
    Calls Tryd.prog 9 #[.string s, .string p, .int .i64 f] w fun e w' => e = .returned (.tuple #[.int .i64 r, .nilIface]) ∧ Bl w w' := by
  have HR : Hid _ := hr
  have hlen := pls_len (sb p) (sb s) p.size s.size h0
  rw [← ints_len, ← hl] at hlen
  have cS := some_yes s p w hs hp h0 l hl hl0
  clear hr hl
  obtain ⟨m, hm⟩ : ∃ m, m = l.length := ⟨_, rfl⟩
  rw [← hm] at hlen hl0
  have HM : Hid (m = l.length) := hm
  clear hm
  go_enter Tryd.func9, Tryd.ntmps9
  go_wp2_with (fail)
  refine cS.mono ?_
  rintro e w1 ⟨lv, rfl, ho1, hb1⟩
  obtain ⟨q, c, hve, hq⟩ := view_own ho1
  rw [← HM.out] at hve
  subst hve
  have HQ : Hid (In w1 q l) := hq
  clear cS ho1 hq
  go_wp2_with (fail)
  go_loop [23] (fun i => ∃ k : Nat, k ≤ m ∧ i = .int .i64 (k : Int) ∧ Hid (bh f (l.take k) = [])) (fun i => m - (intOf i).toNat)
  case atStart => exact ⟨0, Nat.zero_le _, rfl, rfl⟩
  case round =>
    obtain ⟨k, hk, rfl, HK⟩ := hrel
    by_cases hlt : k < m
    · have hlz : (k : Int) < (m : Int) := by omega
      have hkl : k < l.length := by rw [← HM.out]; exact hlt
      obtain ⟨x, rfl, hcx⟩ := HQ.out.at k hkl
      by_cases hz : l.getD k 0 < f
      · have HK2 : Hid (bh f (l.take (k + 1)) = []) := by rw [Hid, (ah_yes f l k hkl hz).2]; exact HK.out
        generalize l.getD k 0 = z at hcx hz
        have hnz : ¬ f ≤ z := by omega
        go_wp2
        go_round
        case rel => exact ⟨k + 1, by omega, by go_num, HK2⟩
        case measure => simp [intOf]; omega
      · have he := nx_hit f l k hkl HK.out hz
        rw [HR.out] at he
        rw [← he] at hcx hz
        have hnz : f ≤ r := by omega
        clear he
        go_wp2
        go_ret2
        exact ⟨rfl, hb1⟩
    · have hnl : ¬ ((k : Int) < (m : Int)) := by omega
      have hkm : k = l.length := by rw [← HM.out]; omega
      have hb0 := HK.out
      rw [hkm, List.take_length] at hb0
      have he := nx_none f l hb0
      rw [HR.out] at he
      obtain ⟨x, rfl, hcx⟩ := HQ.out.at 0 (by rw [← HM.out]; exact hl0)
      rw [Addr.add_zero', ← he] at hcx
      clear he hb0 hkm
      go_wp2
      go_ret2
      exact ⟨rfl, hb1⟩
attribute [local go_sem] Oper.semAt_some
/-- What has come, from the end on. -/
def bk (l : List Int) (k : Nat) : List (Nat × Int) := (List.range k).map fun j => (l.length - 1 - j, l[l.length - 1 - j]?.getD 0)
theorem bk_succ (l : List Int) (k : Nat) : bk l (k + 1) = bk l k ++ [(l.length - 1 - k, l[l.length - 1 - k]?.getD 0)] := by simp [bk, List.range_succ]
theorem bk_len (l : List Int) (k : Nat) : (bk l k).length = k := by simp [bk]
set_option maxRecDepth 100000 in
set_option maxHeartbeats 2000000 in
theorem back1_in (l Bs n₀ b len cap : Nat) (zs : List Int) (hlen : len = zs.length) (hl : len ≤ 4000) (hb : b < n₀) (J Jx : List (Nat × Int) → World → Prop) (n : Nat) (hn : 1 ≤ n)
    (hY : ∀ pre x W, J pre W → pre.length < len → YieldAt Fence.wide (n - 1) Tryd.prog l #[.int .i64 (x.1 : Int), .int .i64 x.2] W fun e W' =>
      (e = .returned (.bool true) ∧ J (pre ++ [x]) W' ∧ Below n₀ W W') ∨ (e = .returned (.bool false) ∧ Jx (pre ++ [x]) W'))
    (W : World) (hBl : Bs < n₀) (hBs : W.cell? ⟨Bs, 0, none⟩ = some (.slice (some ⟨b, 0, none⟩) len cap)) (hc : ∀ j, j < len → W.cell? ⟨b, j, none⟩ = some (.int .i64 (zs[j]?.getD 0))) (h0 : J [] W) :
    CallsIn Fence.wide n Tryd.prog 39 #[.func (.yield l) #[] #[], .pointer (some ⟨Bs, 0, none⟩)] W fun e W' => (∃ v, e = .returned v) ∧
      ((∃ ys, ys = bk zs len ∧ J ys W') ∨ (∃ pre, (∃ k, k ≤ len ∧ pre = bk zs k) ∧ Jx pre W')) := by
  have HL : Hid (len = zs.length) := hlen
  clear hlen
  refine callsIn_of_wp Tryd.func39 rfl trivial ?_ rfl
  simp only [Tryd.ntmps39, List.size_toArray, List.length_cons, List.length_nil, Nat.reduceAdd, Nat.reduceSub, Array.replicate_succ, Array.replicate_zero, List.push_toArray, List.append_toArray, List.nil_append, List.cons_append]
  gi_wp2
  gi_loopw [3] (fun i wr => ∃ k : Nat, k ≤ len ∧ i = .int .i64 ((len : Int) - 1 - (k : Int)) ∧ J (bk zs k) wr ∧ Below n₀ W wr) (fun i _ => (intOf i + 1).toNat)
  case atStart => exact ⟨0, Nat.zero_le _, by simp, h0, Below.refl _ _⟩
  case round =>
    obtain ⟨k, hk, rfl, hJs, hnx⟩ := hrel
    have hBx : wr.cell? ⟨Bs, 0, none⟩ = some (.slice (some ⟨b, 0, none⟩) len cap) := (hnx.cell (p := ⟨Bs, 0, none⟩) hBl).trans hBs
    by_cases hlt : k < len
    · obtain ⟨j, hj⟩ : ∃ j, j = len - 1 - k := ⟨_, rfl⟩
      have hji : (len : Int) - 1 - (k : Int) = (j : Int) := by omega
      have hjl : j < len := by omega
      have hcx : wr.cell? ⟨b, j, none⟩ = some (.int .i64 (zs[j]?.getD 0)) := (hnx.cell (p := ⟨b, j, none⟩) hb).trans (hc j hjl)
      have hbs := bk_succ zs k
      rw [← HL.out, ← hj] at hbs
      obtain ⟨fn, tmps, assign, body, hy, hR⟩ := hY _ (j, zs[j]?.getD 0) wr hJs (by rw [bk_len]; exact hlt)
      dsimp only at hy
      rw [← hbs] at hR
      rw [hji]
      have g0 : (0 : Int) ≤ (j : Int) := by omega
      have HJ : Hid (j = len - 1 - k) := hj
      clear hj hbs hji hY
      generalize zs[j]?.getD 0 = z at *
      gi_wp2
      refine hR.mono ?_
      rintro e W3 (⟨rfl, hJ3, hk3⟩ | ⟨rfl, hJx3⟩)
      · gi_wp2
        go_roundw
        case rel =>
          have := HJ.out
          exact ⟨k + 1, by omega, by rw [show (j : Int) - 1 = (len : Int) - 1 - ((k + 1 : Nat) : Int) by omega], hJ3, hnx.trans hk3⟩
        case measure => simp [intOf]
      · gi_wp2
        refine bodyPost_ret (results_none rfl _ _ _) rfl ?_
        exact ⟨⟨_, rfl⟩, .inr ⟨_, ⟨k + 1, by omega, rfl⟩, hJx3⟩⟩
    · obtain rfl : k = len := by omega
      have g0 : ¬ (0 : Int) ≤ (k : Int) - 1 - (k : Int) := by omega
      gi_wp2
      go_end0
      exact ⟨⟨_, rfl⟩, .inl hJs⟩
theorem back_stops (n : Nat) (hn : 1 ≤ n) (Bs n₀ b cap : Nat) (zs : List Int) (hl : zs.length ≤ 4000) (w : World) (hn₀ : n₀ ≤ w.heap.size) (hBs : Bs < n₀) (hb : b < n₀)
    (hc : w.cell? ⟨Bs, 0, none⟩ = some (.slice (some ⟨b, 0, none⟩) zs.length cap)) (hcs : ∀ j, j < zs.length → w.cell? ⟨b, j, none⟩ = some (.int .i64 (zs[j]?.getD 0))) :
    SeqStopsK Fence.wide n Tryd.prog 39 #[.pointer (some ⟨Bs, 0, none⟩)] (fun x : Nat × Int => #[Value.int .i64 (x.1 : Int), Value.int .i64 x.2]) (Below n₀) (fun ys => ys = bk zs zs.length)
      (fun pre => ∃ k, k ≤ zs.length ∧ pre = bk zs k) zs.length w := fun l J Jx W hW _ _ hY h0 => by
  have hW' := hW.mono hn₀
  exact back1_in l Bs n₀ b zs.length cap zs rfl hl hb J Jx n hn hY W hBs ((hW'.cell (p := ⟨Bs, 0, none⟩) hBs).trans hc) (fun j hj => (hW'.cell (p := ⟨b, j, none⟩) hb).trans (hcs j hj)) h0
theorem backward_at (p : Option Addr) (n c : Nat) (w : World) : Calls Tryd.prog 24 #[.slice p n c] w fun e w' => e = .returned (.func (.func 39) #[] #[.pointer (some ⟨w.heap.size, 0, none⟩)]) ∧ w' = w.alloc (.cells #[.slice p n c] 22) := by
  go_enter Tryd.func24, Tryd.ntmps24
  go_wp2
  go_ret
  exact ⟨rfl, rfl⟩
/-- Between two rounds of Prev: none that came is below f. -/
def PvI (f : Int) (w : World) (g n : Nat) (z : Int) (pre : List (Nat × Int)) (W : World) : Prop :=
  ((∀ p ∈ pre, f ≤ p.2) ∧ W.cell? ⟨w.heap.size, 0, none⟩ = some (.int .i64 f) ∧ W.cell? ⟨w.heap.size + 1, 0, none⟩ = some (.int .i64 0) ∧ W.frozen? ⟨w.heap.size + 1, 0, none⟩ = false ∧ W.cell? ⟨w.heap.size + 1 + 1, 0, none⟩ = some .nilIface ∧ W.frozen? ⟨w.heap.size + 1 + 1, 0, none⟩ = false ∧ W.cell? ⟨g, n, none⟩ = some (.int .i64 z)) ∧ Below w.heap.size w W
/-- Prev has found one. -/
def PvX (f : Int) (w : World) (c : Code) (pre : List (Nat × Int)) (W : World) : Prop :=
  (c = .ret ∧ ∃ ini last, pre = ini ++ [last] ∧ (∀ p ∈ ini, f ≤ p.2) ∧ last.2 < f ∧ W.cell? ⟨w.heap.size + 1, 0, none⟩ = some (.int .i64 last.2) ∧ W.cell? ⟨w.heap.size + 1 + 1, 0, none⟩ = some .nilIface) ∧ Below w.heap.size w W
theorem bk_mem (l : List Int) (k : Nat) (h : k ≤ l.length) (f : Int) (hn : ∀ p ∈ bk l k, f ≤ p.2) : ah f (l.drop (l.length - k)) = [] := by
  induction k with
  | zero => rw [Nat.sub_zero, List.drop_length]; rfl
  | succ k ih =>
    have h1 := ih (by omega) (fun p hp => hn p (by rw [bk_succ]; exact List.mem_append_left _ hp))
    have h2 : f ≤ l[l.length - 1 - k]?.getD 0 := hn (l.length - 1 - k, l[l.length - 1 - k]?.getD 0) (by rw [bk_succ]; exact List.mem_append_right _ (List.mem_singleton.2 rfl))
    have hlt : l.length - (k + 1) < l.length := by omega
    rw [show l.length - 1 - k = l.length - (k + 1) by omega] at h2
    have e : l.drop (l.length - (k + 1)) = [l[l.length - (k + 1)]?.getD 0] ++ l.drop (l.length - k) := by
      rw [List.drop_eq_getElem_cons hlt, show l.length - (k + 1) + 1 = l.length - k by omega]
      simp [hlt]
    rw [e, (ah_app f _ _).1, (bh_one f _ (by omega)).1, h1]
    rfl
set_option maxRecDepth 100000 in
set_option maxHeartbeats 2000000 in
theorem Prev_at (s p : ByteArray) (f : Int) (w : World) (hs : s.size ≤ 4000) (hp : p.size ≤ 1000) (h0 : 0 < p.size) (l : List Int) (hl : l = ints (pls (sb p) (sb s) p.size s.size)) (hl0 : 0 < l.length) (r : Int) (hr : (bh f l ++ ah f l).getD (l.length - 1) 0 = r) :
    Calls Tryd.prog 10 #[.string s, .string p, .int .i64 f] w fun e w' => e = .returned (.tuple #[.int .i64 r, .nilIface]) ∧ Bl w w' := by
  have HR : Hid _ := hr
  have hlen := pls_len (sb p) (sb s) p.size s.size h0
  rw [← ints_len, ← hl] at hlen
  have cS := fun w => some_yes s p w hs hp h0 l hl hl0
  clear hr hl
  refine (callsIn_wide (n := 3)).1 ?_
  refine callsIn_of_wp_marks Tryd.func10 rfl trivial ?_ rfl
  simp only [Tryd.ntmps10, List.size_toArray, List.length_cons, List.length_nil, Nat.reduceAdd, Nat.reduceSub, Array.replicate_succ, Array.replicate_zero, List.push_toArray, List.append_toArray, List.nil_append, List.cons_append]
  gi_wp2_with (refine ⟨trivial, ?_⟩; gi_at_call 23; refine (callsIn_wide.2 (cS _)).mono ?_; rintro e w1 ⟨lv, rfl, ho1, hb1⟩)
  rcases ho1.shape with ⟨_, e⟩ | ⟨g, cap, rfl, hBg, hgl, _, _, hcs⟩
  · rw [e] at hl0; exact absurd hl0 (by decide)
  have q0 : w1.cell? ⟨w.heap.size, 0, none⟩ = some (.int .i64 f) := at_bl hb1 (by go_simp)
  have q1 : w1.cell? ⟨w.heap.size + 1, 0, none⟩ = some (.int .i64 0) := at_bl hb1 (by go_simp)
  have q2 : w1.cell? ⟨w.heap.size + 1 + 1, 0, none⟩ = some .nilIface := at_bl hb1 (by go_simp)
  have q3 : w1.frozen? ⟨w.heap.size + 1, 0, none⟩ = false := by
    unfold World.frozen?
    rw [Below.block hb1 (w.heap.size + 1) (by simp)]
    exact (show World.frozen? _ ⟨w.heap.size + 1, 0, none⟩ = false by go_simp)
  have q4 : w1.frozen? ⟨w.heap.size + 1 + 1, 0, none⟩ = false := by
    unfold World.frozen?
    rw [Below.block hb1 (w.heap.size + 1 + 1) (by simp)]
    exact (show World.frozen? _ ⟨w.heap.size + 1 + 1, 0, none⟩ = false by go_simp)
  have hbw : Bl w w1 := ((((Bl.refl w).alloc _).alloc _).alloc _).trans hb1
  have hw3 : w.heap.size + 3 ≤ w1.heap.size := by have := hb1.size; simp at this; omega
  have hBg' : w.heap.size + 3 ≤ g := by simp at hBg; omega
  clear hb1 hBg ho1 cS
  refine ⟨trivial, ?_⟩
  refine (callsIn_wide.2 (backward_at _ _ _ _)).mono ?_
  rintro e w2 ⟨rfl, rfl⟩
  gi_wp2
  have hb0 : Bl w (w1.alloc (.cells #[.slice (some ⟨g, 0, none⟩) l.length cap] 22)) := hbw.alloc _
  have hB1 : Bl w1 (w1.alloc (.cells #[.slice (some ⟨g, 0, none⟩) l.length cap] 22)) := (Bl.refl w1).alloc _
  have hsl : (w1.alloc (.cells #[.slice (some ⟨g, 0, none⟩) l.length cap] 22)).cell? ⟨w1.heap.size, 0, none⟩ = some (.slice (some ⟨g, 0, none⟩) l.length cap) := by simp
  have hsz : (w1.alloc (.cells #[.slice (some ⟨g, 0, none⟩) l.length cap] 22)).heap.size = w1.heap.size + 1 := by simp
  have hcs' : ∀ j, j < l.length → (w1.alloc (.cells #[.slice (some ⟨g, 0, none⟩) l.length cap] 22)).cell? ⟨g, j, none⟩ = some (.int .i64 (l[j]?.getD 0)) := fun j hj => by
    have := at_bl hB1 (hcs j hj)
    rwa [List.getD_eq_getElem?_getD] at this
  have fro : ∀ b, w1.frozen? ⟨b, 0, none⟩ = false → b < w1.heap.size → (w1.alloc (.cells #[.slice (some ⟨g, 0, none⟩) l.length cap] 22)).frozen? ⟨b, 0, none⟩ = false := fun b hf hb => by
    unfold World.frozen? at hf ⊢
    rw [Below.block hB1 b hb]; exact hf
  have x0 := at_bl hB1 q0
  have x1 := at_bl hB1 q1
  have x2 := at_bl hB1 q2
  have x3 := fro _ q3 (by omega)
  have x4 := fro _ q4 (by omega)
  generalize w1.alloc (.cells #[.slice (some ⟨g, 0, none⟩) l.length cap] 22) = W0 at *
  generalize w1.heap.size = Bs at *
  have HSZ : Hid (W0.heap.size = Bs + 1) := hsz
  have hle0 : w.heap.size ≤ W0.heap.size := hb0.size
  have hgl0 : g < W0.heap.size := by omega
  have hBl0 : Bs < W0.heap.size := by omega
  clear hsz
  clear q0 q1 q2 q3 q4 fro hbw hB1 hcs
  refine wpIn_rangeFunc_ownG rfl (by decide) (gf := 39) (lb := #[.pointer (some ⟨Bs, 0, none⟩)]) rfl trivial (enters_of Tryd.func39 (by kernel_rfl) rfl)
    (back_stops 2 (by decide) Bs W0.heap.size g cap l (by omega) W0 (Nat.le_refl _) hBl0 hgl0 hsl hcs') belowK_t (belowK_b (Nat.le_refl _)) (Below.refl _ _) (fun _ => rfl)
    (PvI f w g (l.length - 1) (l[l.length - 1]?.getD 0)) (PvX f w)
    (OwnFrom.and (Own.from (fun s A B row hs hg hr => ⟨hs.1, cell_kept hs.2.1 hg hr, cell_kept hs.2.2.1 hg hr, (frozen_kept hs.2.2.1 hg hr).trans hs.2.2.2.1, cell_kept hs.2.2.2.2.1 hg hr, (frozen_kept hs.2.2.2.2.1 hg hr).trans hs.2.2.2.2.2.1, cell_kept hs.2.2.2.2.2.2 hg hr⟩) _) (ownFrom_below (Nat.le_refl _) hle0))
    (fun c => OwnFrom.and (Own.from (fun s A B row hs hg hr => by obtain ⟨hc, ini, last, e1, e2, e3, e4, e5⟩ := hs; exact ⟨hc, ini, last, e1, e2, e3, cell_kept e4 hg hr, cell_kept e5 hg hr⟩) _) (ownFrom_below (Nat.le_refl _) hle0))
    ⟨⟨by simp, x0, x1, x3, x2, x4, hcs' _ (by omega)⟩, hb0⟩
    (fun x => { tmps := #[.string s, .string p, .int .i64 f, undef, undef, .pointer (some ⟨w.heap.size, 0, none⟩), .pointer (some ⟨w.heap.size + 1, 0, none⟩), .pointer (some ⟨w.heap.size + 1 + 1, 0, none⟩), .slice (some ⟨g, 0, none⟩) l.length cap, .nilIface, undef, .int .i64 x.2, .tuple #[.slice (some ⟨g, 0, none⟩) l.length cap, .nilIface], .string s, .string p, .tuple #[.slice (some ⟨g, 0, none⟩) l.length cap, .nilIface], .slice (some ⟨g, 0, none⟩) l.length cap, .nilIface, .nilIface, .bool false, undef, .slice (some ⟨g, 0, none⟩) l.length cap, .func (.func 39) #[] #[.pointer (some ⟨Bs, 0, none⟩)], .int .i64 (x.1 : Int), .int .i64 x.2, undef, undef, undef, undef, undef, undef, undef, undef, undef, undef], defers := [] }) ?assign ?body ?done ?stop
  case assign =>
    intro l x W K hK
    gi_wp2
    exact hK
  case body =>
    rintro l pre x W ⟨⟨hp, y0, y1, y3, y2, y4, y5⟩, hB⟩ _
    by_cases hx : x.2 < f
    · have HX : Hid (x.2 < f) := hx
      have HP : Hid _ := hp
      clear hp
      gi_wp2
      refine ⟨((KeepsOthers.setCell _ _ _).trans (KeepsOthers.setCell _ _ _)).from _, ⟨rfl, pre, x, rfl, HP.out, HX.out, ?_, ?_⟩, (hB.setCell (p := ⟨w.heap.size + 1, 0, none⟩) (Nat.le_succ _) _).setCell (p := ⟨w.heap.size + 1 + 1, 0, none⟩) (Nat.le_succ_of_le (Nat.le_succ _)) _⟩
      · rw [World.cell?_setCell_other _ _ _ _ (by simp)]
        exact World.cell?_setCell_same' _ _ _ (by rw [y1]; rfl)
      · exact World.cell?_setCell_same' _ _ _ (by rw [World.cell?_setCell_other _ _ _ _ (by simp), y2]; rfl)
    · have HX : Hid (f ≤ x.2) := by unfold Hid; omega
      have HP : Hid _ := hp
      clear hp
      gi_wp2
      exact ⟨KeepsFrom.refl _ _, Below.refl _ _, ⟨fun p hp' => (List.mem_append.1 hp').elim (HP.out p) (fun e => by rw [List.mem_singleton.1 e]; exact HX.out), y0, y1, y3, y2, y4, y5⟩, hB⟩
  case done =>
    rintro D ys W hD rfl ⟨⟨hne, y0, y1, y3, y2, y4, y5⟩, hB⟩ hK
    have hb := bk_mem l l.length (Nat.le_refl _) f hne
    rw [Nat.sub_self, List.drop_zero] at hb
    have he := pv_none f l hb
    rw [HR.out, List.getD_eq_getElem?_getD] at he
    rw [← he] at y5
    clear hne hb he HR
    have e1 : ((l.length : Nat) : Int) - 1 = ((l.length - 1 : Nat) : Int) := by omega
    generalize l.length - 1 = m1 at e1 y5
    have hin : 0 ≤ (m1 : Int) ∧ (m1 : Int) < (l.length : Int) := by omega
    gi_wp2
    have hK' := ((KeepsOthers.setCell W ⟨w.heap.size + 1, 0, none⟩ (.int .i64 r)).trans (KeepsOthers.setCell _ ⟨w.heap.size + 1 + 1, 0, none⟩ .nilIface)).same D _ hK rfl
    refine ⟨by simp, .inl ⟨_, _, rfl, run_takeDeferred hK', ?_⟩⟩
    have z1 : ((W.setCell ⟨w.heap.size + 1, 0, none⟩ (.int .i64 r)).setCell ⟨w.heap.size + 1 + 1, 0, none⟩ .nilIface).cell? ⟨w.heap.size + 1, 0, none⟩ = some (.int .i64 r) := by
      rw [World.cell?_setCell_other _ _ _ _ (by simp)]
      exact World.cell?_setCell_same' _ _ _ (by rw [y1]; rfl)
    have z2 : ((W.setCell ⟨w.heap.size + 1, 0, none⟩ (.int .i64 r)).setCell ⟨w.heap.size + 1 + 1, 0, none⟩ .nilIface).cell? ⟨w.heap.size + 1 + 1, 0, none⟩ = some .nilIface :=
      World.cell?_setCell_same' _ _ _ (by rw [World.cell?_setCell_other _ _ _ _ (by simp), y2]; rfl)
    have hc1 := cell_kept z1 (grownBy_putObj' _ D (.deferred none)) (fun r e => by cases e; exact ⟨_, hK', rfl⟩)
    have hc2 := cell_kept z2 (grownBy_putObj' _ D (.deferred none)) (fun r e => by cases e; exact ⟨_, hK', rfl⟩)
    refine ⟨.tuple #[.int .i64 r, .nilIface], ?_, rfl, ((hB.setCell (p := ⟨w.heap.size + 1, 0, none⟩) (Nat.le_succ _) _).setCell (p := ⟨w.heap.size + 1 + 1, 0, none⟩) (Nat.le_succ_of_le (Nat.le_succ _)) _).trans (belowK_b (w := w) (Nat.le_refl _) _ D _ _ (Nat.le_trans hle0 hD) hK' rfl rfl)⟩
    simp [results, Tryd.f10, go_sem, hc1, hc2]
  case stop =>
    rintro D c pre W hD ⟨k, hk, rfl⟩ ⟨⟨rfl, ini, last, e1, e2, e3, y1, y2⟩, hB⟩ hK
    obtain ⟨k', rfl⟩ : ∃ k', k = k' + 1 := by
      cases k with
      | zero => simp [bk] at e1
      | succ k' => exact ⟨k', rfl⟩
    rw [bk_succ] at e1
    obtain ⟨rfl, e5⟩ := List.append_inj' e1 rfl
    obtain rfl : (l.length - 1 - k', l[l.length - 1 - k']?.getD 0) = last := by simpa using e5
    have hb := bk_mem l k' (by omega) f e2
    have he := pv_hit f l (l.length - 1 - k') (by omega) (by rw [show l.length - 1 - k' + 1 = l.length - k' by omega]; exact hb) (by rw [List.getD_eq_getElem?_getD]; exact e3)
    rw [HR.out, List.getD_eq_getElem?_getD] at he
    dsimp only at y1
    rw [← he] at y1
    clear hb he e1 e2 e3 e5 HR
    gi_wp2
    refine ⟨by simp, .inl ⟨_, _, rfl, run_takeDeferred hK, ?_⟩⟩
    have hc1 := cell_kept y1 (grownBy_putObj' _ D (.deferred none)) (fun r e => by cases e; exact ⟨_, hK, rfl⟩)
    have hc2 := cell_kept y2 (grownBy_putObj' _ D (.deferred none)) (fun r e => by cases e; exact ⟨_, hK, rfl⟩)
    refine ⟨.tuple #[.int .i64 r, .nilIface], ?_, rfl, hB.trans (belowK_b (w := w) (Nat.le_refl _) _ D _ _ (Nat.le_trans hle0 hD) hK rfl rfl)⟩
    simp [results, Tryd.f10, go_sem, hc1, hc2]
set_option maxRecDepth 10000 in
theorem Prev_err (s p : ByteArray) (f n : Int) (w : World) (cS : ∀ w, Calls Tryd.prog 23 #[.string s, .string p] w fun e w' => ∃ v, e = .returned (.tuple #[v, .iface 23 (.int .i64 n)]) ∧ Bl w w') :
    Calls Tryd.prog 10 #[.string s, .string p, .int .i64 f] w fun e w' => e = .returned (.tuple #[.int .i64 0, .iface 23 (.int .i64 n)]) ∧ Bl w w' := by
  go_enter Tryd.func10, Tryd.ntmps10
  go_wp2_with (fail)
  refine (cS _).mono ?_
  rintro e w1 ⟨v, rfl, hb1⟩
  have q1 : w1.cell? ⟨w.heap.size + 1, 0, none⟩ = some (.int .i64 0) := at_bl hb1 (by go_simp)
  have q2 : w1.cell? ⟨w.heap.size + 1 + 1, 0, none⟩ = some .nilIface := at_bl hb1 (by go_simp)
  have q3 : w1.frozen? ⟨w.heap.size + 1, 0, none⟩ = false := by
    unfold World.frozen?
    rw [Below.block hb1 (w.heap.size + 1) (by simp)]
    exact (show World.frozen? _ ⟨w.heap.size + 1, 0, none⟩ = false by go_simp)
  have q4 : w1.frozen? ⟨w.heap.size + 1 + 1, 0, none⟩ = false := by
    unfold World.frozen?
    rw [Below.block hb1 (w.heap.size + 1 + 1) (by simp)]
    exact (show World.frozen? _ ⟨w.heap.size + 1 + 1, 0, none⟩ = false by go_simp)
  have hbw : Bl w w1 := ((((Bl.refl w).alloc _).alloc _).alloc _).trans hb1
  clear hb1 cS
  go_wp2
  have z1 : ((w1.setCell ⟨w.heap.size + 1, 0, none⟩ (.int .i64 0)).setCell ⟨w.heap.size + 1 + 1, 0, none⟩ (.iface 23 (.int .i64 n))).cell? ⟨w.heap.size + 1, 0, none⟩ = some (.int .i64 0) := by
    rw [World.cell?_setCell_other _ _ _ _ (by simp)]
    exact World.cell?_setCell_same' _ _ _ (by rw [q1]; rfl)
  have z2 : ((w1.setCell ⟨w.heap.size + 1, 0, none⟩ (.int .i64 0)).setCell ⟨w.heap.size + 1 + 1, 0, none⟩ (.iface 23 (.int .i64 n))).cell? ⟨w.heap.size + 1 + 1, 0, none⟩ = some (.iface 23 (.int .i64 n)) :=
    World.cell?_setCell_same' _ _ _ (by rw [World.cell?_setCell_other _ _ _ _ (by simp), q2]; rfl)
  refine bodyPost_ret (v := .tuple #[.int .i64 0, .iface 23 (.int .i64 n)]) ?_ rfl ⟨rfl, (hbw.setCell (a := ⟨w.heap.size + 1, 0, none⟩) (Nat.le_succ _) _).setCell (a := ⟨w.heap.size + 1 + 1, 0, none⟩) (Nat.le_succ_of_le (Nat.le_succ _)) _⟩
  simp [results, Tryd.f10, go_sem, z1, z2]
end Go.Proofs.YtehmjffbfgnijaaDoor.find
