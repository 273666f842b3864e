/- The parts of a text, gone through by a function that is ranged over. -/
import Derived.Test.YtmchpmfogjhpoabDoorBld
import Derived.Shelf.Abstract
import Derived.OwnWalkIn
import Derived.TacticsInMore
import Derived.LoopNIn
import Derived.LoopIn
namespace Go.Proofs.YtmchpmfogjhpoabDoor.xd
set_option linter.unusedVariables false
open Go.ChangeShapes Go.WideShapes Go.ChangeAt Go.RowKit Go.Shelf
open mem rows bld

/-- A part, as it is handed on: where it begins, and its bytes. -/
abbrev Pt := { x : Nat × ByteArray // x.1 ≤ 5000 ∧ x.2.size ≤ 1000 }
/-- The k-th part of c bytes. -/
def pt (s : ByteArray) (c k : Nat) : Pt := ⟨(min (k * c) 5000, s.extract (k * c) (min (k * c + min c 1000) s.size)), by
  dsimp only
  rw [ByteArray.size_extract]
  omega⟩
theorem pt_is (s : ByteArray) (c k a e : Nat) (ha : a = k * c) (h1 : a ≤ 5000) (hc : c ≤ 1000) (he : e = min (a + c) s.size) (h) : pt s c k = ⟨(a, s.extract a e), h⟩ := by
  apply Subtype.ext
  show (min (k * c) 5000, s.extract (k * c) (min (k * c + min c 1000) s.size)) = (a, s.extract a e)
  rw [← ha, show min a 5000 = a by omega, show min c 1000 = c by omega, ← he]
def ptl (s : ByteArray) (c m : Nat) : List Pt := (List.range m).map (pt s c)
theorem ptl_succ (s : ByteArray) (c m : Nat) : ptl s c (m + 1) = ptl s c m ++ [pt s c m] := by
  unfold ptl
  rw [List.range_succ, List.map_append]
  rfl
theorem ptl_len (s : ByteArray) (c m : Nat) : (ptl s c m).length = m := by simp [ptl]
/-- How many parts there are. -/
def np (s : ByteArray) (c : Nat) : Nat := (s.size + c - 1) / c
theorem np_lt (s : ByteArray) (c k : Nat) (hc : 1 ≤ c) : k < np s c ↔ k * c < s.size := by
  unfold np
  rw [Nat.lt_iff_add_one_le, Nat.le_div_iff_mul_le (by omega), Nat.succ_mul]
  omega
theorem np_le (s : ByteArray) (c : Nat) (hc : 1 ≤ c) : np s c ≤ s.size := by
  rcases Nat.eq_zero_or_pos (np s c) with h | h
  · omega
  · have h1 := (np_lt s c (np s c - 1) hc).1 (by omega)
    have h2 : (np s c - 1) * 1 ≤ (np s c - 1) * c := Nat.mul_le_mul_left _ hc
    omega
set_option maxHeartbeats 2000000 in
set_option maxRecDepth 100000 in
theorem parts1_in (l Bs Bc n₀ c : Nat) (s : ByteArray) (hc : 1 ≤ c) (hc2 : c ≤ 300) (hs : s.size ≤ 4000) (J Jx : List Pt → World → Prop) (n : Nat) (hn : 1 ≤ n)
    (hY : ∀ pre x W1, J pre W1 → pre.length < np s c → YieldAt Fence.wide (n - 1) Tryd.prog l #[Value.int .i64 (x.1.1 : Int), .string x.1.2] W1 fun e W' =>
      (e = .returned (.bool true) ∧ J (pre ++ [x]) W' ∧ KV n₀ [Bs, Bc] W1 W') ∨ (e = .returned (.bool false) ∧ Jx (pre ++ [x]) W'))
    (W : World) (hvs : Vr W Bs (.string s) 9) (hvc : Vr W Bc (.int .i64 (c : Int)) 3) (h0 : J [] W) :
    CallsIn Fence.wide n Tryd.prog 28 #[.func (.yield l) #[] #[], .pointer (some ⟨Bs, 0, none⟩), .pointer (some ⟨Bc, 0, none⟩)] W fun e W' => (∃ v, e = .returned v) ∧
      ((∃ ys, ys = ptl s c (np s c) ∧ J ys W') ∨ (∃ pre, (∃ k, k ≤ np s c ∧ pre = ptl s c k) ∧ Jx pre W')) := by
  have hnp := np_le s c hc
  refine callsIn_of_wp Tryd.func28 rfl trivial ?_ rfl
  simp only [Tryd.ntmps28, List.size_toArray, List.length_cons, List.length_nil, Nat.reduceAdd, Nat.reduceSub, Array.replicate_succ, Array.replicate_zero, List.push_toArray, List.append_toArray, List.nil_append, List.cons_append]
  gi_wp2
  gi_loopw [4] (fun i wr => ∃ k a : Nat, k ≤ np s c ∧ a ≤ s.size + 300 ∧ i = .int .i64 (a : Int) ∧ J (ptl s c k) wr ∧ Hid (a = k * c ∧ KV n₀ [Bs, Bc] W wr)) (fun i _ => s.size + 300 - (intOf i).toNat)
  case atStart => exact ⟨0, 0, Nat.zero_le _, Nat.zero_le _, rfl, h0, ⟨(Nat.zero_mul c).symm, KV.refl _ _ _⟩⟩
  case round =>
    obtain ⟨k, a, hk, ha, rfl, hJs, H⟩ := hrel
    have cs := (H.out.2.vr (by simp) hvs).cell
    have cc := (H.out.2.vr (by simp) hvc).cell
    have hiff := np_lt s c k hc
    rw [← H.out.1] at hiff
    by_cases hlt : a < s.size
    · have hltz : (a : Int) < s.size := by omega
      obtain ⟨e, he⟩ : ∃ e, e = min (a + c) s.size := ⟨_, rfl⟩
      obtain ⟨d, hd⟩ : ∃ d, d = a + c := ⟨_, rfl⟩
      have hdz : (a : Int) + (c : Int) = (d : Int) := by omega
      have hmin : (if (s.size : Int) < (d : Int) then (s.size : Int) else (d : Int)) = (e : Int) := by split <;> omega
      have hmin2 : min (d : Int) (s.size : Int) = (e : Int) := by omega
      have g1 : (a : Int) ≤ (e : Int) := by omega
      have g2 : (e : Int) ≤ (s.size : Int) := by omega
      have g3 : a ≤ e := by omega
      have g4 : e ≤ s.size := by omega
      have hpb : a ≤ 5000 ∧ (s.extract a e).size ≤ 1000 := ⟨by omega, by rw [ByteArray.size_extract]; omega⟩
      obtain ⟨fn, tmps, assign, body, hy, hR⟩ := hY _ ⟨(a, s.extract a e), hpb⟩ wr hJs (by rw [ptl_len]; exact hiff.2 hlt)
      dsimp only at hy
      have hnx : ptl s c k ++ [⟨(a, s.extract a e), hpb⟩] = ptl s c (k + 1) := by rw [ptl_succ, pt_is s c k a e H.out.1 (by omega) (by omega) he hpb]
      rw [hnx] at hR
      have HK : Hid (k < np s c ∧ d = a + c) := ⟨hiff.2 hlt, hd⟩
      clear hiff hnx he hd hY hJs hpb
      gi_wp2
      refine hR.mono ?_
      rintro e W3 (⟨rfl, hJ3, hk3⟩ | ⟨rfl, hJx3⟩)
      · have HF : Hid (KV n₀ [Bs, Bc] W W3) := H.out.2.trans hk3
        have cc3 := (HF.out.vr (by simp) hvc).cell
        clear hk3 hR cs cc
        gi_wp2
        go_roundw
        case rel =>
          have h1 := HK.out
          have h2 := H.out.1
          exact ⟨k + 1, d, h1.1, by omega, by go_num, hJ3, ⟨by rw [h1.2, h2, Nat.succ_mul], HF.out⟩⟩
        case measure => have h1 := HK.out; simp [intOf]; omega
      · gi_wp2
        refine bodyPost_ret (results_none rfl _ _ _) rfl ?_
        exact ⟨⟨_, rfl⟩, .inr ⟨_, ⟨k + 1, HK.out.1, rfl⟩, hJx3⟩⟩
    · have hltz : ¬ (a : Int) < s.size := by omega
      have hkm : k = np s c := by
        have : ¬ k < np s c := fun h => hlt (hiff.1 h)
        omega
      rw [hkm] at hJs
      gi_wp2
      go_end0
      exact ⟨⟨_, rfl⟩, .inl hJs⟩
theorem parts_stops (n : Nat) (hn : 1 ≤ n) (Bs Bc n₀ c : Nat) (s : ByteArray) (hc : 1 ≤ c) (hc2 : c ≤ 300) (hs : s.size ≤ 4000) (w : World) (hvs : Vr w Bs (.string s) 9) (hvc : Vr w Bc (.int .i64 (c : Int)) 3) :
    SeqStopsK Fence.wide n Tryd.prog 28 #[.pointer (some ⟨Bs, 0, none⟩), .pointer (some ⟨Bc, 0, none⟩)] (fun x : Pt => #[Value.int .i64 (x.1.1 : Int), Value.string x.1.2]) (KV n₀ [Bs, Bc]) (fun ys => ys = ptl s c (np s c))
      (fun pre => ∃ k, k ≤ np s c ∧ pre = ptl s c k) (np s c) w := fun l J Jx W hW _ _ hY h0 =>
  parts1_in l Bs Bc n₀ c s hc hc2 hs J Jx n hn hY W (hvs.step hW) (hvc.step hW) h0
theorem parts_at (s : ByteArray) (c : Int) (w : World) : Calls Tryd.prog 13 #[.string s, .int .i64 c] w fun e w' => e = .returned (.func (.func 28) #[] #[.pointer (some ⟨w.heap.size, 0, none⟩), .pointer (some ⟨w.heap.size + 1, 0, none⟩)]) ∧ w' = (w.alloc (.cells #[.string s] 9)).alloc (.cells #[.int .i64 c] 3) := by
  go_enter Tryd.func13, Tryd.ntmps13
  go_wp2
  go_ret
  exact ⟨rfl, rfl⟩
end Go.Proofs.YtmchpmfogjhpoabDoor.xd
