/- The lines of a text, gone through by a function that is ranged over. -/
import Derived.Test.YtmchpmfogjhpoabDoorXl4
namespace Go.Proofs.YtmchpmfogjhpoabDoor.xl
set_option linter.unusedVariables false
open Go.ChangeShapes Go.WideShapes Go.ChangeAt Go.RowKit Go.Shelf
open mem rows bld

/-- From place a on a text has these lines. -/
inductive Ln {α : Type} (f : α → Nat × ByteArray) (T : ByteArray) : Nat → List α → Prop
  | fin (a : Nat) : T.size ≤ a → Ln f T a []
  | step (a e : Nat) (x : α) (l : List α) : a < T.size → a ≤ e → e ≤ T.size → f x = (a, T.extract a e) → (∀ j, a ≤ j → j < e → sb T j ≠ 10) → (e = T.size ∨ sb T e = 10) → Ln f T (e + 1) l → Ln f T a (x :: l)
theorem sb_ext (T : ByteArray) (a i : Nat) (h : a + i < T.size) : sb (T.extract a T.size) i = sb T (a + i) := by
  have h1 : i < (T.extract a T.size).size := by rw [ByteArray.size_extract]; omega
  rw [sb_get _ _ h1, sb_get _ _ h, ByteArray.getElem_extract]
theorem cut_line (T : ByteArray) (a e : Nat) (w : World) (hT : T.size ≤ 2000000) (h1 : a ≤ e) (h2 : e ≤ T.size) (hn : ∀ j, a ≤ j → j < e → sb T j ≠ 10) (he : e = T.size ∨ sb T e = 10) :
    Calls Tryd.prog 24 #[.string (T.extract a T.size), .string ⟨#[10]⟩] w fun r w' => ∃ R b, r = .returned (.tuple #[.string (T.extract a e), .string R, .bool b]) ∧ Dr w w' := by
  have hs : (T.extract a T.size).size = T.size - a := by rw [ByteArray.size_extract]; omega
  by_cases he2 : e = T.size
  · refine (cut_no (T.extract a T.size) 10 w (fun j hj => ?_)).mono ?_
    · rw [sb_ext T a j (by omega)]
      exact hn (a + j) (by omega) (by omega)
    · rintro r w' ⟨rfl, hd⟩
      exact ⟨_, _, by rw [he2], hd⟩
  · have h3 : sb T e = 10 := he.resolve_left he2
    refine (cut_yes (T.extract a T.size) 10 (e - a) w (by omega) (by omega) ?_ (fun j hj => ?_)).mono ?_
    · rw [sb_ext T a (e - a) (by omega), show a + (e - a) = e by omega]
      exact h3
    · rw [sb_ext T a j (by omega)]
      exact hn (a + j) (by omega) (by omega)
    · rintro r w' ⟨rfl, hd⟩
      refine ⟨(T.extract a T.size).extract (e - a + 1) (T.extract a T.size).size, true, ?_, hd⟩
      have e1 : (T.extract a T.size).extract 0 (e - a) = T.extract a e := by
        apply ByteArray.ext
        rw [ByteArray.data_extract, ByteArray.data_extract, ByteArray.data_extract, Array.extract_extract, Nat.add_zero, show min (a + (e - a)) T.size = e by omega]
      rw [e1]
set_option maxHeartbeats 2000000 in
set_option maxRecDepth 100000 in
theorem lines1_in {α : Type} (f : α → Nat × ByteArray) (l Bs n₀ : Nat) (T : ByteArray) (hT : T.size ≤ 2000000) (S : List α) (hS : Ln f T 0 S) (J Jx : List α → World → Prop) (hJ : ∀ s A B, J s A → Bl A B → J s B) (n : Nat) (hn : 1 ≤ n)
    (hY : ∀ pre x W1, J pre W1 → pre.length < S.length → YieldAt Fence.wide (n - 1) Tryd.prog l #[Value.int .i64 ((f x).1 : Int), .string (f x).2] W1 fun e W' =>
      (e = .returned (.bool true) ∧ J (pre ++ [x]) W' ∧ KV n₀ [Bs] W1 W') ∨ (e = .returned (.bool false) ∧ Jx (pre ++ [x]) W'))
    (W : World) (hvs : Vr W Bs (.string T) 9) (hn0 : n₀ ≤ W.heap.size) (h0 : J [] W) :
    CallsIn Fence.wide n Tryd.prog 39 #[.func (.yield l) #[] #[], .pointer (some ⟨Bs, 0, none⟩)] W fun e W' => (∃ v, e = .returned v) ∧
      ((∃ ys, ys = S ∧ J ys W') ∨ (∃ pre, True ∧ Jx pre W')) := by
  refine callsIn_of_wp Tryd.func39 rfl trivial ?_ rfl
  simp only [Tryd.ntmps39, List.size_toArray, List.length_cons, List.length_nil, Nat.reduceAdd, Nat.reduceSub, Array.replicate_succ, Array.replicate_zero, List.push_toArray, List.append_toArray, List.nil_append, List.cons_append]
  gi_wp2
  gi_loopw [3, 4, 5, 6] (fun i _ _ _ wr => ∃ (a : Nat) (pre rest : List α), a ≤ T.size + 1 ∧ i = .int .i64 (a : Int) ∧ J pre wr ∧ Hid (pre ++ rest = S ∧ Ln f T a rest ∧ KV n₀ [Bs] W wr ∧ n₀ ≤ wr.heap.size)) (fun i _ _ _ _ => T.size + 1 - (intOf i).toNat)
  case atStart => exact ⟨0, [], S, Nat.zero_le _, rfl, h0, ⟨rfl, hS, KV.refl _ _ _, hn0⟩⟩
  case round =>
    obtain ⟨a, pre, rest, ha, rfl, hJs, H⟩ := hrel
    have cs := (H.out.2.2.1.vr (by simp) hvs).cell
    have hln := H.out.2.1
    cases hln with
    | fin _ h =>
      have hltz : ¬ (a : Int) < T.size := by omega
      have hpre : pre = S := by have := H.out.1; rw [List.append_nil] at this; exact this
      rw [hpre] at hJs
      gi_wp2
      go_end0
      exact ⟨⟨_, rfl⟩, .inl hJs⟩
    | step _ e x rest' h1 h2 h3 h4 h5 h6 h7 =>
      have hltz : (a : Int) < T.size := by omega
      have g1 : (a : Int) ≤ (T.size : Int) := by omega
      have g2 : a ≤ T.size := by omega
      have cC := fun w => cut_line T a e w hT h2 h3 h5 h6
      obtain ⟨L, hL⟩ : ∃ L, L = T.extract a e := ⟨_, rfl⟩
      have hLs : L.size = e - a := by rw [hL, ByteArray.size_extract]; omega
      rw [← hL] at cC
      have hfx : f x = (a, L) := by rw [h4, hL]
      obtain ⟨e1, he1⟩ : ∃ e1, e1 = e + 1 := ⟨_, rfl⟩
      have hsz : (L.size : Int) + 1 + (a : Int) = (e1 : Int) := by omega
      have hsz2 : (a : Int) + ((L.size : Int) + 1) = (e1 : Int) := by omega
      have HR : Hid ((pre ++ [x]) ++ rest' = S ∧ Ln f T e1 rest') := ⟨by rw [← H.out.1, List.append_assoc]; rfl, by rw [he1]; exact h7⟩
      have hpl : pre.length < S.length := by
        have := congrArg List.length H.out.1
        rw [List.length_append, List.length_cons] at this
        omega
      have HW : Hid (KV n₀ [Bs] W wr ∧ n₀ ≤ wr.heap.size) := H.out.2.2
      have HE : Hid (L.size = e - a ∧ e1 = e + 1) := ⟨hLs, he1⟩
      have hLb : L.size ≤ 2000000 := by omega
      have hab : a ≤ 2000000 := by omega
      clear h4 h5 h6 h7 hL H hLs he1
      gi_wp2_with (fail)
      refine ⟨trivial, ?_⟩
      refine (callsIn_wide.2 (cC _)).mono ?_
      rintro r w1 ⟨R, b, rfl, hd1⟩
      have hb1 := hd1.bl
      have hJ1 : J pre w1 := hJ _ _ _ hJs hb1
      have hkv1 : KV n₀ [Bs] wr w1 := ⟨Below.mono hb1 HW.out.2, fun k _ c t fz hc => by rw [Below.block hb1 k (lt_of_some hc)]; exact hc⟩
      obtain ⟨fn, tmps, assign, body, hy, hR⟩ := hY pre x w1 hJ1 hpl
      rw [hfx] at hy
      dsimp only at hy
      have HW1 : Hid (KV n₀ [Bs] W w1 ∧ n₀ ≤ w1.heap.size) := ⟨HW.out.1.trans hkv1, Nat.le_trans HW.out.2 hb1.size⟩
      clear hJ1 hkv1 hb1 hd1 HW hJs cC hY hJ cs
      gi_wp2
      refine hR.mono ?_
      rintro e' W3 (⟨rfl, hJ3, hk3⟩ | ⟨rfl, hJx3⟩)
      · have HF : Hid (KV n₀ [Bs] W W3 ∧ n₀ ≤ W3.heap.size) := ⟨HW1.out.1.trans hk3, Nat.le_trans HW1.out.2 hk3.1.size⟩
        clear hk3 hR HW1
        gi_wp2
        go_roundw
        case rel =>
          have q1 := HE.out
          exact ⟨e1, pre ++ [x], rest', by omega, by go_num, hJ3, ⟨HR.out.1, HR.out.2, HF.out.1, HF.out.2⟩⟩
        case measure => have q1 := HE.out; simp [intOf]; omega
      · gi_wp2
        refine bodyPost_ret (results_none rfl _ _ _) rfl ?_
        exact ⟨⟨_, rfl⟩, .inr ⟨_, trivial, hJx3⟩⟩
theorem lines_stops {α : Type} (f : α → Nat × ByteArray) (n : Nat) (hn : 1 ≤ n) (Bs n₀ : Nat) (T : ByteArray) (hT : T.size ≤ 2000000) (S : List α) (hS : Ln f T 0 S) (w : World) (hvs : Vr w Bs (.string T) 9) (hn0 : n₀ ≤ w.heap.size) :
    SeqStopsK Fence.wide n Tryd.prog 39 #[.pointer (some ⟨Bs, 0, none⟩)] (fun x : α => #[Value.int .i64 ((f x).1 : Int), Value.string (f x).2]) (KV n₀ [Bs]) (fun ys => ys = S)
      (fun pre => True) S.length w := fun l J Jx W hW hJ _ hY h0 =>
  lines1_in f l Bs n₀ T hT S hS J Jx (fun s A B hs hb => hJ s A B none hs (grown_bl hb) (fun r e => by cases e)) n hn hY W (hvs.step hW) (Nat.le_trans hn0 hW.size) h0
theorem lines_at (s : ByteArray) (w : World) : Calls Tryd.prog 23 #[.string s] w fun e w' => e = .returned (.func (.func 39) #[] #[.pointer (some ⟨w.heap.size, 0, none⟩)]) ∧ w' = w.alloc (.cells #[.string s] 9) := by
  go_enter Tryd.func23, Tryd.ntmps23
  go_wp2
  go_ret
  exact ⟨rfl, rfl⟩
end Go.Proofs.YtmchpmfogjhpoabDoor.xl
