/- What the document's own Digit and DigitsPrint answer. -/
import Derived.Test.YtmchpmfogjhpoaaDoorDigs1
import Derived.WalkSpells
namespace Go.Proofs.YtmchpmfogjhpoaaDoor.digs
open Go.ChangeShapes Go.WideShapes Go.ChangeAt Go.RowKit
open mem dig

theorem within_yes (a l h : Int) (w : World) (h1 : l ≤ a) (h2 : a ≤ h) : Calls Tryd.prog 24 #[.int .i64 a, .int .i64 l, .int .i64 h] w fun e w' => e = .returned (.bool true) ∧ w' = w := by
  have hd : decide (a ≤ h) = true := by simpa using h2
  clear h2
  go_enter Tryd.func24, Tryd.ntmps24
  go_wp2
  go_ret
  exact ⟨rfl, rfl⟩
theorem within_no (a l h : Int) (w : World) (hn : a < l ∨ h < a) : Calls Tryd.prog 24 #[.int .i64 a, .int .i64 l, .int .i64 h] w fun e w' => e = .returned (.bool false) ∧ w' = w := by
  by_cases h1 : a < l
  · clear hn
    go_enter Tryd.func24, Tryd.ntmps24
    go_wp2
    go_ret
    exact ⟨rfl, rfl⟩
  · have h2 : h < a := by omega
    have hd : decide (a ≤ h) = false := by simp; omega
    clear hn
    go_enter Tryd.func24, Tryd.ntmps24
    go_wp2
    go_ret
    exact ⟨rfl, rfl⟩
set_option maxHeartbeats 4000000 in
set_option maxRecDepth 8000 in
theorem refDigit_at (c : Int) (w : World) (h0 : 0 ≤ c) (h1 : c < 256) : Calls Tryd.prog 42 #[.int .u8 c] w fun e w' => e = .returned (.int .i64 (dv c)) ∧ Gb w w' := by
  go_enter Tryd.func42, Tryd.ntmps42
  go_wp2
  refine wp_loop_rounds 17 ?_
  rw [rounds_succ]
  go_wp2
  refine wp_loop_rounds 3 ?_
  rw [rounds_succ]
  go_wp2
  · have hc : ((48 : Int) == c) = true := by assumption
    have hc' : c = 48 := by simpa using (beq_iff_eq.1 hc).symm
    go_ret
    exact ⟨ret_int (by rw [hc']; decide), Gb.alloc (Gb.refl _) _ _⟩
  have n48 : ((48 : Int) == c) = false := by assumption
  rw [rounds_succ]
  go_wp2
  rw [rounds_succ]
  go_wp2
  refine wp_loop_rounds 3 ?_
  rw [rounds_succ]
  go_wp2
  · have hc : ((49 : Int) == c) = true := by assumption
    have hc' : c = 49 := by simpa using (beq_iff_eq.1 hc).symm
    go_ret
    exact ⟨ret_int (by rw [hc']; decide), Gb.alloc (Gb.refl _) _ _⟩
  have n49 : ((49 : Int) == c) = false := by assumption
  rw [rounds_succ]
  go_wp2
  rw [rounds_succ]
  go_wp2
  refine wp_loop_rounds 3 ?_
  rw [rounds_succ]
  go_wp2
  · have hc : ((50 : Int) == c) = true := by assumption
    have hc' : c = 50 := by simpa using (beq_iff_eq.1 hc).symm
    go_ret
    exact ⟨ret_int (by rw [hc']; decide), Gb.alloc (Gb.refl _) _ _⟩
  have n50 : ((50 : Int) == c) = false := by assumption
  rw [rounds_succ]
  go_wp2
  rw [rounds_succ]
  go_wp2
  refine wp_loop_rounds 3 ?_
  rw [rounds_succ]
  go_wp2
  · have hc : ((51 : Int) == c) = true := by assumption
    have hc' : c = 51 := by simpa using (beq_iff_eq.1 hc).symm
    go_ret
    exact ⟨ret_int (by rw [hc']; decide), Gb.alloc (Gb.refl _) _ _⟩
  have n51 : ((51 : Int) == c) = false := by assumption
  rw [rounds_succ]
  go_wp2
  rw [rounds_succ]
  go_wp2
  refine wp_loop_rounds 3 ?_
  rw [rounds_succ]
  go_wp2
  · have hc : ((52 : Int) == c) = true := by assumption
    have hc' : c = 52 := by simpa using (beq_iff_eq.1 hc).symm
    go_ret
    exact ⟨ret_int (by rw [hc']; decide), Gb.alloc (Gb.refl _) _ _⟩
  have n52 : ((52 : Int) == c) = false := by assumption
  rw [rounds_succ]
  go_wp2
  rw [rounds_succ]
  go_wp2
  refine wp_loop_rounds 3 ?_
  rw [rounds_succ]
  go_wp2
  · have hc : ((53 : Int) == c) = true := by assumption
    have hc' : c = 53 := by simpa using (beq_iff_eq.1 hc).symm
    go_ret
    exact ⟨ret_int (by rw [hc']; decide), Gb.alloc (Gb.refl _) _ _⟩
  have n53 : ((53 : Int) == c) = false := by assumption
  rw [rounds_succ]
  go_wp2
  rw [rounds_succ]
  go_wp2
  refine wp_loop_rounds 3 ?_
  rw [rounds_succ]
  go_wp2
  · have hc : ((54 : Int) == c) = true := by assumption
    have hc' : c = 54 := by simpa using (beq_iff_eq.1 hc).symm
    go_ret
    exact ⟨ret_int (by rw [hc']; decide), Gb.alloc (Gb.refl _) _ _⟩
  have n54 : ((54 : Int) == c) = false := by assumption
  rw [rounds_succ]
  go_wp2
  rw [rounds_succ]
  go_wp2
  refine wp_loop_rounds 3 ?_
  rw [rounds_succ]
  go_wp2
  · have hc : ((55 : Int) == c) = true := by assumption
    have hc' : c = 55 := by simpa using (beq_iff_eq.1 hc).symm
    go_ret
    exact ⟨ret_int (by rw [hc']; decide), Gb.alloc (Gb.refl _) _ _⟩
  have n55 : ((55 : Int) == c) = false := by assumption
  rw [rounds_succ]
  go_wp2
  rw [rounds_succ]
  go_wp2
  refine wp_loop_rounds 3 ?_
  rw [rounds_succ]
  go_wp2
  · have hc : ((56 : Int) == c) = true := by assumption
    have hc' : c = 56 := by simpa using (beq_iff_eq.1 hc).symm
    go_ret
    exact ⟨ret_int (by rw [hc']; decide), Gb.alloc (Gb.refl _) _ _⟩
  have n56 : ((56 : Int) == c) = false := by assumption
  rw [rounds_succ]
  go_wp2
  rw [rounds_succ]
  go_wp2
  refine wp_loop_rounds 3 ?_
  rw [rounds_succ]
  go_wp2
  · have hc : ((57 : Int) == c) = true := by assumption
    have hc' : c = 57 := by simpa using (beq_iff_eq.1 hc).symm
    go_ret
    exact ⟨ret_int (by rw [hc']; decide), Gb.alloc (Gb.refl _) _ _⟩
  have n57 : ((57 : Int) == c) = false := by assumption
  rw [rounds_succ]
  go_wp2
  rw [rounds_succ]
  go_wp2
  refine wp_loop_rounds 3 ?_
  rw [rounds_succ]
  go_wp2
  · have hc : ((97 : Int) == c) = true := by assumption
    have hc' : c = 97 := by simpa using (beq_iff_eq.1 hc).symm
    go_ret
    exact ⟨ret_int (by rw [hc']; decide), Gb.alloc (Gb.refl _) _ _⟩
  have n97 : ((97 : Int) == c) = false := by assumption
  rw [rounds_succ]
  go_wp2
  · have hc : ((65 : Int) == c) = true := by assumption
    have hc' : c = 65 := by simpa using (beq_iff_eq.1 hc).symm
    go_ret
    exact ⟨ret_int (by rw [hc']; decide), Gb.alloc (Gb.refl _) _ _⟩
  have n65 : ((65 : Int) == c) = false := by assumption
  rw [rounds_succ]
  go_wp2
  rw [rounds_succ]
  go_wp2
  refine wp_loop_rounds 3 ?_
  rw [rounds_succ]
  go_wp2
  · have hc : ((98 : Int) == c) = true := by assumption
    have hc' : c = 98 := by simpa using (beq_iff_eq.1 hc).symm
    go_ret
    exact ⟨ret_int (by rw [hc']; decide), Gb.alloc (Gb.refl _) _ _⟩
  have n98 : ((98 : Int) == c) = false := by assumption
  rw [rounds_succ]
  go_wp2
  · have hc : ((66 : Int) == c) = true := by assumption
    have hc' : c = 66 := by simpa using (beq_iff_eq.1 hc).symm
    go_ret
    exact ⟨ret_int (by rw [hc']; decide), Gb.alloc (Gb.refl _) _ _⟩
  have n66 : ((66 : Int) == c) = false := by assumption
  rw [rounds_succ]
  go_wp2
  rw [rounds_succ]
  go_wp2
  refine wp_loop_rounds 3 ?_
  rw [rounds_succ]
  go_wp2
  · have hc : ((99 : Int) == c) = true := by assumption
    have hc' : c = 99 := by simpa using (beq_iff_eq.1 hc).symm
    go_ret
    exact ⟨ret_int (by rw [hc']; decide), Gb.alloc (Gb.refl _) _ _⟩
  have n99 : ((99 : Int) == c) = false := by assumption
  rw [rounds_succ]
  go_wp2
  · have hc : ((67 : Int) == c) = true := by assumption
    have hc' : c = 67 := by simpa using (beq_iff_eq.1 hc).symm
    go_ret
    exact ⟨ret_int (by rw [hc']; decide), Gb.alloc (Gb.refl _) _ _⟩
  have n67 : ((67 : Int) == c) = false := by assumption
  rw [rounds_succ]
  go_wp2
  rw [rounds_succ]
  go_wp2
  refine wp_loop_rounds 3 ?_
  rw [rounds_succ]
  go_wp2
  · have hc : ((100 : Int) == c) = true := by assumption
    have hc' : c = 100 := by simpa using (beq_iff_eq.1 hc).symm
    go_ret
    exact ⟨ret_int (by rw [hc']; decide), Gb.alloc (Gb.refl _) _ _⟩
  have n100 : ((100 : Int) == c) = false := by assumption
  rw [rounds_succ]
  go_wp2
  · have hc : ((68 : Int) == c) = true := by assumption
    have hc' : c = 68 := by simpa using (beq_iff_eq.1 hc).symm
    go_ret
    exact ⟨ret_int (by rw [hc']; decide), Gb.alloc (Gb.refl _) _ _⟩
  have n68 : ((68 : Int) == c) = false := by assumption
  rw [rounds_succ]
  go_wp2
  rw [rounds_succ]
  go_wp2
  refine wp_loop_rounds 3 ?_
  rw [rounds_succ]
  go_wp2
  · have hc : ((101 : Int) == c) = true := by assumption
    have hc' : c = 101 := by simpa using (beq_iff_eq.1 hc).symm
    go_ret
    exact ⟨ret_int (by rw [hc']; decide), Gb.alloc (Gb.refl _) _ _⟩
  have n101 : ((101 : Int) == c) = false := by assumption
  rw [rounds_succ]
  go_wp2
  · have hc : ((69 : Int) == c) = true := by assumption
    have hc' : c = 69 := by simpa using (beq_iff_eq.1 hc).symm
    go_ret
    exact ⟨ret_int (by rw [hc']; decide), Gb.alloc (Gb.refl _) _ _⟩
  have n69 : ((69 : Int) == c) = false := by assumption
  rw [rounds_succ]
  go_wp2
  rw [rounds_succ]
  go_wp2
  refine wp_loop_rounds 3 ?_
  rw [rounds_succ]
  go_wp2
  · have hc : ((102 : Int) == c) = true := by assumption
    have hc' : c = 102 := by simpa using (beq_iff_eq.1 hc).symm
    go_ret
    exact ⟨ret_int (by rw [hc']; decide), Gb.alloc (Gb.refl _) _ _⟩
  have n102 : ((102 : Int) == c) = false := by assumption
  rw [rounds_succ]
  go_wp2
  · have hc : ((70 : Int) == c) = true := by assumption
    have hc' : c = 70 := by simpa using (beq_iff_eq.1 hc).symm
    go_ret
    exact ⟨ret_int (by rw [hc']; decide), Gb.alloc (Gb.refl _) _ _⟩
  have n70 : ((70 : Int) == c) = false := by assumption
  rw [rounds_succ]
  go_wp2
  rw [rounds_succ]
  go_wp2
  go_ret
  refine ⟨ret_int ?_, Gb.alloc (Gb.refl _) _ _⟩
  simp only [beq_eq_false_iff_ne, ne_eq] at n48 n49 n50 n51 n52 n53 n54 n55 n56 n57 n97 n65 n98 n66 n99 n67 n100 n68 n101 n69 n102 n70
  unfold dv
  (repeat' split) <;> omega
end Go.Proofs.YtmchpmfogjhpoaaDoor.digs
