/- sameEdits of the laws, at edits that are alike; within of the document. -/
import Derived.Test.YtoiiphkcpdphbaaDoorEdRow
namespace Go.Proofs.YtoiiphkcpdphbaaDoor.df
set_option linter.unusedVariables false
open Go.ChangeShapes Go.WideShapes Go.ChangeAt Go.RowKit
open mem
theorem within_at (n a b : Int) (w : World) : Calls Tryd.prog 23 #[.int .i64 n, .int .i64 a, .int .i64 b] w fun e w' => e = .returned (.bool (decide (a ≤ n ∧ n ≤ b))) ∧ w' = w := by
  by_cases h1 : a ≤ n
  · by_cases h2 : n ≤ b
    · rw [decide_eq_true ⟨h1, h2⟩]
      go_enter Tryd.func23, Tryd.ntmps23
      go_wp2
      go_ret
      exact ⟨rfl, rfl⟩
    · rw [decide_eq_false (fun h => h2 h.2)]
      go_enter Tryd.func23, Tryd.ntmps23
      go_wp2
      go_ret
      exact ⟨rfl, rfl⟩
  · rw [decide_eq_false (fun h => h1 h.1)]
    go_enter Tryd.func23, Tryd.ntmps23
    go_wp2
    go_ret
    exact ⟨rfl, rfl⟩
theorem neEd (x : Ed) (w : World) : (binOp .neq 38 (.agg #[.int .i64 x.w, .int .i64 x.n, .string (tx x.t)]) (.agg #[.int .i64 x.w, .int .i64 x.n, .string (tx x.t)])).run Tryd.prog w = .ok (.bool false) w := by
  rw [run_neq_struct]
  go_simp
set_option maxHeartbeats 1000000 in
set_option maxRecDepth 10000 in
theorem sameEdits_at (l : List Ed) (u v : Value) (w : World) (hu : ed.View w u l) (hv : ed.View w v l) (hl : l.length ≤ 5000) :
    Calls Tryd.prog 11 #[u, v] w fun e w' => e = .returned (.bool true) ∧ Bl w w' := by
  obtain ⟨p, cp, rfl, hcp, hp⟩ := hu
  obtain ⟨q, cq, rfl, hcq, hq⟩ := hv
  have H0 : Hid (ed.In w p l ∧ ed.In w q l) := ⟨hp, hq⟩
  clear hp hq
  obtain ⟨N, hN⟩ : ∃ N, l.length = N := ⟨_, rfl⟩
  have HN : Hid (l.length = N) := hN
  rw [hN] at hl hcp hcq ⊢
  clear hN
  go_enter Tryd.func11, Tryd.ntmps11
  go_wp2
  go_loopw [5] (fun iv wr => ∃ k : Nat, k ≤ N ∧ iv = .int .i64 (k : Int) ∧ Bl w wr) (fun iv _ => N - (intOf iv).toNat)
  case atStart => exact ⟨0, Nat.zero_le _, rfl, Bl.refl _⟩
  case round =>
    obtain ⟨k, hk, rfl, hb⟩ := hrel
    have HB : Hid (Bl w wr) := hb
    clear hb
    by_cases hlt : k < N
    · have hlz : (k : Int) < (N : Int) := by omega
      obtain ⟨x, rfl, c0, c1, c2⟩ := (H0.out.1.step HB.out).at' k (by rw [HN.out]; exact hlt)
      obtain ⟨y, rfl, d0, d1, d2⟩ := (H0.out.2.step HB.out).at' k (by rw [HN.out]; exact hlt)
      have hne := neEd (l[k]'(by rw [HN.out]; exact hlt))
      generalize (l[k]'(by rw [HN.out]; exact hlt)) = E at c0 c1 c2 d0 d1 d2 hne
      go_wp2
      go_quiet (fail)
      go_wp2
      go_roundw
      case rel => exact ⟨k + 1, hlt, by go_num, HB.out.trans (Dr.bl ⟨_, rfl⟩)⟩
      case measure => simp [intOf]; omega
    · have hlz : ¬ (k : Int) < (N : Int) := by omega
      go_wp2
      go_ret
      exact ⟨rfl, HB.out⟩
end Go.Proofs.YtoiiphkcpdphbaaDoor.df
