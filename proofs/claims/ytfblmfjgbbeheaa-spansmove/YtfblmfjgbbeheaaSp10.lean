/- What slices.Concat of two rows of spans answers, and Or of package spans. -/
import Derived.Test.YtfblmfjgbbeheaaSp6
import Derived.Laws.OwnMore
namespace Go.Proofs.Ytfblmfjgbbeheaa.sp
set_option linter.unusedVariables false
open Go.ChangeShapes Go.WideShapes Go.ChangeAt Go.RowKit
open mem rows span

theorem grown_at (n : Nat) (w : World) (h0 : 0 < n) (hn : n ≤ 5000) : ∃ w', (Builtin.append_ #[22, 3] 22 #[.slice none 0 0, .int .i64 n]).run Try.prog w = .ok (.slice (some ⟨w.heap.size, 0, none⟩) n (grownCap w n 0 28)) w' ∧
    OwnS w' w.heap.size (.slice (some ⟨w.heap.size, 0, none⟩) 0 (grownCap w n 0 28)) [] ∧ Bl w w' := by
  obtain ⟨i, hi, hz, h1, h2⟩ := infoS'
  have hge := grownCap_ge w n 0 28
  have hle := grownCap_le_maxLen w n 0 28 (by unfold maxLen; omega)
  refine ⟨_, Lib.run_append_nil_zeros (P := Try.prog) w 22 3 22 28 i _ .i64 .i64 Try.underlying22 Try.underlying3 hi hz n h0 (by omega) (by omega) (by rw [h2]; omega), ?_, ((Bl.refl w).drew).alloc _⟩
  refine ⟨rfl, Or.inr ⟨w.heap.size, grownCap w n 0 28, Builtin.zeroCells (Value.agg #[.int .i64 0, .int .i64 0]).cells n ++ Builtin.zeroCells (Value.agg #[.int .i64 0, .int .i64 0]).cells (grownCap w n 0 28 - n), rfl, Nat.le_refl _, ?_, Nat.zero_le _, hle, ?_, rfl⟩⟩
  · show (w.heap.push _)[w.heap.size]? = _
    rw [Array.getElem?_push, if_pos rfl]
  · rw [Array.size_append, size_zeroCells, size_zeroCells]
    show n * 2 + (grownCap w n 0 28 - n) * 2 = grownCap w n 0 28 * 2
    omega
theorem Grow_at (n : Nat) (w : World) (hn : n ≤ 5000) : Calls Try.prog 39 #[.slice none 0 0, .int .i64 n] w fun e w' => ∃ v', e = .returned v' ∧ OwnS w' w.heap.size v' [] ∧ Bl w w' := by
  by_cases h0 : 0 < n
  · have hz : (0 : Int) < (n : Int) := by omega
    obtain ⟨w', hr, ho, hb⟩ := grown_at n w h0 hn
    have HR : Hid _ := hr
    have hge := grownCap_ge w n 0 28
    generalize grownCap w n 0 28 = cap at ho hge HR
    clear hr
    go_enter Try.func39, Try.ntmps39
    go_wp2_with (at_builtin; refine Lib.wpList_append_run _ rfl (.tmp 20) (.tmp 21) _ _ rfl _ _ rfl rfl _ _ HR.out ?_)
    go_ret
    exact ⟨_, rfl, ho, hb⟩
  · obtain rfl : n = 0 := by omega
    go_enter Try.func39, Try.ntmps39
    go_wp2
    go_ret
    exact ⟨_, rfl, OwnS.nil _ _, Bl.refl _⟩
/-- All of some spans behind a row of the call's own. -/
theorem appS_all (w : World) (base : Nat) (v : Value) (l l' : List (Int × Int)) (p : Option Addr) (n c : Nat) (hn : n = l'.length) (hown : OwnS w base v l) (hin : InS w p l') (hp : p = none → n = 0 ∧ c = 0) (hl : l.length + l'.length ≤ 5000) (hb : base ≤ w.heap.size) :
    ∃ v' w', (Builtin.append_ #[22, 22] 22 #[v, .slice p n c]).run Try.prog w = .ok v' w' ∧ OwnS w' base v' (l ++ l') ∧ w.grownBy w' v.ownBlock := by
  obtain ⟨i, hi, hz, h1, h2⟩ := infoS'
  cases p with
  | none =>
    obtain ⟨rfl, rfl⟩ := hp rfl
    have e : l' = [] := List.eq_nil_of_length_eq_zero hn.symm
    subst e
    refine ⟨v, w, run_append_owned_none (P := Try.prog) w base 22 22 28 i 2 Try.underlying22 hi v l.length (rowS l) hown, by rw [List.append_nil]; exact hown, ⟨rfl, rfl, rfl, Nat.le_refl _, fun _ _ _ => rfl⟩⟩
  | some x =>
    have hcells : ∀ j u, (rowS l')[j]? = some u → w.cell? (x.add j) = some u := fun j u hu => by
      have hj : j < l'.length * 2 := by
        rcases Nat.lt_or_ge j (l'.length * 2) with h | h
        · exact h
        · rw [List.getElem?_eq_none (by rw [rowS_len]; exact h)] at hu; cases hu
      rcases hin with h | ⟨x', hx, hc⟩
      · rw [h] at hj; simp at hj
      · injection hx with hx
        subst hx
        obtain ⟨g0, g1⟩ := rowS_get l' (j / 2) (by omega)
        obtain ⟨c0, c1⟩ := hc (j / 2) (by omega)
        rcases Nat.mod_two_eq_zero_or_one j with h | h
        · rw [show 2 * (j / 2) = j by omega] at g0
          rw [show j / 2 * 2 = j by omega] at c0
          rw [c0]
          rw [g0] at hu
          exact hu
        · rw [show 2 * (j / 2) + 1 = j by omega] at g1
          rw [show j / 2 * 2 + 1 = j by omega] at c1
          rw [c1]
          rw [g1] at hu
          exact hu
    have hone : ∀ u ∈ rowS l', u.oneCell' = true := fun u hu => by
      unfold rowS at hu
      rw [List.mem_flatMap] at hu
      obtain ⟨y, _, hy⟩ := hu
      simp at hy
      rcases hy with rfl | rfl <;> rfl
    subst hn
    obtain ⟨v', w', hr, ho, hg, _⟩ := run_append_own (P := Try.prog) w base 22 22 28 i (.agg #[.int .i64 0, .int .i64 0]) 2 16 Try.underlying22 hi hz h1 h2 rfl (by decide) v l.length (rowS l) hown
      x l'.length c (rowS l') (rowS_len l') hcells hone (by simp [maxLen]; omega) (by omega) hb
    refine ⟨v', w', hr, ?_, hg⟩
    unfold OwnS
    rw [rowS_append, List.length_append]
    exact ho
/-- A slice that reads so, and is nil only if it is empty. -/
def Vw (w : World) (p : Option Addr) (n c : Nat) (l : List (Int × Int)) : Prop := n = l.length ∧ InS w p l ∧ (p = none → n = 0 ∧ c = 0)
theorem Vw.step {w w' : World} {p : Option Addr} {n c : Nat} {l : List (Int × Int)} (h : Vw w p n c l) (hb : Bl w w') : Vw w' p n c l := ⟨h.1, h.2.1.step hb, h.2.2⟩
set_option maxRecDepth 10000 in
theorem Concat_at (X : Nat) (p p' : Option Addr) (n n' c c' : Nat) (l l' : List (Int × Int)) (w : World) (h0 : w.cell? ⟨X, 0, none⟩ = some (.slice p n c)) (h1 : w.cell? ⟨X, 1, none⟩ = some (.slice p' n' c')) (hv : Vw w p n c l) (hv' : Vw w p' n' c' l') (hl : n + n' ≤ 3000) :
    Calls Try.prog 35 #[.slice (some ⟨X, 0, none⟩) 2 2] w fun e w' => ∃ v', e = .returned v' ∧ OwnS w' w.heap.size v' (l ++ l') ∧ Bl w w' := by
  have HV : Hid (Vw w p n c l) := hv
  have HV' : Hid (Vw w p' n' c' l') := hv'
  clear hv hv'
  have cG := fun w => Grow_at (n + n') w (by omega)
  rw [show ((n + n' : Nat) : Int) = (n : Int) + (n' : Int) by omega] at cG
  go_enter Try.func35, Try.ntmps35
  go_wp2
  go_loopw [3, 11] (fun sv i wr => ∃ (k : Nat) (z : Int), k ≤ 2 ∧ i = .int .i64 (k : Int) ∧ sv = .int .i64 z ∧ Hid (z = if k = 0 then 0 else if k = 1 then (n : Int) else (n : Int) + (n' : Int)) ∧ wr = w) (fun _ i _ => 2 - (intOf i).toNat)
  case atStart => exact ⟨0, 0, by decide, rfl, rfl, rfl, rfl⟩
  case round =>
    obtain ⟨k, z, hk, rfl, rfl, HZ, hw⟩ := hrel
    have hw := hw.symm
    subst hw
    have hcase : k = 0 ∨ k = 1 ∨ k = 2 := by omega
    rcases hcase with rfl | rfl | rfl
    · obtain rfl : z = 0 := HZ.out
      go_wp2
      go_roundw
      case rel => exact ⟨1, n, by decide, rfl, rfl, rfl, by trivial⟩
      case measure => decide
    · obtain rfl : z = (n : Int) := HZ.out
      go_wp2
      go_roundw
      case rel => exact ⟨2, (n : Int) + (n' : Int), by decide, rfl, rfl, rfl, by trivial⟩
      case measure => decide
    · obtain rfl : z = (n : Int) + (n' : Int) := HZ.out
      go_wp2_with (go_at_call 39; refine (cG _).mono ?_; rintro e w1 ⟨gv, rfl, ho1, hb1⟩)
      obtain ⟨base, hbase⟩ : ∃ b, b = w.heap.size := ⟨_, rfl⟩
      rw [← hbase] at ho1
      have HB : Hid (base = w.heap.size) := hbase
      clear hbase
      go_loopw [6, 27] (fun sv i wx => ∃ (k : Nat) (L : List (Int × Int)), k ≤ 2 ∧ i = .int .i64 (k : Int) ∧ OwnS wx base sv L ∧ Hid (L = if k = 0 then [] else if k = 1 then l else l ++ l') ∧ Bl w wx) (fun _ i _ => 2 - (intOf i).toNat)
      case atStart => exact ⟨0, [], by decide, rfl, ho1, rfl, hb1⟩
      case round =>
        clear ho1 hb1
        obtain ⟨k, L, hk2, rfl, ho2, HL, hb2⟩ := hrel
        have hcase : k = 0 ∨ k = 1 ∨ k = 2 := by omega
        have h0' := at_bl hb2 h0
        have h1' := at_bl hb2 h1
        have hbs : base ≤ wr.heap.size := by rw [HB.out]; exact hb2.size
        rcases hcase with rfl | rfl | rfl
        · obtain rfl : L = [] := HL.out
          obtain ⟨v', w', hr, ho', hg'⟩ := appS_all wr base _ [] l p n c HV.out.1 ho2 (HV.out.step hb2).2.1 HV.out.2.2 (by rw [← HV.out.1]; simp; omega) hbs
          have hb3 : Bl w w' := bl_grown hb2 hg' (fun k e => by rw [← HB.out]; exact (ho2.block k e).1)
          have HR : Hid _ := hr
          clear hr hg'
          go_wp2_with (at_builtin; refine Lib.wpList_append_run _ rfl (.tmp 31) (.tmp 32) _ _ rfl _ _ rfl rfl _ _ HR.out ?_)
          go_roundw
          case rel => exact ⟨1, l, by decide, rfl, ho', rfl, hb3⟩
          case measure => decide
        · obtain rfl : L = l := HL.out
          obtain ⟨v', w', hr, ho', hg'⟩ := appS_all wr base _ L l' p' n' c' HV'.out.1 ho2 (HV'.out.step hb2).2.1 HV'.out.2.2 (by rw [← HV.out.1, ← HV'.out.1]; omega) hbs
          have hb3 : Bl w w' := bl_grown hb2 hg' (fun k e => by rw [← HB.out]; exact (ho2.block k e).1)
          have HR : Hid _ := hr
          clear hr hg'
          go_wp2_with (at_builtin; refine Lib.wpList_append_run _ rfl (.tmp 31) (.tmp 32) _ _ rfl _ _ rfl rfl _ _ HR.out ?_)
          go_roundw
          case rel => exact ⟨2, L ++ l', by decide, rfl, ho', rfl, hb3⟩
          case measure => decide
        · obtain rfl : L = l ++ l' := HL.out
          go_wp2
          go_ret
          exact ⟨_, rfl, by rw [← HB.out]; exact ho2, hb2⟩
/-- What Or answers. -/
theorem Or_at (p p' : Option Addr) (n n' c c' : Nat) (l l' : List (Int × Int)) (w : World) (hv : Vw w p n c l) (hv' : Vw w p' n' c' l') (hl : n + n' ≤ 3000) :
    Calls Try.prog 20 #[.slice p n c, .slice p' n' c'] w fun e w' => ∃ v' L, e = .returned v' ∧ OwnS w' w.heap.size v' L ∧ IsOf (fun q => has l q ∨ has l' q) L ∧ L.length ≤ n + n' ∧ Bl w w' := by
  have HLL : Hid (l.length + l'.length = n + n') := by rw [hv.1, hv'.1]; exact rfl
  have cC := Concat_at w.heap.size p p' n n' c c' l l' (w.alloc (.cells #[.slice p n c, .slice p' n' c'] 22)) (by simp) (by simp) (hv.step ((Bl.refl w).alloc _)) (hv'.step ((Bl.refl w).alloc _)) hl
  have cO := fun v w h => Of_at v (l ++ l') w h (by rw [List.length_append, HLL.out]; omega)
  clear hv hv'
  go_enter Try.func20, Try.ntmps20
  go_wp2_with (first
    | (go_at_call 35; refine cC.mono ?_; rintro e w1 ⟨v1, rfl, ho1, hb1⟩)
    | (go_at_call 19; refine (cO _ _ ho1.view).mono ?_; rintro e w2 ⟨v2, L, rfl, ho2, hi2, hn2, hb2⟩))
  go_ret
  have hb3 : Bl w w1 := ((Bl.refl w).alloc _).trans hb1
  refine ⟨_, L, rfl, ho2.down hb3.size, hi2.congr (fun q _ => has_append l l' q), ?_, hb3.trans hb2⟩
  rw [List.length_append, HLL.out] at hn2
  exact hn2
end Go.Proofs.Ytfblmfjgbbeheaa.sp
