/- What Shift of package spans answers. -/
import Derived.Test.YtfblmfjgbbeheaaMv1
import Derived.Test.YtfblmfjgbbeheaaSp6
import Derived.StillTailTactics
namespace Go.Proofs.Ytfblmfjgbbeheaa.sp
set_option linter.unusedVariables false
open Go.ChangeShapes Go.WideShapes Go.ChangeAt Go.RowKit
open mem rows span

set_option maxRecDepth 20000 in
set_option maxHeartbeats 2000000 in
theorem Shift_at (v : Value) (l R : List (Int × Int)) (a o i : Int) (w : World) (hv : View w v l) (hl : l.length ≤ 1000) (hR : IsOf (has l) R) (hm : ∀ x ∈ R, x.2 ≤ 1099511627776) (ha : sm a) (ho : sm o) (hi : sm i) :
    Calls Try.prog 26 #[v, .int .i64 a, .int .i64 o, .int .i64 i] w fun e w' => ∃ u L, e = .returned u ∧ OwnS w' w.heap.size u L ∧ IsOf (has (R.map (mvx a o i))) L ∧ L.length ≤ l.length ∧ Bl w w' := by
  have cO := Of_at v l w hv (by omega)
  have cP := fun v L w h1 h2 => Of_at v L w h1 h2
  have cM := fun x y w (hx : sm x ∧ sm y) => And.intro (Moved_at x a o i w hx.1 ha ho hi) (Moved_at y a o i w hx.2 ha ho hi)
  have HCM : Hid (∀ x w, sm x → Calls Try.prog 25 #[.int .i64 x, .int .i64 a, .int .i64 o, .int .i64 i] w fun e w' => e = .returned (.int .i64 (mv x a o i)) ∧ w' = w) := fun x w hx => Moved_at x a o i w hx ha ho hi
  have HR : Hid (IsOf (has l) R) := hR
  have HMX : Hid (∀ x ∈ R, sm x.1 ∧ sm x.2) := fun x hx => by
    have h1 := right_mem hR.1 hx
    have h2 := hm x hx
    unfold sm
    omega
  clear hv cM ha ho hi hR hm
  obtain ⟨lm, hlm⟩ : ∃ m, m = l.length := ⟨_, rfl⟩
  rw [← hlm] at hl cO ⊢
  clear hlm
  go_enter Try.func26, Try.ntmps26
  go_wp2_with (go_at_call 19; refine cO.mono ?_; rintro e w1 ⟨sv, S, rfl, hoS, hiS, hnl, hb1⟩; obtain ⟨pS, cS, rfl⟩ := hoS.slice; obtain ⟨n, hn⟩ : ∃ n, n = S.length := ⟨_, rfl⟩; rw [← hn] at hoS hnl ⊢)
  obtain rfl : S = R := hiS.same HR.out (fun _ _ => Iff.rfl)
  clear cO hiS
  obtain ⟨b0, hb0⟩ : ∃ b, b = w.heap.size := ⟨_, rfl⟩
  rw [← hb0] at hoS
  have HB0 : Hid (b0 = w.heap.size) := hb0
  clear hb0
  rcases hoS.shape with ⟨e, rfl⟩ | ⟨g, cap, e, hg0, hg1, hg2, hg3, _⟩
  · injection e with e1 e2 e3
    subst e1 e2 e3
    clear hn hnl HMX HCM HR
    go_wp2
    refine wp_loop_rounds 1 ?_
    rw [rounds_succ]
    go_wp2_with (go_at_call 19; refine (cP _ [] _ hoS.view (by simp)).mono ?_; rintro e w4 ⟨v4, l4, rfl, ho4, hi4, hn4, hb4⟩)
    go_ret
    exact ⟨_, l4, rfl, ho4.down hb1.size, hi4, Nat.le_trans hn4 (Nat.zero_le _), hb1.trans hb4⟩
  · injection e with e1 e2 e3
    subst e1 e3
    rw [← hn] at hg2
    have HN : Hid (n = S.length) := hn
    clear hn e2
    go_wp2
    go_loopw [16] (fun iv wr => ∃ k : Nat, k ≤ n ∧ iv = .int .i64 (k : Int) ∧ OwnS wr b0 (.slice (some ⟨g, 0, none⟩) n cS) (part a o i S k) ∧ Bl w wr) (fun iv _ => n - (intOf iv).toNat)
    case atStart => exact ⟨0, Nat.zero_le _, rfl, by simpa [part] using hoS, hb1⟩
    case round =>
      clear hoS hg1
      obtain ⟨k, hk, rfl, hown, hbl⟩ := hrel
      have HPL : Hid ((part a o i S k).length = n) := by rw [Hid, part_len a o i S k (by rw [← HN.out]; exact hk), HN.out]
      by_cases hlt : k < n
      · have hlz : (k : Int) < (n : Int) := by omega
        have hkS : k < S.length := by rw [← HN.out]; exact hlt
        have hin := hown.view
        obtain ⟨p', c', ev, hin⟩ := hin
        obtain ⟨x', ex, hc1, hc2⟩ := hin.at k (by rw [HPL.out]; exact hlt)
        injection ev with e1 e2 e3
        subst e1
        injection ex with ex
        subst ex
        rw [part_nth a o i S k hkS] at hc1 hc2
        rw [Addr.add_lit, Nat.zero_add] at hc1 hc2
        have hmx := HMX.out _ (nth_mem S k hkS)
        have hpp := fun w (h : OwnS w b0 (.slice (some ⟨g, 0, none⟩) n cS) (part a o i S k)) => by
          have h' := own_pair (k := k) (x := mvx a o i (nth S k)) (by rw [HPL.out]; exact h) (by rw [HPL.out]; exact hlt)
          rw [HPL.out, part_step a o i S k hkS] at h'
          exact h'
        have HPP : Hid (∀ w, OwnS w b0 (.slice (some ⟨g, 0, none⟩) n cS) (part a o i S k) → OwnS ((w.setCell ⟨g, k * 2, none⟩ (.int .i64 (mvx a o i (nth S k)).1)).setCell ⟨g, k * 2 + 1, none⟩ (.int .i64 (mvx a o i (nth S k)).2)) b0 (.slice (some ⟨g, 0, none⟩) n cS) (part a o i S (k + 1))) := hpp
        have cx := fun w => HCM.out (nth S k).1 w hmx.1
        have cy := fun w => HCM.out (nth S k).2 w hmx.2
        unfold mvx at HPP
        generalize (nth S k).1 = x at hc1 HPP cx
        generalize (nth S k).2 = y at hc2 HPP cy
        simp only at HPP
        generalize mv x a o i = mx at HPP cx
        generalize mv y a o i = my at HPP cy
        clear hpp hmx hin e2 e3
        go_wp2
        have hoz := hown.alloc (Obj.cells #[Value.int IntKind.i64 x, Value.int IntKind.i64 y] 28)
        have hbz : Bl w _ := hbl.alloc (Obj.cells #[Value.int IntKind.i64 x, Value.int IntKind.i64 y] 28)
        have hz0 : (wr.alloc (Obj.cells #[Value.int IntKind.i64 x, Value.int IntKind.i64 y] 28)).cell? ⟨wr.heap.size, 0, none⟩ = some (.int .i64 x) := by simp
        have hz1 : (wr.alloc (Obj.cells #[Value.int IntKind.i64 x, Value.int IntKind.i64 y] 28)).cell? ⟨wr.heap.size, 1, none⟩ = some (.int .i64 y) := by simp
        have hz2 : (wr.alloc (Obj.cells #[Value.int IntKind.i64 x, Value.int IntKind.i64 y] 28)).cell? ⟨g, k * 2, none⟩ = some (.int .i64 x) := at_bl ((Bl.refl wr).alloc _) hc1
        have hz3 : (wr.alloc (Obj.cells #[Value.int IntKind.i64 x, Value.int IntKind.i64 y] 28)).cell? ⟨g, k * 2 + 1, none⟩ = some (.int .i64 y) := at_bl ((Bl.refl wr).alloc _) hc2
        generalize wr.alloc (Obj.cells #[Value.int IntKind.i64 x, Value.int IntKind.i64 y] 28) = wz at hoz hbz hz0 hz1 hz2 hz3 ⊢
        generalize wr.heap.size = Y at hz0 hz1 ⊢
        have hzf := own_free hoz (k * 2)
        have hzg := own_free hoz (k * 2 + 1)
        clear hown hc1 hc2 hbl
        refine wp_region_still_tail 16 (by kernel_rfl) (by kernel_rfl) ?_
        change wpStill _ _ wz.drew (fun a' => wpList _ _ _ _ a' wz.drew) _ _
        simp only [List.take_succ_cons, List.take_zero, List.drop_succ_cons, List.drop_zero]
        iterate 7 still_step
        still_call (cx _)
        iterate 5 still_step
        still_call (cy _)
        iterate 2 still_step
        refine wpStill_nil ?_
        go_wp2
        go_roundw
        case rel => exact ⟨k + 1, by omega, by go_num, (HPP.out wz hoz).step ((Bl.refl _).drew), ((hbz.setCell (by rw [← HB0.out]; exact hg0) _).setCell (by rw [← HB0.out]; exact hg0) _).drew⟩
        case measure => simp [intOf]; omega
      · obtain rfl : k = n := by omega
        have HPA : Hid (part a o i S k = S.map (mvx a o i)) := by rw [Hid, HN.out]; unfold part; simp
        rw [HPA.out] at hown
        have HSL : Hid ((S.map (mvx a o i)).length ≤ 4000) := by rw [Hid, List.length_map, ← HN.out]; omega
        have hx1 : ¬ (k < S.length) := by rw [← HN.out]; omega
        have hx2 : ¬ ((k : Int) < (S.length : Int)) := by omega
        have hown2 : OwnS wr b0 (.slice (some ⟨g, 0, none⟩) S.length cS) (S.map (mvx a o i)) := by rw [← HN.out]; exact hown
        have cQ := cP (.slice (some ⟨g, 0, none⟩) S.length cS) (S.map (mvx a o i)) wr hown2.view HSL.out
        rw [List.length_map] at cQ
        have HNL : Hid (S.length ≤ lm) := by rw [Hid, ← HN.out]; exact hnl
        clear hown hown2 HPA HSL HPL HMX HCM HR cP HN
        go_wp2_with (go_at_call 19; refine cQ.mono ?_; rintro e w4 ⟨v4, l4, rfl, ho4, hi4, hn4, hb4⟩)
        go_ret
        exact ⟨_, l4, rfl, ho4.down hbl.size, hi4, Nat.le_trans hn4 HNL.out, hbl.trans hb4⟩
end Go.Proofs.Ytfblmfjgbbeheaa.sp
