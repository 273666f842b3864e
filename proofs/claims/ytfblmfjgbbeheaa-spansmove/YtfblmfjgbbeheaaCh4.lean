/- The document's own side: what SpansOf answers, and Chosen as the laws call it. -/
import Derived.Test.YtfblmfjgbbeheaaCh3
namespace Go.Proofs.Ytfblmfjgbbeheaa.sp
set_option linter.unusedVariables false
open Go.ChangeShapes Go.WideShapes Go.ChangeAt Go.RowKit
open mem rows span

/-- A value of the call's own that is just those places. -/
def Got (w w' : World) (v : Value) (f : Int → Prop) : Prop := ∃ R, OwnS w' w.heap.size v R ∧ IsOf f R ∧ R.length ≤ 5000 ∧ Bl w w'
theorem fit_two {a b : List (Int × Int)} (ha : Fit a) (hb : Fit b) (hal : a.length ≤ 1000) (hbl : b.length ≤ 1000) : FitL [a, b] := fun j hj => by
  rcases j with _ | _ | j
  · exact ⟨ha, hal⟩
  · exact ⟨hb, hbl⟩
  · simp at hj; omega
theorem fit_one {a : List (Int × Int)} (ha : Fit a) (hal : a.length ≤ 1000) : FitL [a] := fun j hj => by
  rcases j with _ | j
  · exact ⟨ha, hal⟩
  · simp at hj
theorem ls_one {w : World} {X : Nat} {p : Option Addr} {n c : Nat} {l : List (Int × Int)} (h : w.cell? ⟨X, 0, none⟩ = some (.slice p n c)) (hn : n = l.length) (hi : InS w p l) : LS w X [l] := fun j hj => by
  rcases j with _ | j
  · exact ⟨p, c, by rw [h, hn]; rfl, hi⟩
  · simp at hj
theorem ls_two {w : World} {X : Nat} {p p' : Option Addr} {n n' c c' : Nat} {l l' : List (Int × Int)} (h : w.cell? ⟨X, 0, none⟩ = some (.slice p n c)) (hn : n = l.length) (hi : InS w p l) (h' : w.cell? ⟨X, 1, none⟩ = some (.slice p' n' c')) (hn' : n' = l'.length) (hi' : InS w p' l') : LS w X [l, l'] := fun j hj => by
  rcases j with _ | _ | j
  · exact ⟨p, c, by rw [h, hn]; rfl, hi⟩
  · exact ⟨p', c', by rw [h', hn']; rfl, hi'⟩
  · simp at hj; omega
theorem Of_chosen (B X : Nat) (l : List (Int × Int)) (w : World) (hb : Bx1 w B l) (hls : LS w X [l]) (hf : Fit l) (hl : l.length ≤ 1000) :
    Calls Try.prog 9 #[.func (.func 33) #[] #[.pointer (some ⟨B, 0, none⟩)], .slice (some ⟨X, 0, none⟩) 1 1] w fun e w' => ∃ v, e = .returned v ∧ Got w w' v (has l) := by
  refine (Chosen_at 33 #[.pointer (some ⟨B, 0, none⟩)] (hasB l) X 1 [l] w rfl (by omega) hls (fit_one hf hl) (enters_of Try.func33 (by kernel_rfl) rfl) (fun p w' h => has_fn p B l w' (hb.step h) (by omega))).mono ?_
  rintro e w' ⟨v, rfl, ha⟩
  obtain ⟨R, ho, hi, hn, hb'⟩ := chosen_is ha (fun p q h0 hpq h => const_of (j := 0) (by omega) rfl h0 hpq h) (fun p h => last_of (j := 0) (by omega) rfl h)
  exact ⟨v, rfl, R, ho, hi.congr (fun p _ => hasB_iff l p), hn, hb'⟩
theorem Or_chosen (B C X : Nat) (a b : List (Int × Int)) (w : World) (ha : Bx1 w B a) (hb : Bx1 w C b) (hls : LS w X [a, b]) (hfa : Fit a) (hfb : Fit b) (hal : a.length ≤ 1000) (hbl : b.length ≤ 1000) :
    Calls Try.prog 9 #[.func (.func 10) #[] #[.pointer (some ⟨B, 0, none⟩), .pointer (some ⟨C, 0, none⟩)], .slice (some ⟨X, 0, none⟩) 2 2] w fun e w' => ∃ v, e = .returned v ∧ Got w w' v (fun q => has a q ∨ has b q) := by
  refine (Chosen_at 10 #[.pointer (some ⟨B, 0, none⟩), .pointer (some ⟨C, 0, none⟩)] (fun q => hasB a q || hasB b q) X 2 [a, b] w rfl (by omega) hls (fit_two hfa hfb hal hbl) (enters_of Try.func10 (by kernel_rfl) rfl) (fun p w' h => or_fn p B C a b w' (ha.step h) (hb.step h) (by omega) (by omega))).mono ?_
  rintro e w' ⟨v, rfl, hans⟩
  obtain ⟨R, ho, hi, hn, hb'⟩ := chosen_is hans (fun p q h0 hpq h => by rw [const_of (j := 0) (l := a) (by omega) rfl h0 hpq h, const_of (j := 1) (l := b) (by omega) rfl h0 hpq h]) (fun p h => by rw [last_of (j := 0) (l := a) (by omega) rfl h, last_of (j := 1) (l := b) (by omega) rfl h]; rfl)
  exact ⟨v, rfl, R, ho, hi.congr (fun p _ => by rw [Bool.or_eq_true, hasB_iff, hasB_iff]), hn, hb'⟩
theorem And_chosen (B C X : Nat) (a b : List (Int × Int)) (w : World) (ha : Bx1 w B a) (hb : Bx1 w C b) (hls : LS w X [a, b]) (hfa : Fit a) (hfb : Fit b) (hal : a.length ≤ 1000) (hbl : b.length ≤ 1000) :
    Calls Try.prog 9 #[.func (.func 12) #[] #[.pointer (some ⟨B, 0, none⟩), .pointer (some ⟨C, 0, none⟩)], .slice (some ⟨X, 0, none⟩) 2 2] w fun e w' => ∃ v, e = .returned v ∧ Got w w' v (fun q => has a q ∧ has b q) := by
  refine (Chosen_at 12 #[.pointer (some ⟨B, 0, none⟩), .pointer (some ⟨C, 0, none⟩)] (fun q => hasB a q && hasB b q) X 2 [a, b] w rfl (by omega) hls (fit_two hfa hfb hal hbl) (enters_of Try.func12 (by kernel_rfl) rfl) (fun p w' h => and_fn p B C a b w' (ha.step h) (hb.step h) (by omega) (by omega))).mono ?_
  rintro e w' ⟨v, rfl, hans⟩
  obtain ⟨R, ho, hi, hn, hb'⟩ := chosen_is hans (fun p q h0 hpq h => by rw [const_of (j := 0) (l := a) (by omega) rfl h0 hpq h, const_of (j := 1) (l := b) (by omega) rfl h0 hpq h]) (fun p h => by rw [last_of (j := 0) (l := a) (by omega) rfl h]; rfl)
  exact ⟨v, rfl, R, ho, hi.congr (fun p _ => by rw [Bool.and_eq_true, hasB_iff, hasB_iff]), hn, hb'⟩
theorem Not_chosen (B C X : Nat) (a : List (Int × Int)) (n : Int) (w : World) (hn : w.cell? ⟨C, 0, none⟩ = some (.int .i64 n)) (hi : i64 n) (ha : Bx1 w B a) (hls : LS w X [a, [(0, n)]]) (hfa : Fit a) (hal : a.length ≤ 1000) :
    Calls Try.prog 9 #[.func (.func 13) #[] #[.pointer (some ⟨C, 0, none⟩), .pointer (some ⟨B, 0, none⟩)], .slice (some ⟨X, 0, none⟩) 2 2] w fun e w' => ∃ v, e = .returned v ∧ Got w w' v (fun q => q < n ∧ ¬ has a q) := by
  have hfb : Fit [(0, n)] := fun x hx => by
    simp at hx
    subst hx
    exact ⟨by unfold i64; omega, hi⟩
  have hend : E1 [a, [(0, n)]] 2 (max n 0) := (E1_of (LL := [a, [(0, n)]]) (j := 1) (l := [(0, n)]) (x := (0, n)) (by omega) rfl (by simp)).2
  refine (Chosen_at 13 #[.pointer (some ⟨C, 0, none⟩), .pointer (some ⟨B, 0, none⟩)] (fun q => decide (q < n) && !hasB a q) X 2 [a, [(0, n)]] w rfl (by omega) hls (fit_two hfa hfb hal (by simp)) (enters_of Try.func13 (by kernel_rfl) rfl) (fun p w' h => not_fn p n B C a w' (at_bl h hn) (ha.step h) (by omega))).mono ?_
  rintro e w' ⟨v, rfl, hans⟩
  obtain ⟨R, ho, hi', hn', hb'⟩ := chosen_is hans (fun p q h0 hpq h => by
      have := h _ hend
      rw [const_of (j := 0) (l := a) (by omega) rfl h0 hpq h, decide_eq_decide.2 (show p < n ↔ q < n by omega)]) (fun p h => by
      have := h _ hend
      rw [decide_eq_false (by omega)]; rfl)
  refine ⟨v, rfl, R, ho, hi'.congr (fun p _ => ?_), hn', hb'⟩
  rw [Bool.and_eq_true, decide_eq_true_iff, Bool.not_eq_true', ← Bool.not_eq_true, hasB_iff]
theorem refOf_at (p : Option Addr) (k c : Nat) (l : List (Int × Int)) (w : World) (hk : k = l.length) (hin : InS w p l) (hf : Fit l) (hl : k ≤ 1000) :
    Calls Try.prog 14 #[.slice p k c] w fun e w' => ∃ v, e = .returned v ∧ Got w w' v (has l) := by
  have hb2 : Bl w ((w.alloc (.cells #[.slice p k c] 22)).alloc (.cells #[.slice p k c] 22)) := ((Bl.refl w).alloc _).alloc _
  have cC := Of_chosen w.heap.size (w.heap.size + 1) l ((w.alloc (.cells #[.slice p k c] 22)).alloc (.cells #[.slice p k c] 22)) ⟨.slice p k c, at_bl ((Bl.refl _).alloc _) (by simp), ⟨p, c, by rw [hk], hin.step hb2⟩⟩ (ls_one (p := p) (n := k) (c := c) (by simp) hk (hin.step hb2)) hf (by omega)
  clear hin hf hk
  go_enter Try.func14, Try.ntmps14
  go_wp2_with (go_at_call 9; refine cC.mono ?_; rintro e w1 ⟨v, rfl, hg⟩)
  go_ret
  obtain ⟨R, ho, hi, hn, hb⟩ := hg
  exact ⟨_, rfl, R, ho.down hb2.size, hi, hn, hb2.trans hb⟩
end Go.Proofs.Ytfblmfjgbbeheaa.sp
