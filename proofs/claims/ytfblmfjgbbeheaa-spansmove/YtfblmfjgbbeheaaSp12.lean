/- The calls of package spans, by what their answers have. -/
import Derived.Test.YtfblmfjgbbeheaaSp8
import Derived.Test.YtfblmfjgbbeheaaSp9
import Derived.Test.YtfblmfjgbbeheaaSp11
namespace Go.Proofs.Ytfblmfjgbbeheaa.sp
set_option linter.unusedVariables false
open Go.ChangeShapes Go.WideShapes Go.ChangeAt Go.RowKit
open mem rows span

/-- A value that has just the places, from 0 on, of which f is so, told in the one way; of n spans at most. -/
def Sp (w : World) (v : Value) (f : Int → Prop) (n : Nat) : Prop := ∃ (p : Option Addr) (k c : Nat) (l : List (Int × Int)), v = .slice p k c ∧ Vw w p k c l ∧ IsOf f l ∧ k ≤ n
theorem Sp.step {w w' : World} {v : Value} {f : Int → Prop} {n : Nat} (h : Sp w v f n) (hb : Bl w w') : Sp w' v f n := by
  obtain ⟨p, k, c, l, e, h1, h2, h3⟩ := h
  exact ⟨p, k, c, l, e, h1.step hb, h2, h3⟩
theorem Sp.hid {w w' : World} {v : Value} {f : Int → Prop} {n : Nat} (h : Hid (Sp w v f n)) (hb : Bl w w') : Hid (Sp w' v f n) := h.out.step hb
theorem Sp.view {w : World} {v : Value} {f : Int → Prop} {n : Nat} (h : Sp w v f n) : ∃ l, View w v l ∧ IsOf f l ∧ l.length ≤ n := by
  obtain ⟨p, k, c, l, rfl, h1, h2, h3⟩ := h
  obtain ⟨rfl, h4, _⟩ := h1
  exact ⟨l, ⟨p, c, rfl, h4⟩, h2, h3⟩
theorem sp_own {w : World} {base : Nat} {v : Value} {l : List (Int × Int)} {f : Int → Prop} {n : Nat} (h : OwnS w base v l) (hi : IsOf f l) (hn : l.length ≤ n) : Sp w v f n := by
  obtain ⟨p, c, rfl, hin⟩ := h.view
  refine ⟨p, _, c, l, rfl, ⟨rfl, hin, fun e => ?_⟩, hi, hn⟩
  subst e
  rcases h.shape with ⟨e, rfl⟩ | ⟨g, cap, e, _⟩
  · injection e with e1 e2 e3
    exact ⟨rfl, e3⟩
  · cases e
theorem IsOf.has {f : Int → Prop} {l : List (Int × Int)} (h : IsOf f l) {q : Int} (hq : 0 ≤ q) : span.has l q ↔ f q := by
  rw [h.2]
  exact ⟨fun x => x.2, fun x => ⟨hq, x⟩⟩
theorem Or_sp {w : World} {v v' : Value} {f g : Int → Prop} {n m : Nat} (h : Sp w v f n) (h' : Sp w v' g m) (hn : n + m ≤ 3000) :
    Calls Try.prog 20 #[v, v'] w fun e w' => ∃ u, e = .returned u ∧ Hid (Sp w' u (fun q => f q ∨ g q) (n + m)) ∧ Bl w w' := by
  obtain ⟨p, k, c, l, rfl, h1, h2, h3⟩ := h
  obtain ⟨p', k', c', l', rfl, h1', h2', h3'⟩ := h'
  refine (Or_at p p' k k' c c' l l' w h1 h1' (by omega)).mono ?_
  rintro e w' ⟨u, L, rfl, ho, hi, hL, hb⟩
  exact ⟨u, rfl, sp_own ho (hi.congr fun q hq => by rw [h2.has hq, h2'.has hq]) (by omega), hb⟩
theorem And_sp {w : World} {v v' : Value} {f g : Int → Prop} {n m : Nat} (h : Sp w v f n) (h' : Sp w v' g m) (hn : n ≤ 1500) (hm : m ≤ 1500) :
    Calls Try.prog 21 #[v, v'] w fun e w' => ∃ u, e = .returned u ∧ Hid (Sp w' u (fun q => f q ∧ g q) (n + m)) ∧ Bl w w' := by
  obtain ⟨l, h1, h2, h3⟩ := h.view
  obtain ⟨l', h1', h2', h3'⟩ := h'.view
  refine (And_at v v' l l' w h1 h1' (by omega) (by omega)).mono ?_
  rintro e w' ⟨u, L, rfl, ho, hi, hL, hb⟩
  exact ⟨u, rfl, sp_own ho (hi.congr fun q hq => by rw [h2.has hq, h2'.has hq]) (by omega), hb⟩
theorem And_all {w : World} {v v' : Value} {l : List (Int × Int)} {N : Int} (h : View w v l) (h' : View w v' [(0, N)]) (hn : l.length ≤ 1400) :
    Calls Try.prog 21 #[v, v'] w fun e w' => ∃ u, e = .returned u ∧ Hid (Sp w' u (fun q => has l q ∧ q < N) (l.length + 1)) ∧ Bl w w' := by
  refine (And_at v v' l [(0, N)] w h h' (by omega) (by simp)).mono ?_
  rintro e w' ⟨u, L, rfl, ho, hi, hL, hb⟩
  exact ⟨u, rfl, sp_own ho (hi.congr fun q hq => by rw [has_one]; exact ⟨fun h => ⟨h.1, h.2.2⟩, fun h => ⟨h.1, hq, h.2⟩⟩) hL, hb⟩
theorem And_few {w : World} {v v' : Value} {l : List (Int × Int)} {N : Int} (h : View w v l) (h' : View w v' [(0, N)]) (hn : l.length ≤ 40) :
    Calls Try.prog 21 #[v, v'] w fun e w' => ∃ u f, e = .returned u ∧ Hid (Sp w' u f 41) ∧ Hid (∀ q, f q → q < N) ∧ Bl w w' := by
  refine (And_all h h' (by omega)).mono ?_
  rintro e w' ⟨u, rfl, ⟨p, k, c, L, h1, h2, h3, h4⟩, hb⟩
  exact ⟨u, _, rfl, ⟨p, k, c, L, h1, h2, h3, by omega⟩, fun q hq => hq.2, hb⟩
theorem Of_sp {w : World} {v : Value} {f : Int → Prop} {n : Nat} (h : Sp w v f n) (hn : n ≤ 3000) :
    Calls Try.prog 19 #[v] w fun e w' => ∃ u, e = .returned u ∧ Hid (Sp w' u f n) ∧ Bl w w' := by
  obtain ⟨l, h1, h2, h3⟩ := h.view
  refine (Of_at v l w h1 (by omega)).mono ?_
  rintro e w' ⟨u, L, rfl, ho, hi, hL, hb⟩
  exact ⟨u, rfl, sp_own ho (hi.congr fun q hq => h2.has hq) (by omega), hb⟩
theorem Equal_sp {w : World} {v v' : Value} {f g : Int → Prop} {n m : Nat} (h : Sp w v f n) (h' : Sp w v' g m) (hn : n ≤ 3000) (hm : m ≤ 3000) (hfg : ∀ q, 0 ≤ q → (f q ↔ g q)) :
    Calls Try.prog 29 #[v, v'] w fun e w' => e = .returned (.bool true) ∧ Bl w w' := by
  obtain ⟨l, h1, h2, h3⟩ := h.view
  obtain ⟨l', h1', h2', h3'⟩ := h'.view
  have e := h2.same h2' hfg
  subst e
  have hc := equal_at v v' l l w h1 h1' (by omega) (by omega)
  rwa [decide_eq_true rfl] at hc
open Classical in
/-- How many of the first B places are so. -/
noncomputable def cn (f : Int → Prop) (B : Nat) : Nat := cnt (fun k => decide (f (k : Int))) B
theorem cnt_le (g : Nat → Bool) (B : Nat) : cnt g B ≤ B := by
  have := cnt_not g B
  omega
theorem cn_le (f : Int → Prop) (B : Nat) : cn f B ≤ B := cnt_le _ B
theorem dec_is {p : Prop} (i : Decidable p) : @decide p i = true ↔ p := ⟨fun h => @of_decide_eq_true p i h, fun h => @decide_eq_true p i h⟩
theorem dec_or {p q : Prop} (i : Decidable (p ∨ q)) (j : Decidable p) (k : Decidable q) : @decide (p ∨ q) i = (@decide p j || @decide q k) := by
  rw [Bool.eq_iff_iff, Bool.or_eq_true, dec_is i, dec_is j, dec_is k]
theorem dec_and {p q : Prop} (i : Decidable (p ∧ q)) (j : Decidable p) (k : Decidable q) : @decide (p ∧ q) i = (@decide p j && @decide q k) := by
  rw [Bool.eq_iff_iff, Bool.and_eq_true, dec_is i, dec_is j, dec_is k]
theorem dec_not {p q : Prop} (hq : q) (i : Decidable (q ∧ ¬ p)) (j : Decidable p) : @decide (q ∧ ¬ p) i = !@decide p j := by
  rw [Bool.eq_iff_iff, dec_is i]
  cases h : @decide p j with
  | false => exact ⟨fun _ => rfl, fun _ => ⟨hq, fun hp => by rw [(dec_is j).2 hp] at h; cases h⟩⟩
  | true => exact ⟨fun h' => absurd ((dec_is j).1 h) h'.2, fun h' => by cases h'⟩
theorem cn_both (f g : Int → Prop) (B : Nat) : cn f B + cn g B = cn (fun q => f q ∨ g q) B + cn (fun q => f q ∧ g q) B := by
  classical
  have e1 : cn (fun q => f q ∨ g q) B = cnt (fun k => decide (f (k : Int)) || decide (g (k : Int))) B := cnt_congr _ _ B (fun k _ => dec_or _ _ _)
  have e2 : cn (fun q => f q ∧ g q) B = cnt (fun k => decide (f (k : Int)) && decide (g (k : Int))) B := cnt_congr _ _ B (fun k _ => dec_and _ _ _)
  have h := cnt_both (fun k => decide (f (k : Int))) (fun k => decide (g (k : Int))) B
  rw [e1, e2, h]
  rfl
theorem cn_not (f : Int → Prop) (B : Nat) : cn f B + cn (fun q => q < (B : Int) ∧ ¬ f q) B = B := by
  classical
  have e1 : cn (fun q => q < (B : Int) ∧ ¬ f q) B = cnt (fun k => !decide (f (k : Int))) B := cnt_congr _ _ B (fun k hk => dec_not (by omega) _ _)
  rw [e1]
  exact cnt_not (fun k => decide (f (k : Int))) B
theorem size_cn {f : Int → Prop} {l : List (Int × Int)} (h : IsOf f l) (B : Nat) (hB : ∀ q, f q → q < (B : Int)) : size l = (cn f B : Nat) := by
  classical
  unfold cn
  refine size_cnt h.1 (Int.le_refl _) B (fun x hx => (h.fit (B : Int) hB x hx).2.2) _ (fun k hk => ?_)
  rw [decide_eq_true_iff, h.has (by omega)]
theorem Size_sp {w : World} {v : Value} {f : Int → Prop} {n : Nat} (h : Sp w v f n) (hn : n ≤ 3000) (B : Nat) (hB : ∀ q, f q → q < (B : Int)) (hB2 : B ≤ 2147483648) :
    Calls Try.prog 23 #[v] w fun e w' => e = .returned (.int .i64 (cn f B : Nat)) ∧ Bl w w' := by
  obtain ⟨l, h1, h2, h3⟩ := h.view
  refine (Size_at v l w h1 (by omega) (fun x hx => ?_)).mono ?_
  · have := h2.fit (B : Int) hB x hx
    unfold i64
    omega
  · rintro e w' ⟨l', hi, rfl, hb⟩
    refine ⟨ret_int (size_cn (hi.congr (g := f) fun q hq => h2.has hq) B hB), hb⟩
theorem Not_sp {w : World} {v : Value} {f : Int → Prop} {n : Nat} (h : Sp w v f n) (hn : n ≤ 2000) (N : Int) :
    Calls Try.prog 22 #[v, .int .i64 N] w fun e w' => ∃ u, e = .returned u ∧ Hid (Sp w' u (fun q => q < N ∧ ¬ f q) (n + 1)) ∧ Bl w w' := by
  obtain ⟨l, h1, h2, h3⟩ := h.view
  refine (Not_at v l N w h1 (by omega)).mono ?_
  rintro e w' ⟨u, L, rfl, ho, hi, hL, hb⟩
  exact ⟨u, rfl, sp_own ho (hi.congr fun q hq => by rw [h2.has hq]) (by omega), hb⟩
theorem not_sp {w : World} {v : Value} {f : Int → Prop} {n : Nat} (h : Sp w v f n) (hn : n ≤ 2000) (N : Int) (B : Nat) (hc : w.cell? ⟨B, 0, none⟩ = some (.int .i64 N)) :
    Calls Try.prog 31 #[v, .pointer (some ⟨B, 0, none⟩)] w fun e w' => ∃ u, e = .returned u ∧ Hid (Sp w' u (fun q => q < N ∧ ¬ f q) (n + 1)) ∧ Bl w w' := by
  have cN := Not_sp h hn N
  clear h
  go_enter Try.func31, Try.ntmps31
  go_wp2_with (go_at_call 22; refine cN.mono ?_; rintro e w1 ⟨u, rfl, hs, hb⟩)
  go_ret
  exact ⟨u, rfl, hs, hb⟩
end Go.Proofs.Ytfblmfjgbbeheaa.sp
