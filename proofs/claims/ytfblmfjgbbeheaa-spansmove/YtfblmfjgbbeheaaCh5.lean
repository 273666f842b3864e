/- The steps of the laws on sets of places. -/
import Derived.Test.YtfblmfjgbbeheaaSp12
import Derived.Test.YtfblmfjgbbeheaaCh4
namespace Go.Proofs.Ytfblmfjgbbeheaa.sp
set_option linter.unusedVariables false
open Go.ChangeShapes Go.WideShapes Go.ChangeAt Go.RowKit
open mem rows span

theorem vw_view {w : World} {p : Option Addr} {n c : Nat} {l : List (Int × Int)} (h : Vw w p n c l) : View w (.slice p n c) l := by
  obtain ⟨rfl, h, _⟩ := h
  exact ⟨p, c, rfl, h⟩
theorem Same_sp {w : World} {v v' : Value} {f g : Int → Prop} {n m : Nat} (h : Sp w v f n) (h' : Sp w v' g m) (hn : n ≤ 5000) (hm : m ≤ 5000) (hfg : ∀ q, 0 ≤ q → (f q ↔ g q)) :
    Calls Try.prog 18 #[v, v'] w fun e w' => e = .returned (.bool true) ∧ Bl w w' := by
  obtain ⟨l, h1, h2, h3⟩ := h.view
  obtain ⟨l', h1', h2', h3'⟩ := h'.view
  have e := h2.same h2' hfg
  subst e
  have hc := sameSpans_at v v' l l w h1 h1' (by omega) (by omega)
  rwa [decide_eq_true rfl] at hc
theorem Of_vw {w : World} {v : Value} {l : List (Int × Int)} (h : View w v l) (hn : l.length ≤ 60) :
    Calls Try.prog 19 #[v] w fun e w' => ∃ u, e = .returned u ∧ Hid (Sp w' u (has l) 60) ∧ Bl w w' := by
  refine (Of_at v l w h (by omega)).mono ?_
  rintro e w' ⟨u, L, rfl, ho, hi, hL, hb⟩
  exact ⟨u, rfl, sp_own ho hi (by omega), hb⟩
theorem Or_vw {w : World} {p p' : Option Addr} {n n' c c' : Nat} {l l' : List (Int × Int)} (h : Vw w p n c l) (h' : Vw w p' n' c' l') (hn : n ≤ 60) (hn' : n' ≤ 60) :
    Calls Try.prog 20 #[.slice p n c, .slice p' n' c'] w fun e w' => ∃ u, e = .returned u ∧ Hid (Sp w' u (fun q => has l q ∨ has l' q) 120) ∧ Bl w w' := by
  refine (Or_at p p' n n' c c' l l' w h h' (by omega)).mono ?_
  rintro e w' ⟨u, L, rfl, ho, hi, hL, hb⟩
  exact ⟨u, rfl, sp_own ho hi (by omega), hb⟩
theorem And_vw {w : World} {v v' : Value} {l l' : List (Int × Int)} (h : View w v l) (h' : View w v' l') (hn : l.length ≤ 60) (hn' : l'.length ≤ 60) :
    Calls Try.prog 21 #[v, v'] w fun e w' => ∃ u, e = .returned u ∧ Hid (Sp w' u (fun q => has l q ∧ has l' q) 120) ∧ Bl w w' := by
  refine (And_at v v' l l' w h h' (by omega) (by omega)).mono ?_
  rintro e w' ⟨u, L, rfl, ho, hi, hL, hb⟩
  exact ⟨u, rfl, sp_own ho hi (by omega), hb⟩
theorem Not_vw {w : World} {v : Value} {l : List (Int × Int)} (h : View w v l) (n : Int) (hn : l.length ≤ 60) :
    Calls Try.prog 22 #[v, .int .i64 n] w fun e w' => ∃ u, e = .returned u ∧ Hid (Sp w' u (fun q => q < n ∧ ¬ has l q) 61) ∧ Bl w w' := by
  refine (Not_at v l n w h (by omega)).mono ?_
  rintro e w' ⟨u, L, rfl, ho, hi, hL, hb⟩
  exact ⟨u, rfl, sp_own ho hi (by omega), hb⟩
theorem Size_vw {w : World} {v : Value} {l R : List (Int × Int)} (h : View w v l) (hf : Fit l) (hn : l.length ≤ 60) (hR : IsOf (has l) R) :
    Calls Try.prog 23 #[v] w fun e w' => e = .returned (.int .i64 (size R)) ∧ Bl w w' := by
  refine (Size_at v l w h (by omega) hf).mono ?_
  rintro e w' ⟨l', hi, rfl, hb⟩
  rw [hi.same hR (fun _ _ => Iff.rfl)]
  exact ⟨rfl, hb⟩
theorem refOf_vw {w : World} {p : Option Addr} {n c : Nat} {l : List (Int × Int)} (h : Vw w p n c l) (hf : Fit l) (hn : n ≤ 60) :
    Calls Try.prog 14 #[.slice p n c] w fun e w' => ∃ u, e = .returned u ∧ Hid (Sp w' u (has l) 5000) ∧ Bl w w' := by
  refine (refOf_at p n c l w h.1 h.2.1 hf (by omega)).mono ?_
  rintro e w' ⟨u, rfl, R, ho, hi, hn, hb⟩
  exact ⟨u, rfl, sp_own ho hi hn, hb⟩
theorem many_no (p : Option Addr) (n c : Nat) (w : World) (hn : n ≤ 60) : Calls Try.prog 8 #[.slice p n c] w fun e w' => e = .returned (.bool false) ∧ w' = w := by
  have hz : (n : Int) ≤ 60 := by omega
  go_enter Try.func8, Try.ntmps8
  go_wp2
  go_ret
  exact ⟨ret_bool (decide_eq_false (by omega)), rfl⟩
theorem many_yes (p : Option Addr) (n c : Nat) (w : World) (hn : ¬ n ≤ 60) : Calls Try.prog 8 #[.slice p n c] w fun e w' => e = .returned (.bool true) ∧ w' = w := by
  have hz : (60 : Int) < (n : Int) := by omega
  go_enter Try.func8, Try.ntmps8
  go_wp2
  go_ret
  exact ⟨rfl, rfl⟩
theorem or_step {w y : World} {B C : Nat} {a0 a1 : Option Addr} {n0 n1 c0 c1 : Nat} {z0 z1 : List (Int × Int)} (hb : Bl w y) (k0 : y.cell? ⟨B, 0, none⟩ = some (.slice a0 n0 c0)) (k1 : y.cell? ⟨C, 0, none⟩ = some (.slice a1 n1 c1)) (v0 : Vw w a0 n0 c0 z0) (v1 : Vw w a1 n1 c1 z1) (f0 : Fit z0) (f1 : Fit z1) (h0 : n0 ≤ 60) (h1 : n1 ≤ 60) :
    Calls Try.prog 9 #[.func (.func 10) #[] #[.pointer (some ⟨B, 0, none⟩), .pointer (some ⟨C, 0, none⟩)], .slice (some ⟨y.heap.size, 0, none⟩) 2 2] (y.alloc (.cells #[.slice a0 n0 c0, .slice a1 n1 c1] 22)) fun e w' => ∃ v, e = .returned v ∧ Hid (Sp w' v (fun q => has z0 q ∨ has z1 q) 5000) ∧ Bl y w' := by
  have hbb : Bl y (y.alloc (.cells #[.slice a0 n0 c0, .slice a1 n1 c1] 22)) := (Bl.refl y).alloc _
  have u0 := v0.step (hb.trans hbb)
  have u1 := v1.step (hb.trans hbb)
  refine (Or_chosen B C y.heap.size z0 z1 _ ⟨_, at_bl hbb k0, vw_view u0⟩ ⟨_, at_bl hbb k1, vw_view u1⟩ (ls_two (p := a0) (n := n0) (c := c0) (p' := a1) (n' := n1) (c' := c1) (by simp) u0.1 u0.2.1 (by simp) u1.1 u1.2.1) f0 f1 (by rw [← v0.1]; omega) (by rw [← v1.1]; omega)).mono ?_
  rintro e w' ⟨v, rfl, R, ho, hi, hn, hb'⟩
  exact ⟨v, rfl, sp_own ho hi hn, hbb.trans hb'⟩
theorem and_step {w y : World} {B C : Nat} {a0 a1 : Option Addr} {n0 n1 c0 c1 : Nat} {z0 z1 : List (Int × Int)} (hb : Bl w y) (k0 : y.cell? ⟨B, 0, none⟩ = some (.slice a0 n0 c0)) (k1 : y.cell? ⟨C, 0, none⟩ = some (.slice a1 n1 c1)) (v0 : Vw w a0 n0 c0 z0) (v1 : Vw w a1 n1 c1 z1) (f0 : Fit z0) (f1 : Fit z1) (h0 : n0 ≤ 60) (h1 : n1 ≤ 60) :
    Calls Try.prog 9 #[.func (.func 12) #[] #[.pointer (some ⟨B, 0, none⟩), .pointer (some ⟨C, 0, none⟩)], .slice (some ⟨y.heap.size, 0, none⟩) 2 2] (y.alloc (.cells #[.slice a0 n0 c0, .slice a1 n1 c1] 22)) fun e w' => ∃ v, e = .returned v ∧ Hid (Sp w' v (fun q => has z0 q ∧ has z1 q) 5000) ∧ Bl y w' := by
  have hbb : Bl y (y.alloc (.cells #[.slice a0 n0 c0, .slice a1 n1 c1] 22)) := (Bl.refl y).alloc _
  have u0 := v0.step (hb.trans hbb)
  have u1 := v1.step (hb.trans hbb)
  refine (And_chosen B C y.heap.size z0 z1 _ ⟨_, at_bl hbb k0, vw_view u0⟩ ⟨_, at_bl hbb k1, vw_view u1⟩ (ls_two (p := a0) (n := n0) (c := c0) (p' := a1) (n' := n1) (c' := c1) (by simp) u0.1 u0.2.1 (by simp) u1.1 u1.2.1) f0 f1 (by rw [← v0.1]; omega) (by rw [← v1.1]; omega)).mono ?_
  rintro e w' ⟨v, rfl, R, ho, hi, hn, hb'⟩
  exact ⟨v, rfl, sp_own ho hi hn, hbb.trans hb'⟩
theorem not_step {w y : World} {B D : Nat} {a0 : Option Addr} {n0 c0 : Nat} {z0 : List (Int × Int)} {n : Int} (hb : Bl w y) (k0 : y.cell? ⟨B, 0, none⟩ = some (.slice a0 n0 c0)) (k2 : y.cell? ⟨D, 0, none⟩ = some (.int .i64 n)) (v0 : Vw w a0 n0 c0 z0) (f0 : Fit z0) (hi : i64 n) (h0 : n0 ≤ 60) :
    Calls Try.prog 9 #[.func (.func 13) #[] #[.pointer (some ⟨D, 0, none⟩), .pointer (some ⟨B, 0, none⟩)], .slice (some ⟨y.heap.size + 1, 0, none⟩) 2 2] ((y.alloc (.cells #[.int .i64 0, .int .i64 n] 28)).alloc (.cells #[.slice a0 n0 c0, .slice (some ⟨y.heap.size, 0, none⟩) 1 1] 22)) fun e w' => ∃ v, e = .returned v ∧ Hid (Sp w' v (fun q => q < n ∧ ¬ has z0 q) 5000) ∧ Bl y w' := by
  have hb1 : Bl y (y.alloc (.cells #[.int .i64 0, .int .i64 n] 28)) := (Bl.refl y).alloc _
  have hbb : Bl y ((y.alloc (.cells #[.int .i64 0, .int .i64 n] 28)).alloc (.cells #[.slice a0 n0 c0, .slice (some ⟨y.heap.size, 0, none⟩) 1 1] 22)) := hb1.alloc _
  have u0 := v0.step (hb.trans hbb)
  obtain ⟨pl, cl, el, hlit⟩ := (lit_view y [(0, n)] 28 1).step ((Bl.refl _).alloc (.cells #[.slice a0 n0 c0, .slice (some ⟨y.heap.size, 0, none⟩) 1 1] 22))
  injection el with e1 e2 e3
  subst e1
  refine (Not_chosen B D (y.heap.size + 1) z0 n _ (at_bl hbb k2) hi ⟨_, at_bl hbb k0, vw_view u0⟩ (ls_two (p := a0) (n := n0) (c := c0) (p' := some ⟨y.heap.size, 0, none⟩) (n' := 1) (c' := 1) (by simp) u0.1 u0.2.1 (by simp) rfl hlit) f0 (by rw [← v0.1]; omega)).mono ?_
  rintro e w' ⟨v, rfl, R, ho, hi', hn, hb'⟩
  exact ⟨v, rfl, sp_own ho hi' hn, hbb.trans hb'⟩
end Go.Proofs.Ytfblmfjgbbeheaa.sp
