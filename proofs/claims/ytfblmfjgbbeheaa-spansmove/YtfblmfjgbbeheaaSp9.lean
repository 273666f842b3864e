/- What Not of package spans answers. -/
import Derived.Test.YtfblmfjgbbeheaaSp6
namespace Go.Proofs.Ytfblmfjgbbeheaa.sp
set_option linter.unusedVariables false
open Go.ChangeShapes Go.WideShapes Go.ChangeAt Go.RowKit
open mem rows span

theorem at_grown {w w' : World} {row : Option Nat} (hg : w.grownBy w' row) {a : Addr} {v : Value} (hb : a.block < w.heap.size) (hne : ∀ k, row = some k → a.block ≠ k) (hc : w.cell? a = some v) : w'.cell? a = some v := by
  unfold World.cell? at hc ⊢
  rw [hg.block a.block hb (fun e => hne a.block e.symm rfl)]
  exact hc
/-- What lies between spans, from a place on, up to n. -/
def gapsF (n : Int) : Int → List (Int × Int) → List (Int × Int)
  | a, [] => [(a, n)]
  | a, x :: l => (a, min x.1 n) :: gapsF n x.2 l
theorem gapsF_len (n a : Int) (l : List (Int × Int)) : (gapsF n a l).length = l.length + 1 := by
  induction l generalizing a with
  | nil => rfl
  | cons x l ih => rw [gapsF, List.length_cons, ih]; rfl
theorem has_gaps (n a : Int) (l : List (Int × Int)) (h : rightFrom (a - 1) l) (p : Int) : has (gapsF n a l) p ↔ a ≤ p ∧ p < n ∧ ¬ has l p := by
  induction l generalizing a with
  | nil =>
    rw [gapsF, has_one]
    exact ⟨fun h => ⟨h.1, h.2, has_nil p⟩, fun h => ⟨h.1, h.2.1⟩⟩
  | cons x l ih =>
    obtain ⟨h1, h2, h3⟩ := h
    have hg : has l p → x.2 < p := fun hp => has_gt h3 hp
    rw [gapsF, has_cons, has_cons, ih x.2 (h3.mono (by omega))]
    constructor
    · rintro (h | ⟨ha, hb, hc⟩)
      · refine ⟨h.1, by have := h.2; simp only at this; omega, ?_⟩
        have := h.2
        simp only at this
        rintro (h' | h')
        · omega
        · have := hg h'; omega
      · refine ⟨by omega, hb, ?_⟩
        rintro (h' | h')
        · omega
        · exact hc h'
    · rintro ⟨ha, hb, hc⟩
      by_cases hp : p < x.1
      · exact Or.inl ⟨ha, by simp only; omega⟩
      · refine Or.inr ⟨?_, hb, fun h' => hc (Or.inr h')⟩
        rcases Int.lt_or_le p x.2 with h' | h'
        · exact absurd (Or.inl ⟨by omega, h'⟩) hc
        · exact h'
theorem gapsF_step (n a : Int) (l : List (Int × Int)) (k : Nat) (h : k < l.length) : gapsF n a (l.drop k) = (a, min (nth l k).1 n) :: gapsF n (nth l k).2 (l.drop (k + 1)) := by
  rw [drop_nth l k h]
  rfl
set_option maxRecDepth 10000 in
theorem Not_at (v : Value) (l : List (Int × Int)) (n : Int) (w : World) (hv : View w v l) (hl : l.length ≤ 3000) :
    Calls Try.prog 22 #[v, .int .i64 n] w fun e w' => ∃ v' l', e = .returned v' ∧ OwnS w' w.heap.size v' l' ∧ IsOf (fun p => p < n ∧ ¬ has l p) l' ∧ l'.length ≤ l.length + 1 ∧ Bl w w' := by
  have cO := Of_at v l w hv (by omega)
  have cP := fun v L w h1 h2 => Of_at v L w h1 h2
  clear hv
  obtain ⟨lm, hlm⟩ : ∃ m, m = l.length := ⟨_, rfl⟩
  rw [← hlm] at hl cO ⊢
  have HLM : Hid (lm = l.length) := hlm
  clear hlm
  go_enter Try.func22, Try.ntmps22
  go_wp2_with (go_at_call 19; refine cO.mono ?_; rintro e w1 ⟨sv, S, rfl, hoS, hi, hnl, hb1⟩; obtain ⟨q, c, rfl, hq⟩ := hoS.view; obtain ⟨m, hm⟩ : ∃ m, m = S.length := ⟨_, rfl⟩; rw [← hm] at hnl ⊢; have HN : Hid (m = S.length) := hm; have HQ : Hid (InS w1 q S) := hq; have HI : Hid (IsOf (has l) S) := hi; clear hm hoS hq hi cO)
  obtain ⟨b1, hb1e⟩ : ∃ b, b = w1.heap.size := ⟨_, rfl⟩
  have HB1 : Hid (b1 = w1.heap.size) := hb1e
  clear hb1e
  go_loopw [5, 6, 12] (fun gv fv i wr => ∃ (k : Nat) (z : Int) (G : List (Int × Int)), k ≤ m ∧ i = .int .i64 (k : Int) ∧ fv = .int .i64 z ∧ Hid (G ++ gapsF n z (S.drop k) = gapsF n 0 S) ∧ G.length = k ∧ OwnS wr b1 gv G ∧ Bl w1 wr) (fun _ _ i _ => m - (intOf i).toNat)
  case atStart => exact ⟨0, 0, [], Nat.zero_le _, rfl, rfl, rfl, rfl, OwnS.nil _ _, Bl.refl _⟩
  case round =>
    obtain ⟨k, z, G, hk, rfl, rfl, HG, hGl, hown, hbl⟩ := hrel
    by_cases hlt : k < m
    · have hlz : (k : Int) < (m : Int) := by omega
      have hkS : k < S.length := by rw [← HN.out]; exact hlt
      obtain ⟨x, rfl, hc1, hc2⟩ := (HQ.out.step hbl).at k hkS
      have HG' : Hid ((G ++ [(z, min (nth S k).1 n)]) ++ gapsF n (nth S k).2 (S.drop (k + 1)) = gapsF n 0 S) := by
        have h := HG.out
        rw [gapsF_step n z S k hkS] at h
        rw [Hid, List.append_assoc]
        exact h
      clear HG
      generalize (nth S k).1 = a at hc1 HG'
      generalize (nth S k).2 = b at hc2 HG'
      obtain ⟨M, hM⟩ : ∃ M, min a n = M := ⟨_, rfl⟩
      rw [hM] at HG'
      have HGl : Hid (G.length = k) := hGl
      clear hGl
      go_wp2_with (at_builtin; refine wpL_appS rfl (.tmp 16) (.tmp 23) rfl rfl _ _ (z, M) (wr.heap.size + 1) rfl rfl _ ((hown.alloc _).alloc _) (by go_simp) (by go_simp) (by rw [HGl.out]; omega) (by have := hbl.size; rw [← HB1.out] at this; simp; omega) ?_; intro v' w3 hw3 hg3; have hb3 : Bl w1 w3 := bl_grown ((hbl.alloc _).alloc _) hg3 (fun k e => by rw [← HB1.out]; exact (hown.block k e).1); have hcs : w3.cell? ⟨wr.heap.size, 1, none⟩ = some (.int .i64 b) := at_grown hg3 (by simp; omega) (fun j e e' => by have := (hown.block j e).2; simp only at e'; omega) (by go_simp); clear hg3)
      go_roundw
      case rel => exact ⟨k + 1, b, G ++ [(z, M)], by omega, by go_num, rfl, HG', by rw [List.length_append, HGl.out]; rfl, hw3, hb3⟩
      case measure => simp [intOf]; omega
    · obtain rfl : k = m := by omega
      have HG' : Hid (G ++ [(z, n)] = gapsF n 0 S) := by
        have h := HG.out
        rw [HN.out, List.drop_length] at h
        exact h
      have HGl : Hid (G.length = k) := hGl
      clear HG hGl
      have HH : Hid (∀ p, has (gapsF n 0 S) p ↔ 0 ≤ p ∧ p < n ∧ ¬ has l p) := fun p => by
        rw [has_gaps n 0 S HI.out.1 p]
        constructor
        · rintro ⟨h1, h2, h3⟩
          exact ⟨h1, h2, fun h => h3 ((HI.out.2 p).2 ⟨h1, h⟩)⟩
        · rintro ⟨h1, h2, h3⟩
          exact ⟨h1, h2, fun h => h3 ((HI.out.2 p).1 h).2⟩
      go_wp2_with (first
        | (at_builtin; refine wpL_appS rfl (.tmp 28) (.tmp 32) rfl rfl _ _ (z, n) wr.heap.size rfl rfl _ (hown.alloc _) (by go_simp) (by go_simp) (by rw [HGl.out]; omega) (by have := hbl.size; rw [← HB1.out] at this; simp; omega) ?_; intro v' w3 hw3 hg3; have hb3 : Bl w1 w3 := bl_grown (hbl.alloc _) hg3 (fun k e => by rw [← HB1.out]; exact (hown.block k e).1); clear hg3)
        | (go_at_call 19; refine (cP _ _ _ hw3.view (by rw [List.length_append, HGl.out]; simp; omega)).mono ?_; rintro e w4 ⟨v4, l4, rfl, ho4, hi4, hn4, hb4⟩))
      go_ret
      refine ⟨_, l4, rfl, ho4.down ((hb1.trans hb3).size), ?_, ?_, (hb1.trans hb3).trans hb4⟩
      · rw [HG'.out] at hi4
        refine hi4.congr (fun p hp => ?_)
        rw [HH.out p]
        exact ⟨fun h => h.2, fun h => ⟨hp, h⟩⟩
      · rw [List.length_append, HGl.out] at hn4
        simp at hn4
        omega
end Go.Proofs.Ytfblmfjgbbeheaa.sp
