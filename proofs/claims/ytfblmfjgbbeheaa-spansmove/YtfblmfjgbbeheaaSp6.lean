/- What Size of package spans answers. -/
import Derived.Test.YtfblmfjgbbeheaaSp5
namespace Go.Proofs.Ytfblmfjgbbeheaa.sp
set_option linter.unusedVariables false
open Go.ChangeShapes Go.WideShapes Go.ChangeAt Go.RowKit
open mem rows span

theorem right_take {m : Int} {l : List (Int × Int)} (h : rightFrom m l) (k : Nat) : rightFrom m (l.take k) := by
  induction l generalizing m k with
  | nil => rw [List.take_nil]; exact trivial
  | cons x l ih =>
    cases k with
    | zero => exact trivial
    | succ k => exact ⟨h.1, h.2.1, ih h.2.2 k⟩
theorem right_mem {m : Int} {l : List (Int × Int)} (h : rightFrom m l) {x : Int × Int} (hx : x ∈ l) : m < x.1 ∧ x.1 < x.2 := by
  induction l generalizing m with
  | nil => cases hx
  | cons y l ih =>
    rcases List.mem_cons.1 hx with rfl | hx
    · exact ⟨h.1, h.2.1⟩
    · have := ih h.2.2 hx
      have h1 := h.1
      have h2 := h.2.1
      omega
theorem size_bd {m B : Int} {l : List (Int × Int)} (h : rightFrom m l) (hB : ∀ x ∈ l, x.2 ≤ B) : 0 ≤ size l ∧ size l ≤ max 0 (B - (m + 1)) := by
  induction l generalizing m with
  | nil => exact ⟨Int.le_refl _, by show (0 : Int) ≤ _; omega⟩
  | cons x l ih =>
    obtain ⟨h1, h2, h3⟩ := h
    have := ih h3 (fun y hy => hB y (List.mem_cons_of_mem _ hy))
    have hx := hB x (List.mem_cons_self ..)
    have e : size (x :: l) = (x.2 - x.1) + size l := by unfold size; rw [List.map_cons, List.sum_cons]
    rw [e]
    omega
theorem size_take (l : List (Int × Int)) (k : Nat) (h : k < l.length) : size (l.take (k + 1)) = size (l.take k) + ((nth l k).2 - (nth l k).1) := by
  unfold size
  rw [take_nth l k h, List.map_append, List.sum_append]
  simp
/-- The ends of what is right of numbers are numbers. -/
theorem IsOf.fit {f : Int → Prop} {l' : List (Int × Int)} (h : IsOf f l') (B : Int) (hB : ∀ p, f p → p < B) : ∀ x ∈ l', 0 ≤ x.1 ∧ x.1 < x.2 ∧ x.2 ≤ B := by
  intro x hx
  have h1 := right_mem h.1 hx
  have h2 := (h.2 (x.2 - 1)).1 ⟨x, hx, by omega, by omega⟩
  have := hB _ h2.2
  omega
theorem fit_lt {l : List (Int × Int)} (h : Fit l) : ∀ p, has l p → p < 9223372036854775807 := by
  rintro p ⟨x, hx, hp⟩
  have := (h x hx).2.2
  omega
theorem Size_at (v : Value) (l : List (Int × Int)) (w : World) (hv : View w v l) (hl : l.length ≤ 4000) (hf : Fit l) :
    Calls Try.prog 23 #[v] w fun e w' => ∃ l', IsOf (has l) l' ∧ e = .returned (.int .i64 (size l')) ∧ Bl w w' := by
  have cO := Of_at v l w hv hl
  clear hv
  have HF : Hid (Fit l) := hf
  clear hf
  go_enter Try.func23, Try.ntmps23
  go_wp2_with (go_at_call 19; refine cO.mono ?_; rintro e w1 ⟨sv, S, rfl, hoS, hi, hnl, hb1⟩; obtain ⟨q, c, rfl, hq⟩ := hoS.view; obtain ⟨n, hn⟩ : ∃ n, n = S.length := ⟨_, rfl⟩; rw [← hn] at hnl ⊢; have HN : Hid (n = S.length) := hn; have HQ : Hid (InS w1 q S) := hq; have HI : Hid (IsOf (has l) S) := hi; have hnl : n ≤ 4000 := (by omega); clear hn hoS hq hi cO)
  have HT : Hid (∀ x ∈ S, 0 ≤ x.1 ∧ x.1 < x.2 ∧ x.2 ≤ 9223372036854775807) := HI.out.fit _ (fit_lt HF.out)
  go_loopw [3, 9] (fun nv i wr => ∃ (k : Nat) (z : Int), k ≤ n ∧ i = .int .i64 (k : Int) ∧ nv = .int .i64 z ∧ Hid (z = size (S.take k)) ∧ Bl w1 wr) (fun _ i _ => n - (intOf i).toNat)
  case atStart => exact ⟨0, 0, Nat.zero_le _, rfl, rfl, rfl, Bl.refl _⟩
  case round =>
    obtain ⟨k, z, hk, rfl, rfl, HZ, hbl⟩ := hrel
    by_cases hlt : k < n
    · have hlz : (k : Int) < (n : Int) := by omega
      have hkS : k < S.length := by rw [← HN.out]; exact hlt
      obtain ⟨x, rfl, hc1, hc2⟩ := (HQ.out.step hbl).at k hkS
      have ht := HT.out _ (nth_mem S k hkS)
      have HZ' := size_take S k hkS
      have hb := size_bd (right_take HI.out.1 (k + 1)) (B := 9223372036854775807) (fun x hx => (HT.out x (List.mem_of_mem_take hx)).2.2)
      rw [HZ', ← HZ.out] at hb
      rw [← HZ.out] at HZ'
      have HZ2 : Hid (size (S.take (k + 1)) = z + ((nth S k).2 - (nth S k).1)) := HZ'
      clear HZ HZ'
      generalize (nth S k).1 = a at hc1 ht HZ2 hb
      generalize (nth S k).2 = b at hc2 ht HZ2 hb
      obtain ⟨ht1, ht2, ht3⟩ := ht
      obtain ⟨hb2, hb3⟩ := hb
      have hb4 : z + (b - a) ≤ 9223372036854775807 := by omega
      clear hb3
      go_wp2
      go_roundw
      case rel => exact ⟨k + 1, _, by omega, by go_num, rfl, HZ2.out.symm, hbl.alloc _⟩
      case measure => simp [intOf]; omega
    · obtain rfl : k = n := by omega
      have HZ' : Hid (z = size S) := by have h := HZ.out; rw [HN.out, List.take_length] at h; exact h
      clear HZ
      go_wp2
      go_ret
      exact ⟨S, HI.out, ret_int HZ'.out, hb1.trans hbl⟩
end Go.Proofs.Ytfblmfjgbbeheaa.sp
