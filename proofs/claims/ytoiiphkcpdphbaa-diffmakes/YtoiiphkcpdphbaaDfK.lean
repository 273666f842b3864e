/- differed and near of the laws. -/
import Derived.Test.YtoiiphkcpdphbaaDf9
import Derived.Test.YtoiiphkcpdphbaaDf3
namespace Go.Proofs.Ytoiiphkcpdphbaa.df
set_option linter.unusedVariables false
open Go.ChangeShapes Go.WideShapes Go.ChangeAt Go.RowKit
open mem
theorem f1 : (edits [97, 98, 99, 100] [97, 120, 99, 100, 101]).length = 5 := by simp [edits, st, lcs, grp, mrg]
theorem f2 : far [97, 98, 99, 100] [97, 120, 99, 100, 101] = 3 := by simp [far, lcs]
theorem f3 : edits [111, 110, 101, 32, 116, 119, 111] [49, 32, 116, 119, 111] = [⟨2, 3, []⟩, ⟨3, 0, [49]⟩, ⟨1, 4, []⟩] := by simp [edits, st, lcs, grp, mrg]
theorem f4 : edits [111, 110, 101, 32, 116, 119, 111] [111, 110, 101, 32, 50] = [⟨1, 4, []⟩, ⟨2, 3, []⟩, ⟨3, 0, [50]⟩] := by simp [edits, st, lcs, grp, mrg]
theorem f5 : both [111, 110, 101, 32, 116, 119, 111] [49, 32, 116, 119, 111] [111, 110, 101, 32, 50] = ([49, 32, 50], true) := by simp [both, f3, f4, chg, cgo, jn, pat]
set_option maxRecDepth 10000 in
theorem differed_at (w : World) : Calls Try.prog 6 #[] w fun e w' => e = .returned (.bool true) ∧ Bl w w' := by
  have c1 := Edits_at ⟨#[97, 98, 99, 100]⟩ ⟨#[97, 120, 99, 100, 101]⟩ w (by decide)
  go_enter Try.func6, Try.ntmps6
  go_wp2_with fail
  refine c1.mono ?_
  rintro e w1 ⟨v, rfl, ho, hb1⟩
  have hl : ∃ p c, v = .slice p 5 c := by
    obtain ⟨p, c, h, _⟩ := ho.view
    refine ⟨p, c, ?_⟩
    rw [h, show (edits (L ⟨#[97, 98, 99, 100]⟩) (L ⟨#[97, 120, 99, 100, 101]⟩)).length = 5 from f1]
  obtain ⟨p, c, rfl⟩ := hl
  clear ho
  go_wp2_with fail
  refine (Far_at ⟨#[97, 98, 99, 100]⟩ ⟨#[97, 120, 99, 100, 101]⟩ w1 (by decide)).mono ?_
  rintro e w2 ⟨rfl, hb2⟩
  rw [show far (L ⟨#[97, 98, 99, 100]⟩) (L ⟨#[97, 120, 99, 100, 101]⟩) = 3 from f2]
  go_wp2_with fail
  refine (Both_at ⟨#[111, 110, 101, 32, 116, 119, 111]⟩ ⟨#[49, 32, 116, 119, 111]⟩ ⟨#[111, 110, 101, 32, 50]⟩ w2 (by decide) (by decide)).mono ?_
  rintro e w3 ⟨rfl, hb3⟩
  rw [show both (L ⟨#[111, 110, 101, 32, 116, 119, 111]⟩) (L ⟨#[49, 32, 116, 119, 111]⟩) (L ⟨#[111, 110, 101, 32, 50]⟩) = ([49, 32, 50], true) from f5]
  have ht : tx [49, 32, 50] = ⟨#[49, 32, 50]⟩ := rfl
  go_wp2
  go_ret
  exact ⟨rfl, (hb1.trans hb2).trans hb3⟩
/-- All bytes of these texts. -/
def tot : List ByteArray → Nat
  | [] => 0
  | s :: r => s.size + tot r
theorem tot_step (l : List ByteArray) (k : Nat) (h : k < l.length) : tot (l.take (k + 1)) = tot (l.take k) + l[k].size := by
  induction l generalizing k with
  | nil => exact absurd h (Nat.not_lt_zero _)
  | cons x l ih =>
    cases k with
    | zero => simp [tot]
    | succ k => have := ih k (by simpa using h); simp [tot, this]; omega
set_option maxRecDepth 10000 in
theorem near_at (Q : Nat) (hQ : Q ≤ 140737488351232) (l : List ByteArray) (Z : Nat) (w : World) (T : TypeId) (hl : l.length ≤ 3) (hs : ∀ s ∈ l, s.size ≤ Q) (hz : w.heap[Z]? = some (.cells (l.map Value.string).toArray T (0, 0))) :
    Calls Try.prog 7 #[.slice (some ⟨Z, 0, none⟩) l.length l.length] w fun e w' => e = .returned (.bool (decide (tot l ≤ 300))) ∧ w' = w := by
  have HZ : Hid (w.heap[Z]? = some (.cells (l.map Value.string).toArray T (0, 0))) := hz
  clear hz
  go_enter Try.func7, Try.ntmps7
  go_wp2
  go_loopw [3, 4] (fun nv iv wr => ∃ k : Nat, k ≤ l.length ∧ iv = .int .i64 (k : Int) ∧ nv = .int .i64 (tot (l.take k) : Int) ∧ tot (l.take k) ≤ k * Q ∧ wr = w) (fun _ iv _ => l.length - (intOf iv).toNat)
  case atStart => exact ⟨0, Nat.zero_le _, rfl, by simp [tot], by simp [tot], rfl⟩
  case round =>
    obtain ⟨k, hk, rfl, rfl, hb, rfl⟩ := hrel
    by_cases hlt : k < l.length
    · have hlz : (k : Int) < (l.length : Int) := by omega
      have hc : wr.cell? ⟨Z, k, none⟩ = some (.string l[k]) := by rw [cell_of HZ.out]; simp [hlt]
      have hsz := hs _ (List.getElem_mem hlt)
      have hst := tot_step l k hlt
      obtain ⟨t, ht⟩ : ∃ t, tot (l.take k) = t := ⟨_, rfl⟩
      rw [ht] at hb hst ⊢
      obtain ⟨S, hS⟩ : ∃ S, l[k] = S := ⟨_, rfl⟩
      rw [hS] at hc hsz hst
      have hb2 : t ≤ 3 * Q := Nat.le_trans hb (Nat.mul_le_mul_right _ (by omega))
      have hb3 : t + S.size ≤ (k + 1) * Q := by rw [Nat.add_mul, Nat.one_mul]; omega
      have hb4 : t ≤ 500000000000000 := by omega
      have hb5 : S.size ≤ 500000000000000 := by omega
      clear hb2
      have HN : Hid (tot (l.take (k + 1)) = t + S.size) := hst
      clear hst ht hS
      go_wp2
      go_roundw
      case rel => exact ⟨k + 1, hlt, by go_num, by rw [HN.out]; go_num, by rw [HN.out]; exact hb3, trivial⟩
      case measure => simp [intOf]; omega
    · obtain rfl : k = l.length := by omega
      rw [List.take_of_length_le (Nat.le_refl _)] at hb ⊢
      go_wp2
      go_ret
      exact ⟨congrArg (fun b => Ending.returned (.bool b)) (decide_eq_decide.2 (by omega)), rfl⟩
end Go.Proofs.Ytoiiphkcpdphbaa.df
