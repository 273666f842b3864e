/- What Encode of package text answers. -/
import Derived.Test.YtaboemchkmmgeaaDoorEnc1
namespace Go.Proofs.YtaboemchkmmgeaaDoor.enc
set_option linter.unusedVariables false
open Go.ChangeShapes Go.WideShapes Go.ChangeAt Go.RowKit
open mem rows
open utf (sign)
open Go.Lib (encodeRuneZ)

/-- The bytes of the first k signs. -/
def eb (l : List Int) : Nat → List Int
  | 0 => []
  | k + 1 => eb l k ++ encodeRuneZ (l.getD k 0)
theorem eb_len (l : List Int) (k : Nat) : (eb l k).length ≤ 4 * k := by
  induction k with
  | zero => exact Nat.le_refl _
  | succ k ih =>
    have := (Go.Lib.encodeRuneZ_length (l.getD k 0)).2
    rw [eb, List.length_append]
    omega
theorem Encode_no (p : Option Addr) (c : Nat) (l : List Int) (j : Nat) (w : World) (hl : l.length ≤ 1000) (hin : In w p l) (hj : j < l.length) (hall : ∀ k, k < j → sign (l.getD k 0)) (hno : ¬ sign (l.getD j 0)) (hfit : Fit l) :
    Calls Tryd.prog 12 #[.slice p l.length c] w fun e w' => e = .returned (.tuple #[.string ⟨#[]⟩, .iface 76 (.pointer (some ⟨w.heap.size, 0, none⟩))]) ∧ w'.cell? ⟨w.heap.size, 0, none⟩ = some (.int .i64 1) ∧ w'.cell? ⟨w.heap.size, 1, none⟩ = some (.int .i64 j) ∧ Gb w w' := by
  have cS := signsAll_no p c l j w hl hin hj hall hno hfit
  clear hin hj hall hno hfit
  generalize l.length = m at *
  go_enter Tryd.func12, Tryd.ntmps12
  go_wp2_with (go_at_call 30; refine cS.mono ?_; rintro e w1 ⟨rfl, h0, h1, hg⟩)
  go_ret2
  exact ⟨rfl, h0, h1, hg⟩
set_option maxHeartbeats 1000000 in
theorem Encode_at (p : Option Addr) (c : Nat) (l : List Int) (w : World) (hl : l.length ≤ 1000) (hin : In w p l) (hall : ∀ k, k < l.length → sign (l.getD k 0)) :
    Calls Tryd.prog 12 #[.slice p l.length c] w fun e w' => e = .returned (.tuple #[.string (strOfNums (eb l l.length)), .nilIface]) ∧ Bl w w' := by
  have cS := signsAll_yes p c l w hl hin hall
  have HI : Hid (In w p l) := hin
  have HA : Hid (∀ k, k < l.length → sign (l.getD k 0)) := hall
  clear hin hall
  obtain ⟨m, hm⟩ : ∃ m, m = l.length := ⟨_, rfl⟩
  rw [← hm] at hl cS ⊢
  have HM : Hid (m = l.length) := hm
  clear hm
  have hmk := make_cap m (by omega)
  go_enter Tryd.func12, Tryd.ntmps12
  go_wp2_with (go_at_call 30; refine cS.mono ?_; rintro e w1 ⟨rfl, rfl⟩)
  rename World => w
  go_loopw [5, 18] (fun v i wr => ∃ k : Nat, k ≤ m ∧ i = .int .i64 (k : Int) ∧ BOwn wr w.heap.size v (eb l k) ∧ Bl w wr) (fun _ i _ => m - (intOf i).toNat)
  case atStart => exact ⟨0, Nat.zero_le _, rfl, BOwn.made _ _ _ (Nat.le_refl _) (by omega), (Bl.refl _).alloc _⟩
  case round =>
    obtain ⟨k, hk, rfl, hown, hbl⟩ := hrel
    have hel := eb_len l k
    by_cases hlt : k < m
    · have hlz : (k : Int) < (m : Int) := by omega
      obtain ⟨x, rfl, hc⟩ := (HI.out.step hbl).at k (by rw [← HM.out]; exact hlt)
      have hsg := HA.out k (by rw [← HM.out]; exact hlt)
      have HE : Hid (eb l (k + 1) = eb l k ++ encodeRuneZ (l.getD k 0)) := rfl
      generalize l.getD k 0 = n at hc hsg HE
      have hn : 0 ≤ n ∧ n ≤ 1114111 := by unfold sign at hsg; omega
      clear hsg
      generalize eb l k = L at hown hel HE
      go_wp2_with (go_at_call 31; refine (rune_at _ L n w _ _ rfl hbl hn.1 hn.2 hown (by omega)).mono ?_; rintro e w2 ⟨v', rfl, ho2, hb2⟩)
      go_roundw
      case rel => exact ⟨k + 1, by omega, by go_num, by rw [HE.out]; exact ho2, hb2⟩
      case measure => simp [intOf]; omega
    · obtain rfl : k = m := by omega
      have htx := hown.text
      go_wp2
      go_ret2
      exact ⟨rfl, hbl⟩
end Go.Proofs.YtaboemchkmmgeaaDoor.enc
