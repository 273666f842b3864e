/- Is there an empty one among several patterns? -/
import Derived.Test.YtehmjffbfgnijabDoorFg5
namespace Go.Proofs.YtehmjffbfgnijabDoor.tree
set_option linter.unusedVariables false
open Go.ChangeShapes Go.WideShapes Go.ChangeAt Go.RowKit Go.Maps
open mem rows fd

/-- One of them is empty. -/
def HasEmpty (ps : List ByteArray) : Prop := ∃ k, k < ps.length ∧ (ps.getD k .empty).size = 0
/-- What the search answers. -/
def IxAns (ps : List ByteArray) (e : Ending) : Prop := ∃ n : Int, e = .returned (.int .i64 n) ∧ (0 ≤ n ↔ HasEmpty ps)
def CnAns (ps : List ByteArray) (e : Ending) : Prop := ∃ b : Bool, e = .returned (.bool b) ∧ (b = true ↔ HasEmpty ps)
theorem Index_at (q : Option Addr) (cp : Nat) (ps : List ByteArray) (w : World) (hin : InT w q ps) (hK : ps.length ≤ 5000) :
    Calls Tryd.prog 27 #[.slice q ps.length cp, .string ⟨#[]⟩] w fun e w' => IxAns ps e ∧ w' = w := by
  obtain ⟨K, hKe⟩ : ∃ K, K = ps.length := ⟨_, rfl⟩
  have HIN : Hid (InT w q ps) := hin
  have HK : Hid (K = ps.length) := hKe
  rw [← hKe] at hK ⊢
  clear hin hKe
  go_enter Tryd.func27, Tryd.ntmps27
  go_wp2
  go_loop [8] (fun iv => ∃ k : Nat, k ≤ K ∧ iv = .int .i64 (k : Int) ∧ Hid (∀ j, j < k → (ps.getD j .empty).size ≠ 0)) (fun iv => K - (intOf iv).toNat)
  case atStart => exact ⟨0, Nat.zero_le _, rfl, fun q hq => absurd hq (Nat.not_lt_zero _)⟩
  case round =>
    obtain ⟨k, hk, rfl, HQ⟩ := hrel
    by_cases hlt : k < K
    · have hlz : (k : Int) < (K : Int) := by omega
      obtain ⟨x, rfl, hcx⟩ := HIN.out.at k (by rw [← HK.out]; exact hlt)
      by_cases h0 : (ps.getD k .empty).size = 0
      · have hz : (ps.getD k .empty).toList.isEmpty = true := by rw [isEmpty_at]; exact decide_eq_true h0
        have HX : Hid (HasEmpty ps) := ⟨k, by rw [← HK.out]; exact hlt, h0⟩
        clear h0
        generalize ps.getD k .empty = pk at hcx hz
        go_wp2
        go_ret
        exact ⟨⟨_, rfl, ⟨fun _ => HX.out, fun _ => by omega⟩⟩, rfl⟩
      · have hz : (ps.getD k .empty).toList.isEmpty = false := by rw [isEmpty_at]; exact decide_eq_false h0
        have HQ2 : Hid (∀ j, j < k + 1 → (ps.getD j .empty).size ≠ 0) := fun j hj => by
          rcases Nat.lt_or_ge j k with h | h
          · exact HQ.out j h
          · obtain rfl : j = k := by omega
            exact h0
        clear h0 HQ
        generalize ps.getD k .empty = pk at hcx hz
        go_wp2
        go_round
        case rel => exact ⟨k + 1, by omega, by go_num, HQ2⟩
        case measure => simp [intOf]; omega
    · have hnl : ¬ ((k : Int) < (K : Int)) := by omega
      have HQ2 : Hid (∀ j, j < K → (ps.getD j .empty).size ≠ 0) := fun j hj => HQ.out j (by omega)
      clear HQ
      go_wp2
      go_ret
      exact ⟨⟨_, rfl, ⟨fun h => absurd h (by decide), fun ⟨j, hj, h0⟩ => absurd h0 (HQ2.out j (by rw [HK.out]; exact hj))⟩⟩, rfl⟩
theorem Contains_at (q : Option Addr) (cp : Nat) (ps : List ByteArray) (w : World) (hin : InT w q ps) (hK : ps.length ≤ 5000) :
    Calls Tryd.prog 15 #[.slice q ps.length cp, .string ⟨#[]⟩] w fun e w' => CnAns ps e ∧ w' = w := by
  have c := Index_at q cp ps w hin hK
  generalize ps.length = K at c ⊢
  go_enter Tryd.func15, Tryd.ntmps15
  go_wp2_with (go_at_call 27; refine c.mono ?_; rintro e w' ⟨⟨n, rfl, hn⟩, rfl⟩)
  go_ret
  exact ⟨⟨_, rfl, by rw [← hn]; simp⟩, rfl⟩
end Go.Proofs.YtehmjffbfgnijabDoor.tree
