/- What the document's own Shown answers. -/
import Derived.Test.YtmchpmfogjhpoaaDoorShownP
import Derived.Test.YtmchpmfogjhpoaaDoorWithin
import Derived.WalkSpells
namespace Go.Proofs.YtmchpmfogjhpoaaDoor.shown
set_option linter.unusedVariables false
open Go.ChangeShapes Go.WideShapes Go.ChangeAt Go.RowKit
open mem rows
open wi (within_at nums_append)
/-- The first k bytes of a text as they are shown. -/
def shP (s : ByteArray) (k : Nat) : List Int := (List.range k).map fun j => sh (sb s j)
theorem shP_all (s : ByteArray) : shP s s.size = shL s s.size := by
  apply List.ext_getElem
  · simp [shP, shL]
  · intro i h1 h2
    have hi : i < s.size := by simpa [shL] using h2
    simp [shP, shL, hi]
theorem shP_succ (s : ByteArray) (k : Nat) : strOfNums (shP s k) ++ strOfNums [sh (sb s k)] = strOfNums (shP s (k + 1)) := by
  rw [nums_append]
  congr 1
  simp [shP, List.range_succ]
theorem cut_one (s : ByteArray) (k : Nat) (hk : k < s.size) : s.extract k (k + 1) = strOfNums [sb s k] := by
  have h1 : k < s.data.toList.length := hk
  apply ByteArray.ext
  apply Array.ext'
  rw [strOfNums_data]
  rw [ByteArray.data_extract, Array.toList_extract]
  have e : (s.data.toList.extract k (k + 1)) = [s.data.toList[k]] := by
    rw [List.extract_eq_take_drop, Nat.add_sub_cancel_left, List.drop_eq_getElem_cons h1]
    rfl
  rw [e]
  simp only [List.map_cons, List.map_nil, sb, List.getD_eq_getElem?_getD, List.getElem?_eq_getElem h1, Option.getD_some, Int.toNat_natCast, UInt8.ofNat_toNat]
theorem refShown_at (s : ByteArray) (w : World) (hs : s.size ≤ 1000) :
    Calls Tryd.prog 30 #[.string s] w fun e w' => e = .returned (.string (strOfNums (shL s s.size))) ∧ w' = w := by
  go_enter Tryd.func30, Tryd.ntmps30
  go_wp2
  go_loop [3, 4] (fun o i => ∃ (k : Nat) (t : ByteArray), k ≤ s.size ∧ i = .int .i64 (k : Int) ∧ o = .string t ∧ t.size ≤ 1000 ∧ Hid (t = strOfNums (shP s k))) (fun _ i => s.size - (intOf i).toNat)
  case atStart => exact ⟨0, ⟨#[]⟩, Nat.zero_le _, rfl, rfl, by decide, rfl⟩
  case round =>
    obtain ⟨k, t, hk, rfl, rfl, htz, HT⟩ := hrel
    by_cases hlt : k < s.size
    · have hlz : (k : Int) < (s.size : Int) := by omega
      have hgk : (((s[k]'hlt).toNat : Nat) : Int) = sb s k := (sb_get s k hlt).symm
      have hcut := cut_one s k hlt
      obtain ⟨x, hx⟩ : ∃ x, sb s k = x := ⟨_, rfl⟩
      have hxb := sb_bd s k
      rw [hx] at hgk hxb
      have cW := fun w => within_at x 32 126 w
      by_cases c : 32 ≤ x ∧ x ≤ 126
      · rw [decide_eq_true c] at cW
        have HN : Hid (t ++ s.extract k (k + 1) = strOfNums (shP s (k + 1))) := by
          rw [hcut, HT.out, ← shP_succ, hx, show sh x = x by unfold sh; rw [if_pos c]]; rfl
        clear hcut c hx
        go_wp2_with (go_at_call 24; refine (cW _).mono ?_; rintro e w2 ⟨rfl, rfl⟩)
        go_round
        case rel => exact ⟨k + 1, _, by omega, by go_num, rfl, by rw [HN.out, size_nums]; simp [shP]; omega, HN⟩
        case measure => simp [intOf]; omega
      · rw [decide_eq_false c] at cW
        have HN : Hid (t ++ (⟨#[46]⟩ : ByteArray) = strOfNums (shP s (k + 1))) := by
          rw [HT.out, ← shP_succ, hx, show sh x = 46 by unfold sh; rw [if_neg c]]; rfl
        clear hcut c hx
        go_wp2_with (go_at_call 24; refine (cW _).mono ?_; rintro e w2 ⟨rfl, rfl⟩)
        go_round
        case rel => exact ⟨k + 1, _, by omega, by go_num, rfl, by rw [HN.out, size_nums]; simp [shP]; omega, HN⟩
        case measure => simp [intOf]; omega
    · obtain rfl : k = s.size := by omega
      go_wp2
      go_ret
      exact ⟨by rw [HT.out, shP_all]; rfl, rfl⟩
end Go.Proofs.YtmchpmfogjhpoaaDoor.shown
