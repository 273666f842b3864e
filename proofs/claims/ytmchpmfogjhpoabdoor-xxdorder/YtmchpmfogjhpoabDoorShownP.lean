/- What Shown of package text answers. -/
import Derived.Test.YtmchpmfogjhpoabDoorFdV
namespace Go.Proofs.YtmchpmfogjhpoabDoor.shown
set_option linter.unusedVariables false
open Go.ChangeShapes Go.WideShapes Go.ChangeAt Go.RowKit
open mem rows
theorem size_nums (l : List Int) : (strOfNums l).size = l.length := by
  show (strOfNums l).data.toList.length = _
  rw [strOfNums_data]; simp

/-- A byte as it is shown. -/
def sh (b : Int) : Int := if 32 ≤ b ∧ b ≤ 126 then b else 46
/-- The bytes of a text, the first k as they are shown. -/
def shL (s : ByteArray) (k : Nat) : List Int := (List.range s.size).map fun j => if j < k then sh (sb s j) else sb s j
theorem shL_len (s : ByteArray) (k : Nat) : (shL s k).length = s.size := by simp [shL]
theorem shL_get (s : ByteArray) (k j : Nat) (hj : j < s.size) : (shL s k).getD j 0 = if j < k then sh (sb s j) else sb s j := by
  simp [shL, List.getD_eq_getElem?_getD, hj]
theorem shL_zero (s : ByteArray) : s.data.toList.map (fun b => (b.toNat : Int)) = shL s 0 := by
  apply List.ext_getElem
  · simp [shL]
  · intro i h1 h2
    simp only [shL, List.getElem_map, List.getElem_range, Nat.not_lt_zero, if_false]
    have hi : i < s.data.toList.length := by simpa using h1
    unfold sb
    rw [List.getD_eq_getElem?_getD, List.getElem?_eq_getElem hi]
    rfl
theorem shL_set (s : ByteArray) (k : Nat) (v : Int) (hk : k < s.size) (hv : v = sh (sb s k)) : (shL s k).set k v = shL s (k + 1) := by
  apply List.ext_getElem
  · simp [shL]
  · intro i h1 h2
    have hi : i < s.size := by simpa [shL] using h2
    rw [List.getElem_set]
    by_cases e : k = i
    · subst e
      simp [shL, hv]
    · rw [if_neg e]
      simp only [shL, List.getElem_map, List.getElem_range]
      by_cases hik : i < k
      · rw [if_pos hik, if_pos (by omega)]
      · rw [if_neg hik, if_neg (by omega)]
theorem shL_same (s : ByteArray) (k : Nat) (hk : k < s.size) (hv : sb s k = sh (sb s k)) : shL s k = shL s (k + 1) := by
  rw [← shL_set s k (sb s k) hk hv]
  apply List.ext_getElem
  · simp
  · intro i h1 h2
    rw [List.getElem_set]
    by_cases e : k = i
    · subst e
      simp [shL]
    · rw [if_neg e]
theorem Shown_at (s : ByteArray) (w : World) (hs : s.size ≤ 1000) :
    Calls Tryd.prog 18 #[.string s] w fun e w' => e = .returned (.string (strOfNums (shL s s.size))) ∧ Bl w w' := by
  have hcv := fun w => run_bytes_of_string (P := Tryd.prog) w 9 38 5 s Tryd.underlying9 Tryd.underlying38 Tryd.underlying5
  go_enter Tryd.func18, Tryd.ntmps18
  go_wp2
  go_loopw [10] (fun i wr => ∃ k : Nat, k ≤ s.size ∧ i = .int .i64 k ∧ Rw wr 5 w.heap.size (shL s k) ∧ Bl w wr) (fun i _ => s.size - (intOf i).toNat)
  case atStart => exact ⟨0, Nat.zero_le _, rfl, by rw [← shL_zero]; exact (Rw.of_text _ _ _ _).drew, ((Bl.refl _).alloc _).drew⟩
  case round =>
    obtain ⟨k, hk, rfl, hrow, hbl⟩ := hrel
    by_cases hlt : k < s.size
    · have hlz : (k : Int) < (s.size : Int) := by omega
      have hc := hrow.cell (j := k) (by rw [shL_len]; exact hlt)
      have hf := hrow.frozen (j := k) (by rw [shL_len]; exact hlt)
      rw [shL_get _ _ _ hlt, if_neg (Nat.lt_irrefl _)] at hc
      have hb := sb_bd s k
      obtain ⟨x, hx⟩ : ∃ x, sb s k = x := ⟨_, rfl⟩
      rw [hx] at hc hb
      have HX : Hid (sb s k = x) := hx
      clear hx
      rcases (show x < 32 ∨ 126 < x ∨ (32 ≤ x ∧ x ≤ 126) by omega) with c | c | c
      · go_wp2
        go_roundw
        case rel => exact ⟨k + 1, by omega, by go_num, by
          rw [← shL_set s k 46 hlt (by rw [HX.out]; unfold sh; rw [if_neg (by omega)])]
          exact hrow.set _ _ (by rw [shL_len]; exact hlt), hbl.setCell (Nat.le_refl _) _⟩
        case measure => simp [intOf]; omega
      · have c2 : ¬ (x < 32) := by omega
        go_wp2
        go_roundw
        case rel => exact ⟨k + 1, by omega, by go_num, by
          rw [← shL_set s k 46 hlt (by rw [HX.out]; unfold sh; rw [if_neg (by omega)])]
          exact hrow.set _ _ (by rw [shL_len]; exact hlt), hbl.setCell (Nat.le_refl _) _⟩
        case measure => simp [intOf]; omega
      · have c2 : ¬ (x < 32) := by omega
        have c3 : ¬ (126 < x) := by omega
        go_wp2
        go_roundw
        case rel => exact ⟨k + 1, by omega, by go_num, by
          rw [← shL_same s k hlt (by rw [HX.out]; unfold sh; rw [if_pos c])]
          exact hrow, hbl⟩
        case measure => simp [intOf]; omega
    · obtain rfl : k = s.size := by omega
      have htx := hrow.text (P := Tryd.prog) Tryd.underlying38 Tryd.underlying5 Tryd.underlying9 s.size (grownCap w s.size 0 5) (shL_len _ _)
      go_wp2
      go_ret
      exact ⟨rfl, hbl⟩
end Go.Proofs.YtmchpmfogjhpoabDoor.shown
