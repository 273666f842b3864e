/- fits and more of package diff: what is wrong with edits. -/
import Derived.Test.YtoiiphkcpdphbaaDoorDfE
import Derived.Test.YtoiiphkcpdphbaaDoorEdRow
namespace Go.Proofs.YtoiiphkcpdphbaaDoor.df
set_option linter.unusedVariables false
open Go.ChangeShapes Go.WideShapes Go.ChangeAt Go.RowKit
open mem
/-- What is wrong, as it is told. -/
def eno (r : Int) : Value := if r = 0 then .nilIface else .iface 22 (.int .i64 (if r = 3 then 4 else r))
theorem more_at (m n : Int) (w : World) (hm : 0 ≤ m ∧ m ≤ 4001) (hn : 0 ≤ n ∧ n ≤ 1000000) :
    Calls Tryd.prog 33 #[.int .i64 m, .int .i64 n] w fun e w' => e = .returned (.int .i64 (min (m + n) 4001)) ∧ Dr w w' := by
  obtain ⟨M, hM⟩ : ∃ M, M = min (m + n) 4001 := ⟨_, rfl⟩
  have e1 : (if (4001 : Int) < m + n then (4001 : Int) else m + n) = M := by rw [hM]; split <;> omega
  have e2 : (if m + n < (4001 : Int) then m + n else (4001 : Int)) = M := by rw [hM]; split <;> omega
  rw [← hM]
  clear hM
  go_enter Tryd.func33, Tryd.ntmps33
  go_wp2
  go_ret
  exact ⟨rfl, Dr.refl _⟩
/-- Texts that are not too long. -/
def Short (l : List Ed) : Prop := l.length ≤ 5000 ∧ ∀ e ∈ l, e.t.length ≤ 5000
theorem Short.get {l : List Ed} (h : Short l) (k : Nat) (hk : k < l.length) : l[k].t.length ≤ 5000 := h.2 _ (List.getElem_mem hk)
/-- How far edits are looked at. -/
def Ft (n : Int) (l : List Ed) (k : Nat) (left made : Int) : Prop := fitE left made (l.drop k) = fitE n 0 l ∧ 0 ≤ left ∧ left ≤ n ∧ 0 ≤ made ∧ made ≤ 4001
set_option maxHeartbeats 1000000 in
set_option maxRecDepth 10000 in
theorem fits_at (a : ByteArray) (l : List Ed) (v : Value) (w : World) (hv : ed.View w v l) (ha : a.size ≤ 5000) (hl : Short l) :
    Calls Tryd.prog 24 #[.string a, v] w fun e w' => e = .returned (eno (fitE a.size 0 l)) ∧ Bl w w' := by
  obtain ⟨p, cp, rfl, hcp, hin⟩ := hv
  have HI : Hid (ed.In w p l) := hin
  have hlen := hl.1
  clear hin
  obtain ⟨R, hR⟩ : ∃ R, fitE a.size 0 l = R := ⟨_, rfl⟩
  rw [hR]
  have HR : Hid (fitE a.size 0 l = R) := hR
  clear hR
  go_enter Tryd.func24, Tryd.ntmps24
  go_wp2
  go_loopw [5, 6, 8, 13] (fun lv mv _ iv wr => ∃ (k : Nat) (left made : Int), k ≤ l.length ∧ iv = .int .i64 (k : Int) ∧ lv = .int .i64 left ∧ mv = .int .i64 made ∧ Hid (Ft a.size l k left made ∧ Bl w wr)) (fun _ _ _ iv _ => l.length - (intOf iv).toNat)
  case atStart => exact ⟨0, (a.size : Int), 0, Nat.zero_le _, rfl, rfl, rfl, ⟨rfl, by omega, by omega, by omega, by omega⟩, Bl.refl _⟩
  case round =>
    obtain ⟨k, left, made, hk, rfl, rfl, rfl, H⟩ := hrel
    obtain ⟨_, b1, b2, b3, b4⟩ := H.out.1
    by_cases hlt : k < l.length
    · have hlz : (k : Int) < (l.length : Int) := by omega
      obtain ⟨x, rfl, c0, c1, c2⟩ := (HI.out.step H.out.2).at' k hlt
      have n2 := hl.get k hlt
      have hf := H.out.1.1
      rw [List.drop_eq_getElem_cons hlt, HR.out] at hf
      obtain ⟨E, hE⟩ : ∃ E, E = l[k] := ⟨_, rfl⟩
      rw [← hE] at c0 c1 c2 n2 hf
      clear hE
      have hts : (tx E.t).size = E.t.length := tx_size _
      unfold fitE at hf
      by_cases h1 : E.w < 1 ∨ 3 < E.w ∨ E.n < 0
      · rw [if_pos h1] at hf
        subst hf
        by_cases h2 : E.w < 1
        · go_wp2
          go_ret
          exact ⟨rfl, H.out.2.trans ((Bl.refl _).alloc _)⟩
        · by_cases h3 : 3 < E.w
          · go_wp2
            go_ret
            exact ⟨rfl, H.out.2.trans ((Bl.refl _).alloc _)⟩
          · have h4 : E.n < 0 := by omega
            go_wp2
            go_ret
            exact ⟨rfl, H.out.2.trans ((Bl.refl _).alloc _)⟩
      · rw [if_neg h1] at hf
        have g1 : ¬ E.w < 1 := by omega
        have g2 : ¬ 3 < E.w := by omega
        have g3 : ¬ E.n < 0 := by omega
        clear h1
        by_cases h3 : E.w = 3
        · rw [if_pos h3] at hf
          rw [h3] at c0
          have HF : Hid (Ft a.size l (k + 1) left (min (made + (E.t.length : Int)) 4001)) := ⟨by rw [hf, HR.out], by omega, by omega, by omega, by omega⟩
          have cM := fun w => more_at made (E.t.length : Int) w (by omega) (by omega)
          clear hf h3 g1 g2
          generalize min (made + (E.t.length : Int)) 4001 = M at HF cM
          go_wp2_with (go_at_call 33; refine (cM _).mono ?_; rintro e w8 ⟨rfl, hd8⟩)
          go_roundw
          case rel => exact ⟨k + 1, left, M, hlt, by go_num, rfl, rfl, HF.out, (H.out.2.trans ((Bl.refl _).alloc _)).trans hd8.bl⟩
          case measure => simp [intOf]; omega
        · rw [if_neg h3] at hf
          have d3 : (E.w == 3) = false := by rw [beq_eq_false_iff_ne]; exact h3
          by_cases h4 : left < E.n
          · rw [if_pos h4] at hf
            subst hf
            go_wp2
            go_ret
            exact ⟨rfl, H.out.2.trans ((Bl.refl _).alloc _)⟩
          · rw [if_neg h4] at hf
            have hnb : E.n ≤ 5000 := by omega
            by_cases h5 : E.w = 1
            · rw [if_pos h5] at hf
              rw [h5] at c0
              have HF : Hid (Ft a.size l (k + 1) (left - E.n) (min (made + E.n) 4001)) := ⟨by rw [hf, HR.out], by omega, by omega, by omega, by omega⟩
              have cM := fun w => more_at made E.n w (by omega) (by omega)
              clear hf h3 g1 g2 d3 h5
              generalize min (made + E.n) 4001 = M at HF cM
              go_wp2_with (go_at_call 33; refine (cM _).mono ?_; rintro e w8 ⟨rfl, hd8⟩)
              go_roundw
              case rel => exact ⟨k + 1, left - E.n, M, hlt, by go_num, rfl, rfl, HF.out, (H.out.2.trans ((Bl.refl _).alloc _)).trans hd8.bl⟩
              case measure => simp [intOf]; omega
            · rw [if_neg h5] at hf
              have h6 : E.w = 2 := by omega
              rw [h6] at c0
              have HF : Hid (Ft a.size l (k + 1) (left - E.n) made) := ⟨by rw [hf, HR.out], by omega, by omega, by omega, by omega⟩
              clear hf h3 g1 g2 d3 h5 h6
              go_wp2
              go_roundw
              case rel => exact ⟨k + 1, left - E.n, made, hlt, by go_num, rfl, rfl, HF.out, H.out.2.trans ((Bl.refl _).alloc _)⟩
              case measure => simp [intOf]; omega
    · obtain rfl : k = l.length := by omega
      have hf := H.out.1.1
      rw [List.drop_of_length_le (Nat.le_refl _), HR.out] at hf
      unfold fitE at hf
      by_cases h1 : 0 < left
      · rw [if_pos h1] at hf
        subst hf
        go_wp2
        go_ret
        exact ⟨rfl, H.out.2⟩
      · rw [if_neg h1] at hf
        by_cases h2 : 4000 < made
        · rw [if_pos h2] at hf
          subst hf
          go_wp2
          go_ret
          exact ⟨rfl, H.out.2⟩
        · rw [if_neg h2] at hf
          subst hf
          go_wp2
          go_ret
          exact ⟨rfl, H.out.2⟩
end Go.Proofs.YtoiiphkcpdphbaaDoor.df
