/- What strings.Index, strings.LastIndex and Longest of package suffix answer. -/
import Derived.Test.YtnhdaolieifhnaaGreatDoorSy2
import Derived.Test.YtnhdaolieifhnaaGreatDoorSxL
import Derived.Test.YtnhdaolieifhnaaGreatDoorLayI
import Derived.Test.YtnhdaolieifhnaaGreatDoorLayL
import Derived.Shelf.Strings.Search3
import Derived.Shelf.Strings.LastIndexAll
namespace Go.Proofs.YtnhdaolieifhnaaGreatDoor.sx
set_option linter.unusedVariables false
open Go.ChangeShapes Go.WideShapes Go.ChangeAt Go.RowKit
open mem rows fd

/-- internal/bytealg.MaxLen holds some number. -/
def Ml (w : World) : Prop := ∃ m : Int, w.cell? ⟨0, 0, none⟩ = some (.int .i64 m)
theorem Ml.step {w w' : World} (h : Ml w) (hb : Bl w w') : Ml w' := by
  obtain ⟨m, hm⟩ := h
  exact ⟨m, at_bl hb hm⟩
/-- Where a text stands first in another one. -/
def ix (s t : ByteArray) : Int := Lib.index s.data.toList t.data.toList
theorem ix_nil (s : ByteArray) (t : ByteArray) (h : t.size = 0) : ix s t = 0 := by
  have e : t.data.toList = [] := List.eq_nil_of_length_eq_zero h
  unfold ix
  rw [e]
  cases s.data.toList <;> simp [Lib.index]
theorem index_at (s t : ByteArray) (w : World) (hs : s.size ≤ 4000) (hm : Ml w) : Calls Tryz.prog 29 #[.string s, .string t] w fun e w' => e = .returned (.int .i64 (ix s t)) ∧ w' = w := by
  obtain ⟨m, hm⟩ := hm
  exact Any.strings_Index layI.laid s t m w (by omega) hm
theorem last_at (s t : ByteArray) (w : World) (hs : s.size ≤ 4000) : Calls Tryz.prog 32 #[.string s, .string t] w fun e w' => e = .returned (.int .i64 (Lib.lastIndex s.data.toList t.data.toList)) ∧ w' = w :=
  Any.strings_LastIndex layL.laid s t (by omega) w
theorem tx_of (s : ByteArray) (a n : Nat) (h : a + n ≤ s.size) : (s.extract a s.size).extract 0 n = tx s a n := by
  refine ext_bytes (by rw [tx_size _ _ _ h, ByteArray.size_extract, size_end]; omega) fun t ht => ?_
  have ht' : t < n := by rw [ByteArray.size_extract, size_end] at ht; omega
  rw [sb_head _ _ _ (by rw [size_end]; omega) ht', sb_end _ _ _ (by omega), sb_tx _ _ _ _ h ht']
set_option maxRecDepth 10000 in
theorem Longest_at (s : ByteArray) (w : World) (hs : s.size ≤ 4000) (hm : Ml w) :
    Calls Tryz.prog 7 #[.string s] w fun e w' => ∃ t : ByteArray, e = .returned (.tuple #[.int .i64 (ix s t), .int .i64 (t.size : Int), .nilIface]) ∧ Bl w w' ∧ ∃ L, IsSort (gs s) s.size L ∧ Bst s L s.size t := by
  have HM : Hid (Ml w) := hm
  clear hm
  go_enter Tryz.func7, Tryz.ntmps7
  go_wp2_with (fail)
  refine (Sort_at s w hs).mono ?_
  rintro e w1 ⟨A, rfl, hA, hb1, L, hr1, hL⟩
  have hv := hr1.view s.size
  rw [ints_len, hL.len] at hv
  have cC := common_at s _ L w1 hs hv hL
  clear hv
  go_wp2_with (fail)
  refine cC.mono ?_
  rintro e w2 ⟨C, rfl, hC, hr2, hb2⟩
  clear cC
  have HA : Hid (RowI w2 A (ints L)) := hr1.step hb2
  have HC : Hid (RowI w2 C (com (gs s) s.size L)) := hr2
  have HL : Hid (IsSort (gs s) s.size L) := hL
  have HB : Hid (Bl w w2) := hb1.trans hb2
  clear hr1 hr2 hL hb1 hb2
  go_wp2
  go_loop [7, 22] (fun tv i => ∃ (k : Nat) (t : ByteArray), k ≤ s.size ∧ i = .int .i64 (k : Int) ∧ tv = .string t ∧ t.size ≤ s.size ∧ Hid (Bst s L k t)) (fun _ i => s.size - (intOf i).toNat)
  case atStart => exact ⟨0, _, Nat.zero_le _, rfl, rfl, Nat.zero_le _, Bst.zero s L⟩
  case round =>
    obtain ⟨k, t, hk, rfl, rfl, ht, HT⟩ := hrel
    by_cases hlt : k < s.size
    · have hlz : (k : Int) < (s.size : Int) := by omega
      have c1 := HA.out.cell (j := k) (by rw [ints_len, HL.out.len]; exact hlt)
      rw [sx.ints_at] at c1
      have c2 := HC.out.cell (j := k) (by rw [com_len]; exact hlt)
      rw [com_at _ _ _ _ hlt] at c2
      have hle := cm_le (gs_tx s) HL.out hlt
      have hN := HL.out.lt_N k hlt
      by_cases hc : t.size < cm (gs s) s.size L k
      · have HT2 : Hid (Bst s L (k + 1) (tx s (L.getD k 0) (cm (gs s) s.size L k))) := HT.out.more HL.out hlt hc
        generalize L.getD k 0 = a at *
        generalize cm (gs s) s.size L k = n at *
        have htx := tx_of s a n (by omega)
        have hsz := tx_size s a n (by omega)
        have g1 : (t.size : Int) < (n : Int) := by omega
        have g2 : a ≤ s.size := by omega
        have g3 : n ≤ (s.extract a s.size).size := by rw [size_end]; omega
        have HTX : Hid _ := htx
        obtain ⟨T, hT⟩ : ∃ T, T = tx s a n := ⟨_, rfl⟩
        rw [← hT] at HT2 hsz
        have hx : (s.extract a s.size).extract 0 n = T := by rw [hT]; exact htx
        clear htx hT HTX
        go_wp2
        go_round
        case rel => exact ⟨k + 1, T, hlt, by go_num, rfl, by omega, HT2⟩
        case measure => simp [intOf]; omega
      · have HT2 : Hid (Bst s L (k + 1) t) := HT.out.same (by omega)
        generalize L.getD k 0 = a at *
        generalize cm (gs s) s.size L k = n at *
        have g1 : ¬ (t.size : Int) < (n : Int) := by omega
        go_wp2
        go_round
        case rel => exact ⟨k + 1, t, hlt, by go_num, rfl, ht, HT2⟩
        case measure => simp [intOf]; omega
    · have hnl : ¬ ((k : Int) < (s.size : Int)) := by omega
      have HK : Hid (k = s.size) := by unfold Hid; omega
      go_wp2_with (fail)
      refine (index_at s t _ hs (HM.out.step HB.out)).mono ?_
      rintro e w3 ⟨rfl, rfl⟩
      go_wp2
      go_ret3
      exact ⟨t, rfl, HB.out, L, HL.out, by rw [← HK.out]; exact HT.out⟩
end Go.Proofs.YtnhdaolieifhnaaGreatDoor.sx
