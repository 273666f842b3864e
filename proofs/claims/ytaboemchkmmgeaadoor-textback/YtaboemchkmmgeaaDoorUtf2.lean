/- What begun of package text answers: of bytes that are no sign, how many begin one. -/
import Derived.Test.YtaboemchkmmgeaaDoorUtf1
namespace Go.Proofs.YtaboemchkmmgeaaDoor.utf
set_option linter.unusedVariables false
open Go.ChangeShapes Go.WideShapes Go.ChangeAt Go.RowKit
open Go.Lib (decodeGo decodeN decode_at)
open mem

/-- The sign that a text begins with, and how many bytes it has. -/
def st (s : ByteArray) : Nat × Nat := stN s.size (nb s 0) (nb s 1) (nb s 2) (nb s 3)
theorem decodeGo_eq (s : ByteArray) (h : 1 ≤ s.size) : decodeGo s = decodeN s.size (nb s 0) (nb s 1) (nb s 2) (nb s 3) := by
  unfold decodeGo
  rw [if_neg (by omega), decode_at, Nat.sub_zero, nb_get!, nb_get!, nb_get!, nb_get!]
theorem extract_get (s : ByteArray) (a b k : Nat) (hb : b ≤ s.size) (hk : a + k < b) : nb (s.extract a b) k = nb s (a + k) := by
  have h1 : k < (s.extract a b).size := by rw [ByteArray.size_extract]; omega
  rw [nb_get _ _ h1, nb_get _ _ (by omega)]
  rw [ByteArray.getElem_extract]
theorem begun_at (s : ByteArray) (w : World) (hs : 1 ≤ s.size) (hs2 : s.size ≤ 1000) (hT : Tabs w) (hd : (decodeGo s).1 = 65533 ∧ (decodeGo s).2 = 1) :
    Calls Tryd.prog 26 #[.string s] w fun e w' => e = .returned (.int .i64 (st s).2) ∧ (st s).1 = 65533 ∧ Bl w w' := by
  rw [decodeGo_eq s hs] at hd
  have HD : Hid _ := hd
  have HT : Hid (Tabs w) := hT
  clear hd hT
  go_enter Tryd.func26, Tryd.ntmps26
  go_wp2
  go_loopw [3] (fun n wr => ∃ k : Nat, 1 ≤ k ∧ k ≤ s.size ∧ n = .int .i64 (k : Int) ∧ Hid (∀ j, 1 ≤ j → j < k → fullN (j + 1) (nb s 0) (nb s 1) (nb s 2) = false) ∧ Bl w wr) (fun n _ => s.size - (intOf n).toNat)
  case atStart => exact ⟨1, Nat.le_refl _, hs, rfl, fun j h1 h2 => by omega, Bl.refl _⟩
  case round =>
    obtain ⟨k, hk1, hk, rfl, HA, hbl⟩ := hrel
    by_cases hlt : k < s.size
    · have hsz : (s.extract 0 (k + 1)).size = k + 1 := by rw [ByteArray.size_extract]; omega
      have e0 : nb (s.extract 0 (k + 1)) 0 = nb s 0 := by rw [extract_get s 0 (k + 1) 0 (by omega) (by omega)]
      have e1 : nb (s.extract 0 (k + 1)) 1 = nb s 1 := by rw [extract_get s 0 (k + 1) 1 (by omega) (by omega)]
      have hfull : fullN (k + 1) (nb (s.extract 0 (k + 1)) 0) (nb (s.extract 0 (k + 1)) 1) (nb (s.extract 0 (k + 1)) 2) = fullN (k + 1) (nb s 0) (nb s 1) (nb s 2) := by
        rw [e0, e1]
        by_cases h2 : 2 < k + 1
        · rw [extract_get s 0 (k + 1) 2 (by omega) (by omega)]
        · simp [fullN, h2]
      rename World => wr
      have cF := Full_at (s.extract 0 (k + 1)) wr (by omega) (by omega) (HT.out.step hbl)
      rw [hsz, hfull] at cF
      cases hf : fullN (k + 1) (nb s 0) (nb s 1) (nb s 2)
      · rw [hf] at cF
        have HF : Hid _ := hf
        clear hf hfull e0 e1 hsz
        go_wp2_with (go_at_call 45; refine cF.mono ?_; rintro e w2 ⟨rfl, hb2⟩)
        go_roundw
        case rel => exact ⟨k + 1, by omega, by omega, by go_num, fun j h1 h2 => by
          rcases Nat.lt_or_ge j k with h | h
          · exact HA.out j h1 h
          · obtain rfl : j = k := by omega
            exact HF.out, hbl.trans hb2⟩
        case measure => simp [intOf]; omega
      · rw [hf] at cF
        have HF : Hid _ := hf
        clear hf hfull e0 e1 hsz
        have hst := begun_is s.size (nb s 0) (nb s 1) (nb s 2) (nb s 3) k hs (nb_lt s 0) (nb_lt s 1) (nb_lt s 2) (nb_lt s 3) HD.out hk1 hk HA.out (Or.inr HF.out)
        have HS : Hid (st s = (65533, k)) := hst
        clear hst
        go_wp2_with (go_at_call 45; refine cF.mono ?_; rintro e w2 ⟨rfl, hb2⟩)
        go_ret
        exact ⟨by rw [HS.out]; rfl, by rw [HS.out], hbl.trans hb2⟩
    · obtain rfl : k = s.size := by omega
      have hst := begun_is s.size (nb s 0) (nb s 1) (nb s 2) (nb s 3) s.size hs (nb_lt s 0) (nb_lt s 1) (nb_lt s 2) (nb_lt s 3) HD.out hk1 hk HA.out (Or.inl rfl)
      have HS : Hid (st s = (65533, s.size)) := hst
      clear hst
      go_wp2
      go_ret
      exact ⟨by rw [HS.out]; rfl, by rw [HS.out], hbl⟩
end Go.Proofs.YtaboemchkmmgeaaDoor.utf
