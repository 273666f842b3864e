/- What the document's own SuffixLongest answers. -/
import Derived.Test.YtnhdaolieifhnaaGreatDoorSy3
namespace Go.Proofs.YtnhdaolieifhnaaGreatDoor.sx
set_option linter.unusedVariables false
open Go.ChangeShapes Go.WideShapes Go.ChangeAt Go.RowKit
open mem rows fd

/-- Where the least longest text stands first, and how long it is. -/
def RL (s : ByteArray) (x y : Int) : Prop :=
  (x = 0 ∧ y = 0 ∧ ∀ n i, 1 ≤ n → ¬ dup s n i) ∨ ∃ (n : Nat) (u : ByteArray), 1 ≤ n ∧ Lst s n (s.size + 1 - n) u ∧ 0 < u.size ∧ x = ix s u ∧ y = (n : Int) ∧ ∀ m i, n < m → ¬ dup s m i
theorem RL.is {s : ByteArray} {x y : Int} (h : RL s x y) {L : List Nat} (hL : IsSort (gs s) s.size L) {t : ByteArray} (ht : Bst s L s.size t) : ix s t = x ∧ (t.size : Int) = y := by
  have hsome : 0 < t.size → ∃ i, dup s t.size i := fun h0 => by
    obtain ⟨k, hk, hc, _⟩ := ht.here h0
    obtain ⟨i, hd, _⟩ := cm_dup hL hk h0 (by omega)
    exact ⟨i, hd⟩
  rcases h with ⟨rfl, rfl, h⟩ | ⟨n, u, h1, h2, h3, rfl, rfl, h4⟩
  · have h0 : t.size = 0 := by
      rcases Nat.eq_zero_or_pos t.size with h' | h'
      · exact h'
      · obtain ⟨i, hd⟩ := hsome h'
        exact absurd hd (h _ i h')
    exact ⟨ix_nil s t h0, by omega⟩
  · have he : t.size = n := by
      rcases Nat.lt_trichotomy t.size n with h' | h' | h'
      · obtain ⟨j, _, hd, _⟩ := h2.some h3
        exact absurd hd (none_more hL ht h' j)
      · exact h'
      · obtain ⟨i, hd⟩ := hsome (by omega)
        exact absurd hd (h4 _ i h')
    subst he
    rw [longest_is hL ht h1 h2]
    exact ⟨rfl, rfl⟩
theorem dup_short {s : ByteArray} {n i : Nat} (h : s.size ≤ n) : ¬ dup s n i := fun hd => by
  obtain ⟨j, h1, h2, _⟩ := hd
  omega
set_option maxRecDepth 20000 in
set_option maxHeartbeats 1000000 in
theorem refLongest_at (s : ByteArray) (w : World) (hs : s.size ≤ 4000) (hm : Ml w) :
    Calls Tryz.prog 11 #[.string s] w fun e w' => ∃ x y, e = .returned (.tuple #[.int .i64 x, .int .i64 y]) ∧ w' = w ∧ RL s x y := by
  have HM : Hid (Ml w) := hm
  clear hm
  rcases Nat.eq_zero_or_pos s.size with h0 | h0
  · have e1 : (s.size : Int) - 1 = -1 := by omega
    have HZ : Hid (s.size = 0) := h0
    clear h0
    go_enter Tryz.func11, Tryz.ntmps11
    go_wp2
    go_loop [4] (fun nv => nv = .int .i64 (-1)) (fun _ => 0)
    case atStart => rfl
    case round =>
      subst hrel
      go_wp2
      go_ret2
      exact ⟨0, 0, rfl, rfl, Or.inl ⟨rfl, rfl, fun n i h1 => dup_short (by have := HZ.out; omega)⟩⟩
  · obtain ⟨N1, hN1⟩ : ∃ N1, s.size = N1 + 1 := ⟨s.size - 1, by omega⟩
    have e1 : (s.size : Int) - 1 = (N1 : Int) := by omega
    have HN1 : Hid (s.size = N1 + 1) := hN1
    have hN4 : N1 ≤ 4000 := by omega
    clear hN1
    go_enter Tryz.func11, Tryz.ntmps11
    go_wp2
    go_loop [4] (fun nv => ∃ n : Nat, n ≤ N1 ∧ nv = .int .i64 (n : Int) ∧ Hid (∀ m i, n < m → ¬ dup s m i)) (fun nv => (intOf nv).toNat)
    case atStart => exact ⟨N1, Nat.le_refl _, rfl, fun m i h => dup_short (by have := HN1.out; omega)⟩
    case round =>
      obtain ⟨n, hn, rfl, HD⟩ := hrel
      rcases Nat.eq_zero_or_pos n with hn0 | hn0
      · have g1 : ¬ (0 : Int) < (n : Int) := by omega
        have HZ : Hid (n = 0) := hn0
        clear hn0
        go_wp2
        go_ret2
        exact ⟨0, 0, rfl, rfl, Or.inl ⟨rfl, rfl, fun m i h1 => HD.out m i (by have := HZ.out; omega)⟩⟩
      · have g1 : (0 : Int) < (n : Int) := by omega
        have hnN : n < s.size := by have := HN1.out; omega
        go_wp2
        go_loop [5, 6] (fun bv iv => ∃ (i : Nat) (b : ByteArray), i ≤ s.size + 1 - n ∧ iv = .int .i64 (i : Int) ∧ bv = .string b ∧ Hid (Lst s n i b)) (fun _ iv => s.size + 1 - n - (intOf iv).toNat)
        case atStart => exact ⟨0, _, Nat.zero_le _, rfl, rfl, Lst.zero s n⟩
        case round =>
          obtain ⟨i, b, hi, rfl, rfl, HL⟩ := hrel
          by_cases hin : i + n ≤ s.size
          · obtain ⟨q, hq⟩ : ∃ q, q = i + n := ⟨_, rfl⟩
            have g2 : (i : Int) + (n : Int) = (q : Int) := by omega
            have g3 : (q : Int) ≤ (s.size : Int) := by omega
            have g4 : i ≤ q := by omega
            have g5 : q ≤ s.size := by omega
            have htx : s.extract i q = tx s i n := by rw [hq]; rfl
            have cL := last_at s (tx s i n) w hs
            have hlast := last_iff (s := s) hin
            rw [← htx] at cL hlast
            have hsame := fun h => HL.out.same (i := i) h
            have hbet := fun h1 h2 => HL.out.better (i := i) hn0 h1 h2
            have hkep := fun h1 h2 => HL.out.kept (i := i) h1 h2
            rw [← htx] at hbet hkep
            clear hq
            obtain ⟨t, hte⟩ : ∃ t, s.extract i q = t := ⟨_, rfl⟩
            rw [hte] at cL hlast hbet hkep
            clear htx
            generalize Lib.lastIndex s.data.toList t.data.toList = z at cL hlast
            by_cases hd : dup s n i
            · have d1 : decide ((i : Int) < z) = true := decide_eq_true (hlast.2 hd)
              have d1' : (i : Int) < z := hlast.2 hd
              by_cases hb : b.size = 0
              · have d2 : b.toList.isEmpty = true := by rw [isEmpty_at]; exact decide_eq_true hb
                have HL2 : Hid (Lst s n (i + 1) t) := hbet hd (Or.inl hb)
                clear hlast hsame hbet hkep hd hb HL
                go_wp2_with (fail)
                refine cL.mono ?_
                rintro e w2 ⟨rfl, rfl⟩
                go_wp2
                go_round
                case rel => exact ⟨i + 1, t, by omega, by go_num, rfl, HL2⟩
                case measure => simp [intOf]; omega
              · have d2 : b.toList.isEmpty = false := by rw [isEmpty_at]; exact decide_eq_false hb
                cases hl : Op.bytesLess t.toList b.toList with
                | true =>
                  have HL2 : Hid (Lst s n (i + 1) t) := hbet hd (Or.inr hl)
                  clear hlast hsame hbet hkep hd hb HL
                  go_wp2_with (fail)
                  refine cL.mono ?_
                  rintro e w2 ⟨rfl, rfl⟩
                  go_wp2
                  go_round
                  case rel => exact ⟨i + 1, t, by omega, by go_num, rfl, HL2⟩
                  case measure => simp [intOf]; omega
                | false =>
                  have HL2 : Hid (Lst s n (i + 1) b) := hkep (by omega) hl
                  clear hlast hsame hbet hkep hd hb HL
                  go_wp2_with (fail)
                  refine cL.mono ?_
                  rintro e w2 ⟨rfl, rfl⟩
                  go_wp2
                  go_round
                  case rel => exact ⟨i + 1, b, by omega, by go_num, rfl, HL2⟩
                  case measure => simp [intOf]; omega
            · have d1 : decide ((i : Int) < z) = false := decide_eq_false fun h => hd (hlast.1 h)
              have d1' : ¬ (i : Int) < z := fun h => hd (hlast.1 h)
              have HL2 : Hid (Lst s n (i + 1) b) := hsame hd
              clear hlast hsame hbet hkep hd HL
              go_wp2_with (fail)
              refine cL.mono ?_
              rintro e w2 ⟨rfl, rfl⟩
              go_wp2
              go_round
              case rel => exact ⟨i + 1, b, by omega, by go_num, rfl, HL2⟩
              case measure => simp [intOf]; omega
          · obtain ⟨q, hq⟩ : ∃ q, q = i + n := ⟨_, rfl⟩
            have g2 : (i : Int) + (n : Int) = (q : Int) := by omega
            have g3 : ¬ (q : Int) ≤ (s.size : Int) := by omega
            have HI : Hid (Lst s n (s.size + 1 - n) b) := by
              have : i = s.size + 1 - n := by omega
              rw [← this]
              exact HL.out
            clear hq
            by_cases hb : b.size = 0
            · have d2 : b.toList.isEmpty = true := by rw [isEmpty_at]; exact decide_eq_true hb
              obtain ⟨n', hn'⟩ : ∃ n', n = n' + 1 := ⟨n - 1, by omega⟩
              have g4 : (n : Int) - 1 = (n' : Int) := by omega
              have HD2 : Hid (∀ m i, n' < m → ¬ dup s m i) := fun m j hm hd => by
                rcases Nat.lt_or_ge n m with h | h
                · exact HD.out m j h hd
                · obtain rfl : m = n := by omega
                  exact HI.out.none hb j (by have := hd.le; omega) hd
              have g5 : n' ≤ N1 := by omega
              have g6 : n' < n := by omega
              clear hn' hb
              go_wp2
              go_round
              case rel => exact ⟨n', g5, rfl, HD2⟩
              case measure => simp [intOf]; omega
            · have d2 : b.toList.isEmpty = false := by rw [isEmpty_at]; exact decide_eq_false hb
              have HB0 : Hid (0 < b.size) := by unfold Hid; omega
              clear hb
              go_wp2_with (fail)
              refine (index_at s b w hs HM.out).mono ?_
              rintro e w2 ⟨rfl, rfl⟩
              go_wp2
              go_ret2
              exact ⟨_, _, rfl, rfl, Or.inr ⟨n, b, hn0, HI.out, HB0.out, rfl, rfl, HD.out⟩⟩
end Go.Proofs.YtnhdaolieifhnaaGreatDoor.sx
