/- Which byte's sign begins at a bit. -/
import Derived.Test.YtkldnapbeebdkaaHi2
namespace Go.Proofs.Ytkldnapbeebdkaa.hi
set_option linter.unusedVariables false
open Go.ChangeShapes Go.WideShapes Go.ChangeAt Go.RowKit Go.Maps
open mem rows hg hh bit bitw
theorem wrong_no (s : ByteArray) (A n : Nat) (w : World) (hs : s.size ≤ 100000) (hn : n ≤ 64) (hA : 8 * s.size < A + n) (hAb : A ≤ 10000000) :
    Calls Try.prog 38 #[.string s, .int .i64 A, .int .i64 n, .int .i64 1] w fun e w' => e = .returned (.iface 49 (.int .i64 2)) ∧ w' = w := by
  have h1 : ¬ (n : Int) < 0 := by omega
  have h2 : ¬ (64 : Int) < n := by omega
  have h3 : ¬ (A : Int) < 0 := by omega
  have h4 : 8 * (s.size : Int) - (n : Int) < (A : Int) := by omega
  go_enter Try.func38, Try.ntmps38
  go_wp2
  go_ret
  exact ⟨rfl, rfl⟩
theorem get_no (s : ByteArray) (A n : Nat) (w : World) (hs : s.size ≤ 100000) (hn : n ≤ 64) (hA : 8 * s.size < A + n) (hAb : A ≤ 10000000) :
    Calls Try.prog 36 #[.string s, .int .i64 A, .int .i64 n, .int .i64 1] w fun e w' => e = .returned (.tuple #[.int .u64 0, .iface 49 (.int .i64 2)]) ∧ w' = w := by
  have c := wrong_no s A n w hs hn hA hAb
  go_enter Try.func36, Try.ntmps36
  go_wp2_with fail
  refine c.mono ?_
  rintro e w1 ⟨rfl, rfl⟩
  clear c
  go_wp2
  go_ret2
  exact ⟨rfl, rfl⟩
/-- The number of n bits. -/
def nm (p : ByteArray) (A n : Nat) : Int := (gN (fun i => tbit p true (A + i)) n true : Nat)
/-- No sign of up to n bits begins at bit A. -/
def NoS (f : Int → Int → Option Int) (p : ByteArray) (A n : Nat) : Prop := ∀ m, 1 ≤ m → m ≤ n → A + m ≤ 8 * p.size → f m (nm p A m) = none
theorem nm_bd (p : ByteArray) (A n : Nat) (h : n ≤ 24) : 0 ≤ nm p A n ∧ nm p A n < 16777216 := by
  have h1 : gN (fun i => tbit p true (A + i)) n true < 2 ^ n := nb_lt _ n
  have h2 : (2 : Nat) ^ n ≤ 2 ^ 24 := Nat.pow_le_pow_right (by decide) h
  have h3 : (2 : Nat) ^ 24 = 16777216 := by decide
  unfold nm
  omega
theorem Mp.bl {w w' : World} {b c : Nat} {f : Int → Int → Option Int} (h : Mp w b f c) (hb : Bl w w') : Mp w' b f c := by
  obtain ⟨D, ⟨es, clock, h1, h3⟩, h2⟩ := h
  refine ⟨D, ⟨es, clock, ?_, h3⟩, h2⟩
  have hlt : b < w.heap.size := by
    rcases Nat.lt_or_ge b w.heap.size with h | h
    · exact h
    · rw [Array.getElem?_eq_none h] at h1; cases h1
  rw [Below.block hb b hlt]
  exact h1
set_option maxHeartbeats 4000000 in
theorem first_at (p : ByteArray) (A b c : Nat) (f : Int → Int → Option Int) (w : World) (hM : Mp w b f c) (hp : p.size ≤ 100000) (hA : A ≤ 10000000) :
    Calls Try.prog 32 #[.string p, .int .i64 A, .map (some b)] w fun e w' => Dr w w' ∧
      ((∃ n : Nat, ∃ x : Int, 1 ≤ n ∧ n ≤ 24 ∧ A + n ≤ 8 * p.size ∧ NoS f p A (n - 1) ∧ f n (nm p A n) = some x ∧ e = .returned (.tuple #[.int .u8 x, .int .i64 (n : Int), .nilIface])) ∨
       (NoS f p A 24 ∧ e = .returned (.tuple #[.int .u8 0, .int .i64 0, .iface 49 (.int .i64 3)]))) := by
  have HM : Hid (Mp w b f c) := hM
  clear hM
  go_enter Try.func32, Try.ntmps32
  go_wp2
  go_loopw [9, 10, 11, 12, 13] (fun v9 _ _ _ _ wr => ∃ n : Nat, 1 ≤ n ∧ n ≤ 25 ∧ v9 = .int .i64 (n : Int) ∧ Hid (NoS f p A (n - 1) ∧ Dr w wr)) (fun v9 _ _ _ _ _ => 26 - (intOf v9).toNat)
  case atStart => exact ⟨1, by omega, by omega, rfl, ⟨fun m h1 h2 => by omega, Dr.refl _⟩⟩
  case round =>
    obtain ⟨n, hn1, hn2, rfl, H⟩ := hrel
    by_cases h24 : n ≤ 24
    · have h24z : (n : Int) ≤ 24 := by omega
      by_cases hb : A + n ≤ 8 * p.size
      · have cG := get_any p A n true 1 wr rfl (by omega) (by omega) hb
        have hbd := nm_bd p A n h24
        go_wp2_with fail
        refine cG.mono ?_
        rintro e w2 ⟨rfl, hd2⟩
        clear cG
        have HD2 : Hid (Dr w w2) := by
          obtain ⟨q, rfl⟩ := hd2
          exact H.out.2.drewN q
        have hlk := (HM.out.bl HD2.out.bl).look (n : Int) (nm p A n) ⟨by omega, by omega⟩ ⟨by omega, by omega⟩
        have HN : Hid (NoS f p A (n - 1)) := H.out.1
        clear hd2 H
        have e0 : ((gN (fun i => tbit p true (A + i)) n true : Nat) : Int) = nm p A n := rfl
        rw [e0]
        clear e0
        rcases hf : f (n : Int) (nm p A n) with _ | x
        · have HN2 : Hid (NoS f p A n) := fun m h1 h2 h3 => by
            rcases Nat.lt_or_ge (n - 1) m with h | h
            · obtain rfl : m = n := by omega
              exact hf
            · exact HN.out m h1 h h3
          rw [hf] at hlk
          clear hf HN
          generalize nm p A n = v at hbd hlk ⊢
          go_wp2
          go_roundw
          case rel => exact ⟨n + 1, by omega, by omega, by go_num, ⟨HN2.out, HD2.out⟩⟩
          case measure => simp [intOf]; omega
        · have HF : Hid (f (n : Int) (nm p A n) = some x) := hf
          rw [hf] at hlk
          clear hf
          generalize nm p A n = v at hbd hlk ⊢
          go_wp2
          go_ret3
          exact ⟨HD2.out, Or.inl ⟨n, x, hn1, h24, hb, HN.out, HF.out, rfl⟩⟩
      · have cG := get_no p A n wr hp (by omega) (by omega) hA
        go_wp2_with fail
        refine cG.mono ?_
        rintro e w2 ⟨rfl, rfl⟩
        clear cG
        go_wp2
        go_ret3
        refine ⟨H.out.2, Or.inr ⟨fun m h1 h2 h3 => ?_, rfl⟩⟩
        exact H.out.1 m h1 (by omega) h3
    · have h24z : ¬ (n : Int) ≤ 24 := by omega
      obtain rfl : n = 25 := by omega
      go_wp2
      go_ret3
      exact ⟨H.out.2, Or.inr ⟨H.out.1, rfl⟩⟩
end Go.Proofs.Ytkldnapbeebdkaa.hi
