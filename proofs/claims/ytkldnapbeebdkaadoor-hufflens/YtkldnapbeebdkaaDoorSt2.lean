/- Groups in a row: two parts side by side are turned round. -/
import Derived.Test.YtkldnapbeebdkaaDoorSt1
namespace Go.Proofs.YtkldnapbeebdkaaDoor.st
set_option linter.unusedVariables false
open Go.Shelf Go.RowKit Go.Lib Go.Sort
open mem
set_option maxHeartbeats 4000000 in
set_option maxRecDepth 1000000 in
theorem rotate_at (g : Nat) (cb : Array Value) (blk off cap a m b : Nat) (d0 d : Array (Gv × Nat)) (w0 w : World) (R : R2 w0 blk off d0) (hs : d0.size = d.size) (S : S2 w0 blk off d w) (ham : a < m) (hmb : m < b) (hb : b ≤ d.size) (hsz : d.size < 4611686018427387904) :
    Calls Tryd.prog 68 #[.slice (some ⟨blk, off, none⟩) d.size cap, .int .i64 a, .int .i64 m, .int .i64 b, .func (.func g) #[] cb] w fun e w' => e = .returned (.tuple #[]) ∧ ∃ d', Rt a m b d d' ∧ PermIn a b d d' ∧ S2 w0 blk off d' w' := by
  have S0 : Aside (S2 w0 blk off d w) := S
  clear S
  go_enter Tryd.func68, Tryd.ntmps68
  go_wp2
  go_loopg [10, 11] (b - a) (fun kx s10 s11 wr => ∃ (i j : Nat) (dk : Array (Gv × Nat)), s10 = .int .i64 i ∧ s11 = .int .i64 j ∧ 0 < i ∧ 0 < j ∧ a + i ≤ m ∧ m + j ≤ b ∧ i + j ≤ kx ∧ Hid (dk.size = d.size ∧ PermIn a b d dk ∧ ∀ d', Rt (m - i) m (m + j) dk d' → Rt a m b d d') ∧ Aside (S2 w0 blk off dk wr))
  case atStart => exact ⟨m - a, b - m, d, by congr 1; omega, by congr 1; omega, by omega, by omega, by omega, by omega, by omega, ⟨rfl, permIn_refl _ _ _, fun d' h => by rw [show m - (m - a) = a by omega, show m + (b - m) = b by omega] at h; exact h⟩, S0⟩
  case round =>
    clear S0
    obtain ⟨i, j, dk, rfl, rfl, hi0, hj0, hai, hjb, hkx, H, S1⟩ := hrel
    obtain ⟨hds, hperm, hrt⟩ := H.out
    have SW := swapRange_at
    by_cases hij : i = j
    · subst hij
      have c := swapRange_at g cb blk off cap (m - i) m i d0 dk w0 wr R (by omega) S1.out (by omega) (by omega) (by omega) a b (by omega) (by omega) (by omega)
      rw [show ((m - i : Nat) : Int) = (m : Int) - (i : Int) by omega, hds] at c
      clear hrt hperm S1 SW
      go_wp2_with (go_at_call 76; refine Calls.mono c ?_; rintro e w2 ⟨rfl, d1, hsr, hp, hS⟩)
      go_end0
      exact ⟨rfl, d1, H.out.2.2 _ (Rt.same hsr (by omega)), permIn_trans _ _ _ _ _ H.out.2.1 hp, hS⟩
    · have hne : ((i : Int) == (j : Int)) = false := by rw [beq_eq_false_iff_ne]; omega
      by_cases hgt : j < i
      · have c := swapRange_at g cb blk off cap (m - i) m j d0 dk w0 wr R (by omega) S1.out (by omega) (by omega) (by omega) a b (by omega) (by omega) (by omega)
        rw [show ((m - i : Nat) : Int) = (m : Int) - (i : Int) by omega, hds] at c
        have hgz : (j : Int) < i := by omega
        clear hrt hperm S1 SW
        go_wp2_with (go_at_call 76; refine Calls.mono c ?_; rintro e w2 ⟨rfl, d1, hsr, hp, hS⟩)
        go_roundg (i - j + j)
        case measure => omega
        case rel => exact ⟨i - j, j, d1, by congr 1; omega, rfl, by omega, hj0, by omega, hjb, Nat.le_refl _, ⟨hp.1.trans hds, permIn_trans _ _ _ _ _ H.out.2.1 hp, fun d' h => H.out.2.2 _ (Rt.more hsr hgt (by omega) h)⟩, hS⟩
      · have c := swapRange_at g cb blk off cap (m - i) (m + j - i) i d0 dk w0 wr R (by omega) S1.out (by omega) (by omega) (by omega) a b (by omega) (by omega) (by omega)
        rw [show ((m - i : Nat) : Int) = (m : Int) - (i : Int) by omega, show ((m + j - i : Nat) : Int) = (m : Int) + (j : Int) - (i : Int) by omega, hds] at c
        have hgz : ¬ (j : Int) < i := by omega
        clear hrt hperm S1 SW
        go_wp2_with (go_at_call 76; refine Calls.mono c ?_; rintro e w2 ⟨rfl, d1, hsr, hp, hS⟩)
        go_roundg (i + (j - i))
        case measure => omega
        case rel => exact ⟨i, j - i, d1, rfl, by congr 1; omega, hi0, by omega, hai, by omega, Nat.le_refl _, ⟨hp.1.trans hds, permIn_trans _ _ _ _ _ H.out.2.1 hp, fun d' h => H.out.2.2 _ (Rt.fewer hsr (by omega) (by omega) h)⟩, hS⟩
end Go.Proofs.YtkldnapbeebdkaaDoor.st
