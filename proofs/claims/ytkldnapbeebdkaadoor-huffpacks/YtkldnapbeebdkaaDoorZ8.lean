/- Texts laid together: St1, St2. -/
import Derived.Test.YtkldnapbeebdkaaDoorZ7
import Derived.Test.YtkldnapbeebdkaaDoorZ1
import Derived.Shelf.SlSortCmp.KitK
import Derived.Sort.WalkB2
import Derived.Sort.WalkB12
import Derived.Deep.LoopGhost
/- Groups in a row: two parts of it exchanged. -/
namespace Go.Proofs.YtkldnapbeebdkaaDoor.st
set_option linter.unusedVariables false
open Go.Shelf Go.RowKit Go.Lib Go.Sort
open mem
/-- A group, as it lies: its number, and its things' slice. -/
abbrev Gv := Int × Option Addr × Nat × Nat
def enc (x : Gv × Nat) : List Value := [.int .i64 x.1.1, .slice x.1.2.1 x.1.2.2.1 x.1.2.2.2]
theorem enc_len (x : Gv × Nat) : (enc x).length = 2 := rfl
theorem enc_one (x : Gv × Nat) (v : Value) (h : v ∈ enc x) : v.oneCell' = true := by
  simp [enc] at h
  rcases h with rfl | rfl <;> rfl
abbrev R2 (w0 : World) (blk off : Nat) (d0 : Array (Gv × Nat)) := RowK enc 2 w0 blk off d0
abbrev S2 (w0 : World) (blk off : Nat) (d : Array (Gv × Nat)) (w : World) := SWK enc 2 w0 blk off d w

theorem cells2 {w0 W : World} {blk off : Nat} {dk d0 : Array (Gv × Nat)} (h : S2 w0 blk off dk W) (R : R2 w0 blk off d0) (hs : dk.size = d0.size) (i : Nat) (hi : i < dk.size) :
    W.cell? ⟨blk, off + i * 2, none⟩ = some (.int .i64 dk[i]!.1.1) ∧ W.cell? ⟨blk, off + i * 2 + 1, none⟩ = some (.slice dk[i]!.1.2.1 dk[i]!.1.2.2.1 dk[i]!.1.2.2.2) ∧ W.frozen? ⟨blk, off + i * 2, none⟩ = false ∧ W.frozen? ⟨blk, off + i * 2 + 1, none⟩ = false := by
  have hH := SWK.holds h R.hblk R.hH hs
  have h0 := hH (i * 2) (by rw [size_flatK]; omega)
  have h1 := hH (i * 2 + 1) (by rw [size_flatK]; omega)
  rw [get_flatK enc 2 dk _ (by omega)] at h0 h1
  rw [show i * 2 / 2 = i by omega, show i * 2 % 2 = 0 by omega] at h0
  rw [show (i * 2 + 1) / 2 = i by omega, show (i * 2 + 1) % 2 = 1 by omega] at h1
  exact ⟨h0.1, h1.1, h0.2, h1.2⟩
theorem mixedP : Tryd.prog.follows .mixedOrders = true := by kernel_rfl
theorem tR : Tryd.prog.underlying 45 = some (TypeDesc.slice 49) := by kernel_rfl
theorem aR (w : World) : (isAgg 45).run Tryd.prog w = .ok false w := by kernel_rfl
theorem zR (w : World) : (Go.sizeOf 45).run Tryd.prog w = .ok 1 w := by kernel_rfl
theorem aE (w : World) : (isAgg 49).run Tryd.prog w = .ok true w := by kernel_rfl
theorem zE (w : World) : (Go.sizeOf 49).run Tryd.prog w = .ok 2 w := by kernel_rfl
theorem tI : Tryd.prog.underlying 3 = some (TypeDesc.int IntKind.i64) := by kernel_rfl
theorem aI (w : World) : (isAgg 3).run Tryd.prog w = .ok false w := by kernel_rfl
theorem zI (w : World) : (Go.sizeOf 3).run Tryd.prog w = .ok 1 w := by kernel_rfl
set_option maxHeartbeats 4000000 in
set_option maxRecDepth 1000000 in
theorem swapRange_at (g : Nat) (cb : Array Value) (blk off cap a b n : Nat) (d0 d : Array (Gv × Nat)) (w0 w : World) (R : R2 w0 blk off d0) (hs : d0.size = d.size) (S : S2 w0 blk off d w) (hab : a + n ≤ b) (hb : b + n ≤ d.size) (hsz : d.size < 4611686018427387904) (lo hi : Nat) (hlo : lo ≤ a) (hhi : b + n ≤ hi) (hhs : hi ≤ d.size) :
    Calls Tryd.prog 76 #[.slice (some ⟨blk, off, none⟩) d.size cap, .int .i64 a, .int .i64 b, .int .i64 n, .func (.func g) #[] cb] w fun e w' => e = .returned (.tuple #[]) ∧ ∃ d', Sr a b n d d' ∧ PermIn lo hi d d' ∧ S2 w0 blk off d' w' := by
  have mixed := mixedP; have tR := tR; have aR := aR; have zR := zR; have aE := aE; have zE := zE; have tI := tI; have aI := aI; have zI := zI
  have S0 : Aside (S2 w0 blk off d w) := S
  clear S
  go_enter Tryd.func76, Tryd.ntmps76
  go_wp2
  go_loopg [10] n (fun kx s wr => ∃ (i : Nat) (dk : Array (Gv × Nat)), s = .int .i64 i ∧ i ≤ n ∧ n - i ≤ kx ∧ Hid (dk.size = d.size ∧ Sr a b i d dk ∧ PermIn lo hi d dk) ∧ Aside (S2 w0 blk off dk wr))
  case atStart => exact ⟨0, d, rfl, by omega, by omega, ⟨rfl, Sr.zero a b d, permIn_refl _ _ _⟩, S0⟩
  case round =>
    clear S0
    obtain ⟨i, dk, rfl, h1, h2, H, S1⟩ := hrel
    by_cases hlt : i < n
    · have hltz : (i : Int) < n := by omega
      have hds := H.out.1
      go_wp2_with fail
      have ea1 : ((a : Int) + (i : Int)).toNat = a + i := by omega
      have pa1 : (0 : Int) ≤ (a : Int) + (i : Int) := by omega
      have ba1 : (a : Int) + (i : Int) < (d.size : Int) := by omega
      have ra1 : IntKind.i64.wrap ((a : Int) + (i : Int)) = (a : Int) + (i : Int) := by rw [IntKind.wrap_i64]; omega
      have ec1 : ((b : Int) + (i : Int)).toNat = b + i := by omega
      have pc1 : (0 : Int) ≤ (b : Int) + (i : Int) := by omega
      have bc1 : (b : Int) + (i : Int) < (d.size : Int) := by omega
      have rc1 : IntKind.i64.wrap ((b : Int) + (i : Int)) = (b : Int) + (i : Int) := by rw [IntKind.wrap_i64]; omega
      have S3 : Aside (S2 w0 blk off (swp dk (a + i) (b + i)) ((wr.setCells blk (off + (a + i) * 2) (enc dk[b + i]!)).setCells blk (off + (b + i) * 2) (enc dk[a + i]!)).drew) := (S1.out.swap R.hk R.hblk (a + i) (b + i) (by omega) (by omega)).drew
      obtain ⟨l1a, m1a, f1a, g1a⟩ := cells2 S1.out R (by omega) (a + i) (by omega)
      obtain ⟨l1c, m1c, f1c, g1c⟩ := cells2 S1.out R (by omega) (b + i) (by omega)
      generalize dk[a + i]! = X1 at S3 l1a m1a
      generalize dk[b + i]! = Y1 at S3 l1c m1c
      have q11 : ¬ off + (b + i) * 2 = off + (a + i) * 2 := by omega
      have q12 : ¬ off + (b + i) * 2 = off + (a + i) * 2 + 1 := by omega
      have q13 : ¬ off + (b + i) * 2 + 1 = off + (a + i) * 2 := by omega
      have q14 : ¬ off + (b + i) * 2 + 1 = off + (a + i) * 2 + 1 := by omega
      have q15 : ¬ off + (a + i) * 2 = off + (b + i) * 2 := by omega
      have q16 : ¬ off + (a + i) * 2 + 1 = off + (b + i) * 2 := by omega
      clear S1
      go_wp2_with fail
      go_region
      clear l1a m1a f1a g1a l1c m1c f1c g1c
      change Aside (S2 w0 blk off _ ((((wr.setCell ⟨blk, off + (a + i) * 2, none⟩ _).setCell ⟨blk, off + (a + i) * 2 + 1, none⟩ _).setCell ⟨blk, off + (b + i) * 2, none⟩ _).setCell ⟨blk, off + (b + i) * 2 + 1, none⟩ _).drew) at S3
      generalize ((((wr.setCell ⟨blk, off + (a + i) * 2, none⟩ _).setCell ⟨blk, off + (a + i) * 2 + 1, none⟩ _).setCell ⟨blk, off + (b + i) * 2, none⟩ _).setCell ⟨blk, off + (b + i) * 2 + 1, none⟩ _).drew = w2 at S3 ⊢
      go_wp2
      go_roundg (n - (i + 1))
      case measure => omega
      case rel => exact ⟨i + 1, _, by go_num, by omega, by omega, ⟨by rw [size_swp]; exact hds, H.out.2.1.step (by omega) (by omega), Sr.perm (n := n) H.out.2.2 (by omega) (by omega) (by omega) (by omega) hhs⟩, S3⟩
    · have hin : i = n := by omega
      have hltz : ¬ (i : Int) < n := by omega
      go_wp2
      go_end0
      exact ⟨rfl, dk, by rw [← hin]; exact H.out.2.1, H.out.2.2, S1.out⟩
end Go.Proofs.YtkldnapbeebdkaaDoor.st
/- Groups in a row: two parts side by side are turned round. -/
namespace Go.Proofs.YtkldnapbeebdkaaDoor.st
set_option linter.unusedVariables false
open Go.Shelf Go.RowKit Go.Lib Go.Sort
open mem
set_option maxHeartbeats 4000000 in
set_option maxRecDepth 1000000 in
theorem rotate_at (g : Nat) (cb : Array Value) (blk off cap a m b : Nat) (d0 d : Array (Gv × Nat)) (w0 w : World) (R : R2 w0 blk off d0) (hs : d0.size = d.size) (S : S2 w0 blk off d w) (ham : a < m) (hmb : m < b) (hb : b ≤ d.size) (hsz : d.size < 4611686018427387904) :
    Calls Tryd.prog 68 #[.slice (some ⟨blk, off, none⟩) d.size cap, .int .i64 a, .int .i64 m, .int .i64 b, .func (.func g) #[] cb] w fun e w' => e = .returned (.tuple #[]) ∧ ∃ d', Rt a m b d d' ∧ PermIn a b d d' ∧ S2 w0 blk off d' w' := by
  have S0 : Aside (S2 w0 blk off d w) := S
  clear S
  go_enter Tryd.func68, Tryd.ntmps68
  go_wp2
  go_loopg [10, 11] (b - a) (fun kx s10 s11 wr => ∃ (i j : Nat) (dk : Array (Gv × Nat)), s10 = .int .i64 i ∧ s11 = .int .i64 j ∧ 0 < i ∧ 0 < j ∧ a + i ≤ m ∧ m + j ≤ b ∧ i + j ≤ kx ∧ Hid (dk.size = d.size ∧ PermIn a b d dk ∧ ∀ d', Rt (m - i) m (m + j) dk d' → Rt a m b d d') ∧ Aside (S2 w0 blk off dk wr))
  case atStart => exact ⟨m - a, b - m, d, by congr 1; omega, by congr 1; omega, by omega, by omega, by omega, by omega, by omega, ⟨rfl, permIn_refl _ _ _, fun d' h => by rw [show m - (m - a) = a by omega, show m + (b - m) = b by omega] at h; exact h⟩, S0⟩
  case round =>
    clear S0
    obtain ⟨i, j, dk, rfl, rfl, hi0, hj0, hai, hjb, hkx, H, S1⟩ := hrel
    obtain ⟨hds, hperm, hrt⟩ := H.out
    have SW := swapRange_at
    by_cases hij : i = j
    · subst hij
      have c := swapRange_at g cb blk off cap (m - i) m i d0 dk w0 wr R (by omega) S1.out (by omega) (by omega) (by omega) a b (by omega) (by omega) (by omega)
      rw [show ((m - i : Nat) : Int) = (m : Int) - (i : Int) by omega, hds] at c
      clear hrt hperm S1 SW
      go_wp2_with (go_at_call 76; refine Calls.mono c ?_; rintro e w2 ⟨rfl, d1, hsr, hp, hS⟩)
      go_end0
      exact ⟨rfl, d1, H.out.2.2 _ (Rt.same hsr (by omega)), permIn_trans _ _ _ _ _ H.out.2.1 hp, hS⟩
    · have hne : ((i : Int) == (j : Int)) = false := by rw [beq_eq_false_iff_ne]; omega
      by_cases hgt : j < i
      · have c := swapRange_at g cb blk off cap (m - i) m j d0 dk w0 wr R (by omega) S1.out (by omega) (by omega) (by omega) a b (by omega) (by omega) (by omega)
        rw [show ((m - i : Nat) : Int) = (m : Int) - (i : Int) by omega, hds] at c
        have hgz : (j : Int) < i := by omega
        clear hrt hperm S1 SW
        go_wp2_with (go_at_call 76; refine Calls.mono c ?_; rintro e w2 ⟨rfl, d1, hsr, hp, hS⟩)
        go_roundg (i - j + j)
        case measure => omega
        case rel => exact ⟨i - j, j, d1, by congr 1; omega, rfl, by omega, hj0, by omega, hjb, Nat.le_refl _, ⟨hp.1.trans hds, permIn_trans _ _ _ _ _ H.out.2.1 hp, fun d' h => H.out.2.2 _ (Rt.more hsr hgt (by omega) h)⟩, hS⟩
      · have c := swapRange_at g cb blk off cap (m - i) (m + j - i) i d0 dk w0 wr R (by omega) S1.out (by omega) (by omega) (by omega) a b (by omega) (by omega) (by omega)
        rw [show ((m - i : Nat) : Int) = (m : Int) - (i : Int) by omega, show ((m + j - i : Nat) : Int) = (m : Int) + (j : Int) - (i : Int) by omega, hds] at c
        have hgz : ¬ (j : Int) < i := by omega
        clear hrt hperm S1 SW
        go_wp2_with (go_at_call 76; refine Calls.mono c ?_; rintro e w2 ⟨rfl, d1, hsr, hp, hS⟩)
        go_roundg (i + (j - i))
        case measure => omega
        case rel => exact ⟨i, j - i, d1, rfl, by congr 1; omega, hi0, by omega, hai, by omega, Nat.le_refl _, ⟨hp.1.trans hds, permIn_trans _ _ _ _ _ H.out.2.1 hp, fun d' h => H.out.2.2 _ (Rt.fewer hsr (by omega) (by omega) h)⟩, hS⟩
end Go.Proofs.YtkldnapbeebdkaaDoor.st
