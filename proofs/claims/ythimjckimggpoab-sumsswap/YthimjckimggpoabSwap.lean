/- Two bytes that change their places: what becomes of the sums of two parts. No program. -/
import Derived.Test.YthimjckimggpoabTwo
import Derived.Test.YthimjckimggpoabForc
namespace Go.Proofs.Ythimjckimggpoab.two
open bit crc

/-- A text two bytes of which have changed their places. -/
def swp2 (s : ByteArray) (p : Nat) : ByteArray := s.extract 0 p ++ s.extract (p + 1) (p + 2) ++ s.extract p (p + 1) ++ s.extract (p + 2) s.size
theorem swp2_size (s : ByteArray) (p : Nat) (h : p + 2 ≤ s.size) : (swp2 s p).size = s.size := by
  unfold swp2; simp; omega
theorem swp2_byte (s : ByteArray) (p j : Nat) (h : p + 2 ≤ s.size) (hj : j < s.size) : byteN (swp2 s p) j = if j = p then byteN s (p + 1) else if j = p + 1 then byteN s p else byteN s j := by
  unfold swp2
  have z1 : (s.extract 0 p).size = p := by simp; omega
  have z2 : (s.extract 0 p ++ s.extract (p + 1) (p + 2)).size = p + 1 := by simp; omega
  have z3 : (s.extract 0 p ++ s.extract (p + 1) (p + 2) ++ s.extract p (p + 1)).size = p + 2 := by simp; omega
  by_cases c3 : j < p + 2
  · rw [byteN_app, z3, if_pos c3]
    by_cases c2 : j < p + 1
    · rw [byteN_app, z2, if_pos c2]
      by_cases c1 : j < p
      · rw [byteN_app, z1, if_pos c1, byteN_ext s 0 p j (by omega), if_neg (by omega), if_neg (by omega), Nat.zero_add]
      · obtain rfl : j = p := by omega
        rw [byteN_app, z1, if_neg c1, byteN_ext s (j + 1) (j + 2) _ (by omega), if_pos rfl, Nat.sub_self, Nat.add_zero]
    · obtain rfl : j = p + 1 := by omega
      rw [byteN_app, z2, if_neg c2, byteN_ext s p (p + 1) _ (by omega), if_neg (by omega), if_pos rfl, Nat.sub_self, Nat.add_zero]
  · rw [byteN_app, z3, if_neg c3, byteN_ext s (p + 2) s.size _ (by omega), if_neg (by omega), if_neg (by omega)]
    congr 1; omega
theorem sa_same (s : ByteArray) (a p k : Nat) (h : p + 2 ≤ s.size) (hk : k ≤ p) : sa (swp2 s p) a k = sa s a k := by
  induction k with
  | zero => rfl
  | succ k ih => rw [sa, sa, ih (by omega), swp2_byte s p k h (by omega), if_neg (by omega), if_neg (by omega)]
theorem sa_far (s : ByteArray) (a p k : Nat) (h : p + 2 ≤ s.size) (hk : p + 2 + k ≤ s.size) : sa (swp2 s p) a (p + 2 + k) = sa s a (p + 2 + k) := by
  induction k with
  | zero =>
    show sa (swp2 s p) a p + byteN (swp2 s p) p + byteN (swp2 s p) (p + 1) = sa s a p + byteN s p + byteN s (p + 1)
    rw [sa_same s a p p h (Nat.le_refl _), swp2_byte s p p h (by omega), swp2_byte s p (p + 1) h (by omega), if_pos rfl, if_neg (by omega), if_pos rfl]
    omega
  | succ k ih =>
    show sa (swp2 s p) a (p + 2 + k) + byteN (swp2 s p) (p + 2 + k) = sa s a (p + 2 + k) + byteN s (p + 2 + k)
    rw [ih (by omega), swp2_byte s p _ h (by omega), if_neg (by omega), if_neg (by omega)]
theorem sb_same (s : ByteArray) (a p k : Nat) (h : p + 2 ≤ s.size) (hk : k ≤ p) : sb (swp2 s p) a k = sb s a k := by
  induction k with
  | zero => rfl
  | succ k ih => rw [sb, sb, ih (by omega), sa_same s a p (k + 1) h hk]
theorem sb_far (s : ByteArray) (a p k : Nat) (h : p + 2 ≤ s.size) (hk : p + 2 + k ≤ s.size) : sb (swp2 s p) a (p + 2 + k) + byteN s p = sb s a (p + 2 + k) + byteN s (p + 1) := by
  induction k with
  | zero =>
    have h1 : sa (swp2 s p) a (p + 2) = sa s a (p + 2) := sa_far s a p 0 h (by omega)
    have h2 : sa (swp2 s p) a (p + 1) = sa s a p + byteN s (p + 1) := by
      rw [sa, sa_same s a p p h (Nat.le_refl _), swp2_byte s p p h (by omega), if_pos rfl]
    have h3 : sa s a (p + 1) = sa s a p + byteN s p := rfl
    show sb (swp2 s p) a p + sa (swp2 s p) a (p + 1) + sa (swp2 s p) a (p + 2) + byteN s p = sb s a p + sa s a (p + 1) + sa s a (p + 2) + byteN s (p + 1)
    rw [sb_same s a p p h (Nat.le_refl _), h1, h2, h3]
    omega
  | succ k ih =>
    have h1 : sa (swp2 s p) a (p + 2 + (k + 1)) = sa s a (p + 2 + (k + 1)) := sa_far s a p (k + 1) h hk
    show sb (swp2 s p) a (p + 2 + k) + sa (swp2 s p) a (p + 2 + (k + 1)) + byteN s p = sb s a (p + 2 + k) + sa s a (p + 2 + (k + 1)) + byteN s (p + 1)
    have := ih (by omega)
    omega
theorem swap_parts (s : ByteArray) (a M p : Nat) (h : p + 2 ≤ s.size) (ha : a < M) :
    fa (swp2 s p) a M (swp2 s p).size = fa s a M s.size ∧ ∃ X Y : Nat, fb (swp2 s p) a M (swp2 s p).size = X % M ∧ fb s a M s.size = Y % M ∧ X + byteN s p = Y + byteN s (p + 1) := by
  rw [swp2_size s p h, fa_sa _ _ _ _ ha, fa_sa _ _ _ _ ha, fb_sb _ _ _ _ ha, fb_sb _ _ _ _ ha]
  obtain ⟨k, hk⟩ : ∃ k, s.size = p + 2 + k := ⟨s.size - (p + 2), by omega⟩
  have h1 := sa_far s a p k h (by omega)
  have h2 := sb_far s a p k h (by omega)
  rw [hk, h1]
  exact ⟨rfl, _, _, rfl, rfl, h2⟩
/-- Adler's sum tells two bytes that are unlike. -/
theorem adler_tells (s : ByteArray) (p : Nat) (h : p + 2 ≤ s.size) : fb s 1 65521 s.size * 65536 + fa s 1 65521 s.size = fb (swp2 s p) 1 65521 (swp2 s p).size * 65536 + fa (swp2 s p) 1 65521 (swp2 s p).size ↔ byteN s p = byteN s (p + 1) := by
  obtain ⟨h1, X, Y, hX, hY, hXY⟩ := swap_parts s 1 65521 p h (by decide)
  have b1 := byteN_lt s p
  have b2 := byteN_lt s (p + 1)
  rw [h1, hX, hY]
  omega
/-- Fletcher's sum tells two bytes that are unlike, but for 0 and 255. -/
theorem fletcher_tells (s : ByteArray) (p : Nat) (h : p + 2 ≤ s.size) : fb s 0 255 s.size * 256 + fa s 0 255 s.size = fb (swp2 s p) 0 255 (swp2 s p).size * 256 + fa (swp2 s p) 0 255 (swp2 s p).size ↔ (byteN s p = byteN s (p + 1) ∨ byteN s p + 255 = byteN s (p + 1) ∨ byteN s (p + 1) + 255 = byteN s p) := by
  obtain ⟨h1, X, Y, hX, hY, hXY⟩ := swap_parts s 0 255 p h (by decide)
  have b1 := byteN_lt s p
  have b2 := byteN_lt s (p + 1)
  rw [h1, hX, hY]
  omega
end Go.Proofs.Ythimjckimggpoab.two
