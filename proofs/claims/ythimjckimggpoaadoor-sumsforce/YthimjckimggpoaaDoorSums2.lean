/- What the library's numbers turned round are: Reverse8, Reverse32. -/
import Derived.Test.YthimjckimggpoaaDoorRows
import Derived.Test.YthimjckimggpoaaDoorMem
import Derived.Test.YthimjckimggpoaaDoorCrc
import Derived.WalkLawsBesides
import Derived.WalkSpells
namespace Go.Proofs.YthimjckimggpoaaDoor.sums
open Go.ChangeShapes Go.WideShapes Go.ChangeAt Go.RowKit
open mem bit crc

/-- All bytes, turned round. -/
def tab : ByteArray := ⟨#[0, 128, 64, 192, 32, 160, 96, 224, 16, 144, 80, 208, 48, 176, 112, 240, 8, 136, 72, 200, 40, 168, 104, 232, 24, 152, 88, 216, 56, 184, 120, 248, 4, 132, 68, 196, 36, 164, 100, 228, 20, 148, 84, 212, 52, 180, 116, 244, 12, 140, 76, 204, 44, 172, 108, 236, 28, 156, 92, 220, 60, 188, 124, 252, 2, 130, 66, 194, 34, 162, 98, 226, 18, 146, 82, 210, 50, 178, 114, 242, 10, 138, 74, 202, 42, 170, 106, 234, 26, 154, 90, 218, 58, 186, 122, 250, 6, 134, 70, 198, 38, 166, 102, 230, 22, 150, 86, 214, 54, 182, 118, 246, 14, 142, 78, 206, 46, 174, 110, 238, 30, 158, 94, 222, 62, 190, 126, 254, 1, 129, 65, 193, 33, 161, 97, 225, 17, 145, 81, 209, 49, 177, 113, 241, 9, 137, 73, 201, 41, 169, 105, 233, 25, 153, 89, 217, 57, 185, 121, 249, 5, 133, 69, 197, 37, 165, 101, 229, 21, 149, 85, 213, 53, 181, 117, 245, 13, 141, 77, 205, 45, 173, 109, 237, 29, 157, 93, 221, 61, 189, 125, 253, 3, 131, 67, 195, 35, 163, 99, 227, 19, 147, 83, 211, 51, 179, 115, 243, 11, 139, 75, 203, 43, 171, 107, 235, 27, 155, 91, 219, 59, 187, 123, 251, 7, 135, 71, 199, 39, 167, 103, 231, 23, 151, 87, 215, 55, 183, 119, 247, 15, 143, 79, 207, 47, 175, 111, 239, 31, 159, 95, 223, 63, 191, 127, 255]⟩
set_option maxRecDepth 100000 in
theorem tab_size : tab.size = 256 := rfl
set_option maxRecDepth 100000 in
theorem tab_all : ∀ c : Fin 256, tab.data.toList.getD c.1 0 = UInt8.ofNat (rev 8 c.1) := by decide +kernel
theorem tab_get (c : Nat) (h : c < 256) : byteN tab c = rev 8 c := by
  unfold byteN
  rw [tab_all ⟨c, h⟩, UInt8.toNat_ofNat']
  exact Nat.mod_eq_of_lt (rev_lt 8 c)
theorem run_byte8 {P : Program} {t : TypeId} (s : ByteArray) (j : Nat) (hj : j < s.size) (h : P.underlying t = some .string) (w : World) :
    (Instr.index t (.string s) (.int .u8 (j : Int))).run P w = .ok (.int .u8 (byteN s j : Nat)) w := by
  rw [run_index_string _ _ _ _ _ h, byteN_get s j hj]
  simp [hj]
set_option maxRecDepth 100000 in
theorem rev8_at (c : Nat) (w : World) (h : c < 256) : Calls Tryd.prog 30 #[.int .u8 c] w fun e w' => e = .returned (.int .u8 (rev 8 c : Nat)) ∧ w' = w := by
  have hix := run_byte8 (P := Tryd.prog) tab c (by rw [tab_size]; exact h) Tryd.underlying9
  rw [tab_get c h] at hix
  unfold tab at hix
  go_enter Tryd.func30, Tryd.ntmps30
  go_wp2
  go_ret
  exact ⟨rfl, rfl⟩
/-- Neighbours of k bits change places. -/
def swp (k m x : Nat) : Nat := (x / 2 ^ k &&& m) ||| (x &&& m) * 2 ^ k
theorem swp_test (k m x j : Nat) (hm : ∀ i, i < 32 → m.testBit i = decide (i / k % 2 = 0)) (hk : 0 < k) (hj : j < 32) : (swp k m x).testBit j = x.testBit (if j / k % 2 = 0 then j + k else j - k) := by
  have h1 : x / 2 ^ k = x >>> k := (Nat.shiftRight_eq_div_pow x k).symm
  rw [swp, Nat.testBit_or, Nat.testBit_and, h1, Nat.testBit_shiftRight, Nat.mul_comm, Nat.testBit_two_pow_mul, Nat.testBit_and, hm j hj]
  by_cases e : j / k % 2 = 0
  · rw [if_pos e, decide_eq_true e]
    by_cases hjk : j ≥ k
    · have e2 : (j - k) / k % 2 = 1 := by
        have : (j - k + k) / k = (j - k) / k + 1 := Nat.add_div_right _ hk
        rw [Nat.sub_add_cancel hjk] at this
        omega
      rw [hm (j - k) (by omega), decide_eq_false (show ¬ (j - k) / k % 2 = 0 by omega), Nat.add_comm k j]
      simp
    · rw [decide_eq_false hjk, Nat.add_comm k j]
      simp
  · rw [if_neg e, decide_eq_false e]
    have hjk : j ≥ k := by
      rcases Nat.lt_or_ge j k with h | h
      · rw [Nat.div_eq_of_lt h] at e; exact absurd rfl e
      · exact h
    have e2 : (j - k) / k % 2 = 0 := by
      have : (j - k + k) / k = (j - k) / k + 1 := Nat.add_div_right _ hk
      rw [Nat.sub_add_cancel hjk] at this
      omega
    rw [hm (j - k) (by omega), decide_eq_true e2, decide_eq_true hjk]
    simp
theorem swp_u32 (k m x : Nat) (hx : x < 4294967296) (hm : m < 4294967296) (hk : m * 2 ^ k < 4294967296) (K : Int) (hK : K = ((2 ^ k : Nat) : Int)) (M : Int) (hM : M = (m : Int)) :
    bits .or .u32 (bits .and .u32 ((x : Int) / K) M) (bits .and .u32 (x : Int) M * K % 4294967296) = (swp k m x : Nat) := by
  subst hK hM
  have h1 : x &&& m ≤ m := Nat.and_le_right
  have h2 : (x &&& m) * 2 ^ k ≤ m * 2 ^ k := Nat.mul_le_mul_right _ h1
  have h3 : x / 2 ^ k &&& m ≤ m := Nat.and_le_right
  rw [← Int.natCast_ediv, u32_and_nat _ _ (Nat.lt_of_le_of_lt (Nat.div_le_self _ _) hx) hm, u32_and_nat _ _ hx hm, ← Int.natCast_mul, show ((((x &&& m) * 2 ^ k : Nat) : Int) % 4294967296) = (((x &&& m) * 2 ^ k : Nat) : Int) by omega, u32_or_nat _ _ (by omega) (by omega)]
  rfl
theorem swp_lt (k m x : Nat) (hm : m < 4294967296) (hk : m * 2 ^ k < 4294967296) : swp k m x < 4294967296 := by
  have h1 : x &&& m ≤ m := Nat.and_le_right
  have h2 : (x &&& m) * 2 ^ k ≤ m * 2 ^ k := Nat.mul_le_mul_right _ h1
  have h3 : x / 2 ^ k &&& m ≤ m := Nat.and_le_right
  exact Nat.or_lt_two_pow (n := 32) (by omega) (by omega)
theorem revB_at (w : World) (x : Nat) (hx : x < 4294967296) : Calls Tryd.prog 29 #[.int .u32 x] w fun e w' => e = .returned (.int .u32 (swp 16 65535 (swp 8 16711935 x) : Nat)) ∧ w' = w := by
  obtain ⟨A, hA⟩ : ∃ A, A = swp 8 16711935 x := ⟨_, rfl⟩
  have s1 := swp_u32 8 16711935 x hx (by decide) (by decide) 256 rfl 16711935 rfl
  have hA' : A < 4294967296 := by rw [hA]; exact swp_lt _ _ _ (by decide) (by decide)
  have HS : Hid (bits .or .u32 ((A : Int) / 65536) ((A : Int) * 65536 % 4294967296) = (swp 16 65535 A : Nat)) := by
    have e1 : (A : Int) / 65536 = ((A / 65536 : Nat) : Int) := by omega
    have e2 : (A : Int) * 65536 % 4294967296 = ((A % 65536 * 65536 : Nat) : Int) := by omega
    show _ = _
    rw [e1, e2, u32_or_nat _ _ (by omega) (by omega)]
    unfold swp
    have e3 : A / 2 ^ 16 &&& 65535 = A / 65536 := by
      have := Nat.and_two_pow_sub_one_eq_mod (A / 2 ^ 16) 16
      rw [show (2 : Nat) ^ 16 - 1 = 65535 from rfl] at this
      rw [this]; omega
    have e4 : A &&& 65535 = A % 65536 := Nat.and_two_pow_sub_one_eq_mod A 16
    rw [e3, e4]
  rw [← hA] at s1 ⊢
  clear hA
  go_enter Tryd.func29, Tryd.ntmps29
  go_wp2
  go_ret
  exact ⟨ret_int HS.out, rfl⟩
theorem m1 : ∀ i, i < 32 → (1431655765).testBit i = decide (i / 1 % 2 = 0) := by decide
theorem m2 : ∀ i, i < 32 → (858993459).testBit i = decide (i / 2 % 2 = 0) := by decide
theorem m4 : ∀ i, i < 32 → (252645135).testBit i = decide (i / 4 % 2 = 0) := by decide
theorem m8 : ∀ i, i < 32 → (16711935).testBit i = decide (i / 8 % 2 = 0) := by decide
theorem m16 : ∀ i, i < 32 → (65535).testBit i = decide (i / 16 % 2 = 0) := by decide
def hop (k j : Nat) : Nat := if j / k % 2 = 0 then j + k else j - k
theorem hops : ∀ j, j < 32 → hop 16 j < 32 ∧ hop 8 (hop 16 j) < 32 ∧ hop 4 (hop 8 (hop 16 j)) < 32 ∧ hop 2 (hop 4 (hop 8 (hop 16 j))) < 32 ∧ hop 1 (hop 2 (hop 4 (hop 8 (hop 16 j)))) = 31 - j := by decide
theorem swp_all (x : Nat) : swp 16 65535 (swp 8 16711935 (swp 4 252645135 (swp 2 858993459 (swp 1 1431655765 x)))) = rev 32 x := by
  apply Nat.eq_of_testBit_eq
  intro j
  rw [rev_test]
  by_cases hj : j < 32
  · obtain ⟨h1, h2, h3, h4, h5⟩ := hops j hj
    rw [swp_test 16 _ _ _ m16 (by decide) hj]
    show (swp 8 _ _).testBit (hop 16 j) = _
    rw [swp_test 8 _ _ _ m8 (by decide) h1]
    show (swp 4 _ _).testBit (hop 8 (hop 16 j)) = _
    rw [swp_test 4 _ _ _ m4 (by decide) h2]
    show (swp 2 _ _).testBit (hop 4 (hop 8 (hop 16 j))) = _
    rw [swp_test 2 _ _ _ m2 (by decide) h3]
    show (swp 1 _ _).testBit (hop 2 (hop 4 (hop 8 (hop 16 j)))) = _
    rw [swp_test 1 _ _ _ m1 (by decide) h4]
    show x.testBit (hop 1 (hop 2 (hop 4 (hop 8 (hop 16 j))))) = _
    rw [h5, decide_eq_true hj]
    rfl
  · rw [decide_eq_false hj]
    exact test_ge _ 32 j (swp_lt _ _ _ (by decide) (by decide)) (by omega)
theorem rev32_at (x : Nat) (w : World) (hx : x < 4294967296) : Calls Tryd.prog 26 #[.int .u32 x] w fun e w' => e = .returned (.int .u32 (rev 32 x : Nat)) ∧ w' = w := by
  rw [← swp_all]
  obtain ⟨A, hA⟩ : ∃ A, A = swp 1 1431655765 x := ⟨_, rfl⟩
  have s1 := swp_u32 1 1431655765 x hx (by decide) (by decide) 2 rfl 1431655765 rfl
  have hA' : A < 4294967296 := by rw [hA]; exact swp_lt _ _ _ (by decide) (by decide)
  rw [← hA] at s1 ⊢
  clear hA
  obtain ⟨B, hB⟩ : ∃ B, B = swp 2 858993459 A := ⟨_, rfl⟩
  have s2 := swp_u32 2 858993459 A hA' (by decide) (by decide) 4 rfl 858993459 rfl
  have hB' : B < 4294967296 := by rw [hB]; exact swp_lt _ _ _ (by decide) (by decide)
  rw [← hB] at s2 ⊢
  clear hB
  obtain ⟨C, hC⟩ : ∃ C, C = swp 4 252645135 B := ⟨_, rfl⟩
  have s3 := swp_u32 4 252645135 B hB' (by decide) (by decide) 16 rfl 252645135 rfl
  have hC' : C < 4294967296 := by rw [hC]; exact swp_lt _ _ _ (by decide) (by decide)
  rw [← hC] at s3 ⊢
  clear hC
  go_enter Tryd.func26, Tryd.ntmps26
  go_wp2_with (go_at_call 29; refine (revB_at _ C hC').mono ?_; rintro e w1 ⟨rfl, rfl⟩)
  go_ret
  exact ⟨rfl, rfl⟩
end Go.Proofs.YthimjckimggpoaaDoor.sums
