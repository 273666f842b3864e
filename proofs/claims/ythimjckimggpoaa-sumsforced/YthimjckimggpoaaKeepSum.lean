/- What the helpers of the laws on sums answer: pick, made, of, crc, summed. -/
import Derived.Test.YthimjckimggpoaaSums5
namespace Go.Proofs.Ythimjckimggpoaa.sums
open Go.ChangeShapes Go.WideShapes Go.ChangeAt Go.RowKit
open mem bit crc two
attribute [local go_sem] World.cell?_alloc_some

def pickB (a n : Int) : Int := a % 18446744073709551616 % n
theorem pickB_bd (a n : Int) (h : 1 ≤ n) : 0 ≤ pickB a n ∧ pickB a n < n := ⟨Int.emod_nonneg _ (by omega), Int.emod_lt_of_pos _ (by omega)⟩
theorem pick_any (a n : Int) (w : World) (h1 : 1 ≤ n) (h2 : n ≤ 1000000) : Calls Try.prog 16 #[.int .i64 a, .int .i64 n] w fun e w' => e = .returned (.int .i64 (pickB a n)) ∧ w' = w := by
  have hb := pickB_bd a n h1
  go_enter Try.func16, Try.ntmps16
  go_wp2
  go_ret
  refine ⟨ret_int ?_, rfl⟩
  rw [IntKind.wrap_u64, Int.tmod_eq_emod_of_nonneg (by omega)]
  show wrap64 (pickB a n) = _
  unfold wrap64; omega
theorem pick_nat (a n : Int) (h1 : 1 ≤ n) : ∃ p : Nat, pickB a n = p ∧ (p : Int) < n := by
  have h := pickB_bd a n h1
  exact ⟨(pickB a n).toNat, by omega, by omega⟩
theorem crc_keep (w : World) : Calls Try.prog 20 #[] w fun e w' => e = .returned (.agg #[.int .i64 32, .int .u32 79764919, .bool true, .int .u32 4294967295, .int .u32 4294967295]) ∧ Gb w w' := by
  go_enter Try.func20, Try.ntmps20
  go_wp2
  refine bodyPost_ret (v := .agg #[.int .i64 32, .int .u32 79764919, .bool true, .int .u32 4294967295, .int .u32 4294967295]) (by simp [results, Try.f20, go_sem]) rfl ⟨rfl, (Gb.refl _).alloc _ _⟩
theorem known1 : crcV ⟨#[49, 50, 51, 52, 53, 54, 55, 56, 57]⟩ = 3421780262 := by decide +kernel
theorem known2 : fb ⟨#[87, 105, 107, 105, 112, 101, 100, 105, 97]⟩ 1 65521 9 * 65536 + fa ⟨#[87, 105, 107, 105, 112, 101, 100, 105, 97]⟩ 1 65521 9 = 300286872 := by decide +kernel
theorem known3 : fb ⟨#[97, 98, 99, 100, 101]⟩ 0 255 5 * 256 + fa ⟨#[97, 98, 99, 100, 101]⟩ 0 255 5 = 51440 := by decide +kernel
theorem summed_yes (w : World) : Calls Try.prog 10 #[] w fun e w' => e = .returned (.bool true) ∧ Gb w w' := by
  have y1 : ∀ w, Calls Try.prog 19 #[.agg #[.int .i64 32, .int .u32 79764919, .bool true, .int .u32 4294967295, .int .u32 4294967295], .string ⟨#[49, 50, 51, 52, 53, 54, 55, 56, 57]⟩] w fun e w' => e = .returned (.tuple #[.int .u32 3421780262, .nilIface]) ∧ Gb w w' := fun w => by
    have := OfC ⟨#[49, 50, 51, 52, 53, 54, 55, 56, 57]⟩ w (by decide)
    rw [known1] at this; exact this
  have y2 : ∀ w, Calls Try.prog 15 #[.string ⟨#[49, 50, 51, 52, 53, 54, 55, 56, 57]⟩] w fun e w' => e = .returned (.int .u32 3421780262) ∧ Gb w w' := fun w => by
    have := Crc_at ⟨#[49, 50, 51, 52, 53, 54, 55, 56, 57]⟩ w (by decide)
    rw [known1] at this; exact this
  have y3 : ∀ w, Calls Try.prog 9 #[.string ⟨#[87, 105, 107, 105, 112, 101, 100, 105, 97]⟩] w fun e w' => e = .returned (.int .u32 300286872) ∧ w' = w := fun w => by
    have := Adler_at ⟨#[87, 105, 107, 105, 112, 101, 100, 105, 97]⟩ w (by decide)
    rw [show (⟨#[87, 105, 107, 105, 112, 101, 100, 105, 97]⟩ : ByteArray).size = 9 from rfl, known2] at this; exact this
  have y4 : ∀ w, Calls Try.prog 8 #[.string ⟨#[97, 98, 99, 100, 101]⟩] w fun e w' => e = .returned (.int .u32 51440) ∧ w' = w := fun w => by
    have := Fletcher_at ⟨#[97, 98, 99, 100, 101]⟩ w (by decide)
    rw [show (⟨#[97, 98, 99, 100, 101]⟩ : ByteArray).size = 5 from rfl, known3] at this; exact this
  go_enter Try.func10, Try.ntmps10
  go_wp2_with (first | (go_at_call 20; refine (crc_keep _).mono ?_; rintro e v0 ⟨rfl, g0⟩) | (go_at_call 19; refine (y1 _).mono ?_; rintro e v1 ⟨rfl, g1⟩) | (go_at_call 15; refine (y2 _).mono ?_; rintro e v2 ⟨rfl, g2⟩) | (go_at_call 9; refine (y3 _).mono ?_; rintro e v3 ⟨rfl, rfl⟩) | (go_at_call 8; refine (y4 _).mono ?_; rintro e v4 ⟨rfl, rfl⟩))
  go_ret
  exact ⟨rfl, g0.trans (g1.trans g2)⟩
theorem of_yes (W P I O : Nat) (t : Bool) (s : ByteArray) (w : World) (h : Rt W P I O) (hs : s.size ≤ 140737488351232) :
    Calls Try.prog 12 #[.agg #[.int .i64 W, .int .u32 P, .bool t, .int .u32 I, .int .u32 O], .string s] w fun e w' => e = .returned (.tuple #[.int .u32 (sumV W P t I O s : Nat), .bool true]) ∧ Gb w w' := by
  have H : Hid (Rt W P I O) := h
  clear h
  go_enter Try.func12, Try.ntmps12
  go_wp2_with (first | (go_at_call 19; refine (Of_yes W P I O t s _ H.out hs).mono ?_; rintro e w1 ⟨rfl, g1⟩))
  go_region
  go_wp2
  go_ret2
  exact ⟨rfl, (Gb.alloc (Gb.refl w) _ _).trans g1.drew⟩
theorem made_vals (W M : Nat) (hw : W = 8 ∨ W = 16 ∨ W = 32) (hM : M + 1 = 2 ^ W) (p i o : Nat) (hp : p < 4294967296) (hi : i < 4294967296) (ho : o < 4294967296) (Mi : Int) (hMi : Mi = (M : Int)) :
    ∃ P I O : Nat, Rt W P I O ∧ bits .or .u32 (bits .and .u32 (p : Int) Mi) 1 = (P : Int) ∧ bits .and .u32 (i : Int) Mi = (I : Int) ∧ bits .and .u32 (o : Int) Mi = (O : Int) := by
  subst hMi
  have hle := le32 W (by omega)
  have hl : ∀ x : Nat, x &&& M < 2 ^ W := fun x => by have : x &&& M ≤ M := Nat.and_le_right; omega
  have h1 : 1 < 2 ^ W := Nat.one_lt_two_pow (by omega)
  refine ⟨(p &&& M) ||| 1, i &&& M, o &&& M, ⟨hw, ?_, Nat.or_lt_two_pow (hl p) h1, hl i, hl o⟩, ?_, u32_and_nat _ _ hi (by omega), u32_and_nat _ _ ho (by omega)⟩
  · have : ((p &&& M) ||| 1).testBit 0 = true := by rw [Nat.testBit_or]; simp
    rw [Nat.testBit_zero] at this
    exact of_decide_eq_true this
  · have := hl p
    have h := u32_or_nat (p &&& M) 1 (by omega) (by decide)
    rw [u32_and_nat _ _ hp (by omega)]
    exact h
theorem made_at (a : Int) (p i o : Nat) (t : Bool) (w : World) (hp : p < 4294967296) (hi : i < 4294967296) (ho : o < 4294967296) :
    Calls Try.prog 11 #[.int .i64 a, .int .u32 p, .int .u32 i, .int .u32 o, .bool t] w fun e w' => ∃ W P I O : Nat, Rt W P I O ∧ e = .returned (.agg #[.int .i64 W, .int .u32 P, .bool t, .int .u32 I, .int .u32 O]) ∧ Gb w w' := by
  obtain ⟨q, hq, hq3⟩ := pick_nat a 3 (by decide)
  have hpk : ∀ w, Calls Try.prog 16 #[.int .i64 a, .int .i64 3] w fun e w' => e = .returned (.int .i64 (q : Int)) ∧ w' = w := fun w => by
    have := pick_any a 3 w (by decide) (by decide)
    rw [hq] at this; exact this
  clear hq
  rcases (show q = 0 ∨ q = 1 ∨ q = 2 by omega) with rfl | rfl | rfl
  · obtain ⟨P, I, O, hR, e1, e2, e3⟩ := made_vals 8 255 (by decide) (by decide) p i o hp hi ho 255 rfl
    have HR : Hid (Rt 8 P I O) := hR
    clear hR
    go_enter Try.func11, Try.ntmps11
    go_wp2_with (go_at_call 16; refine (hpk _).mono ?_; rintro e v0 ⟨rfl, rfl⟩)
    refine bodyPost_ret (v := .agg #[.int .i64 8, .int .u32 P, .bool t, .int .u32 I, .int .u32 O]) (by simp [results, Try.f11, go_sem]) rfl ⟨8, P, I, O, HR.out, rfl, ((Gb.refl _).alloc _ _).alloc _ _⟩
  · obtain ⟨P, I, O, hR, e1, e2, e3⟩ := made_vals 16 65535 (by decide) (by decide) p i o hp hi ho 65535 rfl
    have HR : Hid (Rt 16 P I O) := hR
    clear hR
    go_enter Try.func11, Try.ntmps11
    go_wp2_with (go_at_call 16; refine (hpk _).mono ?_; rintro e v0 ⟨rfl, rfl⟩)
    refine bodyPost_ret (v := .agg #[.int .i64 16, .int .u32 P, .bool t, .int .u32 I, .int .u32 O]) (by simp [results, Try.f11, go_sem]) rfl ⟨16, P, I, O, HR.out, rfl, ((Gb.refl _).alloc _ _).alloc _ _⟩
  · obtain ⟨P, I, O, hR, e1, e2, e3⟩ := made_vals 32 4294967295 (by decide) (by decide) p i o hp hi ho 4294967295 rfl
    have HR : Hid (Rt 32 P I O) := hR
    clear hR
    go_enter Try.func11, Try.ntmps11
    go_wp2_with (go_at_call 16; refine (hpk _).mono ?_; rintro e v0 ⟨rfl, rfl⟩)
    refine bodyPost_ret (v := .agg #[.int .i64 32, .int .u32 P, .bool t, .int .u32 I, .int .u32 O]) (by simp [results, Try.f11, go_sem]) rfl ⟨32, P, I, O, HR.out, rfl, ((Gb.refl _).alloc _ _).alloc _ _⟩
end Go.Proofs.Ythimjckimggpoaa.sums
