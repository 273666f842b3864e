/- The document's own: there is no next real. -/
import Derived.Test.YtnhekkahiphlgaaDoorRefReal4
import Derived.Test.YtnhekkahiphlgaaDoorReal9
namespace Go.Proofs.YtnhekkahiphlgaaDoor.rl
open Go.RowKit
open mem
attribute [local go_sem] World.cell?_alloc_some
set_option maxHeartbeats 1000000 in
theorem refNextErr32 (b x f : Nat) (n d : Bool) (y : Int) (hb : b < 2 ^ 64) (hn : (b / 2 ^ 31 % 2 == 1) = n) (hx : b / 2 ^ 23 % 256 = x) (hf : b % 2 ^ 23 = f)
    (hy : (y = 1 ∧ d = false) ∨ (y = -1 ∧ d = true)) (hbad : x = 255 ∧ (f = 0 → n = d)) (w : World) :
    Calls Tryd.prog 13 #[.int .u64 b, .int .i64 32, .int .i64 y] w fun e w' => e = .returned (.tuple #[.int .u64 0, .int .i64 2]) ∧ Gb w w' := by
  obtain ⟨c, hc⟩ : ∃ c, cls 255 x f = c := ⟨_, rfl⟩
  have HN : Hid _ := hn
  have HX : Hid _ := hx
  have HF : Hid _ := hf
  have HC : Hid _ := hc
  by_cases f0 : f = 0
  · have hcc : c = 3 := by rw [← hc]; unfold cls; rw [if_pos hbad.1, if_pos f0]
    have t4 : ((c : Int) == 4) = false := by simp; omega
    have t3 : ((c : Int) == 3) = true := by simp; omega
    have e := hbad.2 f0
    clear hn hx hf hc hcc hbad f0
    rcases hy with ⟨rfl, rfl⟩ | ⟨rfl, rfl⟩
    · subst e
      go_enter Tryd.func13, Tryd.ntmps13
      go_wp2_with (first | (go_at_call 33; refine (refClass32 b x f c hb HX.out HF.out HC.out _).mono ?_; rintro e w1 ⟨rfl, g1⟩) | (go_at_call 31; refine (refApart32 b x f false hb HN.out HX.out HF.out _).mono ?_; rintro e w2 ⟨rfl, g2⟩))
      go_ret2
      exact ⟨rfl, g1.trans (g2.trans (Gb.alloc (Gb.refl w2) _ _))⟩
    · subst e
      go_enter Tryd.func13, Tryd.ntmps13
      go_wp2_with (first | (go_at_call 33; refine (refClass32 b x f c hb HX.out HF.out HC.out _).mono ?_; rintro e w1 ⟨rfl, g1⟩) | (go_at_call 31; refine (refApart32 b x f true hb HN.out HX.out HF.out _).mono ?_; rintro e w2 ⟨rfl, g2⟩))
      go_ret2
      exact ⟨rfl, g1.trans (g2.trans (Gb.alloc (Gb.refl w2) _ _))⟩
  · have hcc : c = 4 := by rw [← hc]; unfold cls; rw [if_pos hbad.1, if_neg f0]
    have t4 : ((c : Int) == 4) = true := by simp; omega
    clear hn hx hf hc hcc hbad f0 hy
    go_enter Tryd.func13, Tryd.ntmps13
    go_wp2_with (first | (go_at_call 33; refine (refClass32 b x f c hb HX.out HF.out HC.out _).mono ?_; rintro e w1 ⟨rfl, g1⟩) | (go_at_call 31; refine (refApart32 b x f n hb HN.out HX.out HF.out _).mono ?_; rintro e w2 ⟨rfl, g2⟩))
    go_ret2
    exact ⟨rfl, g1.trans (g2.trans (Gb.alloc (Gb.refl w2) _ _))⟩
set_option maxHeartbeats 1000000 in
theorem refNextErr64 (b x f : Nat) (n d : Bool) (y : Int) (hb : b < 2 ^ 64) (hn : (b / 2 ^ 63 % 2 == 1) = n) (hx : b / 2 ^ 52 % 2048 = x) (hf : b % 2 ^ 52 = f)
    (hy : (y = 1 ∧ d = false) ∨ (y = -1 ∧ d = true)) (hbad : x = 2047 ∧ (f = 0 → n = d)) (w : World) :
    Calls Tryd.prog 13 #[.int .u64 b, .int .i64 64, .int .i64 y] w fun e w' => e = .returned (.tuple #[.int .u64 0, .int .i64 2]) ∧ Gb w w' := by
  obtain ⟨c, hc⟩ : ∃ c, cls 2047 x f = c := ⟨_, rfl⟩
  have HN : Hid _ := hn
  have HX : Hid _ := hx
  have HF : Hid _ := hf
  have HC : Hid _ := hc
  by_cases f0 : f = 0
  · have hcc : c = 3 := by rw [← hc]; unfold cls; rw [if_pos hbad.1, if_pos f0]
    have t4 : ((c : Int) == 4) = false := by simp; omega
    have t3 : ((c : Int) == 3) = true := by simp; omega
    have e := hbad.2 f0
    clear hn hx hf hc hcc hbad f0
    rcases hy with ⟨rfl, rfl⟩ | ⟨rfl, rfl⟩
    · subst e
      go_enter Tryd.func13, Tryd.ntmps13
      go_wp2_with (first | (go_at_call 33; refine (refClass64 b x f c hb HX.out HF.out HC.out _).mono ?_; rintro e w1 ⟨rfl, g1⟩) | (go_at_call 31; refine (refApart64 b x f false hb HN.out HX.out HF.out _).mono ?_; rintro e w2 ⟨rfl, g2⟩))
      go_ret2
      exact ⟨rfl, g1.trans (g2.trans (Gb.alloc (Gb.refl w2) _ _))⟩
    · subst e
      go_enter Tryd.func13, Tryd.ntmps13
      go_wp2_with (first | (go_at_call 33; refine (refClass64 b x f c hb HX.out HF.out HC.out _).mono ?_; rintro e w1 ⟨rfl, g1⟩) | (go_at_call 31; refine (refApart64 b x f true hb HN.out HX.out HF.out _).mono ?_; rintro e w2 ⟨rfl, g2⟩))
      go_ret2
      exact ⟨rfl, g1.trans (g2.trans (Gb.alloc (Gb.refl w2) _ _))⟩
  · have hcc : c = 4 := by rw [← hc]; unfold cls; rw [if_pos hbad.1, if_neg f0]
    have t4 : ((c : Int) == 4) = true := by simp; omega
    clear hn hx hf hc hcc hbad f0 hy
    go_enter Tryd.func13, Tryd.ntmps13
    go_wp2_with (first | (go_at_call 33; refine (refClass64 b x f c hb HX.out HF.out HC.out _).mono ?_; rintro e w1 ⟨rfl, g1⟩) | (go_at_call 31; refine (refApart64 b x f n hb HN.out HX.out HF.out _).mono ?_; rintro e w2 ⟨rfl, g2⟩))
    go_ret2
    exact ⟨rfl, g1.trans (g2.trans (Gb.alloc (Gb.refl w2) _ _))⟩
end Go.Proofs.YtnhekkahiphlgaaDoor.rl
