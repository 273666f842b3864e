/- What met of package find answers: how many of a pattern's first bytes end with a byte more. -/
import Derived.Test.YtnhdaolieifhnaaFdV
import Derived.Test.YtnhdaolieifhnaaFdP
namespace Go.Proofs.Ytnhdaolieifhnaa.find
set_option linter.unusedVariables false
open Go.ChangeShapes Go.WideShapes Go.ChangeAt Go.RowKit
open mem rows fd

set_option maxRecDepth 10000 in
theorem met_at (p : ByteArray) (v : Value) (Bs : List Int) (n : Nat) (f : Nat → Int) (i : Nat) (c : Int) (w : World) (hp : p.size ≤ 140737488351232) (hv : View w v Bs) (hm : n ≤ Bs.length)
    (hB : ∀ k, k < Bs.length → Bs.getD k 0 = ((lg (sb p) (tl (sb p)) p.size k : Nat) : Int) ∨ n ≤ k) (hn : Lg (sb p) f p.size n i) (hf : f i = c) (hc : 0 ≤ c ∧ c < 256) :
    Calls Try.prog 29 #[.string p, v, .int .i64 n, .int .u8 c] w fun e w' => e = .returned (.int .i64 ((lg (sb p) f p.size (i + 1) : Nat) : Int)) ∧ w' = w := by
  obtain ⟨q, cp, rfl, hq⟩ := hv
  obtain ⟨m, hm'⟩ : ∃ m, m = Bs.length := ⟨_, rfl⟩
  have HQ : Hid (In w q Bs) := hq
  have HB : Hid (∀ k, k < n → Bs.getD k 0 = ((lg (sb p) (tl (sb p)) p.size k : Nat) : Int)) := fun k hk => by
    rcases hB k (by omega) with h | h
    · exact h
    · omega
  have HM : Hid (m = Bs.length) := hm'
  have HD : Hid (Md (sb p) f p.size n i c) := hn.md c
  have HF : Hid (f i = c) := hf
  have hnp := hn.1
  rw [← hm'] at hm ⊢
  clear hq hB hm' hn hf
  go_enter Try.func29, Try.ntmps29
  go_wp2
  go_loop [2] (fun nv => ∃ k : Nat, k ≤ n ∧ nv = .int .i64 (k : Int) ∧ Hid (Md (sb p) f p.size k i c)) (fun nv => (intOf nv).toNat)
  case atStart => exact ⟨n, Nat.le_refl _, rfl, HD⟩
  case round =>
    obtain ⟨k, hk, rfl, HK⟩ := hrel
    by_cases hlt : k < p.size
    · have hgk : (((p[k]'hlt).toNat : Nat) : Int) = sb p k := (sb_get p k hlt).symm
      by_cases he : sb p k = c
      · go_wp2
        go_ret
        refine ⟨?_, rfl⟩
        rw [← HK.out.on HF.out hlt he]
        go_num
      · have hne : (sb p k != c) = true := by simpa using he
        rcases Nat.eq_zero_or_pos k with h0 | h0
        · subst h0
          go_wp2
          go_ret
          refine ⟨?_, rfl⟩
          rw [← HK.out.none HF.out (fun _ => he)]
          rfl
        · obtain ⟨x, rfl, hcell⟩ := HQ.out.at (k - 1) (by rw [← HM.out]; omega)
          rw [HB.out (k - 1) (by omega)] at hcell
          obtain ⟨h1, h2⟩ := HK.out.shorter h0 (fun _ => he)
          generalize lg (sb p) (tl (sb p)) p.size (k - 1) = b at hcell h1 h2
          have HK2 : Hid (Md (sb p) f p.size b i c) := h1
          obtain ⟨k', rfl⟩ : ∃ k', k = k' + 1 := ⟨k - 1, by omega⟩
          rw [Nat.add_sub_cancel] at hcell
          clear h1
          go_wp2
          go_round
          case rel => exact ⟨b, by omega, rfl, HK2⟩
          case measure => simp [intOf]; omega
    · obtain ⟨L, hL⟩ : ∃ L, L = p.size := ⟨_, rfl⟩
      have hkp : k = p.size := by omega
      have hkb : ((k : Int) == (p.size : Int)) = true := by rw [beq_iff_eq]; omega
      rcases Nat.eq_zero_or_pos k with h0 | h0
      · subst h0
        go_wp2
        go_ret
        refine ⟨?_, rfl⟩
        rw [← HK.out.none HF.out (fun h => absurd h hlt)]
        rfl
      · obtain ⟨x, rfl, hcell⟩ := HQ.out.at (k - 1) (by rw [← HM.out]; omega)
        rw [HB.out (k - 1) (by omega)] at hcell
        obtain ⟨h1, h2⟩ := HK.out.shorter h0 (fun h => absurd h hlt)
        generalize lg (sb p) (tl (sb p)) p.size (k - 1) = b at hcell h1 h2
        have HK2 : Hid (Md (sb p) f p.size b i c) := h1
        obtain ⟨k', rfl⟩ : ∃ k', k = k' + 1 := ⟨k - 1, by omega⟩
        rw [Nat.add_sub_cancel] at hcell
        rw [Int.natCast_succ] at hkb
        have hk1 : (k' : Int) + 1 - 1 = (k' : Int) := by omega
        clear h1 hkp hL
        go_wp2
        go_round
        case rel => exact ⟨b, by omega, rfl, HK2⟩
        case measure => simp [intOf]; omega
end Go.Proofs.Ytnhdaolieifhnaa.find
