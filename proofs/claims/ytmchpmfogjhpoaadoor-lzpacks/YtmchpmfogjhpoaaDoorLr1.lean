/- The document's own char and alike. -/
import Derived.Test.YtmchpmfogjhpoaaDoorByRow
import Derived.Test.YtmchpmfogjhpoaaDoorLzP
namespace Go.Proofs.YtmchpmfogjhpoaaDoor.lzr
set_option linter.unusedVariables false
open Go.ChangeShapes Go.WideShapes Go.ChangeAt Go.RowKit
open mem rows lz
theorem char_at (z : Int) (w : World) (h0 : 0 ≤ z) (h1 : z ≤ 1000000) : Calls Tryd.prog 19 #[.int .u64 z] w fun e w' => e = .returned (.string (strOfNums [z % 256])) ∧ Gb w w' := by
  obtain ⟨y, hy⟩ : ∃ y, z % 256 = y := ⟨_, rfl⟩
  have hyb : 0 ≤ y ∧ y < 256 := by omega
  have hm : IntKind.u64.wrap y = y := by rw [IntKind.wrap_u64]; omega
  have hm2 : y % 256 = y := by omega
  have hz : z.tmod 256 = y := by rw [Int.tmod_eq_emod_of_nonneg h0]; exact hy
  have hcv : (convert 44 9 (.slice (some ⟨w.heap.size, 0, none⟩) 1 1)).run Tryd.prog (w.alloc (.cells #[.int .u8 y] 5)) = .ok (.string (strOfNums [y])) (w.alloc (.cells #[.int .u8 y] 5)) :=
    Row.text (e := 5) (zs := [y]) (by
      show (w.heap.push _)[w.heap.size]? = _
      rw [Array.getElem?_push, if_pos rfl]
      rfl) Tryd.underlying44 Tryd.underlying5 Tryd.underlying9 1 rfl
  rw [hy]
  go_enter Tryd.func19, Tryd.ntmps19
  go_wp2
  go_ret
  exact ⟨rfl, (Gb.refl _).alloc _ _⟩
/-- How many bytes two texts begin alike with. -/
def IsAl (a b : ByteArray) (k : Nat) : Prop := k ≤ a.size ∧ k ≤ b.size ∧ (∀ t, t < k → sb a t = sb b t) ∧ (k < a.size → k < b.size → sb a k ≠ sb b k)
set_option maxRecDepth 10000 in
theorem alike_at (a b : ByteArray) (w : World) (ha : a.size ≤ 4000) (hb : b.size ≤ 4000) :
    Calls Tryd.prog 20 #[.string a, .string b] w fun e w' => ∃ k, e = .returned (.int .i64 ((k : Nat) : Int)) ∧ IsAl a b k ∧ Dr w w' := by
  go_enter Tryd.func20, Tryd.ntmps20
  go_wp2
  go_loopw [5] (fun i wr => ∃ k : Nat, k ≤ a.size ∧ k ≤ b.size ∧ i = .int .i64 (k : Int) ∧ Hid (∀ t, t < k → sb a t = sb b t) ∧ Dr w wr) (fun i _ => a.size - (intOf i).toNat)
  case atStart => exact ⟨0, Nat.zero_le _, Nat.zero_le _, rfl, fun t ht => absurd ht (Nat.not_lt_zero _), Dr.refl _⟩
  case round =>
    obtain ⟨k, hka, hkb, rfl, HT, hd⟩ := hrel
    obtain ⟨q, rfl⟩ := hd
    generalize hwq : w.drewN q = wq
    have HW : Hid (w.drewN q = wq) := hwq
    clear hwq
    by_cases h1 : k < a.size
    · have d1 : decide ((k : Int) < (a.size : Int)) = true := decide_eq_true (by omega)
      by_cases h2 : k < b.size
      · have d2 : decide ((k : Int) < (b.size : Int)) = true := decide_eq_true (by omega)
        have e1 : (((a[k]'h1).toNat : Nat) : Int) = sb a k := (sb_get a k h1).symm
        have e2 : (((b[k]'h2).toNat : Nat) : Int) = sb b k := (sb_get b k h2).symm
        by_cases h3 : sb a k = sb b k
        · have d3 : (sb a k == sb b k) = true := by rw [beq_iff_eq]; exact h3
          have HT2 : Hid (∀ t, t < k + 1 → sb a t = sb b t) := fun t ht => by
            rcases Nat.lt_or_ge t k with h | h
            · exact HT.out t h
            · obtain rfl : t = k := by omega
              exact h3
          clear h3
          go_wp2
          go_quiet (fail)
          go_wp2
          go_roundw
          case rel => exact ⟨k + 1, h1, h2, by go_num, HT2, by rw [← HW.out]; exact Dr.drewN _ ⟨q, rfl⟩⟩
          case measure => simp [intOf]; omega
        · have d3 : (sb a k == sb b k) = false := by rw [beq_eq_false_iff_ne]; exact h3
          have H3 : Hid (sb a k ≠ sb b k) := h3
          clear h3
          go_wp2
          go_quiet (fail)
          go_wp2
          go_ret
          exact ⟨k, rfl, ⟨hka, hkb, HT.out, fun _ _ => H3.out⟩, by rw [← HW.out]; exact Dr.drewN _ ⟨q, rfl⟩⟩
      · have d2 : decide ((k : Int) < (b.size : Int)) = false := decide_eq_false (by omega)
        go_wp2
        go_quiet (fail)
        go_wp2
        go_ret
        exact ⟨k, rfl, ⟨hka, hkb, HT.out, fun _ h => absurd h h2⟩, by rw [← HW.out]; exact Dr.drewN _ ⟨q, rfl⟩⟩
    · have d1 : decide ((k : Int) < (a.size : Int)) = false := decide_eq_false (by omega)
      go_wp2
      go_quiet (fail)
      go_wp2
      go_ret
      exact ⟨k, rfl, ⟨hka, hkb, HT.out, fun h _ => absurd h h1⟩, by rw [← HW.out]; exact Dr.drewN _ ⟨q, rfl⟩⟩
theorem sb_end (s : ByteArray) (i t : Nat) (h : i + t < s.size) : sb (s.extract i s.size) t = sb s (i + t) := by
  have h1 : t < (s.extract i s.size).size := by rw [ByteArray.size_extract]; omega
  rw [sb_get _ _ h1, sb_get _ _ h, ByteArray.getElem_extract]
/-- Of two ends of a text. -/
theorem IsAl.cm {s : ByteArray} {a b k : Nat} (hb : 1 ≤ b) (hba : b ≤ a) (ha : a ≤ s.size) (h : IsAl (s.extract (a - b) s.size) (s.extract a s.size) k) : min k 130 = cm (sb s) s.size (a - b) a := by
  obtain ⟨h1, h2, h3, h4⟩ := h
  rw [ByteArray.size_extract] at h1 h2 h4
  rw [ByteArray.size_extract] at h4
  have h2' : a + k ≤ s.size := by omega
  refine IsCm.uniq ⟨by omega, fun _ => by omega, fun i hi => ?_, ?_⟩ (cm_is _ _ _ _) ha
  · have := h3 i (by omega)
    rw [sb_end _ _ _ (by omega), sb_end _ _ _ (by omega)] at this
    exact this
  · by_cases hk : 130 ≤ k
    · exact Or.inl (by omega)
    · by_cases h5 : a + k < s.size
      · have := h4 (by omega) (by omega)
        rw [sb_end _ _ _ (by omega), sb_end _ _ _ (by omega)] at this
        rw [show min k 130 = k by omega]
        exact Or.inr (Or.inr this)
      · exact Or.inr (Or.inl (by omega))
end Go.Proofs.YtmchpmfogjhpoaaDoor.lzr
