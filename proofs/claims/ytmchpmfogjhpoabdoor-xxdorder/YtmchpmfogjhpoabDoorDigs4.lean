/- What Hex of package digits answers. -/
import Derived.Test.YtmchpmfogjhpoabDoorDigs1
import Derived.Deep.RegionHeld3
import Derived.Laws.DeepBits32
namespace Go.Proofs.YtmchpmfogjhpoabDoor.digs
open Go.ChangeShapes Go.WideShapes Go.ChangeAt Go.RowKit
open mem dig

/-- Byte j of a text, as a number without a sign. -/
def nb (s : ByteArray) (j : Nat) : Nat := (sb s j).toNat
theorem nb_sb (s : ByteArray) (j : Nat) : sb s j = (nb s j : Int) := by have := sb_bd s j; unfold nb; omega
theorem nb_lt (s : ByteArray) (j : Nat) : nb s j < 256 := by have := sb_bd s j; unfold nb; omega
/-- The digits of a text's first k bytes, two each. -/
def hexL (s : ByteArray) : Nat → List Int
  | 0 => []
  | k + 1 => hexL s k ++ [ch (nb s k / 16), ch (nb s k % 16)]
theorem hexL_len (s : ByteArray) (k : Nat) : (hexL s k).length = 2 * k := by
  induction k with
  | zero => rfl
  | succ k ih => simp [hexL, ih]; omega
theorem info8 : (Tryd.prog.info? 5).map (fun i => (i.zero, i.size, i.bytes)) = some (some (.int .u8 0), 1, 1) := by kernel_rfl
set_option maxRecDepth 20000 in
theorem and15 (n : Nat) (h : n < 256) : bits .and .u8 (n : Int) 15 = ((n % 16 : Nat) : Int) := by
  have : ∀ n : Fin 256, bits .and .u8 ((n.1 : Nat) : Int) 15 = ((n.1 % 16 : Nat) : Int) := by decide
  exact this ⟨n, h⟩
theorem make_cap (c : Nat) (hc : c ≤ 4000) (w : World) : (Instr.makeSlice 38 (.int .i64 0) (.int .i64 (c : Int))).run Tryd.prog w = .ok (.slice (some ⟨w.heap.size, 0, none⟩) 0 c) (w.alloc (.cells (madeCells #[.int .u8 0] c) 5)) := by
  obtain ⟨i0, hi, hz0, hz1, hz2⟩ := info_parts info8
  have h := run_make (P := Tryd.prog) w 38 5 i0 (.int .u8 0) Tryd.underlying38 hi hz0 .i64 .i64 0 (c : Int) (by omega) (by omega) (by rw [hz2]; omega) (by omega)
  rw [h, hz1, Int.toNat_natCast, Nat.mul_one]
  rfl
theorem Row.keep {w : World} {e : TypeId} {B : Nat} {zs : List Int} (h : Row w e B zs) (o : Obj) : Row (w.alloc o) e B zs := by
  unfold Row at h ⊢
  have hl : B < w.heap.size := (Array.getElem?_eq_some_iff.1 h).1
  exact (Below.heap_alloc w o B hl).trans h
theorem hexL_set (s : ByteArray) (k : Nat) (hk : k < s.size) : ((hexL s k ++ List.replicate (2 * (s.size - k)) (0 : Int)).set (2 * k) (ch (nb s k / 16))).set (2 * k + 1) (ch (nb s k % 16)) = hexL s (k + 1) ++ List.replicate (2 * (s.size - (k + 1))) 0 := by
  have h := hexL_len s k
  rw [show 2 * (s.size - k) = 2 * (s.size - (k + 1)) + 1 + 1 from by omega, List.replicate_succ, List.replicate_succ, List.set_append_right _ _ (by omega), List.set_append_right _ _ (by omega), h]
  simp [hexL]
set_option maxRecDepth 4000 in
theorem hex_at (s : ByteArray) (w : World) (hs : s.size ≤ 1000) : Calls Tryd.prog 31 #[.string s] w fun e w' => e = .returned (.string (strOfNums (hexL s s.size))) ∧ Gb w w' := by
  obtain ⟨c, hc⟩ : ∃ c, c = 2 * s.size := ⟨_, rfl⟩
  have hm := make_cap c (by omega)
  have hcc : (2 : Int) * (s.size : Int) = (c : Int) := by omega
  have HC : Hid (c = 2 * s.size) := hc
  clear hc
  go_enter Tryd.func31, Tryd.ntmps31
  go_wp2
  go_loopw [3, 11] (fun b i wr => ∃ k l : Nat, k ≤ s.size ∧ i = .int .i64 (k : Int) ∧ b = .slice (some ⟨w.heap.size, 0, none⟩) l c ∧ Hid (l = 2 * k) ∧ Row wr 5 w.heap.size (hexL s k ++ List.replicate (2 * (s.size - k)) 0) ∧ Gb w wr) (fun _ i _ => s.size - (intOf i).toNat)
  case atStart => exact ⟨0, 0, Nat.zero_le _, rfl, rfl, rfl, by rw [Nat.sub_zero, ← HC.out]; exact Row.made _ _ _, (Gb.refl _).alloc _ _⟩
  case round =>
    obtain ⟨k, l, hk, rfl, rfl, HL, hrow, hgb⟩ := hrel
    by_cases hlt : k < s.size
    · obtain ⟨C, hC⟩ : ∃ C, C = nb s k := ⟨_, rfl⟩
      have hCl : C < 256 := by rw [hC]; exact nb_lt s k
      have hgk : (((s[k]'hlt).toNat : Nat) : Int) = (C : Int) := by rw [← sb_get s k hlt, hC]; exact nb_sb s k
      obtain ⟨C1, hC1⟩ : ∃ C1, C1 = C / 16 := ⟨_, rfl⟩
      obtain ⟨C2, hC2⟩ : ∃ C2, C2 = C % 16 := ⟨_, rfl⟩
      have q1 : (C : Int) / 16 = (C1 : Int) := by omega
      have q2 : bits .and .u8 (C : Int) 15 = (C2 : Int) := by rw [hC2]; exact and15 C hCl
      have l1 : C1 < 16 := by omega
      have l2 : C2 < 16 := by omega
      have i1 : (0 : Int) ≤ (C1 : Int) ∧ (C1 : Int) < 16 := by omega
      have i2 : (0 : Int) ≤ (C2 : Int) ∧ (C2 : Int) < 16 := by omega
      obtain ⟨X1, hX1⟩ : ∃ X1, X1 = ch C1 := ⟨_, rfl⟩
      obtain ⟨X2, hX2⟩ : ∃ X2, X2 = ch C2 := ⟨_, rfl⟩
      have x1 : (((lit[C1]'l1).toNat : Nat) : Int) = X1 := by rw [hX1]; exact lit_get C1 l1
      have x2 : (((lit[C2]'l2).toNat : Nat) : Int) = X2 := by rw [hX2]; exact lit_get C2 l2
      unfold lit at x1 x2
      have HX : Hid (X1 = ch (nb s k / 16) ∧ X2 = ch (nb s k % 16)) := by show _ ∧ _; rw [hX1, hX2, hC1, hC2, hC]; exact ⟨rfl, rfl⟩
      have hl := HL.out
      have hcv := HC.out
      have hrl : (hexL s k ++ List.replicate (2 * (s.size - k)) (0 : Int)).length = c := by simp [hexL_len]; omega
      have hrowA : Row (wr.alloc (.cells #[.int .u8 X1, .int .u8 X2] 5)) 5 w.heap.size (hexL s k ++ List.replicate (2 * (s.size - k)) 0) := Row.keep hrow _
      have hroom : l + 2 ≤ c := by omega
      have k1 := hrowA.cell (j := l) (by omega)
      have f1 := hrowA.frozen l
      have k2 := (hrowA.set l X1).cell (j := l + 1) (by rw [List.length_set]; omega)
      have f2 := (hrowA.set l X1).frozen (l + 1)
      have HR : Hid (Row (((wr.alloc (.cells #[.int .u8 X1, .int .u8 X2] 5)).setCell ⟨w.heap.size, l, none⟩ (.int .u8 X1)).setCell ⟨w.heap.size, l + 1, none⟩ (.int .u8 X2)) 5 w.heap.size (hexL s (k + 1) ++ List.replicate (2 * (s.size - (k + 1))) 0)) := by
        show Row _ _ _ _
        have := (hrowA.set l X1).set (l + 1) X2
        rw [hl, HX.out.1, HX.out.2, hexL_set s k hlt] at this
        rw [hl, HX.out.1, HX.out.2]
        exact this
      clear hC hC1 hC2 hX1 hX2 hl hcv hrl hrowA hrow
      go_wp2
      go_region
      go_wp2
      go_roundw
      case rel => exact ⟨k + 1, l + 2, by omega, by go_num, rfl, by have := HL.out; show _ = _; omega, HR.out.drew, (((hgb.alloc _ _).setCell (Nat.le_refl _) _).setCell (Nat.le_refl _) _).drew⟩
      case measure => simp [intOf]; omega
    · obtain rfl : k = s.size := by omega
      have hcv := Row.cut hrow (P := Tryd.prog) Tryd.underlying38 Tryd.underlying5 Tryd.underlying9 0 l c (hexL s s.size) (by rw [hexL_len, HL.out]) (by have := HL.out; simp [hexL_len]; omega) (fun j hj => by
        rw [Nat.zero_add, Nat.sub_self, Nat.mul_zero]; simp)
      clear hrow
      go_wp2
      go_ret
      exact ⟨rfl, hgb⟩
end Go.Proofs.YtmchpmfogjhpoabDoor.digs
