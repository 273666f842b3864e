/- Texts laid together: Hh1, HhP. -/
import Derived.Test.YtkldnapbeebdkaaDoorZ3
import Derived.Test.YtkldnapbeebdkaaDoorZ4
/- What Count answers. -/
namespace Go.Proofs.YtkldnapbeebdkaaDoor.hh
set_option linter.unusedVariables false
open Go.ChangeShapes Go.WideShapes Go.ChangeAt Go.RowKit
open mem rows
/-- How often byte c stands among the first k of a text. -/
def ct (s : ByteArray) (c : Int) : Nat → Nat
  | 0 => 0
  | k + 1 => ct s c k + (if sb s k = c then 1 else 0)
def cntN (s : ByteArray) (n k : Nat) : List Int := (List.range n).map fun c : Nat => (ct s (c : Int) k : Int)
def cntL (s : ByteArray) (k : Nat) : List Int := cntN s 256 k
theorem ct_le (s : ByteArray) (c : Int) : ∀ k, ct s c k ≤ k
  | 0 => Nat.le_refl _
  | k + 1 => by have := ct_le s c k; unfold ct; split <;> omega
theorem cntN_len (s : ByteArray) (n k : Nat) : (cntN s n k).length = n := by simp [cntN]
theorem cntL_len (s : ByteArray) (k : Nat) : (cntL s k).length = 256 := cntN_len s 256 k
theorem cntN_get (s : ByteArray) (n k c : Nat) (h : c < n) : (cntN s n k).getD c 0 = (ct s (c : Int) k : Int) := by
  unfold cntN
  rw [List.getD_eq_getElem?_getD, List.getElem?_map, List.getElem?_range h]
  rfl
theorem cntN_zero (s : ByteArray) (n : Nat) : cntN s n 0 = List.replicate n 0 := by
  unfold cntN
  apply List.ext_getElem
  · simp
  · intro i h1 h2
    simp [ct]
theorem cntN_step (s : ByteArray) (n k : Nat) (hn : (sb s k).toNat < n) : (cntN s n k).set (sb s k).toNat ((cntN s n k).getD (sb s k).toNat 0 + 1) = cntN s n (k + 1) := by
  have hb := sb_bd s k
  apply List.ext_getElem
  · simp [cntN]
  · intro i h1 h2
    have hi : i < n := by simpa [cntN] using h2
    rw [List.getElem_set]
    have e : ∀ j, (h : j < (cntN s n (k + 1)).length) → (cntN s n (k + 1))[j] = (ct s (j : Int) (k + 1) : Int) := fun j h => by simp [cntN]
    have e' : ∀ j, (h : j < (cntN s n k).length) → (cntN s n k)[j] = (ct s (j : Int) k : Int) := fun j h => by simp [cntN]
    rw [e i h2]
    by_cases h : (sb s k).toNat = i
    · subst h
      rw [if_pos rfl, cntN_get s n k _ hn, ct, if_pos (by omega)]
      omega
    · rw [if_neg h, e' i (by simpa [cntN] using hi), ct, if_neg (by omega)]
      omega
theorem Count_at (s : ByteArray) (w : World) (hs : s.size ≤ 1000000) : Calls Tryd.prog 16 #[.string s] w fun e w' => ∃ B, e = .returned (.slice (some ⟨B, 0, none⟩) 256 256) ∧ w.heap.size ≤ B ∧ RowI w' B (cntL s s.size) ∧ Bl w w' := by
  have hmk : ∀ w, (Instr.makeSlice 22 (.int .i64 256) (.int .i64 256)).run Tryd.prog w = _ := fun w => run_make_row' (P := Tryd.prog) 22 3 (.int .i64 0) 8 Tryd.underlying22 infoI rfl .i64 .i64 256 (by omega) (by omega) w
  obtain ⟨w2, hw2⟩ : ∃ w2, w2 = w.alloc (.cells (madeCells #[.int .i64 0] 256) 3) := ⟨_, rfl⟩
  have HB2 : Hid (Bl w w2) := by rw [hw2]; exact (Bl.refl w).alloc _
  have HR0 : Hid (RowI w2 w.heap.size (cntL s 0)) := by unfold cntL; rw [cntN_zero, hw2]; exact RowI.made w 256
  go_enter Tryd.func16, Tryd.ntmps16
  go_wp2
  rw [← hw2]
  obtain ⟨B, hB⟩ : ∃ B, B = w.heap.size := ⟨_, rfl⟩
  rw [← hB] at HR0 ⊢
  have HB : Hid (B = w.heap.size) := hB
  clear hw2 hmk hB
  go_loopw [4, 8] (fun _ i wr => ∃ k : Nat, k ≤ s.size ∧ i = .int .i64 (k : Int) ∧ Hid (RowI wr B (cntL s k) ∧ Bl w wr)) (fun _ i _ => s.size - (intOf i).toNat)
  case atStart => exact ⟨0, Nat.zero_le _, rfl, ⟨HR0.out, HB2.out⟩⟩
  case round =>
    clear HR0 HB2
    obtain ⟨k, hk, rfl, H⟩ := hrel
    by_cases hlt : k < s.size
    · have hltz : (k : Int) < s.size := by omega
      have hbd := sb_bd s k
      have hc := H.out.1.cell (j := (sb s k).toNat) (by rw [cntL_len]; omega)
      have hf := H.out.1.frozen (sb s k).toNat
      have hct : (cntL s k).getD (sb s k).toNat 0 = (ct s (((sb s k).toNat : Nat) : Int) k : Int) := cntN_get s 256 k _ (by omega)
      have hcl := ct_le s (((sb s k).toNat : Nat) : Int) k
      have HS : Hid (RowI (wr.setCell ⟨B, (sb s k).toNat, none⟩ (.int .i64 ((cntL s k).getD (sb s k).toNat 0 + 1))) B (cntL s (k + 1)) ∧ Bl w (wr.setCell ⟨B, (sb s k).toNat, none⟩ (.int .i64 ((cntL s k).getD (sb s k).toNat 0 + 1)))) := by
        refine ⟨?_, H.out.2.setCell (by rw [HB.out]; exact Nat.le_refl _) _⟩
        have := H.out.1.set (sb s k).toNat ((cntL s k).getD (sb s k).toNat 0 + 1)
        rw [show (cntL s k).set (sb s k).toNat ((cntL s k).getD (sb s k).toNat 0 + 1) = cntL s (k + 1) from cntN_step s 256 k (by omega)] at this
        exact this
      obtain ⟨v, hv⟩ : ∃ v, v = (cntL s k).getD (sb s k).toNat 0 := ⟨_, rfl⟩
      rw [← hv] at hc hct HS
      have hv1 : 0 ≤ v ∧ v ≤ 1000000 := by omega
      have hw1 : wrap64 (v + 1) = v + 1 := by unfold wrap64; omega
      have hgb : (sb s k).toNat = (s[k]'hlt).toNat := by rw [sb_get s k hlt]; simp
      have hcb : ((s[k]'hlt).toNat : Int) < 256 := by have := (s[k]'hlt).toNat_lt; omega
      rw [hgb] at hc hf HS
      clear hv hct hcl H hgb hbd
      go_wp2
      go_roundw
      case rel => exact ⟨k + 1, hlt, by go_num, HS⟩
      case measure => simp [intOf]; omega
    · have hltz : ¬ (k : Int) < s.size := by omega
      obtain rfl : k = s.size := by omega
      go_wp2
      go_ret
      exact ⟨B, rfl, by rw [HB.out]; exact Nat.le_refl _, H.out.1, H.out.2⟩
end Go.Proofs.YtkldnapbeebdkaaDoor.hh
/- A text's signs, bit by bit, and the bytes that they are. -/
namespace Go.Proofs.YtkldnapbeebdkaaDoor.hh
set_option linter.unusedVariables false
open mem rows bit
/-- The bits of a sign, the greatest first. -/
def sgb (n v : Nat) : List Bool := (List.range n).map fun i => v.testBit (n - 1 - i)
theorem sgb_len (n v : Nat) : (sgb n v).length = n := by simp [sgb]
theorem sgb_take (n v j : Nat) (h : j < n) : (sgb n v).take (j + 1) = (sgb n v).take j ++ [v.testBit (n - 1 - j)] := by
  rw [List.take_succ_eq_append_getElem (by rw [sgb_len]; exact h)]
  simp [sgb]
/-- The bits of some bytes' signs. -/
def tb (L S : Nat → Nat) (cs : List Nat) : List Bool := cs.flatMap fun c => sgb (L c) (S c)
theorem tb_append (L S : Nat → Nat) (a b : List Nat) : tb L S (a ++ b) = tb L S a ++ tb L S b := by unfold tb; rw [List.flatMap_append]
theorem tb_one (L S : Nat → Nat) (c : Nat) : tb L S [c] = sgb (L c) (S c) := by simp [tb]
def gb (l : List Bool) (K : Nat) : Bool := l.getD K false
theorem gb_snoc (l : List Bool) (b : Bool) (K : Nat) : gb (l ++ [b]) K = if K = l.length then b else gb l K := by
  unfold gb
  simp only [List.getD_eq_getElem?_getD]
  rcases Nat.lt_trichotomy K l.length with h | h | h
  · rw [List.getElem?_append_left h, if_neg (by omega)]
  · subst h
    rw [List.getElem?_append_right (Nat.le_refl _), if_pos rfl]
    simp
  · rw [List.getElem?_eq_none (by simp; omega), if_neg (by omega), List.getElem?_eq_none (by omega)]
theorem gb_out (l : List Bool) (K : Nat) (h : l.length ≤ K) : gb l K = false := by
  unfold gb
  rw [List.getD_eq_getElem?_getD, List.getElem?_eq_none h]
  rfl
theorem mask_id : ∀ p, p < 8 → ∀ x, x < 256 → x.testBit p = false → x &&& (255 - 2 ^ p) = x := by decide +kernel
/-- A bit that was a nought, laid into a byte. -/
theorem or_byte (f : Nat → Bool) (p : Nat) (hp : p < 8) (b : Bool) (hf : f p = false) : nb f 8 ||| b.toNat * 2 ^ p = nb (fun j => if j = p then b else f j) 8 := by
  have hx := nb_lt f 8
  have hm := mask_id p hp (nb f 8) hx (by rw [nb_test]; simp [hp, hf])
  have h1 := upd_lt (nb f 8) p b hp
  have h2 := fun j hj => upd_test (nb f 8) p j b hp hj
  rw [hm] at h1
  refine byte_ext _ _ h1 (nb_lt _ 8) fun j hj => ?_
  have := h2 j hj
  rw [hm] at this
  rw [this, nb_test]
  simp [hj, nb_test]
theorem row_snoc (l : List Bool) (b : Bool) (m : Nat) (h : l.length < 8 * m) :
    (bytesOf (gb l) true m).set (l.length / 8) (((nb (fun j => gb l (at8 true (l.length / 8) j)) 8 ||| b.toNat * 2 ^ (7 - l.length % 8) : Nat)) : Int) = bytesOf (gb (l ++ [b])) true m := by
  apply List.ext_getElem
  · simp [bytesOf]
  · intro i h1 h2
    have hi : i < m := by simpa [bytesOf] using h2
    rw [List.getElem_set]
    have e : ∀ (g : Nat → Bool) (h : i < (bytesOf g true m).length), (bytesOf g true m)[i] = ((nb (fun j => g (at8 true i j)) 8 : Nat) : Int) := fun g h => by simp [bytesOf]
    rw [e _ h2]
    by_cases hk : l.length / 8 = i
    · rw [if_pos hk, hk, or_byte _ _ (by omega) _ (by refine gb_out _ _ ?_; unfold at8; simp only [if_true]; omega)]
      congr 1
      refine nb_congr _ _ 8 fun j hj => ?_
      rw [gb_snoc]
      by_cases hj2 : j = 7 - l.length % 8
      · rw [if_pos hj2, if_pos (by unfold at8; simp only [if_true]; omega)]
      · rw [if_neg hj2, if_neg (by unfold at8; simp only [if_true]; omega)]
    · rw [if_neg hk, e _ (by simpa [bytesOf] using hi)]
      congr 1
      refine nb_congr _ _ 8 fun j hj => ?_
      rw [gb_snoc, if_neg]
      unfold at8
      simp only [if_true]
      omega
theorem row_none (m : Nat) : bytesOf (gb []) true m = List.replicate m 0 := by
  apply List.ext_getElem
  · simp [bytesOf]
  · intro i h1 h2
    simp only [bytesOf, List.getElem_map, List.getElem_replicate]
    have : nb (fun j => gb [] (at8 true ((List.range m)[i]'(by simpa [bytesOf] using h1)) j)) 8 = 0 := by
      rw [nb_congr _ (fun _ => false) 8 (fun j _ => by simp [gb]), nb_false]
    rw [this]
    rfl
end Go.Proofs.YtkldnapbeebdkaaDoor.hh
