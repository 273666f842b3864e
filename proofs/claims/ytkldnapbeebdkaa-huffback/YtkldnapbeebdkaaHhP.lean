/- A text's signs, bit by bit, and the bytes that they are. -/
import Derived.Test.YtkldnapbeebdkaaBit
import Derived.Test.YtkldnapbeebdkaaHh1
namespace Go.Proofs.Ytkldnapbeebdkaa.hh
set_option linter.unusedVariables false
open mem rows bit
/-- The bits of a sign, the greatest first. -/
def sgb (n v : Nat) : List Bool := (List.range n).map fun i => v.testBit (n - 1 - i)
theorem sgb_len (n v : Nat) : (sgb n v).length = n := by simp [sgb]
theorem sgb_take (n v j : Nat) (h : j < n) : (sgb n v).take (j + 1) = (sgb n v).take j ++ [v.testBit (n - 1 - j)] := by
  rw [List.take_succ_eq_append_getElem (by rw [sgb_len]; exact h)]
  simp [sgb]
/-- The bits of some bytes' signs. -/
def tb (L S : Nat → Nat) (cs : List Nat) : List Bool := cs.flatMap fun c => sgb (L c) (S c)
theorem tb_append (L S : Nat → Nat) (a b : List Nat) : tb L S (a ++ b) = tb L S a ++ tb L S b := by unfold tb; rw [List.flatMap_append]
theorem tb_one (L S : Nat → Nat) (c : Nat) : tb L S [c] = sgb (L c) (S c) := by simp [tb]
def gb (l : List Bool) (K : Nat) : Bool := l.getD K false
theorem gb_snoc (l : List Bool) (b : Bool) (K : Nat) : gb (l ++ [b]) K = if K = l.length then b else gb l K := by
  unfold gb
  simp only [List.getD_eq_getElem?_getD]
  rcases Nat.lt_trichotomy K l.length with h | h | h
  · rw [List.getElem?_append_left h, if_neg (by omega)]
  · subst h
    rw [List.getElem?_append_right (Nat.le_refl _), if_pos rfl]
    simp
  · rw [List.getElem?_eq_none (by simp; omega), if_neg (by omega), List.getElem?_eq_none (by omega)]
theorem gb_out (l : List Bool) (K : Nat) (h : l.length ≤ K) : gb l K = false := by
  unfold gb
  rw [List.getD_eq_getElem?_getD, List.getElem?_eq_none h]
  rfl
theorem mask_id : ∀ p, p < 8 → ∀ x, x < 256 → x.testBit p = false → x &&& (255 - 2 ^ p) = x := by decide +kernel
/-- A bit that was a nought, laid into a byte. -/
theorem or_byte (f : Nat → Bool) (p : Nat) (hp : p < 8) (b : Bool) (hf : f p = false) : nb f 8 ||| b.toNat * 2 ^ p = nb (fun j => if j = p then b else f j) 8 := by
  have hx := nb_lt f 8
  have hm := mask_id p hp (nb f 8) hx (by rw [nb_test]; simp [hp, hf])
  have h1 := upd_lt (nb f 8) p b hp
  have h2 := fun j hj => upd_test (nb f 8) p j b hp hj
  rw [hm] at h1
  refine byte_ext _ _ h1 (nb_lt _ 8) fun j hj => ?_
  have := h2 j hj
  rw [hm] at this
  rw [this, nb_test]
  simp [hj, nb_test]
theorem row_snoc (l : List Bool) (b : Bool) (m : Nat) (h : l.length < 8 * m) :
    (bytesOf (gb l) true m).set (l.length / 8) (((nb (fun j => gb l (at8 true (l.length / 8) j)) 8 ||| b.toNat * 2 ^ (7 - l.length % 8) : Nat)) : Int) = bytesOf (gb (l ++ [b])) true m := by
  apply List.ext_getElem
  · simp [bytesOf]
  · intro i h1 h2
    have hi : i < m := by simpa [bytesOf] using h2
    rw [List.getElem_set]
    have e : ∀ (g : Nat → Bool) (h : i < (bytesOf g true m).length), (bytesOf g true m)[i] = ((nb (fun j => g (at8 true i j)) 8 : Nat) : Int) := fun g h => by simp [bytesOf]
    rw [e _ h2]
    by_cases hk : l.length / 8 = i
    · rw [if_pos hk, hk, or_byte _ _ (by omega) _ (by refine gb_out _ _ ?_; unfold at8; simp only [if_true]; omega)]
      congr 1
      refine nb_congr _ _ 8 fun j hj => ?_
      rw [gb_snoc]
      by_cases hj2 : j = 7 - l.length % 8
      · rw [if_pos hj2, if_pos (by unfold at8; simp only [if_true]; omega)]
      · rw [if_neg hj2, if_neg (by unfold at8; simp only [if_true]; omega)]
    · rw [if_neg hk, e _ (by simpa [bytesOf] using hi)]
      congr 1
      refine nb_congr _ _ 8 fun j hj => ?_
      rw [gb_snoc, if_neg]
      unfold at8
      simp only [if_true]
      omega
theorem row_none (m : Nat) : bytesOf (gb []) true m = List.replicate m 0 := by
  apply List.ext_getElem
  · simp [bytesOf]
  · intro i h1 h2
    simp only [bytesOf, List.getElem_map, List.getElem_replicate]
    have : nb (fun j => gb [] (at8 true ((List.range m)[i]'(by simpa [bytesOf] using h1)) j)) 8 = 0 := by
      rw [nb_congr _ (fun _ => false) 8 (fun j _ => by simp [gb]), nb_false]
    rw [this]
    rfl
end Go.Proofs.Ytkldnapbeebdkaa.hh
