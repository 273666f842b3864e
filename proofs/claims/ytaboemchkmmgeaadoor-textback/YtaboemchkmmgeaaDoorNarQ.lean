/- What is written as pairs of bytes is read so. -/
import Derived.Test.YtaboemchkmmgeaaDoorEnc4
namespace Go.Proofs.YtaboemchkmmgeaaDoor.narrow
set_option linter.unusedVariables false
open Go.RowKit
open num
open enc (wb)
open utf (sign)

/-- The halves of a sign. -/
def un (n : Int) : List Int := if n < 65536 then [n] else [55296 + (n - 65536) / 1024, 56320 + (n - 65536) % 1024]
def us (l : List Int) : List Int := l.flatMap un
theorem hv_un (n : Int) (o : Bool) : enc.hv n o = (un n).flatMap fun h => putL h 2 o 2 := by
  unfold enc.hv un
  split
  · simp
  · simp
theorem wb_us (l : List Int) (o : Bool) (k : Nat) (hk : k ≤ l.length) : wb l o k = (us (l.take k)).flatMap fun h => putL h 2 o 2 := by
  induction k with
  | zero => rfl
  | succ k ih =>
    rw [wb, ih (by omega), List.take_succ_eq_append_getElem (by omega), hv_un]
    unfold us
    rw [List.flatMap_append, List.flatMap_append]
    simp [List.getD_eq_getElem?_getD, List.getElem?_eq_getElem (show k < l.length by omega)]
theorem wb_all (l : List Int) (o : Bool) : wb l o l.length = (us l).flatMap fun h => putL h 2 o 2 := by rw [wb_us l o l.length (Nat.le_refl _), List.take_length]
theorem flat_len (u : List Int) (o : Bool) : (u.flatMap fun h => putL h 2 o 2).length = 2 * u.length := by
  induction u with
  | nil => rfl
  | cons h u ih => rw [List.flatMap_cons, List.length_append, putL_len, ih, List.length_cons]; omega
theorem flat_get (u : List Int) (o : Bool) (k j : Nat) (hk : k < u.length) (hj : j < 2) : (u.flatMap fun h => putL h 2 o 2).getD (2 * k + j) 0 = (putL (u[k]) 2 o 2).getD j 0 := by
  induction u generalizing k with
  | nil => exact absurd hk (Nat.not_lt_zero _)
  | cons h u ih =>
    rw [List.flatMap_cons]
    have hl := putL_len h 2 o 2
    cases k with
    | zero =>
      rw [Nat.mul_zero, Nat.zero_add, List.getD_eq_getElem?_getD, List.getElem?_append_left (by omega), ← List.getD_eq_getElem?_getD]
      rfl
    | succ k =>
      rw [List.getD_eq_getElem?_getD, List.getElem?_append_right (by omega), hl, show 2 * (k + 1) + j - 2 = 2 * k + j by omega, ← List.getD_eq_getElem?_getD]
      exact ih k (by simpa using hk)
theorem flat_bd (u : List Int) (o : Bool) : ∀ z ∈ u.flatMap fun h => putL h 2 o 2, 0 ≤ z ∧ z < 256 := by
  intro z hz
  obtain ⟨r, _, h⟩ := List.mem_flatMap.1 hz
  exact putL_bd r 2 o 2 z h
theorem U_flat (u : List Int) (o : Bool) (k : Nat) (hk : k < u.length) (h0 : 0 ≤ u[k]) (h1 : u[k] < 65536) : U (strOfNums (u.flatMap fun h => putL h 2 o 2)) o k = u[k] := by
  unfold U
  rw [if_pos (by rw [strOfNums_size, flat_len]; omega)]
  unfold pr
  have e : ∀ i, i < 2 → sb (strOfNums (u.flatMap fun h => putL h 2 o 2)) (2 * k + pl 2 o i) = u[k] / 256 ^ i % 256 := fun i hi => by
    rw [sb_nums _ (flat_bd u o), flat_get u o k (pl 2 o i) hk (by unfold pl; split <;> omega), putL_get _ 2 o i hi]
  rw [gv_congr _ (fun i => u[k] / 256 ^ i % 256) 2 e, gv_bytes _ h0]
  omega
theorem NL_back (o : Bool) (l : List Int) (hs : ∀ r ∈ l, sign r) (pre : List Int) (u : List Int) (hu : u = pre ++ us l) (f : Nat) (hf : l.length ≤ f) : NL (strOfNums (u.flatMap fun h => putL h 2 o 2)) o f pre.length = l := by
  induction l generalizing pre f with
  | nil =>
    rw [show us [] = [] from rfl, List.append_nil] at hu
    exact NL_none _ _ _ _ (by rw [strOfNums_size, flat_len, hu]; exact Nat.le_refl _)
  | cons r l ih =>
    have hr := hs r (List.mem_cons_self ..)
    have hus : us (r :: l) = un r ++ us l := by unfold us; rw [List.flatMap_cons]
    rw [List.length_cons] at hf
    obtain ⟨f', rfl⟩ : ∃ f', f = f' + 1 := ⟨f - 1, by omega⟩
    rw [hus] at hu
    have hz : (strOfNums (u.flatMap fun h => putL h 2 o 2)).size = 2 * u.length := by rw [strOfNums_size, flat_len]
    by_cases hlow : r < 65536
    · have hun : un r = [r] := by unfold un; rw [if_pos hlow]
      rw [hun] at hu
      have hlen : u.length = pre.length + (1 + (us l).length) := by rw [hu]; simp; omega
      have hk : pre.length < u.length := by omega
      have hg : u[pre.length] = r := by
        have : u[pre.length]? = some r := by rw [hu, List.getElem?_append_right (Nat.le_refl _), Nat.sub_self]; rfl
        rw [List.getElem?_eq_getElem hk] at this
        exact Option.some.inj this
      have hU := U_flat u o pre.length hk (by rw [hg]; unfold sign at hr; omega) (by rw [hg]; exact hlow)
      rw [hg] at hU
      rw [NL_one _ o f' pre.length (by rw [hz]; omega) (by rw [hU]; unfold sign at hr; omega), hU, if_neg (by unfold sign at hr; omega)]
      have := ih (fun x hx => hs x (List.mem_cons_of_mem _ hx)) (pre ++ [r]) (by rw [hu]; simp) f' (by omega)
      rw [List.length_append] at this
      rw [show pre.length + 1 = pre.length + [r].length from rfl, this]
    · have hun : un r = [55296 + (r - 65536) / 1024, 56320 + (r - 65536) % 1024] := by unfold un; rw [if_neg hlow]
      rw [hun] at hu
      have hlen : u.length = pre.length + (2 + (us l).length) := by rw [hu]; simp; omega
      have hk : pre.length < u.length := by omega
      have hk1 : pre.length + 1 < u.length := by omega
      have hg : u[pre.length] = 55296 + (r - 65536) / 1024 := by
        have : u[pre.length]? = some (55296 + (r - 65536) / 1024) := by rw [hu, List.getElem?_append_right (Nat.le_refl _), Nat.sub_self]; rfl
        rw [List.getElem?_eq_getElem hk] at this
        exact Option.some.inj this
      have hg1 : u[pre.length + 1] = 56320 + (r - 65536) % 1024 := by
        have : u[pre.length + 1]? = some (56320 + (r - 65536) % 1024) := by rw [hu, List.getElem?_append_right (by omega), Nat.add_sub_cancel_left]; rfl
        rw [List.getElem?_eq_getElem hk1] at this
        exact Option.some.inj this
      have hr2 : 65536 ≤ r ∧ r ≤ 1114111 := by unfold sign at hr; omega
      have hU := U_flat u o pre.length hk (by rw [hg]; omega) (by rw [hg]; omega)
      have hU1 := U_flat u o (pre.length + 1) hk1 (by rw [hg1]; omega) (by rw [hg1]; omega)
      rw [hg] at hU
      rw [hg1] at hU1
      rw [NL_two _ o f' pre.length (by rw [hz]; omega) (by rw [hU, hU1]; omega), hU, hU1]
      have := ih (fun x hx => hs x (List.mem_cons_of_mem _ hx)) (pre ++ [55296 + (r - 65536) / 1024, 56320 + (r - 65536) % 1024]) (by rw [hu]; simp) f' (by omega)
      rw [List.length_append] at this
      rw [show pre.length + 2 = pre.length + [55296 + (r - 65536) / 1024, 56320 + (r - 65536) % 1024].length from rfl, this]
      congr 1
      omega
theorem us_len (l : List Int) : l.length ≤ (us l).length := by
  induction l with
  | nil => exact Nat.le_refl _
  | cons r l ih =>
    have hus : us (r :: l) = un r ++ us l := by unfold us; rw [List.flatMap_cons]
    have h1 : 1 ≤ (un r).length := by unfold un; split <;> simp
    rw [hus, List.length_append, List.length_cons]
    omega
theorem NL_wb (o : Bool) (l : List Int) (hs : ∀ r ∈ l, sign r) : NL (strOfNums (wb l o l.length)) o (strOfNums (wb l o l.length)).size 0 = l := by
  rw [wb_all]
  refine NL_back o l hs [] (us l) rfl _ ?_
  rw [strOfNums_size, flat_len]
  have := us_len l
  omega
end Go.Proofs.YtaboemchkmmgeaaDoor.narrow
