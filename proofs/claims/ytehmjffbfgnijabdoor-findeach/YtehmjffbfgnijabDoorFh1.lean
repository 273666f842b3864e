/- The order of matches, and what slices.SortFunc makes of a row of them. -/
import Derived.Test.YtehmjffbfgnijabDoorMatchRow
import Derived.Test.YtehmjffbfgnijabDoorFdV
import Derived.Test.YtehmjffbfgnijabDoorLayS
import Derived.Shelf.SlSortCmp.NoneTotal
import Derived.Deep.RegionHeld3
namespace Go.Proofs.YtehmjffbfgnijabDoor.sp
set_option linter.unusedVariables false
open Go.ChangeShapes Go.WideShapes Go.ChangeAt Go.RowKit
open mem rows
open Go.Sort

theorem ret_int {x y : Int} (h : x = y) : Ending.returned (.int .i64 x) = .returned (.int .i64 y) := by rw [h]
def cfi (x y : Int) : Int := if x < y then -1 else if y < x then 1 else 0
theorem isNaN_at (x : Int) (w : World) : Calls Tryd.prog 31 #[.int .i64 x] w fun e w' => e = .returned (.bool false) ∧ w' = w := by
  go_enter Tryd.func31, Tryd.ntmps31
  go_wp2
  go_ret
  exact ⟨rfl, rfl⟩
theorem Compare_at (x y : Int) (w : World) : Calls Tryd.prog 22 #[.int .i64 x, .int .i64 y] w fun e w' => e = .returned (.int .i64 (cfi x y)) ∧ w' = w := by
  have c := isNaN_at
  go_enter Tryd.func22, Tryd.ntmps22
  by_cases h1 : x < y
  · go_wp2_with (go_at_call 31; refine (c _ _).mono ?_; rintro e w' ⟨rfl, rfl⟩)
    go_ret
    exact ⟨ret_int (by unfold cfi; rw [if_pos h1]), rfl⟩
  · by_cases h2 : y < x
    · go_wp2_with (go_at_call 31; refine (c _ _).mono ?_; rintro e w' ⟨rfl, rfl⟩)
      go_ret
      exact ⟨ret_int (by unfold cfi; rw [if_neg (by omega), if_pos (by omega)]), rfl⟩
    · go_wp2_with (go_at_call 31; refine (c _ _).mono ?_; rintro e w' ⟨rfl, rfl⟩)
      go_ret
      exact ⟨ret_int (by unfold cfi; rw [if_neg (by omega), if_neg (by omega)]), rfl⟩
/-- The first of two numbers that isn't 0. -/
def orI (a b : Int) : Int := if a = 0 then b else a
theorem Or_at (a b : Int) (X : Nat) (w : World) (h0 : w.cell? ⟨X, 0, none⟩ = some (.int .i64 a)) (h1 : w.cell? ⟨X, 1, none⟩ = some (.int .i64 b)) :
    Calls Tryd.prog 21 #[.slice (some ⟨X, 0, none⟩) 2 2] w fun e w' => e = .returned (.int .i64 (orI a b)) ∧ w' = w := by
  go_enter Tryd.func21, Tryd.ntmps21
  go_wp2
  go_loop [8] (fun iv => iv = .int .i64 0 ∨ (iv = .int .i64 1 ∧ a = 0) ∨ (iv = .int .i64 2 ∧ a = 0 ∧ b = 0)) (fun iv => 2 - (intOf iv).toNat)
  case atStart => exact Or.inl rfl
  case round =>
    rcases hrel with rfl | ⟨rfl, ha⟩ | ⟨rfl, ha, hb⟩
    · by_cases h : a = 0
      · have hz : (a == 0) = true := by rw [beq_iff_eq]; exact h
        go_wp2
        go_round
        case rel => exact Or.inr (Or.inl ⟨by go_num, h⟩)
        case measure => simp [intOf]
      · have hz : (a == 0) = false := by rw [beq_eq_false_iff_ne]; exact h
        go_wp2
        go_ret
        exact ⟨ret_int (by unfold orI; rw [if_neg h]), rfl⟩
    · by_cases h : b = 0
      · have hz : (b == 0) = true := by rw [beq_iff_eq]; exact h
        go_wp2
        go_round
        case rel => exact Or.inr (Or.inr ⟨by go_num, ha, h⟩)
        case measure => simp [intOf]
      · have hz : (b == 0) = false := by rw [beq_eq_false_iff_ne]; exact h
        go_wp2
        go_ret
        exact ⟨ret_int (by unfold orI; simp), rfl⟩
    · go_wp2
      go_ret
      exact ⟨ret_int (by unfold orI; simp), rfl⟩
/-- A match's two cells. -/
def enc (x : Int × Int) : List Value := [.int .i64 x.1, .int .i64 x.2]
def cf2 (x y : Int × Int) : Int := orI (cfi x.1 y.1) (cfi x.2 y.2)
def lt2 (x y : Int × Int) : Prop := x.1 < y.1 ∨ (x.1 = y.1 ∧ x.2 < y.2)
set_option maxRecDepth 20000 in
set_option maxHeartbeats 1000000 in
theorem closure_at (x y : Int × Int) (W : World) : Calls Tryd.prog 20 #[.agg #[.int .i64 x.1, .int .i64 x.2], .agg #[.int .i64 y.1, .int .i64 y.2]] W fun e w' => e = .returned (.int .i64 (cf2 x y)) ∧ ∃ q os', w' = grow (W.drewN q) os' := by
  have hc1 := fun W' => Compare_at x.1 y.1 W'
  have hc2 := fun W' => Compare_at x.2 y.2 W'
  have hor := fun X W' h0 h1 => Or_at (cfi x.1 y.1) (cfi x.2 y.2) X W' h0 h1
  unfold cf2
  generalize cfi x.1 y.1 = r1 at hc1 hor ⊢
  generalize cfi x.2 y.2 = r2 at hc2 hor ⊢
  generalize orI r1 r2 = r at hor ⊢
  go_enter Tryd.func20, Tryd.ntmps20
  go_wp2
  obtain ⟨Wb, hWb⟩ : ∃ Wb, Wb = (W.alloc (.cells #[.int .i64 x.1, .int .i64 x.2] 36)).alloc (.cells #[.int .i64 y.1, .int .i64 y.2] 36) := ⟨_, rfl⟩
  have a0 : Wb.cell? ⟨W.heap.size, 0, none⟩ = some (.int .i64 x.1) := by rw [hWb]; simp
  have a1 : Wb.cell? ⟨W.heap.size, 1, none⟩ = some (.int .i64 x.2) := by rw [hWb]; simp
  have b0 : Wb.cell? ⟨W.heap.size + 1, 0, none⟩ = some (.int .i64 y.1) := by rw [hWb]; simp
  have b1 : Wb.cell? ⟨W.heap.size + 1, 1, none⟩ = some (.int .i64 y.2) := by rw [hWb]; simp
  rw [← hWb]
  generalize W.heap.size = A at *
  generalize x.1 = p1 at *
  generalize x.2 = p2 at *
  generalize y.1 = q1 at *
  generalize y.2 = q2 at *
  have HWb : Hid _ := hWb
  clear hWb
  go_region_held3 (fun w' => w'.cell? ⟨A, 0, none⟩ = some (.int .i64 p1) ∧ w'.cell? ⟨A, 1, none⟩ = some (.int .i64 p2) ∧ w'.cell? ⟨A + 1, 0, none⟩ = some (.int .i64 q1) ∧ w'.cell? ⟨A + 1, 1, none⟩ = some (.int .i64 q2)) (refine ⟨?_, ?_, ?_, ?_⟩ <;> first | assumption | exact at_bl (Bl.drew (Bl.refl _)) (by assumption) | exact at_bl ((Bl.refl _).alloc _) (by assumption) | exact at_bl (Bl.drew ((Bl.refl _).alloc _)) (by assumption) | exact at_bl ((Bl.drew (Bl.refl _)).alloc _) (by assumption)) (first
    | (go_at_call 22; with_reducible refine (hc1 _).mono ?_; rintro e w' ⟨rfl, rfl⟩)
    | (go_at_call 22; with_reducible refine (hc2 _).mono ?_; rintro e w' ⟨rfl, rfl⟩)
    | (go_at_call 21; with_reducible refine (hor _ _ (by simp) (by simp)).mono ?_; rintro e w' ⟨rfl, rfl⟩))
  go_wp2
  go_ret
  exact ⟨rfl, 1, _, by rw [HWb.out, alloc_eq_grow, alloc_eq_grow, alloc_eq_grow, grow_grow, grow_grow]; rfl⟩
theorem cmp_lays (blk off size : Nat) (w : World) : CmpLays Tryd.prog 20 #[] enc 2 cf2 blk off size w :=
  fun _ _ _ _ x y => closure_at x y _
theorem lt_is (x y : Int × Int) : ltOf cf2 x y = true ↔ lt2 x y := by
  unfold ltOf cf2 orI cfi lt2
  by_cases h1 : x.1 < y.1
  · simp [h1]
  · by_cases h2 : y.1 < x.1
    · simp [h1, h2]; omega
    · by_cases h3 : x.2 < y.2
      · simp [h1, h2, h3]; omega
      · by_cases h4 : y.2 < x.2 <;> simp [h1, h2, h3, h4]
theorem lt_no (x y : Int × Int) : ltOf cf2 x y = false ↔ ¬ lt2 x y := by rw [← lt_is]; simp
theorem swo : SWO (ltOf cf2) where
  irrefl x := by rw [lt_no]; unfold lt2; omega
  trans x y z h1 h2 := by rw [lt_is] at *; unfold lt2 at *; omega
  ntrans x y z h1 h2 := by rw [lt_no] at *; unfold lt2 at *; omega
theorem flat_row (l : List (Int × Int)) : (flatK enc 2 l.toArray).toList = rowS l := by
  apply List.ext_getElem?
  intro t
  have hsz : (flatK enc 2 l.toArray).size = l.length * 2 := by rw [size_flatK]; simp
  by_cases ht : t < l.length * 2
  · have hk : t / 2 < l.length := by omega
    obtain ⟨h0, h1⟩ := rowS_get l (t / 2) hk
    have hg := get_flatK enc 2 l.toArray t (by simpa using ht)
    rw [Array.getElem?_toList, Array.getElem?_eq_getElem (by omega)]
    rw [getElem!_pos _ t (by omega)] at hg
    rw [hg]
    have hx : (l.toArray)[t / 2]! = l.getD (t / 2) (0, 0) := by
      rw [getElem!_pos _ _ (by simpa using hk), List.getD_eq_getElem?_getD, List.getElem?_eq_getElem hk]
      simp
    rw [hx]
    rcases Nat.mod_two_eq_zero_or_one t with h | h
    · rw [show 2 * (t / 2) = t by omega] at h0
      rw [h0, h]
      rfl
    · rw [show 2 * (t / 2) + 1 = t by omega] at h1
      rw [h1, h]
      rfl
  · rw [Array.getElem?_toList, Array.getElem?_eq_none (by omega), List.getElem?_eq_none (by rw [rowS_len]; omega)]
theorem holds_row {w : World} {g : Nat} {cur : Array Value} {e : TypeId} {l : List (Int × Int)} (hb : w.heap[g]? = some (.cells cur e (0, 0))) (ht : cur.toList.take (l.length * 2) = rowS l) : HoldsK enc 2 w g 0 l.toArray := by
  intro j hj
  have hj' : j < l.length * 2 := by rw [size_flatK] at hj; simpa using hj
  refine ⟨?_, by simp [World.frozen?, hb]⟩
  have h1 : (cur.toList.take (l.length * 2))[j]? = (rowS l)[j]? := by rw [ht]
  rw [List.getElem?_take_of_lt hj', ← flat_row, Array.getElem?_toList, Array.getElem?_toList, Array.getElem?_eq_getElem hj] at h1
  simp only [World.cell?, hb, Nat.zero_add]
  simp only [Option.isSome_none, Bool.false_eq_true, if_false]
  rw [h1, getElem!_pos _ j hj]
  rfl
theorem heap_sorted {w : World} {g n : Nat} {os : Array Obj} {cur : Array Value} {e : TypeId} {fr : Nat × Nat} (d : Array (Int × Int)) (hb : w.heap[g]? = some (.cells cur e fr)) :
    (sortWorldK enc 2 w g 0 n d os).heap[g]? = some (.cells (putCells id 0 (flatK enc 2 d) cur) e fr) := by
  have hg : g < w.heap.size := (Array.getElem?_eq_some_iff.1 hb).1
  unfold sortWorldK putRowK
  rw [heap_grow_old _ _ (by simpa using hg)]
  simp [putRow, mapBlock, Sort.ahead, Array.getElem?_modify, hb, onCells]
theorem grown_sorted {w : World} {g n : Nat} {os : Array Obj} (d : Array (Int × Int)) : w.grownBy (sortWorldK enc 2 w g 0 n d os) (some g) := by
  unfold sortWorldK putRowK
  refine ⟨rfl, rfl, rfl, by simp, fun k hk hne => ?_⟩
  rw [heap_grow_old _ _ (by simpa using hk)]
  have : g ≠ k := fun e => hne (by rw [e])
  simp [putRow, mapBlock, Sort.ahead, Array.getElem?_modify, this]
theorem take_put (cur F : Array Value) (h : F.size ≤ cur.size) : (putCells id 0 F cur).toList.take F.size = F.toList := by
  apply List.ext_getElem?
  intro j
  by_cases hj : j < F.size
  · rw [List.getElem?_take_of_lt hj, Array.getElem?_toList]
    simp [putCells, hj, show j < cur.size by omega]
  · rw [List.getElem?_take_eq_none (by omega), List.getElem?_eq_none (by simp; omega)]
/-- What the sort makes of a row of the call's own. -/
theorem sort_at (v : Value) (l : List (Int × Int)) (w : World) (base : Nat) (hown : OwnS w base v l) (hl : l.length ≤ 20000) :
    Calls Tryd.prog 19 #[v, .func (.func 20) #[] #[]] w fun e w' =>
      e = .returned (.tuple #[]) ∧ ∃ l' : List (Int × Int), l'.Perm l ∧ l'.Pairwise (fun x y => ¬ lt2 y x) ∧ OwnS w' base v l' ∧ w.grownBy w' v.ownBlock := by
  rcases hown.2 with ⟨rfl, h0⟩ | ⟨g, cap, cur, rfl, hbg, hg, hnc, hcm, hcs, htake⟩
  · have hl0 : l = [] := List.eq_nil_of_length_eq_zero h0
    subst hl0
    refine (AnyF.slices_SortFunc_none layS.laid none 0 (.func (.func 20) #[] #[]) w).mono ?_
    rintro e w' ⟨rfl, rfl⟩
    exact ⟨rfl, [], List.Perm.refl _, List.Pairwise.nil, hown, ⟨rfl, rfl, rfl, Nat.le_refl _, fun _ _ _ => rfl⟩⟩
  · have hgl : g < w.heap.size := (Array.getElem?_eq_some_iff.1 hg).1
    have hH := holds_row hg htake
    have eg : ∀ args w, (callFunc 20 args).run Tryd.prog w = .ok (.enter 20 args) w := enters_of Tryd.func20 (by kernel_rfl) rfl
    have hc := AnyQ.slices_SortFunc layS.laid 2 (fun w => by kernel_rfl) (fun w => by kernel_rfl) enc (fun _ => rfl) (fun x v hv => by simp [enc] at hv; rcases hv with rfl | rfl <;> rfl) cf2 swo 20 #[] g 0 cap l.toArray w eg (cmp_lays g 0 _ w) hH hgl (by simp; omega)
    have es : l.toArray.size = l.length := by simp
    rw [es] at hc
    refine hc.mono ?_
    rintro e w' ⟨rfl, d', n, os, hperm, hsort, rfl⟩
    obtain ⟨hs, _, hp⟩ := hperm
    have hs' : d'.size = l.length := by rw [hs, es]
    have hd : d'.toList.toArray = d' := by simp
    have hlen : d'.toList.length = l.length := by simpa using hs'
    have hv1 : Value.slice (some ⟨g, 0, none⟩) l.length cap = .slice (some ⟨g, 0, none⟩) d'.toList.length cap := by rw [hlen]
    refine ⟨rfl, d'.toList, ?_, ?_, ⟨by rw [rowS_len], Or.inr ⟨g, cap, _, hv1, hbg, heap_sorted d' hg, by rw [hlen]; exact hnc, hcm, by simp [putCells, hcs], ?_⟩⟩, grown_sorted d'⟩
    · rw [← es] at hp
      rw [Array.extract_size, ← hs, Array.extract_size] at hp
      exact hp
    · rw [List.pairwise_iff_getElem]
      intro i j hi hj hij
      have := hsort i j (Nat.zero_le _) hij (by rw [Array.length_toList] at hj; omega)
      rw [Array.length_toList] at hi hj
      rw [lt_no, getElem!_pos d' i hi, getElem!_pos d' j hj] at this
      simpa using this
    · have hf : (flatK enc 2 d').size = d'.toList.length * 2 := by rw [size_flatK, Array.length_toList]
      rw [← hf, take_put cur _ (by rw [hf, hcs, Array.length_toList, hs']; omega), ← hd, flat_row]
end Go.Proofs.YtehmjffbfgnijabDoor.sp
