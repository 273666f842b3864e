/- Texts laid together: Hf2, Hf3. -/
import Derived.Test.YtkldnapbeebdkaaDoorZ11
import Derived.Laws.OwnMore
import Derived.Deep.RegionHeld3
/- Groups that lie in a row, sorted: like ones stay as they stood. -/
namespace Go.Proofs.YtkldnapbeebdkaaDoor.hf
set_option linter.unusedVariables false
open Go.ChangeShapes Go.WideShapes Go.ChangeAt Go.RowKit
open Go.Sort
open mem rows st
def leG (x y : Gv) : Bool := decide (x.1 ≤ y.1)
theorem leG_trans (a b c : Gv) : leG a b → leG b c → leG a c := by
  unfold leG
  simp only [decide_eq_true_eq]
  omega
theorem leG_total (a b : Gv) : leG a b || leG b a := by
  unfold leG
  simp only [Bool.or_eq_true, decide_eq_true_eq]
  omega
theorem T_le (x y : Gv × Nat) : T y x = false ↔ List.zipIdxLE leG x y = true := by
  rw [T_not]
  unfold List.zipIdxLE leG
  by_cases h1 : x.1.1 ≤ y.1.1
  · by_cases h2 : y.1.1 ≤ x.1.1
    · simp [h1, h2]; try omega
    · simp [h1, h2]; try omega
  · simp [h1]; try omega
theorem sorted_is (l : List Gv) (d' : Array (Gv × Nat)) (hp : PermIn 0 l.length l.zipIdx.toArray d') (hs : SortedIn T 0 l.length d') : d'.toList.map (·.1) = l.mergeSort leG := by
  have hz : d'.size = l.length := by rw [hp.1]; simp
  have hperm : d'.toList.Perm l.zipIdx := by
    have := hp.2.2
    rw [← hz, Array.extract_size] at this
    rw [hz] at this
    have e : l.zipIdx.toArray.extract 0 l.length = l.zipIdx.toArray := by
      have : l.zipIdx.toArray.size = l.length := by simp
      rw [← this, Array.extract_size]
    rw [e] at this
    simpa using this
  have e : d'.toList = l.zipIdx.mergeSort (List.zipIdxLE leG) := by
    refine List.Perm.eq_of_pairwise (le := fun x y => List.zipIdxLE leG x y = true) (fun a b ha hb h1 h2 => ?_) ?_ (List.pairwise_mergeSort (List.zipIdxLE_trans leG_trans) (List.zipIdxLE_total leG_total) _) (hperm.trans (List.mergeSort_perm _ _).symm)
    · have ha' := hperm.mem_iff.1 ha
      have hb' := (List.mergeSort_perm _ _).mem_iff.1 hb
      have h3 := (T_le a b).2 h1
      have h4 := (T_le b a).2 h2
      rw [T_not] at h3 h4
      have e2 : a.2 = b.2 := by omega
      have ha3 := List.mem_zipIdx_iff_getElem?.1 ha'
      have hb3 := List.mem_zipIdx_iff_getElem?.1 hb'
      rw [e2, hb3] at ha3
      injection ha3 with ha3
      exact Prod.ext ha3.symm e2
    · rw [List.pairwise_iff_getElem]
      intro i j hi hj hij
      rw [Array.length_toList] at hi hj
      have := hs i j (Nat.zero_le _) hij (by omega)
      rw [getElem!_pos d' i hi, getElem!_pos d' j hj] at this
      exact (T_le _ _).1 (by simpa using this)
  rw [e]
  exact List.mergeSort_zipIdx
theorem zip_get (l : List Gv) (k : Nat) (h : k < l.length) : (l.zipIdx.toArray)[k]! = (l[k], k) := by
  rw [getElem!_pos _ _ (by simpa using h)]
  simp
/-- What the sort makes of a row of groups. -/
theorem sort_at (v : Value) (l : List Gv) (w : World) (base : Nat) (hown : Gr w base v l) (h0 : 0 < l.length) (hl : l.length ≤ 5000) :
    Calls Tryd.prog 20 #[v, fnv] w fun e w' => e = .returned (.tuple #[]) ∧ Gr w' base v (l.mergeSort leG) ∧ w.grownBy w' (bk v) := by
  rcases hown with ⟨_, rfl⟩ | ⟨g, off, cap, cur, rfl, h3, h4, h5, h6, h7⟩
  · exact absurd h0 (Nat.lt_irrefl _)
  have hsz : l.zipIdx.toArray.size = l.length := by simp
  have R : R2 w g off l.zipIdx.toArray := by
    refine ⟨enc_len, enc_one, fun j hj => ?_, lt_of_heap h4⟩
    have hj2 : j < l.length * 2 := by rw [size_flatK, hsz] at hj; exact hj
    rw [get_flatK enc 2 _ j (by rw [hsz]; exact hj2), zip_get l (j / 2) (by omega)]
    refine ⟨?_, by simp [World.frozen?, h4]⟩
    rw [cell_of h4]
    obtain ⟨a, b⟩ := rowG_get l (j / 2) (by omega)
    rcases Nat.mod_two_eq_zero_or_one j with h | h
    · rw [show j / 2 * 2 = j by omega] at a
      rw [h7 j _ a, h]
      rfl
    · rw [show j / 2 * 2 + 1 = j by omega] at b
      rw [h7 j _ b, h]
      rfl
  have c := sort_raw g off cap l.zipIdx.toArray w R (by rw [hsz]; omega) (fun x hx => by rw [hsz] at hx; rw [zip_get l x hx])
  rw [hsz] at c
  refine c.mono ?_
  rintro e w' ⟨rfl, d', hp, hs, n, os, rfl⟩
  have hz : d'.size = l.length := by rw [hp.1]; simp
  have hmap := sorted_is l d' hp hs
  have hlen : (l.mergeSort leG).length = l.length := by rw [List.length_mergeSort]
  refine ⟨rfl, Or.inr ⟨g, off, cap, putCells id off (flatK enc 2 d') cur, by rw [hlen], h3, ?_, by rw [hlen]; exact h5, by simpa [putCells] using h6, fun j u hu => ?_⟩, ?_⟩
  · unfold sortWorldK putRowK
    rw [heap_grow_old _ _ (by simpa using lt_of_heap h4)]
    simp [putRow, mapBlock, Sort.ahead, Array.getElem?_modify, h4, onCells]
  · have hj : j < l.length * 2 := by
      have := (List.getElem?_eq_some_iff.1 hu).1
      rw [rowG_len, hlen] at this
      exact this
    have hjs : off + j < cur.size := by omega
    have hk : j / 2 < l.length := by omega
    have hd : (l.mergeSort leG)[j / 2]'(by rw [hlen]; exact hk) = (d'[j / 2]!).1 := by
      rw [getElem!_pos d' _ (by omega)]
      simp only [← hmap]
      simp
    have e1 : (putCells id off (flatK enc 2 d') cur)[off + j]? = some ((enc d'[j / 2]!)[j % 2]!) := by
      rw [← get_flatK enc 2 d' j (by omega)]
      have hf : j < (flatK enc 2 d').size := by rw [size_flatK]; omega
      unfold putCells
      rw [Array.getElem?_mapIdx, Array.getElem?_eq_getElem hjs]
      simp only [Option.map_some]
      rw [if_pos (by omega), show off + j - off = j by omega]
      rfl
    rw [e1]
    obtain ⟨a, b⟩ := rowG_get (l.mergeSort leG) (j / 2) (by rw [hlen]; exact hk)
    rw [hd] at a b
    rcases Nat.mod_two_eq_zero_or_one j with h | h
    · rw [show j / 2 * 2 = j by omega] at a
      rw [a] at hu
      rw [h, ← hu]
      rfl
    · rw [show j / 2 * 2 + 1 = j by omega] at b
      rw [b] at hu
      rw [h, ← hu]
      rfl
  · unfold sortWorldK putRowK
    refine ⟨rfl, rfl, rfl, by simp, fun k hk hne => ?_⟩
    rw [heap_grow_old _ _ (by simpa using hk)]
    have : g ≠ k := fun e => hne (by rw [e]; rfl)
    simp [putRow, mapBlock, Sort.ahead, Array.getElem?_modify, this]
end Go.Proofs.YtkldnapbeebdkaaDoor.hf
/- What slices.Concat of two rows of numbers answers, and a group of two. -/
namespace Go.Proofs.YtkldnapbeebdkaaDoor.hf
set_option linter.unusedVariables false
open Go.ChangeShapes Go.WideShapes Go.ChangeAt Go.RowKit
open mem rows
abbrev Gv := st.Gv

theorem grown_at (n : Nat) (w : World) (h0 : 0 < n) (hn : n ≤ 5000) : ∃ w', (Builtin.append_ #[22, 3] 22 #[.slice none 0 0, .int .i64 n]).run Tryd.prog w = .ok (.slice (some ⟨w.heap.size, 0, none⟩) n (grownCap w n 0 3)) w' ∧
    Own w' w.heap.size (.slice (some ⟨w.heap.size, 0, none⟩) 0 (grownCap w n 0 3)) [] ∧ Bl w w' := by
  obtain ⟨i, hi, hz, h1, h2⟩ := infoI'
  have hge := grownCap_ge w n 0 3
  have hle := grownCap_le_maxLen w n 0 3 (by unfold maxLen; omega)
  refine ⟨_, Lib.run_append_nil_zeros (P := Tryd.prog) w 22 3 22 3 i _ .i64 .i64 Tryd.underlying22 Tryd.underlying3 hi hz n h0 (by omega) (by omega) (by rw [h2]; omega), ?_, ((Bl.refl w).drew).alloc _⟩
  refine ⟨rfl, Or.inr ⟨w.heap.size, grownCap w n 0 3, Builtin.zeroCells (Value.int .i64 0).cells n ++ Builtin.zeroCells (Value.int .i64 0).cells (grownCap w n 0 3 - n), rfl, Nat.le_refl _, ?_, Nat.zero_le _, hle, ?_, rfl⟩⟩
  · show (w.heap.push _)[w.heap.size]? = _
    rw [Array.getElem?_push, if_pos rfl]
  · rw [Array.size_append, size_zeroCells, size_zeroCells]
    show n * 1 + (grownCap w n 0 3 - n) * 1 = grownCap w n 0 3 * 1
    omega
set_option maxRecDepth 100000 in
theorem Grow_at (n : Nat) (w : World) (hn : n ≤ 5000) : Calls Tryd.prog 54 #[.slice none 0 0, .int .i64 n] w fun e w' => ∃ v', e = .returned v' ∧ Own w' w.heap.size v' [] ∧ Bl w w' := by
  by_cases h0 : 0 < n
  · have hz : (0 : Int) < (n : Int) := by omega
    obtain ⟨w', hr, ho, hb⟩ := grown_at n w h0 hn
    have HR : Hid _ := hr
    have hge := grownCap_ge w n 0 3
    generalize grownCap w n 0 3 = cap at ho hge HR
    clear hr
    go_enter Tryd.func54, Tryd.ntmps54
    go_wp2_with (at_builtin; refine Lib.wpList_append_run _ rfl (.tmp 20) (.tmp 21) _ _ rfl _ _ rfl rfl _ _ HR.out ?_)
    go_ret
    exact ⟨_, rfl, ho, hb⟩
  · obtain rfl : n = 0 := by omega
    go_enter Tryd.func54, Tryd.ntmps54
    go_wp2
    go_ret
    exact ⟨_, rfl, Own.nil _ _, Bl.refl _⟩
set_option maxRecDepth 100000 in
/-- All of some numbers behind a row of the call's own. -/
theorem appI_all (w : World) (base : Nat) (v : Value) (l l' : List Int) (p : Option Addr) (n c : Nat) (hn : n = l'.length) (hown : Own w base v l) (hin : In w p l') (hp : p = none → n = 0 ∧ c = 0) (hl : l.length + l'.length ≤ 5000) (hb : base ≤ w.heap.size) :
    ∃ v' w', (Builtin.append_ #[22, 22] 22 #[v, .slice p n c]).run Tryd.prog w = .ok v' w' ∧ Own w' base v' (l ++ l') ∧ w.grownBy w' v.ownBlock := by
  obtain ⟨i, hi, hz, h1, h2⟩ := infoI'
  cases p with
  | none =>
    obtain ⟨rfl, rfl⟩ := hp rfl
    have e : l' = [] := List.eq_nil_of_length_eq_zero hn.symm
    subst e
    refine ⟨v, w, run_append_owned_none (P := Tryd.prog) w base 22 22 3 i 1 Tryd.underlying22 hi v l.length (rowI l) hown, by rw [List.append_nil]; exact hown, ⟨rfl, rfl, rfl, Nat.le_refl _, fun _ _ _ => rfl⟩⟩
  | some x =>
    have hcells : ∀ j u, (rowI l')[j]? = some u → w.cell? (x.add j) = some u := fun j u hu => by
      have hj : j < l'.length := by
        have := (List.getElem?_eq_some_iff.1 hu).1
        simpa [rowI] using this
      rcases hin with h | ⟨x', hx, hc⟩
      · rw [h] at hj; simp at hj
      · injection hx with hx
        subst hx
        rw [rowI_get l' j hj] at hu
        rw [hc j hj]
        exact hu
    have hone : ∀ u ∈ rowI l', u.oneCell' = true := fun u hu => by
      obtain ⟨y, _, rfl⟩ := List.mem_map.1 hu
      rfl
    subst hn
    obtain ⟨v', w', hr, ho, hg, _⟩ := run_append_own (P := Tryd.prog) w base 22 22 3 i (.int .i64 0) 1 8 Tryd.underlying22 hi hz h1 h2 rfl (by decide) v l.length (rowI l) hown
      x l'.length c (rowI l') (by simp [rowI]) hcells hone (by simp [maxLen]; omega) (by omega) hb
    refine ⟨v', w', hr, ?_, hg⟩
    unfold Own
    rw [show rowI (l ++ l') = rowI l ++ rowI l' by unfold rowI; rw [List.map_append], List.length_append]
    exact ho
/-- A slice that reads so, and is nil only if it is empty. -/
def Vw (w : World) (p : Option Addr) (n c : Nat) (l : List Int) : Prop := n = l.length ∧ In w p l ∧ (p = none → n = 0 ∧ c = 0)
theorem Vw.step {w w' : World} {p : Option Addr} {n c : Nat} {l : List Int} (h : Vw w p n c l) (hb : Bl w w') : Vw w' p n c l := ⟨h.1, h.2.1.step hb, h.2.2⟩
set_option maxRecDepth 10000 in
theorem Concat_at (X : Nat) (p p' : Option Addr) (n n' c c' : Nat) (l l' : List Int) (w : World) (h0 : w.cell? ⟨X, 0, none⟩ = some (.slice p n c)) (h1 : w.cell? ⟨X, 1, none⟩ = some (.slice p' n' c')) (hv : Vw w p n c l) (hv' : Vw w p' n' c' l') (hl : n + n' ≤ 3000) :
    Calls Tryd.prog 38 #[.slice (some ⟨X, 0, none⟩) 2 2] w fun e w' => ∃ v', e = .returned v' ∧ Own w' w.heap.size v' (l ++ l') ∧ Bl w w' := by
  have HV : Hid (Vw w p n c l) := hv
  have HV' : Hid (Vw w p' n' c' l') := hv'
  clear hv hv'
  have cG := fun w => Grow_at (n + n') w (by omega)
  rw [show ((n + n' : Nat) : Int) = (n : Int) + (n' : Int) by omega] at cG
  go_enter Tryd.func38, Tryd.ntmps38
  go_wp2
  go_loopw [3, 11] (fun sv i wr => ∃ (k : Nat) (z : Int), k ≤ 2 ∧ i = .int .i64 (k : Int) ∧ sv = .int .i64 z ∧ Hid (z = if k = 0 then 0 else if k = 1 then (n : Int) else (n : Int) + (n' : Int)) ∧ wr = w) (fun _ i _ => 2 - (intOf i).toNat)
  case atStart => exact ⟨0, 0, by decide, rfl, rfl, rfl, rfl⟩
  case round =>
    obtain ⟨k, z, hk, rfl, rfl, HZ, hw⟩ := hrel
    have hw := hw.symm
    subst hw
    have hcase : k = 0 ∨ k = 1 ∨ k = 2 := by omega
    rcases hcase with rfl | rfl | rfl
    · obtain rfl : z = 0 := HZ.out
      go_wp2
      go_roundw
      case rel => exact ⟨1, n, by decide, rfl, rfl, rfl, by trivial⟩
      case measure => decide
    · obtain rfl : z = (n : Int) := HZ.out
      go_wp2
      go_roundw
      case rel => exact ⟨2, (n : Int) + (n' : Int), by decide, rfl, rfl, rfl, by trivial⟩
      case measure => decide
    · obtain rfl : z = (n : Int) + (n' : Int) := HZ.out
      go_wp2_with (go_at_call 54; refine (cG _).mono ?_; rintro e w1 ⟨gv, rfl, ho1, hb1⟩)
      obtain ⟨base, hbase⟩ : ∃ b, b = w.heap.size := ⟨_, rfl⟩
      rw [← hbase] at ho1
      have HB : Hid (base = w.heap.size) := hbase
      clear hbase
      go_loopw [6, 27] (fun sv i wx => ∃ (k : Nat) (L : List Int), k ≤ 2 ∧ i = .int .i64 (k : Int) ∧ Own wx base sv L ∧ Hid (L = if k = 0 then [] else if k = 1 then l else l ++ l') ∧ Bl w wx) (fun _ i _ => 2 - (intOf i).toNat)
      case atStart => exact ⟨0, [], by decide, rfl, ho1, rfl, hb1⟩
      case round =>
        clear ho1 hb1
        obtain ⟨k, L, hk2, rfl, ho2, HL, hb2⟩ := hrel
        have hcase : k = 0 ∨ k = 1 ∨ k = 2 := by omega
        have h0' := at_bl hb2 h0
        have h1' := at_bl hb2 h1
        have hbs : base ≤ wr.heap.size := by rw [HB.out]; exact hb2.size
        rcases hcase with rfl | rfl | rfl
        · obtain rfl : L = [] := HL.out
          obtain ⟨v', w', hr, ho', hg'⟩ := appI_all wr base _ [] l p n c HV.out.1 ho2 (HV.out.step hb2).2.1 HV.out.2.2 (by rw [← HV.out.1]; simp; omega) hbs
          have hb3 : Bl w w' := bl_grown hb2 hg' (fun k e => by rw [← HB.out]; exact (ho2.block k e).1)
          have HR : Hid _ := hr
          clear hr hg'
          go_wp2_with (at_builtin; refine Lib.wpList_append_run _ rfl (.tmp 31) (.tmp 32) _ _ rfl _ _ rfl rfl _ _ HR.out ?_)
          go_roundw
          case rel => exact ⟨1, l, by decide, rfl, ho', rfl, hb3⟩
          case measure => decide
        · obtain rfl : L = l := HL.out
          obtain ⟨v', w', hr, ho', hg'⟩ := appI_all wr base _ L l' p' n' c' HV'.out.1 ho2 (HV'.out.step hb2).2.1 HV'.out.2.2 (by rw [← HV.out.1, ← HV'.out.1]; omega) hbs
          have hb3 : Bl w w' := bl_grown hb2 hg' (fun k e => by rw [← HB.out]; exact (ho2.block k e).1)
          have HR : Hid _ := hr
          clear hr hg'
          go_wp2_with (at_builtin; refine Lib.wpList_append_run _ rfl (.tmp 31) (.tmp 32) _ _ rfl _ _ rfl rfl _ _ HR.out ?_)
          go_roundw
          case rel => exact ⟨2, L ++ l', by decide, rfl, ho', rfl, hb3⟩
          case measure => decide
        · obtain rfl : L = l ++ l' := HL.out
          go_wp2
          go_ret
          exact ⟨_, rfl, by rw [← HB.out]; exact ho2, hb2⟩
theorem fz_bl {w w' : World} (h : Bl w w') {a : Addr} (ha : a.block < w.heap.size) : w'.frozen? a = w.frozen? a := World.frozen?_of_block (Below.block h _ ha)
theorem set2_far {W : World} {b b' k o o' : Nat} {u v : Value} (h : b ≠ b') : ((W.setCell ⟨b', o, none⟩ u).setCell ⟨b', o', none⟩ v).cell? ⟨b, k, none⟩ = W.cell? ⟨b, k, none⟩ := by
  rw [World.cell?_setCell_other, World.cell?_setCell_other]
  all_goals exact fun e => h (congrArg Addr.block e).symm
theorem set2_far_d {W : World} {b b' k o o' : Nat} {u v : Value} (h : b ≠ b') : ((W.setCell ⟨b', o, none⟩ u).setCell ⟨b', o', none⟩ v).drew.cell? ⟨b, k, none⟩ = W.cell? ⟨b, k, none⟩ := set2_far h
/-- Numbers that lie in a new block. -/
def Nw (W w : World) (g : Nat) (l : List Int) : Prop := W.heap.size ≤ g ∧ g < w.heap.size ∧ ∀ k, k < l.length → w.cell? ⟨g, k, none⟩ = some (.int .i64 (l.getD k 0))
theorem own_some {w : World} {base : Nat} {v : Value} {l : List Int} (h : Own w base v l) (h0 : 0 < l.length) : ∃ g cap, v = .slice (some ⟨g, 0, none⟩) l.length cap ∧ base ≤ g ∧ g < w.heap.size ∧ ∀ k, k < l.length → w.cell? ⟨g, k, none⟩ = some (.int .i64 (l.getD k 0)) := by
  rcases h.shape with ⟨_, rfl⟩ | ⟨g, cap, h1, h2, h3, _, _, h4⟩
  · exact absurd h0 (Nat.lt_irrefl _)
  · exact ⟨g, cap, h1, h2, h3, h4⟩
set_option maxHeartbeats 4000000 in
set_option maxRecDepth 10000 in
/-- What joined answers. -/
theorem joined_at (x y : Gv) (t t' : List Int) (w : World) (hx : Vw w x.2.1 x.2.2.1 x.2.2.2 t) (hy : Vw w y.2.1 y.2.2.1 y.2.2.2 t') (hl : x.2.2.1 + y.2.2.1 ≤ 3000) (h0 : 0 < t.length) (hs : IntKind.i64.wrap (x.1 + y.1) = x.1 + y.1) :
    Calls Tryd.prog 23 #[.agg #[.int .i64 x.1, .slice x.2.1 x.2.2.1 x.2.2.2], .agg #[.int .i64 y.1, .slice y.2.1 y.2.2.1 y.2.2.2]] w fun e w' => ∃ g cap, e = .returned (.agg #[.int .i64 (x.1 + y.1), .slice (some ⟨g, 0, none⟩) (t ++ t').length cap]) ∧ Nw w w' g (t ++ t') ∧ Bl w w' := by
  obtain ⟨x0, xp, xn, xc⟩ := x
  obtain ⟨y0, yp, yn, yc⟩ := y
  simp only at hx hy hl hs ⊢
  have HX : Hid (Vw w xp xn xc t) := hx
  have HY : Hid (Vw w yp yn yc t') := hy
  clear hx hy
  go_enter Tryd.func23, Tryd.ntmps23
  go_wp2_with fail
  obtain ⟨Wb, hWb⟩ : ∃ Wb, Wb = (((w.alloc (.cells #[.int .i64 x0, .slice xp xn xc] 49)).alloc (.cells #[.int .i64 y0, .slice yp yn yc] 49)).alloc (.cells #[.int .i64 0, .slice none 0 0] 49)) := ⟨_, rfl⟩
  have a0 : Wb.cell? ⟨w.heap.size, 0, none⟩ = some (.int .i64 x0) := by rw [hWb]; go_simp
  have a1 : Wb.cell? ⟨w.heap.size, 1, none⟩ = some (.slice xp xn xc) := by rw [hWb]; go_simp
  have b0 : Wb.cell? ⟨w.heap.size + 1, 0, none⟩ = some (.int .i64 y0) := by rw [hWb]; go_simp
  have b1 : Wb.cell? ⟨w.heap.size + 1, 1, none⟩ = some (.slice yp yn yc) := by rw [hWb]; go_simp
  have c0 : Wb.cell? ⟨w.heap.size + 1 + 1, 0, none⟩ = some (.int .i64 0) := by rw [hWb]; go_simp
  have c1 : Wb.cell? ⟨w.heap.size + 1 + 1, 1, none⟩ = some (.slice none 0 0) := by rw [hWb]; go_simp
  have f0 : Wb.frozen? ⟨w.heap.size + 1 + 1, 0, none⟩ = false := by rw [hWb]; go_simp
  have f1 : Wb.frozen? ⟨w.heap.size + 1 + 1, 1, none⟩ = false := by rw [hWb]; go_simp
  have hB : Bl w Wb := by rw [hWb]; exact ((Bl.refl w).alloc _).alloc _ |>.alloc _
  have hsz : Wb.heap.size = w.heap.size + 3 := by rw [hWb]; go_simp
  rw [← hWb]
  clear hWb
  have cC : ∀ W X, Bl w W → W.cell? ⟨X, 0, none⟩ = some (.slice xp xn xc) → W.cell? ⟨X, 1, none⟩ = some (.slice yp yn yc) → Calls Tryd.prog 38 #[.slice (some ⟨X, 0, none⟩) 2 2] W fun e w' => ∃ g cap, e = .returned (.slice (some ⟨g, 0, none⟩) (t ++ t').length cap) ∧ Nw W w' g (t ++ t') ∧ Bl W w' := fun W X hb h0' h1 =>
    (Concat_at X xp yp xn yn xc yc t t' W h0' h1 (HX.out.step hb) (HY.out.step hb) hl).mono fun e w' ⟨v', he, ho, hb'⟩ => by
      obtain ⟨g, cap, rfl, q⟩ := own_some ho (by rw [List.length_append]; omega)
      exact ⟨g, cap, he, q, hb'⟩
  obtain ⟨N, hN⟩ : ∃ N, N = (t ++ t').length := ⟨_, rfl⟩
  rw [← hN] at cC
  have HN : Hid (N = (t ++ t').length) := hN
  clear hN
  obtain ⟨A, hA⟩ : ∃ A, A = w.heap.size := ⟨_, rfl⟩
  rw [← hA] at a0 a1 b0 b1 c0 c1 f0 f1 ⊢
  have HA : Hid (A = w.heap.size ∧ Wb.heap.size = A + 3) := ⟨hA, by rw [hsz, hA]⟩
  have HB : Hid (Bl w Wb) := hB
  clear hA hB hsz
  go_region_held3 (fun w' => w'.cell? ⟨A, 0, none⟩ = some (.int .i64 x0) ∧ w'.cell? ⟨A, 1, none⟩ = some (.slice xp xn xc) ∧ w'.cell? ⟨A + 1, 0, none⟩ = some (.int .i64 y0) ∧ w'.cell? ⟨A + 1, 1, none⟩ = some (.slice yp yn yc)) (refine ⟨?_, ?_, ?_, ?_⟩ <;> first | assumption | exact at_bl (Bl.drew (Bl.refl _)) (by assumption) | exact at_bl ((Bl.refl _).alloc _) (by assumption) | exact at_bl (Bl.drew ((Bl.refl _).alloc _)) (by assumption) | exact at_bl ((Bl.drew (Bl.refl _)).alloc _) (by assumption) | exact (set2_far (by omega)).trans (by assumption) | exact (set2_far_d (by omega)).trans (by assumption)) (first
    | (go_at_call 38; refine (cC _ _ (HB.out.trans (((Bl.refl _).drew).alloc _)) (by go_simp) (by go_simp)).mono ?_; rintro e w4 ⟨g, cap, rfl, ho, hb⟩; have hq := Bl.trans (((Bl.refl Wb).drew).alloc _) hb; have a0' := at_bl hq a0; have a1' := at_bl hq a1; have b0' := at_bl hq b0; have b1' := at_bl hq b1; have c0' := at_bl hq c0; have c1' := at_bl hq c1; have f0' := (fz_bl hq (a := ⟨A + 1 + 1, 0, none⟩) (by have := HA.out; show A + 1 + 1 < _; omega)).trans f0; have f1' := (fz_bl hq (a := ⟨A + 1 + 1, 1, none⟩) (by have := HA.out; show A + 1 + 1 < _; omega)).trans f1; have HO : Hid _ := ho; have HB4 : Hid _ := hb; clear ho hb hq))
  go_wp2_with fail
  have hv : ((w4.setCell ⟨A + 1 + 1, 0, none⟩ (.int .i64 (x0 + y0))).setCell ⟨A + 1 + 1, 1, none⟩ (.slice (some ⟨g, 0, none⟩) N cap)).cell? ⟨A + 1 + 1, 0, none⟩ = some (.int .i64 (x0 + y0)) := by go_simp
  have hv1 : ((w4.setCell ⟨A + 1 + 1, 0, none⟩ (.int .i64 (x0 + y0))).setCell ⟨A + 1 + 1, 1, none⟩ (.slice (some ⟨g, 0, none⟩) N cap)).cell? ⟨A + 1 + 1, 1, none⟩ = some (.slice (some ⟨g, 0, none⟩) N cap) := by go_simp
  have hfin : Nw w ((w4.setCell ⟨A + 1 + 1, 0, none⟩ (.int .i64 (x0 + y0))).setCell ⟨A + 1 + 1, 1, none⟩ (.slice (some ⟨g, 0, none⟩) N cap)) g (t ++ t') ∧ Bl w ((w4.setCell ⟨A + 1 + 1, 0, none⟩ (.int .i64 (x0 + y0))).setCell ⟨A + 1 + 1, 1, none⟩ (.slice (some ⟨g, 0, none⟩) N cap)) := by
    have ha := HA.out
    have ho := HO.out
    have hb4 : Bl w w4 := HB.out.trans (Bl.trans (((Bl.refl Wb).drew).alloc _) HB4.out)
    have hs1 : Wb.heap.size + 1 ≤ g := by
      have := ho.1
      simpa using this
    refine ⟨⟨by omega, by have := ho.2.1; simpa using this, fun k hk => ?_⟩, (hb4.setCell (by show w.heap.size ≤ A + 1 + 1; omega) _).setCell (by show w.heap.size ≤ A + 1 + 1; omega) _⟩
    rw [set2_far (by omega)]
    exact ho.2.2 k hk
  rw [← HN.out]
  generalize (w4.setCell ⟨A + 1 + 1, 0, none⟩ (.int .i64 (x0 + y0))).setCell ⟨A + 1 + 1, 1, none⟩ (.slice (some ⟨g, 0, none⟩) N cap) = w5 at hv hv1 hfin ⊢
  refine bodyPost_ret (v := .agg #[.int .i64 (x0 + y0), .slice (some ⟨g, 0, none⟩) N cap]) (by simp [results, Tryd.f23, go_sem, hv, hv1]) rfl ⟨g, cap, rfl, hfin⟩
end Go.Proofs.YtkldnapbeebdkaaDoor.hf
