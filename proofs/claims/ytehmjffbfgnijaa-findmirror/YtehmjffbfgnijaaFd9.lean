/- The other way round: slices.Reverse of numbers and of bytes; mirrored of the laws. -/
import Derived.Test.YtehmjffbfgnijaaFd8
namespace Go.Proofs.Ytehmjffbfgnijaa.find
set_option linter.unusedVariables false
open Go.ChangeShapes Go.WideShapes Go.ChangeAt Go.RowKit
open mem rows fd

/-- The first i and the last i have changed their places. -/
def rvl (l : List Int) (i : Nat) : List Int := (List.range l.length).map fun k => if k < i ∨ l.length - i ≤ k then l.getD (l.length - 1 - k) 0 else l.getD k 0
theorem rvl_len (l : List Int) (i : Nat) : (rvl l i).length = l.length := by simp [rvl]
theorem rvl_at (l : List Int) (i k : Nat) (h : k < l.length) : (rvl l i).getD k 0 = if k < i ∨ l.length - i ≤ k then l.getD (l.length - 1 - k) 0 else l.getD k 0 := by
  rw [List.getD_eq_getElem?_getD, rvl, List.getElem?_map, List.getElem?_range h]
  rfl
theorem ext_getD {a b : List Int} (hl : a.length = b.length) (h : ∀ k, k < a.length → a.getD k 0 = b.getD k 0) : a = b := by
  refine List.ext_getElem hl fun k h1 h2 => ?_
  have := h k h1
  rw [List.getD_eq_getElem?_getD, List.getD_eq_getElem?_getD, List.getElem?_eq_getElem h1, List.getElem?_eq_getElem h2] at this
  exact this
theorem getD_set (l : List Int) (i k : Nat) (z : Int) (h : k < l.length) : (l.set i z).getD k 0 = if i = k then z else l.getD k 0 := by
  rw [List.getD_eq_getElem?_getD, List.getElem?_set, List.getD_eq_getElem?_getD]
  split
  · rename_i e
    subst e
    rw [if_pos h]
    rfl
  · rfl
theorem rvl_zero (l : List Int) : rvl l 0 = l := ext_getD (rvl_len l 0) fun k h => by
  rw [rvl_len] at h
  rw [rvl_at l 0 k h, if_neg (by omega)]
theorem rvl_step (l : List Int) (i j : Nat) (hj : j = l.length - 1 - i) (h : i < j) : ((rvl l i).set i (l.getD j 0)).set j (l.getD i 0) = rvl l (i + 1) := by
  refine ext_getD (by rw [List.length_set, List.length_set, rvl_len, rvl_len]) fun k hk => ?_
  rw [List.length_set, List.length_set, rvl_len] at hk
  rw [getD_set _ _ _ _ (by rw [List.length_set, rvl_len]; exact hk), getD_set _ _ _ _ (by rw [rvl_len]; exact hk), rvl_at l i k hk, rvl_at l (i + 1) k hk]
  by_cases e1 : j = k
  · subst e1
    rw [if_pos rfl, if_pos (by omega), show l.length - 1 - j = i by omega]
  · rw [if_neg e1]
    by_cases e2 : i = k
    · subst e2
      rw [if_pos rfl, if_pos (by omega), ← hj]
    · rw [if_neg e2]
      by_cases h' : k < i ∨ l.length - i ≤ k
      · rw [if_pos h', if_pos (by omega)]
      · rw [if_neg h', if_neg (by omega)]
theorem rvl_end (l : List Int) (i : Nat) (h : l.length ≤ 2 * i + 1) (hi : i ≤ l.length) : rvl l i = l.reverse := by
  refine ext_getD (by rw [rvl_len, List.length_reverse]) fun k hk => ?_
  rw [rvl_len] at hk
  rw [rvl_at l i k hk, List.getD_eq_getElem?_getD (l := l.reverse), List.getElem?_reverse hk, ← List.getD_eq_getElem?_getD]
  split
  · rfl
  · rw [show l.length - 1 - k = k by omega]
/-- What a row holds in the middle of being turned round. -/
theorem rvl_i (l : List Int) (i j : Nat) (hj : j = l.length - 1 - i) (h : i < j) : (rvl l i).getD i 0 = l.getD i 0 ∧ (rvl l i).getD j 0 = l.getD j 0 := by
  rw [rvl_at l i i (by omega), rvl_at l i j (by omega), if_neg (by omega), if_neg (by omega)]
  exact ⟨rfl, rfl⟩
theorem grownBy_refl (w : World) (row : Option Nat) : w.grownBy w row := ⟨rfl, rfl, rfl, Nat.le_refl _, fun _ _ _ => rfl⟩
theorem grownBy_set {w w' : World} {g : Nat} (h : w.grownBy w' (some g)) (k : Nat) (v : Value) : w.grownBy (w'.setCell ⟨g, k, none⟩ v) (some g) := by
  refine ⟨h.os, h.tape, h.output, ?_, fun j hj hne => ?_⟩
  · simp [World.setCell]; exact h.size
  · have : ¬ g = j := fun e => hne (by rw [e])
    rw [← h.block j hj hne]
    simp [World.setCell, Array.getElem?_modify, this]
theorem grownBy_drew {w w' : World} {row : Option Nat} (h : w.grownBy w' row) : w.grownBy w'.drew row := ⟨h.os, h.tape, h.output, h.size, h.block⟩
set_option maxHeartbeats 1000000 in
theorem reverse_at (g c : Nat) (l : List Int) (base : Nat) (w : World) (hl : l.length ≤ 5000) (hown : Own w base (.slice (some ⟨g, 0, none⟩) l.length c) l) :
    Calls Try.prog 9 #[.slice (some ⟨g, 0, none⟩) l.length c] w fun e w' => e = .returned (.tuple #[]) ∧ Own w' base (.slice (some ⟨g, 0, none⟩) l.length c) l.reverse ∧ w.grownBy w' (some g) := by
  obtain ⟨n, hn⟩ : ∃ n, n = l.length := ⟨_, rfl⟩
  rw [← hn] at hl hown ⊢
  have HN : Hid (n = l.length) := hn
  clear hn
  go_enter Try.func9, Try.ntmps9
  go_wp2
  go_loopw [2, 3] (fun iv jv wr => ∃ i : Nat, i ≤ n ∧ iv = .int .i64 (i : Int) ∧ jv = .int .i64 ((n : Int) - 1 - (i : Int)) ∧ Own wr base (.slice (some ⟨g, 0, none⟩) n c) (rvl l i) ∧ w.grownBy wr (some g)) (fun iv _ _ => n - (intOf iv).toNat)
  case atStart => exact ⟨0, Nat.zero_le _, rfl, by simp, by rw [rvl_zero]; exact hown, grownBy_refl _ _⟩
  case round =>
    obtain ⟨i, hi, rfl, rfl, ho, hg⟩ := hrel
    by_cases hlt : 2 * i + 1 < n
    · obtain ⟨j, hj⟩ : ∃ j, j = n - 1 - i := ⟨_, rfl⟩
      have hji : (n : Int) - 1 - (i : Int) = (j : Int) := by omega
      have hij : i < j := by omega
      rw [hji]
      have hjl : j = l.length - 1 - i := by rw [← HN.out]; exact hj
      obtain ⟨r1, r2⟩ := rvl_i l i j hjl hij
      have hst := rvl_step l i j hjl hij
      have hln := rvl_len l i
      rw [← HN.out] at hln
      rcases ho.shape with ⟨h, _⟩ | ⟨g', cap', hve, _, _, _, _, hc⟩
      · cases h
      · injection hve with e1 e2 e3
        injection e1 with e1
        injection e1 with e1
        subst e1
        have c1 := hc i (by omega)
        have c2 := hc j (by omega)
        rw [r1] at c1
        rw [r2] at c2
        have f1 := own_frozen ho i
        have f2 := own_frozen ho j
        have hlz : (i : Int) < (j : Int) := by omega
        have g1 : (0 : Int) ≤ (i : Int) ∧ (i : Int) < (n : Int) := by omega
        have g2 : (0 : Int) ≤ (j : Int) ∧ (j : Int) < (n : Int) := by omega
        generalize l.getD i 0 = x at c1 hst
        generalize l.getD j 0 = y at c2 hst
        have HS : Hid _ := hst
        have HJ : Hid (j = n - 1 - i) := hj
        clear hst r1 r2 hc hj hji hjl e2 e3
        go_wp2
        go_region
        go_wp2
        go_roundw
        case rel =>
          refine ⟨i + 1, by omega, by go_num, ?_, ?_, grownBy_drew (grownBy_set (grownBy_set hg _ _) _ _)⟩
          · have := HJ.out
            have e : (j : Int) - 1 = (n : Int) - 1 - ((i + 1 : Nat) : Int) := by omega
            rw [e]
          · have h1 := own_set ho i y (by omega)
            have h2 := own_set h1 j x (by rw [List.length_set]; omega)
            rw [HS.out] at h2
            exact h2
        case measure => simp [intOf]; omega
    · have hnl : ¬ ((i : Int) < (n : Int) - 1 - (i : Int)) := by omega
      have he := rvl_end l i (by rw [← HN.out]; omega) (by rw [← HN.out]; exact hi)
      rw [he] at ho
      go_wp2
      go_end0
      exact ⟨rfl, ho, hg⟩
theorem bl_grownBy {w0 w w' : World} {g : Nat} (h : Bl w0 w) (hg : w.grownBy w' (some g)) (hg0 : w0.heap.size ≤ g) : Bl w0 w' := bl_grown h hg (fun k e => by injection e with e; omega)
set_option maxHeartbeats 1000000 in
theorem reverseB_at (g c : Nat) (l : List Int) (w : World) (hl : l.length ≤ 5000) (hrw : Rw w 5 g l) :
    Calls Try.prog 17 #[.slice (some ⟨g, 0, none⟩) l.length c] w fun e w' => e = .returned (.tuple #[]) ∧ Rw w' 5 g l.reverse ∧ w.grownBy w' (some g) := by
  obtain ⟨n, hn⟩ : ∃ n, n = l.length := ⟨_, rfl⟩
  rw [← hn] at hl ⊢
  have HN : Hid (n = l.length) := hn
  clear hn
  go_enter Try.func17, Try.ntmps17
  go_wp2
  go_loopw [2, 3] (fun iv jv wr => ∃ i : Nat, i ≤ n ∧ iv = .int .i64 (i : Int) ∧ jv = .int .i64 ((n : Int) - 1 - (i : Int)) ∧ Rw wr 5 g (rvl l i) ∧ w.grownBy wr (some g)) (fun iv _ _ => n - (intOf iv).toNat)
  case atStart => exact ⟨0, Nat.zero_le _, rfl, by simp, by rw [rvl_zero]; exact hrw, grownBy_refl _ _⟩
  case round =>
    obtain ⟨i, hi, rfl, rfl, ho, hg⟩ := hrel
    by_cases hlt : 2 * i + 1 < n
    · obtain ⟨j, hj⟩ : ∃ j, j = n - 1 - i := ⟨_, rfl⟩
      have hji : (n : Int) - 1 - (i : Int) = (j : Int) := by omega
      have hij : i < j := by omega
      rw [hji]
      have hjl : j = l.length - 1 - i := by rw [← HN.out]; exact hj
      obtain ⟨r1, r2⟩ := rvl_i l i j hjl hij
      have hst := rvl_step l i j hjl hij
      have hln := rvl_len l i
      rw [← HN.out] at hln
      have c1 := ho.cell (j := i) (by omega)
      have c2 := ho.cell (j := j) (by omega)
      rw [r1] at c1
      rw [r2] at c2
      have f1 := ho.frozen (j := i) (by omega)
      have f2 := ho.frozen (j := j) (by omega)
      have hlz : (i : Int) < (j : Int) := by omega
      have g1 : (0 : Int) ≤ (i : Int) ∧ (i : Int) < (n : Int) := by omega
      have g2 : (0 : Int) ≤ (j : Int) ∧ (j : Int) < (n : Int) := by omega
      generalize l.getD i 0 = x at c1 hst
      generalize l.getD j 0 = y at c2 hst
      have HS : Hid _ := hst
      have HJ : Hid (j = n - 1 - i) := hj
      clear hst r1 r2 hj hji hjl
      go_wp2
      go_region
      go_wp2
      go_roundw
      case rel =>
        refine ⟨i + 1, by omega, by go_num, ?_, ?_, grownBy_drew (grownBy_set (grownBy_set hg _ _) _ _)⟩
        · have := HJ.out
          have e : (j : Int) - 1 = (n : Int) - 1 - ((i + 1 : Nat) : Int) := by omega
          rw [e]
        · have h1 := ho.set i y (by omega)
          have h2 := h1.set j x (by rw [List.length_set]; omega)
          rw [HS.out] at h2
          exact h2.drew
      case measure => simp [intOf]; omega
    · have hnl : ¬ ((i : Int) < (n : Int) - 1 - (i : Int)) := by omega
      have he := rvl_end l i (by rw [← HN.out]; omega) (by rw [← HN.out]; exact hi)
      rw [he] at ho
      go_wp2
      go_end0
      exact ⟨rfl, ho, hg⟩
/-- A text's bytes. -/
def bys (s : ByteArray) : List Int := s.data.toList.map fun b => (b.toNat : Int)
theorem bys_len (s : ByteArray) : (bys s).length = s.size := by simp [bys]
theorem bys_at (s : ByteArray) (j : Nat) (h : j < s.size) : (bys s).getD j 0 = sb s j := by
  unfold bys sb
  have h' : j < s.data.toList.length := by simpa using h
  simp
  rw [Array.getElem?_eq_getElem (by simpa using h')]
  rfl
/-- A text the other way round. -/
def mir (s : ByteArray) : ByteArray := strOfNums (bys s).reverse
theorem mirrored_at (s : ByteArray) (w : World) (hs : s.size ≤ 4000) :
    Calls Try.prog 8 #[.string s] w fun e w' => e = .returned (.string (mir s)) ∧ Bl w w' := by
  have hcv := fun w => run_bytes_of_string (P := Try.prog) w 9 44 5 s Try.underlying9 Try.underlying44 Try.underlying5
  go_enter Try.func8, Try.ntmps8
  go_wp2_with (fail)
  generalize grownCap w s.size 0 5 = cc
  have hr0 : Rw (w.alloc (.cells (bytesRow s cc) 5 ((bytesRow s cc).size, (bytesRow s cc).size + 1))).drew 5 w.heap.size (bys s) := (Rw.of_text w 5 s cc).drew
  have hb0 : Bl w (w.alloc (.cells (bytesRow s cc) 5 ((bytesRow s cc).size, (bytesRow s cc).size + 1))).drew := ((Bl.refl w).alloc _).drew
  generalize (w.alloc (.cells (bytesRow s cc) 5 ((bytesRow s cc).size, (bytesRow s cc).size + 1))).drew = w1 at *
  have cR := reverseB_at w.heap.size cc (bys s) w1 (by rw [bys_len]; omega) hr0
  rw [bys_len] at cR
  refine cR.mono ?_
  rintro e w2 ⟨rfl, hr2, hg2⟩
  have htx := hr2.text (P := Try.prog) Try.underlying44 Try.underlying5 Try.underlying9 s.size cc (by rw [List.length_reverse, bys_len])
  clear hcv cR hr0
  go_wp2
  go_ret
  exact ⟨rfl, bl_grownBy hb0 hg2 (Nat.le_refl _)⟩
theorem sb_nums (zs : List Int) (h : ∀ z ∈ zs, 0 ≤ z ∧ z < 256) (j : Nat) : sb (strOfNums zs) j = zs.getD j 0 := by
  unfold sb
  rw [strOfNums_data]
  by_cases hj : j < zs.length
  · have hz := h _ (List.getElem_mem hj)
    rw [List.getD_eq_getElem?_getD, List.getD_eq_getElem?_getD, List.getElem?_map, List.getElem?_eq_getElem hj]
    simp only [Option.map_some, Option.getD_some]
    obtain ⟨n, hn⟩ := Int.eq_ofNat_of_zero_le hz.1
    rw [hn]
    have : n < 256 := by omega
    simp [Nat.mod_eq_of_lt this]
  · rw [List.getD_eq_getElem?_getD, List.getD_eq_getElem?_getD, List.getElem?_eq_none (by simpa using hj), List.getElem?_eq_none (by omega)]
    rfl
theorem mir_size (s : ByteArray) : (mir s).size = s.size := by
  unfold mir
  rw [show (strOfNums (bys s).reverse).size = (strOfNums (bys s).reverse).data.toList.length from rfl, strOfNums_data]
  simp [bys_len]
theorem mir_at (s : ByteArray) (j : Nat) (h : j < s.size) : sb (mir s) j = sb s (s.size - 1 - j) := by
  unfold mir
  rw [sb_nums _ (fun z hz => ?_) j, List.getD_eq_getElem?_getD, List.getElem?_reverse (by rw [bys_len]; exact h), ← List.getD_eq_getElem?_getD, bys_len, bys_at s _ (by omega)]
  rw [List.mem_reverse] at hz
  obtain ⟨b, _, rfl⟩ := List.mem_map.1 hz
  have := b.toNat_lt
  omega
theorem mir_pls (s p : ByteArray) (h0 : 0 < p.size) (hp : p.size ≤ s.size) :
    ((pls (sb (mir p)) (sb (mir s)) p.size s.size).map (fun x => s.size - p.size - x)).reverse = pls (sb p) (sb s) p.size s.size := by
  have key : ∀ x y, x + y + p.size = s.size → St (sb (mir p)) (sb (mir s)) p.size y = St (sb p) (sb s) p.size x := fun x y e => by
    unfold St
    refine decide_eq_decide.2 ⟨fun h j hj => ?_, fun h j hj => ?_⟩
    · have := h (p.size - 1 - j) (by omega)
      rw [mir_at p _ (by omega), mir_at s _ (by omega), show p.size - 1 - (p.size - 1 - j) = j by omega, show s.size - 1 - (y + (p.size - 1 - j)) = x + j by omega] at this
      exact this
    · have := h (p.size - 1 - j) (by omega)
      rw [mir_at p _ (by omega), mir_at s _ (by omega), show s.size - 1 - (y + j) = x + (p.size - 1 - j) by omega]
      exact this
  have hm : ∀ y, y ∈ pls (sb (mir p)) (sb (mir s)) p.size s.size → y + p.size ≤ s.size := fun y hy => by
    have := ((mem_sta _ _ _).1 hy).1
    omega
  refine rising_same _ _ ?_ (sta_rising _ _) fun x => ?_
  · rw [List.pairwise_reverse]
    refine List.Pairwise.map _ (R := fun a b => a < b ∧ b + p.size ≤ s.size) (fun a b h => by omega) ?_
    exact (sta_rising _ _).imp_of_mem (fun {a b} ha hb h => ⟨h, hm b hb⟩)
  · rw [List.mem_reverse, List.mem_map]
    unfold pls
    rw [mem_sta]
    constructor
    · rintro ⟨y, hy, rfl⟩
      rw [mem_sta] at hy
      exact ⟨by omega, by rw [← key (s.size - p.size - y) y (by omega)]; exact hy.2⟩
    · rintro ⟨h1, h2⟩
      refine ⟨s.size - p.size - x, (mem_sta _ _ _).2 ⟨by omega, ?_⟩, by omega⟩
      rw [key x (s.size - p.size - x) (by omega)]
      exact h2
theorem pls_short (p f : Nat → Int) (L N : Nat) (h : N < L) : pls p f L N = [] := by
  unfold pls
  rw [show N + 1 - L = 0 by omega]
  rfl
/-- The first i have been turned over. -/
def mpl (d : Int) (l : List Int) (i : Nat) : List Int := (List.range l.length).map fun k => if k < i then d - l.getD k 0 else l.getD k 0
theorem mpl_len (d : Int) (l : List Int) (i : Nat) : (mpl d l i).length = l.length := by simp [mpl]
theorem mpl_at (d : Int) (l : List Int) (i k : Nat) (h : k < l.length) : (mpl d l i).getD k 0 = if k < i then d - l.getD k 0 else l.getD k 0 := by
  rw [List.getD_eq_getElem?_getD, mpl, List.getElem?_map, List.getElem?_range h]
  rfl
theorem mpl_zero (d : Int) (l : List Int) : mpl d l 0 = l := ext_getD (mpl_len d l 0) fun k h => by
  rw [mpl_len] at h
  rw [mpl_at d l 0 k h, if_neg (by omega)]
theorem mpl_step (d : Int) (l : List Int) (i : Nat) (h : i < l.length) : (mpl d l i).set i (d - l.getD i 0) = mpl d l (i + 1) := by
  refine ext_getD (by rw [List.length_set, mpl_len, mpl_len]) fun k hk => ?_
  rw [List.length_set, mpl_len] at hk
  rw [getD_set _ _ _ _ (by rw [mpl_len]; exact hk), mpl_at d l i k hk, mpl_at d l (i + 1) k hk]
  by_cases e : i = k
  · subst e; rw [if_pos rfl, if_pos (by omega)]
  · rw [if_neg e]
    by_cases h' : k < i
    · rw [if_pos h', if_pos (by omega)]
    · rw [if_neg h', if_neg (by omega)]
theorem mpl_end (d : Int) (l : List Int) : mpl d l l.length = l.map fun x => d - x := by
  refine ext_getD (by rw [mpl_len, List.length_map]) fun k hk => ?_
  rw [mpl_len] at hk
  rw [mpl_at d l _ k hk, if_pos hk]
  simp [hk]
theorem mpl_mir (s p : ByteArray) (h0 : 0 < p.size) :
    ((ints (pls (sb (mir p)) (sb (mir s)) p.size s.size)).map fun x => (s.size : Int) - (p.size : Int) - x).reverse = ints (pls (sb p) (sb s) p.size s.size) := by
  rcases Nat.lt_or_ge s.size p.size with h | h
  · rw [pls_short _ _ _ _ h, pls_short _ _ _ _ h]; rfl
  · rw [← mir_pls s p h0 h]
    unfold ints
    rw [List.map_reverse, List.map_map, List.map_map]
    congr 1
    refine List.map_congr_left fun y hy => ?_
    have := ((mem_sta _ _ _).1 hy).1
    simp only [Function.comp]
    omega
theorem reverse_nil (w : World) : Calls Try.prog 9 #[.slice none 0 0] w fun e w' => e = .returned (.tuple #[]) ∧ w' = w := by
  go_enter Try.func9, Try.ntmps9
  go_wp2
  go_loopw [2, 3] (fun iv jv wr => iv = .int .i64 0 ∧ jv = .int .i64 (-1) ∧ wr = w) (fun _ _ _ => 0)
  case atStart => exact ⟨rfl, rfl, rfl⟩
  case round =>
    obtain ⟨rfl, rfl, rfl⟩ := hrel
    go_wp2
    go_end0
    exact ⟨rfl, rfl⟩
end Go.Proofs.Ytehmjffbfgnijaa.find
