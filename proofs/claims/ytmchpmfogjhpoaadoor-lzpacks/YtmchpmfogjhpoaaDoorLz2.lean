/- What nearest of package lz answers: where the same three bytes stood last. -/
import Derived.Test.YtmchpmfogjhpoaaDoorLz1
import Derived.Maps.OwnSet
import Derived.StringKeys
namespace Go.Proofs.YtmchpmfogjhpoaaDoor.lz
set_option linter.unusedVariables false
open Go.ChangeShapes Go.WideShapes Go.ChangeAt Go.RowKit Go.Maps
open mem rows

theorem lawS : Keyed Tryd.prog 9 := string_keyed Tryd.underlying9
def skey (x : List UInt8) : Lit := .string x
theorem skey_is (x : List UInt8) : WideAt.IsKeyLit (skey x) := trivial
theorem skey_inj {a b : List UInt8} (h : a ≠ b) : skey a ≠ skey b := fun e => h (by unfold skey at e; injection e)
/-- A map of the call's own that tells these numbers by texts. -/
def Sm (w : World) (b : Nat) (f : List UInt8 → Option Int) (c : Nat) : Prop :=
  ∃ D : DataW Unit, w.ownsMap Tryd.prog 9 (plainElem Tryd.prog 3) b c D ∧ ∀ x, Maps.has D (skey x) = (f x).isSome ∧ D.atKey (skey x) (.lit (.int .i64 0)) = .lit (.int .i64 ((f x).getD 0))
theorem Sm.step {w w' : World} {b c : Nat} {f : List UInt8 → Option Int} {row : Option Nat} (h : Sm w b f c) (hg : w.grownBy w' row) (hne : some b ≠ row) : Sm w' b f c := by
  obtain ⟨D, h1, h2⟩ := h
  exact ⟨D, h1.kept hg hne, h2⟩
theorem Sm.made (w : World) : Sm (w.alloc (.map #[] 0)) w.heap.size (fun _ => none) 0 :=
  ⟨_, World.ownsMap_made w Tryd.prog 9 _, fun x => ⟨rfl, rfl⟩⟩
theorem zero_int (w : World) : (zeroValue 3).run Tryd.prog w = .ok (.int .i64 0) w := by kernel_rfl
theorem Sm.look {w : World} {b c : Nat} {f : List UInt8 → Option Int} (h : Sm w b f c) (t : ByteArray) (ht : t.size ≤ 5000) :
    (Instr.lookup 85 (.map (some b)) (.string t) true).run Tryd.prog w = .ok (.tuple #[.int .i64 ((f t.data.toList).getD 0), .bool (f t.data.toList).isSome]) w := by
  obtain ⟨D, h1, h2⟩ := h
  obtain ⟨x, ps, hrun, hx⟩ := h1.look_ok lawS Tryd.underlying85 (zero_int w) (plainElem_int Tryd.underlying3 (a := 0) (by decide)) (WideMaps.keyOf_string_mk Tryd.underlying9 (s := t) (by unfold maxLen; omega))
  obtain ⟨h3, h4⟩ := h2 t.data.toList
  have h4' : D.atKey (.string t.data.toList) (.lit (.int .i64 0)) = .lit (.int .i64 ((f t.data.toList).getD 0)) := h4
  have h3' : Maps.has D (.string t.data.toList) = (f t.data.toList).isSome := h3
  rw [h4'] at hx
  obtain ⟨a, rfl, ha, _⟩ := plainElem_int_inv Tryd.underlying3 hx
  simp only [Prod.mk.injEq, DataW.lit.injEq, Lit.int.injEq, true_and] at ha
  rw [hrun, h3', ha.1]
theorem Sm.put {w : World} {b c : Nat} {f : List UInt8 → Option Int} (h : Sm w b f c) (t : ByteArray) (x : Int) (ht : t.size ≤ 5000) (hx : 0 ≤ x ∧ x ≤ 1000000) (hc : c ≤ 5000) :
    ∃ w', (Instr.mapUpdate 85 (.map (some b)) (.string t) (.int .i64 x)).run Tryd.prog w = .ok () w' ∧ Sm w' b (fun y => if y = t.data.toList then some x else f y) (c + 1) ∧ w.grownBy w' (some b) := by
  obtain ⟨D, h1, h2⟩ := h
  obtain ⟨w', hr, ho, hg⟩ := h1.update lawS Tryd.underlying85 (by unfold maxLen; omega) (WideMaps.keyOf_string_mk Tryd.underlying9 (s := t) (by unfold maxLen; omega)) (plainElem_int Tryd.underlying3 (a := x) (WalkArith.wf_i64 (by omega)))
  refine ⟨w', hr, ⟨_, ho, fun y => ?_⟩, hg⟩
  show Maps.has (D.put (skey t.data.toList) _) (skey y) = _ ∧ (D.put (skey t.data.toList) _).atKey (skey y) _ = _
  by_cases e : y = t.data.toList
  · subst e
    rw [has_put_same h1.isMap (skey_is _), atKey_put_same h1.isMap (skey_is _)]
    simp
  · rw [has_put_other (skey_inj e), atKey_put_other (skey_inj e)]
    simp only [if_neg e]
    exact h2 y
/-- Three bytes of a text. -/
def th3 (s : ByteArray) (i : Nat) : List UInt8 := (s.extract i (i + 3)).data.toList
theorem th3_len (s : ByteArray) (i : Nat) (h : i + 3 ≤ s.size) : (th3 s i).length = 3 := by
  show (s.extract i (i + 3)).size = 3
  rw [ByteArray.size_extract]; omega
theorem th3_at (s : ByteArray) (i t : Nat) (h : i + 3 ≤ s.size) (ht : t < 3) : ((th3 s i).getD t 0).toNat = (sb s (i + t)).toNat := by
  have h1 : t < (s.extract i (i + 3)).size := by rw [ByteArray.size_extract]; omega
  have e := sb_get (s.extract i (i + 3)) t h1
  rw [ByteArray.getElem_extract] at e
  have e2 := sb_get s (i + t) (by omega)
  unfold sb at e
  unfold th3
  omega
theorem th3_same (s : ByteArray) (k i : Nat) (hk : k + 3 ≤ s.size) (hi : i + 3 ≤ s.size) : th3 s k = th3 s i ↔ Th (sb s) k i := by
  have hb := fun j => sb_bd s j
  constructor
  · intro e
    have key : ∀ t, t < 3 → sb s (k + t) = sb s (i + t) := fun t ht => by
      have h1 := th3_at s k t hk ht
      have h2 := th3_at s i t hi ht
      rw [e] at h1
      have := hb (k + t)
      have := hb (i + t)
      omega
    exact ⟨key 0 (by omega), key 1 (by omega), key 2 (by omega)⟩
  · rintro ⟨a0, a1, a2⟩
    have hk3 := th3_len s k hk
    have hi3 := th3_len s i hi
    have key : ∀ t, t < 3 → (th3 s k).getD t 0 = (th3 s i).getD t 0 := fun t ht => by
      apply UInt8.toNat_inj.1
      rw [th3_at s k t hk ht, th3_at s i t hi ht]
      rcases (show t = 0 ∨ t = 1 ∨ t = 2 by omega) with rfl | rfl | rfl
      · rw [Nat.add_zero, Nat.add_zero, a0]
      · rw [a1]
      · rw [a2]
    apply List.ext_getElem (by omega)
    intro t h1 h2
    have := key t (by omega)
    rw [List.getD_eq_getElem?_getD, List.getD_eq_getElem?_getD, List.getElem?_eq_getElem h1, List.getElem?_eq_getElem h2] at this
    exact this
/-- Where three bytes stood last ahead of i. -/
def lst (s : ByteArray) : Nat → List UInt8 → Option Int
  | 0, _ => none
  | i + 1, x => if i + 3 ≤ s.size ∧ x = th3 s i then some (i : Int) else lst s i x
theorem lst_nr (s : ByteArray) (i : Nat) (hi : i + 3 ≤ s.size) : ∀ k, k ≤ i → (lst s k (th3 s i) = none ∧ nrF (sb s) i k = -1) ∨ ∃ q : Nat, q < k ∧ lst s k (th3 s i) = some (q : Int) ∧ nrF (sb s) i k = (q : Int)
  | 0, _ => Or.inl ⟨rfl, rfl⟩
  | k + 1, hk => by
    have e := th3_same s k i (by omega) hi
    rw [lst, nrF]
    by_cases c : Th (sb s) k i
    · rw [if_pos ⟨by omega, (e.2 c).symm⟩, if_pos c]
      exact Or.inr ⟨k, Nat.lt_succ_self k, rfl, rfl⟩
    · rw [if_neg (fun h => c (e.1 h.2.symm)), if_neg c]
      rcases lst_nr s i hi k (by omega) with h | ⟨q, h1, h2, h3⟩
      · exact Or.inl h
      · exact Or.inr ⟨q, by omega, h2, h3⟩
/-- The first i places' nearest ones; noughts behind them. -/
def nrL (g : Nat → Int) (n i : Nat) : List Int := (List.range n).map fun j => if j < i then nr g n j else 0
theorem nrL_len (g : Nat → Int) (n i : Nat) : (nrL g n i).length = n := by simp [nrL]
theorem nrL_zero (g : Nat → Int) (n : Nat) : nrL g n 0 = List.replicate n 0 := by
  apply List.ext_getElem
  · simp [nrL]
  · intro i h1 h2
    simp [nrL]
theorem nrL_step (g : Nat → Int) (n k : Nat) (h : k < n) : (nrL g n k).set k (nr g n k) = nrL g n (k + 1) := by
  apply List.ext_getElem
  · simp [nrL]
  · intro i h1 h2
    rw [List.getElem_set]
    simp only [nrL, List.getElem_map, List.getElem_range]
    by_cases hik : k = i
    · subst hik
      rw [if_pos rfl, if_pos (by omega)]
    · rw [if_neg hik]
      by_cases hl : i < k
      · rw [if_pos hl, if_pos (by omega)]
      · rw [if_neg hl, if_neg (by omega)]
theorem nrL_get (g : Nat → Int) (n i : Nat) (h : i < n) : (nrL g n n).getD i 0 = nr g n i := by
  unfold nrL
  rw [List.getD_eq_getElem?_getD, List.getElem?_map, List.getElem?_range h]
  simp [h]
theorem grown_set (w : World) (b i : Nat) (v : Value) : w.grownBy (w.setCell ⟨b, i, none⟩ v) (some b) :=
  ⟨rfl, rfl, rfl, by simp [World.setCell], fun k hk hne => by
    have : ¬ b = k := fun e => hne (by rw [e])
    simp [World.setCell, Array.getElem?_modify, this]⟩
theorem Sm.set_other {w : World} {b c : Nat} {f : List UInt8 → Option Int} (h : Sm w b f c) {B j : Nat} (ha : B ≠ b) (v : Value) : Sm (w.setCell ⟨B, j, none⟩ v) b f c :=
  h.step (row := some B) (grown_set w B j v) (fun e => ha (by injection e with e; exact e.symm))
/-- As Sm, where at most so many were put. -/
def Sl (w : World) (b : Nat) (f : List UInt8 → Option Int) (k : Nat) : Prop := ∃ c, c ≤ k ∧ Sm w b f c
theorem Sl.set_other {w : World} {b k : Nat} {f : List UInt8 → Option Int} (h : Sl w b f k) {B j : Nat} (ha : B ≠ b) (v : Value) : Sl (w.setCell ⟨B, j, none⟩ v) b f k := by
  obtain ⟨c, h1, h2⟩ := h
  exact ⟨c, h1, h2.set_other ha v⟩
theorem Sl.more {w : World} {b k : Nat} {f : List UInt8 → Option Int} (h : Sl w b f k) : Sl w b f (k + 1) := by
  obtain ⟨c, h1, h2⟩ := h
  exact ⟨c, by omega, h2⟩
theorem Sl.look {w : World} {b k : Nat} {f : List UInt8 → Option Int} (h : Sl w b f k) (t : ByteArray) (ht : t.size ≤ 5000) :
    (Instr.lookup 85 (.map (some b)) (.string t) true).run Tryd.prog w = .ok (.tuple #[.int .i64 ((f t.data.toList).getD 0), .bool (f t.data.toList).isSome]) w := by
  obtain ⟨c, h1, h2⟩ := h
  exact h2.look t ht
theorem Sl.put {w : World} {b k : Nat} {f : List UInt8 → Option Int} (h : Sl w b f k) (t : ByteArray) (x : Int) (ht : t.size ≤ 5000) (hx : 0 ≤ x ∧ x ≤ 1000000) (hc : k ≤ 5000) :
    ∃ w', (Instr.mapUpdate 85 (.map (some b)) (.string t) (.int .i64 x)).run Tryd.prog w = .ok () w' ∧ Sl w' b (fun y => if y = t.data.toList then some x else f y) (k + 1) ∧ w.grownBy w' (some b) := by
  obtain ⟨c, h1, h2⟩ := h
  obtain ⟨w', a1, a2, a3⟩ := h2.put t x ht hx (by omega)
  exact ⟨w', a1, ⟨c + 1, by omega, a2⟩, a3⟩
theorem RowI.grown {w w' : World} {B b : Nat} {l : List Int} (h : RowI w B l) (hg : w.grownBy w' (some b)) (hne : B ≠ b) : RowI w' B l := by
  have := h.lt
  unfold RowI at h ⊢
  rw [hg.block B this (fun e => hne (by injection e))]
  exact h
theorem lst_step (s : ByteArray) (i : Nat) (hi : i + 3 ≤ s.size) : (fun y => if y = (s.extract i (i + 3)).data.toList then some (i : Int) else lst s i y) = lst s (i + 1) := by
  funext y
  rw [lst]
  unfold th3
  by_cases h : y = (s.extract i (i + 3)).data.toList
  · rw [if_pos h, if_pos ⟨hi, h⟩]
  · rw [if_neg h, if_neg (fun h' => h h'.2)]
theorem lst_same (s : ByteArray) (i : Nat) (hi : ¬ i + 3 ≤ s.size) : lst s i = lst s (i + 1) := by
  funext y
  rw [lst, if_neg (fun h => hi h.1)]
set_option maxHeartbeats 1000000 in
set_option maxRecDepth 10000 in
theorem nearest_at (s : ByteArray) (w : World) (hs : s.size ≤ 4000) :
    Calls Tryd.prog 22 #[.string s] w fun e w' => ∃ B, e = .returned (.slice (some ⟨B, 0, none⟩) s.size s.size) ∧ w.heap.size ≤ B ∧ RowI w' B (nrL (sb s) s.size s.size) ∧ Bl w w' := by
  have hmk := fun w => run_make_row' (P := Tryd.prog) 46 3 (.int .i64 0) 8 Tryd.underlying46 infoI rfl .i64 .i64 s.size (by omega) (by omega) w
  have hmm : ∀ w, (Instr.makeMap 85 none).run Tryd.prog w = .ok (.map (some w.heap.size)) (w.alloc (.map #[] 0)) := fun w => by kernel_rfl
  obtain ⟨w2, hw2⟩ : ∃ w2, w2 = w.alloc (.cells (madeCells #[.int .i64 0] s.size) 3) := ⟨_, rfl⟩
  obtain ⟨B, hB⟩ : ∃ B, B = w.heap.size := ⟨_, rfl⟩
  have hb2 : Bl w w2 := by rw [hw2]; exact (Bl.refl w).alloc _
  have hr2 : RowI w2 B (nrL (sb s) s.size 0) := by rw [nrL_zero, hw2, hB]; exact RowI.made w s.size
  obtain ⟨w3, hw3⟩ : ∃ w3, w3 = w2.alloc (.map #[] 0) := ⟨_, rfl⟩
  obtain ⟨M, hM⟩ : ∃ M, M = B + 1 := ⟨_, rfl⟩
  have hM2 : w2.heap.size = M := by rw [hw2, hM, hB]; simp
  have hBM : B < M := by omega
  have H0 : Hid (RowI w3 B (nrL (sb s) s.size 0) ∧ Sl w3 M (lst s 0) 0 ∧ Bl w w3) := by
    refine ⟨by rw [hw3]; exact hr2.step ((Bl.refl _).alloc _), by rw [hw3, ← hM2]; exact ⟨0, Nat.le_refl _, Sm.made w2⟩, by rw [hw3]; exact hb2.trans ((Bl.refl _).alloc _)⟩
  have HBM : Hid (B < M ∧ w.heap.size = B) := ⟨hBM, hB.symm⟩
  clear hr2 hb2 hBM hM2
  go_enter Tryd.func22, Tryd.ntmps22
  go_wp2
  rw [← hw2, ← hw3, ← hB, ← hM]
  clear hw2 hw3 hB hM hmk hmm
  go_loopw [5, 6, 7, 8, 15] (fun _ _ _ _ i wr => ∃ k : Nat, k ≤ s.size ∧ i = .int .i64 (k : Int) ∧ Hid (RowI wr B (nrL (sb s) s.size k) ∧ Sl wr M (lst s k) k ∧ Bl w wr)) (fun _ _ _ _ i _ => s.size - (intOf i).toNat)
  case atStart => exact ⟨0, Nat.zero_le _, rfl, H0⟩
  case round =>
    clear H0
    obtain ⟨k, hk, rfl, H⟩ := hrel
    by_cases hlt : k < s.size
    · have hltz : (k : Int) < s.size := by omega
      have hc := H.out.1.cell (j := k) (by rw [nrL_len]; exact hlt)
      have hf := H.out.1.frozen k
      obtain ⟨wa, hwa⟩ : ∃ wa, wa = wr.setCell ⟨B, k, none⟩ (.int .i64 (-1)) := ⟨_, rfl⟩
      have hra : RowI wa B ((nrL (sb s) s.size k).set k (-1)) := by rw [hwa]; exact H.out.1.set k (-1)
      have HA : Hid (RowI wa B ((nrL (sb s) s.size k).set k (-1)) ∧ Sl wa M (lst s k) k ∧ Bl w wa) := ⟨hra, by rw [hwa]; exact H.out.2.1.set_other (by have := HBM.out; omega) _, by rw [hwa]; exact H.out.2.2.setCell (by have := HBM.out; show w.heap.size ≤ B; omega) _⟩
      generalize (nrL (sb s) s.size k).getD k 0 = old at hc
      have HWA : Hid (wa = wr.setCell ⟨B, k, none⟩ (.int .i64 (-1))) := hwa
      clear hra H hwa
      by_cases h3 : k + 3 ≤ s.size
      · have h3z : ¬ (s.size : Int) < (k : Int) + 3 := by omega
        obtain ⟨j, hj⟩ : ∃ j, j = k + 3 := ⟨_, rfl⟩
        have hjz : (k : Int) + 3 = (j : Int) := by omega
        have hj1 : k ≤ j := by omega
        have hj2 : j ≤ s.size := by omega
        obtain ⟨t, ht⟩ : ∃ t, t = s.extract k j := ⟨_, rfl⟩
        have hex : s.extract k j = t := ht.symm
        have htl : t.data.toList = th3 s k := by rw [ht, hj]; rfl
        have hts : t.size ≤ 5000 := by rw [ht, ByteArray.size_extract]; omega
        have hlook := HA.out.2.1.look t hts
        rw [htl] at hlook
        have hca : wa.cell? ⟨B, k, none⟩ = some (.int .i64 (-1)) := by
          have := HA.out.1.cell (j := k) (by rw [List.length_set, nrL_len]; exact hlt)
          rw [List.getD_eq_getElem?_getD, List.getElem?_set_self (by rw [nrL_len]; exact hlt)] at this
          exact this
        have hfa := HA.out.1.frozen k
        have HJ : Hid (t = s.extract k (k + 3)) := by rw [ht, hj]; rfl
        rcases lst_nr s k h3 k (Nat.le_refl _) with ⟨h4, h5⟩ | ⟨q, h6, h4, h5⟩
        · rw [h4] at hlook
          have hnr : nr (sb s) s.size k = -1 := by unfold nr; rw [if_pos h3, h5]
          obtain ⟨wb, hup, hsb, hgb⟩ := HA.out.2.1.put t (k : Int) hts (by omega) (by omega)
          have HF : Hid (RowI wb B (nrL (sb s) s.size (k + 1)) ∧ Sl wb M (lst s (k + 1)) (k + 1) ∧ Bl w wb) := by
            refine ⟨?_, ?_, ?_⟩
            · rw [← nrL_step _ _ _ hlt, hnr]
              exact RowI.grown HA.out.1 hgb (by have := HBM.out; omega)
            · rw [← lst_step s k h3]
              rw [HJ.out] at hsb
              exact hsb
            · exact bl_grown HA.out.2.2 hgb (fun x e => by injection e with e; have := HBM.out; omega)
          have hwa := HWA.out
          clear ht htl hj h4 h5 hnr hsb hgb hts hca hfa HA HWA
          subst hwa
          go_wp2
          go_roundw
          case rel => exact ⟨k + 1, hlt, by go_num, HF⟩
          case measure => simp [intOf]; omega
        · rw [h4] at hlook
          have hnr : nr (sb s) s.size k = (q : Int) := by unfold nr; rw [if_pos h3, h5]
          obtain ⟨wc, hwc⟩ : ∃ wc, wc = wa.setCell ⟨B, k, none⟩ (.int .i64 (q : Int)) := ⟨_, rfl⟩
          have hsc : Sl wc M (lst s k) k := by rw [hwc]; exact HA.out.2.1.set_other (by have := HBM.out; omega) _
          have hrc : RowI wc B (nrL (sb s) s.size (k + 1)) := by
            have := HA.out.1.set k (q : Int)
            rw [List.set_set, ← hnr, nrL_step _ _ _ hlt, hnr] at this
            rw [hwc]
            exact this
          have hbc : Bl w wc := by rw [hwc]; exact HA.out.2.2.setCell (by have := HBM.out; show w.heap.size ≤ B; omega) _
          obtain ⟨wb, hup, hsb, hgb⟩ := hsc.put t (k : Int) hts (by omega) (by omega)
          have HF : Hid (RowI wb B (nrL (sb s) s.size (k + 1)) ∧ Sl wb M (lst s (k + 1)) (k + 1) ∧ Bl w wb) := by
            refine ⟨?_, ?_, ?_⟩
            · exact RowI.grown hrc hgb (by have := HBM.out; omega)
            · rw [← lst_step s k h3]
              rw [HJ.out] at hsb
              exact hsb
            · exact bl_grown hbc hgb (fun x e => by injection e with e; have := HBM.out; omega)
          have hwa := HWA.out
          clear ht htl hj h4 h5 hnr hsb hgb hts HA HWA hsc hrc hbc
          subst hwc
          subst hwa
          go_wp2
          go_roundw
          case rel => exact ⟨k + 1, hlt, by go_num, HF⟩
          case measure => simp [intOf]; omega
      · have h3z : (s.size : Int) < (k : Int) + 3 := by omega
        have HF : Hid (RowI wa B (nrL (sb s) s.size (k + 1)) ∧ Sl wa M (lst s (k + 1)) (k + 1) ∧ Bl w wa) := by
          refine ⟨?_, ?_, HA.out.2.2⟩
          · rw [← nrL_step _ _ _ hlt, nr_out _ _ _ h3]
            exact HA.out.1
          · rw [← lst_same s k h3]
            exact HA.out.2.1.more
        have hwa := HWA.out
        clear HA HWA
        subst hwa
        go_wp2
        go_roundw
        case rel => exact ⟨k + 1, hlt, by go_num, HF⟩
        case measure => simp [intOf]; omega
    · have hltz : ¬ (k : Int) < s.size := by omega
      obtain rfl : k = s.size := by omega
      go_wp2
      go_ret
      exact ⟨B, rfl, by have := HBM.out; omega, H.out.1, H.out.2.2⟩
end Go.Proofs.YtmchpmfogjhpoaaDoor.lz
