/- Texts laid together: LayT, Ex6, Ex9, ExT, ExU. -/
import Derived.Test.YtococaecjecjgaaGreatDoorChecked
import Derived.Shelf.Strconv.Itoa3
import Derived.Test.YtococaecjecjgaaGreatDoorXLayoutReads6
import Derived.Test.YtococaecjecjgaaGreatDoorXLayoutReads7

namespace Go.Proofs.YtococaecjecjgaaGreatDoor.ex
set_option linter.unusedVariables false
open Go.ChangeShapes Go.WideShapes Go.ChangeAt Go.RowKit Go.Shelf
open mem lx bld

def txt : Ex → List UInt8
  | .num _ n => Lib.itoa n
  | .nam _ t => t
  | .bin _ o l r => (if top l < bd o then [40] ++ txt l ++ [41] else txt l) ++ ([32] ++ o ++ [32]) ++ (if top r < bd o + 1 then [40] ++ txt r ++ [41] else txt r)
def sdt (x : Ex) (m : Nat) : List UInt8 := if top x < m then [40] ++ txt x ++ [41] else txt x
theorem txt_bin (a : Nat) (o : List UInt8) (l r : Ex) : txt (.bin a o l r) = sdt l (bd o) ++ ([32] ++ o ++ [32]) ++ sdt r (bd o + 1) := by rw [txt]; rfl
def Fit : Ex → Prop
  | .num _ n => -9223372036854775808 ≤ n ∧ n ≤ 9223372036854775807
  | .nam _ _ => True
  | .bin _ _ l r => Fit l ∧ Fit r
end Go.Proofs.YtococaecjecjgaaGreatDoor.ex
namespace Go.Proofs.YtococaecjecjgaaGreatDoor.ex
set_option linter.unusedVariables false
open Go.ChangeShapes Go.WideShapes Go.ChangeAt Go.RowKit
open mem lx dig digs

theorem based_one {s t t' : ByteArray} {b b' : Int} (h : Based s t b) (h' : Based s t' b') : t = t' ∧ b = b' := by
  rcases h with ⟨h1, rfl, rfl⟩ | ⟨h1, h2, rfl, rfl⟩ | ⟨h1, h2, rfl, rfl⟩ <;> rcases h' with ⟨g1, rfl, rfl⟩ | ⟨g1, g2, rfl, rfl⟩ | ⟨g1, g2, rfl, rfl⟩ <;> simp_all
theorem parsed_one {b : Int} {s : ByteArray} {v v' : Nat} {e e' : Int} (h : Parsed b s v e) (h' : Parsed b s v' e') : v = v' ∧ e = e' := by
  rcases h with ⟨h1, rfl, rfl⟩ | ⟨h1, h2, rfl, rfl⟩ | ⟨h1, h2, h3, rfl, rfl⟩ | ⟨h1, h2, h3, rfl, rfl⟩ <;> rcases h' with ⟨g1, rfl, rfl⟩ | ⟨g1, g2, rfl, rfl⟩ | ⟨g1, g2, g3, rfl, rfl⟩ | ⟨g1, g2, g3, rfl, rfl⟩ <;> first | exact ⟨rfl, rfl⟩ | exact absurd h1 g1 | exact absurd g1 h1 | exact absurd g2 h2 | exact absurd h2 g2 | omega
theorem told_one {n : Bool} {v : Nat} {f m m' e e' : Int} (h : digs.Told n v f m e) (h' : digs.Told n v f m' e') : m = m' ∧ e = e' := by
  rcases h with ⟨h1, rfl, rfl⟩ | ⟨h1, h2, rfl, rfl⟩ | ⟨h1, h2, h3, rfl, rfl⟩ <;> rcases h' with ⟨g1, rfl, rfl⟩ | ⟨g1, g2, rfl, rfl⟩ | ⟨g1, g2, g3, rfl, rfl⟩ <;> first | exact ⟨rfl, rfl⟩ | exact absurd h1 g1 | exact absurd g1 h1 | (exfalso; cases n <;> simp_all <;> omega)
theorem numbered_one {s : ByteArray} {m m' e e' : Int} (h : Numbered s m e) (h' : Numbered s m' e') : m = m' ∧ e = e' := by
  obtain ⟨n, t, b, v, f, h1, h2, h3, h4⟩ := h
  obtain ⟨n', t', b', v', f', g1, g2, g3, g4⟩ := h'
  obtain rfl : n = n' := h1.symm.trans g1
  obtain ⟨rfl, rfl⟩ := based_one h2 g2
  obtain ⟨rfl, rfl⟩ := parsed_one h3 g3
  exact told_one h4 g4
theorem nb_eq {t : List UInt8} {m e : Int} (h : Numbered (tx t) m e) : nb t = (m, e) := by
  obtain ⟨h1, h2⟩ := numbered_one (nb_is t) h
  exact Prod.ext h1 h2
theorem pv_snoc (l : List UInt8) (c : UInt8) : ∀ k, k ≤ l.length → pv 10 (tx (l ++ [c])) k = pv 10 (tx l) k := by
  intro k
  induction k with
  | zero => intro _; rfl
  | succ k ih =>
    intro hk
    have e : dig.sb (tx (l ++ [c])) k = dig.sb (tx l) k := by
      unfold dig.sb tx
      simp only [List.getD_eq_getElem?_getD]
      rw [List.getElem?_append_left (by omega)]
    rw [pv, pv, ih (by omega), e]
theorem sb_last (l : List UInt8) (c : UInt8) : dig.sb (tx (l ++ [c])) l.length = (c.toNat : Int) := by
  unfold dig.sb tx
  simp
theorem dd_all (u : Nat) : (∀ c ∈ Lib.decDigits u, ∃ k, k < 10 ∧ c = UInt8.ofNat (48 + k)) ∧ Lib.decDigits u ≠ [] := by
  induction u using Nat.strongRecOn with
  | _ u ih =>
    rw [Lib.decDigits]
    split
    · rename_i h
      exact ⟨fun c hc => ⟨u, h, by simpa using hc⟩, by simp⟩
    · rename_i h
      obtain ⟨i1, i2⟩ := ih (u / 10) (by omega)
      refine ⟨fun c hc => ?_, by simp⟩
      rw [List.mem_append] at hc
      rcases hc with hc | hc
      · exact i1 c hc
      · exact ⟨u % 10, by omega, by simpa using hc⟩
theorem ch_toNat (k : Nat) (h : k < 10) : ((UInt8.ofNat (48 + k)).toNat : Int) = 48 + (k : Int) := by
  simp [UInt8.toNat_ofNat]
  omega
theorem dv_digit (k : Nat) (h : k < 10) : dv (48 + (k : Int)) = (k : Int) := by
  unfold dv
  rw [if_pos (by omega)]
  omega
theorem pv_one (c : UInt8) (k : Nat) (hk : k < 10) (hc : (c.toNat : Int) = 48 + (k : Int)) : pv 10 (tx [c]) 1 = k := by
  have h := sb_last [] c
  rw [show ([] : List UInt8).length = 0 from rfl, List.nil_append] at h
  rw [pv, pv, h, hc, dv_digit k hk]
  simp
theorem pv_more (l : List UInt8) (c : UInt8) (k : Nat) (hk : k < 10) (hc : (c.toNat : Int) = 48 + (k : Int)) : pv 10 (tx (l ++ [c])) (l.length + 1) = pv 10 (tx l) l.length * 10 + k := by
  rw [pv, pv_snoc _ _ _ (Nat.le_refl _), sb_last, hc, dv_digit k hk]
  simp
theorem dd_val (u : Nat) : pv 10 (tx (Lib.decDigits u)) (Lib.decDigits u).length = u := by
  induction u using Nat.strongRecOn with
  | _ u ih =>
    by_cases h : u < 10
    · have e : Lib.decDigits u = [UInt8.ofNat (48 + u)] := by rw [Lib.decDigits, dif_pos h]
      have hc := ch_toNat u h
      rw [e]
      generalize UInt8.ofNat (48 + u) = c at hc ⊢
      exact pv_one c u h hc
    · have e : Lib.decDigits u = Lib.decDigits (u / 10) ++ [UInt8.ofNat (48 + u % 10)] := by rw [Lib.decDigits, dif_neg h]
      have hc := ch_toNat (u % 10) (by omega)
      have hi := ih (u / 10) (by omega)
      rw [e]
      generalize UInt8.ofNat (48 + u % 10) = c at hc ⊢
      rw [List.length_append, show ([c] : List UInt8).length = 1 from rfl, pv_more _ c (u % 10) (by omega) hc, hi]
      omega
theorem dd_ok (u : Nat) : okD 10 (tx (Lib.decDigits u)) := by
  obtain ⟨h1, h2⟩ := dd_all u
  refine ⟨?_, fun i hi => ?_⟩
  · rw [tx_size]
    exact List.length_pos_iff.2 h2
  · rw [tx_size] at hi
    obtain ⟨k, hk, e⟩ := h1 _ (List.getElem_mem hi)
    have : dig.sb (tx (Lib.decDigits u)) i = 48 + (k : Int) := by
      unfold dig.sb tx
      simp only [List.getD_eq_getElem?_getD]
      rw [List.getElem?_eq_getElem hi, e]
      exact ch_toNat k hk
    rw [this, dv_digit k hk]
    omega
theorem dd_head (u : Nat) : ∃ k r, k < 10 ∧ Lib.decDigits u = UInt8.ofNat (48 + k) :: r ∧ (r ≠ [] → k ≠ 0) := by
  induction u using Nat.strongRecOn with
  | _ u ih =>
    by_cases h : u < 10
    · exact ⟨u, [], h, by rw [Lib.decDigits, dif_pos h], fun h => absurd rfl h⟩
    · have e : Lib.decDigits u = Lib.decDigits (u / 10) ++ [UInt8.ofNat (48 + u % 10)] := by rw [Lib.decDigits, dif_neg h]
      obtain ⟨k, r, h1, h2, h3⟩ := ih (u / 10) (by omega)
      refine ⟨k, r ++ [UInt8.ofNat (48 + u % 10)], h1, by rw [e, h2]; rfl, fun _ => ?_⟩
      cases r with
      | cons c r => exact h3 (by simp)
      | nil =>
        rintro rfl
        have hv := dd_val (u / 10)
        rw [h2, show ([UInt8.ofNat (48 + 0)] : List UInt8).length = 1 from rfl, pv_one _ 0 (by omega) (ch_toNat 0 (by omega))] at hv
        omega
theorem dg_digit (k : Nat) (h : k < 10) : isD (UInt8.ofNat (48 + k)) = true ∧ isL (UInt8.ofNat (48 + k)) = false := by
  have key : ∀ k : Fin 10, isD (UInt8.ofNat (48 + k.1)) = true ∧ isL (UInt8.ofNat (48 + k.1)) = false := by decide
  exact key ⟨k, h⟩
theorem pre_false (s : ByteArray) (p : ByteArray) (h : ∀ c, s.data.toList.head? = some c → p.data.toList.head? ≠ some c) (hp : 0 < p.size) : pre s p = false := by
  unfold pre
  by_cases hs : p.size ≤ s.size
  · rw [decide_eq_true hs, Bool.true_and, beq_eq_false_iff_ne]
    intro e
    rw [ByteArray.toList_eq, ByteArray.toList_eq] at e
    have e1 : (s.extract 0 p.size).data.toList = s.data.toList.take p.size := by simp [ByteArray.data_extract]
    rw [e1] at e
    cases hl : s.data.toList with
    | nil =>
      have : s.size = 0 := by
        have := congrArg List.length hl
        simpa using this
      omega
    | cons c r =>
      refine h c (by rw [hl]; rfl) ?_
      rw [← e, hl]
      cases hz : p.size with
      | zero => omega
      | succ z => rfl
  · rw [decide_eq_false hs]; rfl
theorem itoa_pos (n : Int) (h : 0 ≤ n) : Lib.itoa n = Lib.decDigits n.toNat := by unfold Lib.itoa; rw [if_neg (by omega)]
theorem nb_itoa (n : Int) (h0 : 0 ≤ n) (h1 : n < 9223372036854775808) : isN (Lib.itoa n) = false ∧ isU (Lib.itoa n) = true ∧ nb (Lib.itoa n) = (n, 0) ∧ (∀ c ∈ Lib.itoa n, isW c = true) ∧ Lib.itoa n ≠ [] := by
  rw [itoa_pos n h0]
  obtain ⟨k, r, hk, e, hz⟩ := dd_head n.toNat
  obtain ⟨d1, d2⟩ := dg_digit k hk
  refine ⟨by rw [e]; exact d2, by rw [e]; exact d1, ?_, ?_, (dd_all _).2⟩
  · apply nb_eq
    have hpm : pre (tx (Lib.decDigits n.toNat)) pm = false := by
      refine pre_false _ _ (fun c hc => ?_) (by decide)
      show (some 45 : Option UInt8) ≠ some c
      rw [show (tx (Lib.decDigits n.toNat)).data.toList = Lib.decDigits n.toNat from L_tx _, e] at hc
      intro e2
      injection e2 with e2
      injection hc with hc
      rw [← hc] at e2
      have : ((45 : UInt8).toNat : Int) = ((UInt8.ofNat (48 + k)).toNat : Int) := by rw [e2]
      rw [ch_toNat k hk] at this
      have h45 : ((45 : UInt8).toNat : Int) = 45 := rfl
      omega
    have hno : ∀ (c2 : UInt8), isD c2 = false → pre (tx (Lib.decDigits n.toNat)) (tx [48, c2]) = false := by
      intro c2 hc2
      unfold pre
      by_cases hs : (tx [48, c2]).size ≤ (tx (Lib.decDigits n.toNat)).size
      · rw [decide_eq_true hs, Bool.true_and, beq_eq_false_iff_ne]
        intro e2
        rw [ByteArray.toList_eq, ByteArray.toList_eq] at e2
        have e1 : ((tx (Lib.decDigits n.toNat)).extract 0 (tx [48, c2]).size).data.toList = (Lib.decDigits n.toNat).take 2 := by
          simp [ByteArray.data_extract, tx]
          rfl
        have e3 : (tx [48, c2]).data.toList = [48, c2] := L_tx _
        rw [e1, e3, e] at e2
        cases r with
        | nil => simp at e2
        | cons c r =>
          simp at e2
          obtain ⟨k', hk', ek⟩ := (dd_all n.toNat).1 c (by rw [e]; simp)
          have := (dg_digit k' hk').1
          rw [← ek, e2.2, hc2] at this
          cases this
      · rw [decide_eq_false hs]; rfl
    refine ⟨false, _, 10, n.toNat, 0, hpm, Or.inr (Or.inr ⟨hno 120 (by decide), hno 98 (by decide), rfl, rfl⟩), Or.inr (Or.inr (Or.inr ⟨by unfold okB; omega, dd_ok _, ?_, ?_, rfl⟩)), Or.inr (Or.inr ⟨rfl, by omega, by omega, ?_, rfl⟩)⟩
    · show pv 10 (tx _) (tx _).size < _
      rw [tx_size, dd_val]; omega
    · show n.toNat = pv 10 (tx _) (tx _).size
      rw [tx_size, dd_val]
    · simp; omega
  · intro c hc
    obtain ⟨k', hk', rfl⟩ := (dd_all n.toNat).1 c hc
    unfold isW
    rw [(dg_digit k' hk').1]
    simp
theorem nb_range (t : List UInt8) (h : isU t = true) (h0 : (nb t).2 = 0) : 0 ≤ (nb t).1 ∧ (nb t).1 < 9223372036854775808 := by
  have hn := nb_is t
  obtain ⟨n, t', b, v, f, h1, h2, h3, h4⟩ := hn
  have hpm : pre (tx t) pm = false := by
    refine pre_false _ _ (fun c hc => ?_) (by decide)
    show (some 45 : Option UInt8) ≠ some c
    rw [show (tx t).data.toList = t from L_tx _] at hc
    intro e2
    injection e2 with e2
    unfold isU at h
    rw [hc, ← e2] at h
    revert h; decide
  rw [hpm] at h1
  subst h1
  rw [h0] at h4
  rcases h4 with ⟨g1, _, g3⟩ | ⟨_, _, _, g4⟩ | ⟨_, g2, g3, g4, _⟩
  · exact absurd g3.symm g1
  · omega
  · rw [g4]
    have : v ≠ 9223372036854775808 := fun e => by have := g3 e; cases this
    simp
    omega
end Go.Proofs.YtococaecjecjgaaGreatDoor.ex
namespace Go.Proofs.YtococaecjecjgaaGreatDoor.ex
set_option linter.unusedVariables false
open Go.RowKit
open mem lx

theorem told_hdec : ∀ t, isU t = true → (nb t).2 = 0 → isN (Lib.itoa (nb t).1) = false ∧ isU (Lib.itoa (nb t).1) = true ∧ nb (Lib.itoa (nb t).1) = ((nb t).1, 0) := fun t h h0 => by
  obtain ⟨h1, h2⟩ := nb_range t h h0
  obtain ⟨a, b, c, _⟩ := nb_itoa _ h1 h2
  exact ⟨a, b, c⟩
def Nw : Ex → Prop
  | .num _ n => 0 ≤ n ∧ n < 9223372036854775808
  | .nam _ t => (∀ c ∈ t, isW c = true) ∧ t ≠ [] ∧ t.length ≤ 12
  | .bin _ _ l r => Nw l ∧ Nw r
def sz : Ex → Nat
  | .num _ _ => 1
  | .nam _ _ => 1
  | .bin _ _ l r => sz l + sz r + 1
theorem word_of {t : List UInt8} (h : IsT t) (hn : isN t = true) : (∀ c ∈ t, isW c = true) ∧ t ≠ [] := by
  rcases h with ⟨h1, h2⟩ | ⟨c, rfl, hc⟩ | rfl | rfl
  · exact ⟨h2, h1⟩
  · exfalso
    have h3 := (isM_not c (Or.inl hc)).2.2
    have h4 : isL c = true := hn
    unfold isW at h3
    rw [h4] at h3
    cases h3
  · revert hn; decide
  · revert hn; decide
theorem nw_all {en : Nat} (f : Nat) :
    (∀ m d ts x r, (∀ t ∈ ts, IsT t.t) → row nb en f m d ts = some (.ok (x, r)) → Nw x ∧ sz x + r.length ≤ ts.length) ∧
    (∀ m d y ts x r, (∀ t ∈ ts, IsT t.t) → Nw y → lp nb en f m d y ts = some (.ok (x, r)) → Nw x ∧ sz x + r.length ≤ sz y + ts.length) ∧
    (∀ d ts x r, (∀ t ∈ ts, IsT t.t) → one nb en f d ts = some (.ok (x, r)) → Nw x ∧ sz x + r.length ≤ ts.length) := by
  induction f with
  | zero => exact ⟨fun _ _ _ _ _ _ h => by simp [row] at h, fun _ _ _ _ _ _ _ _ h => by simp [lp] at h, fun _ _ _ _ _ h => by simp [one] at h⟩
  | succ f ih =>
    obtain ⟨i1, i2, i3⟩ := ih
    obtain ⟨m1, m2, m3⟩ := mem_all (en := en) f
    refine ⟨?_, ?_, ?_⟩
    · intro m d ts x r hT h
      by_cases hm : 3 < m
      · rw [row_top _ _ _ _ hm] at h
        exact i3 _ _ _ _ hT h
      · rw [row_low _ _ _ _ hm] at h
        split at h
        · cases h
        · cases h
        · rename_i y r' hr
          obtain ⟨g1, g2⟩ := i1 _ _ _ _ _ hT hr
          obtain ⟨g3, g4⟩ := i2 _ _ _ _ _ _ (fun t ht => hT t (m1 _ _ _ _ _ hr t ht)) g1 h
          exact ⟨g3, by omega⟩
    · intro m d y ts x r hT hy h
      cases ts with
      | nil =>
        simp only [lp, Option.some.injEq, Except.ok.injEq, Prod.mk.injEq] at h
        obtain ⟨rfl, rfl⟩ := h
        exact ⟨hy, Nat.le_refl _⟩
      | cons t ts =>
        rw [lp] at h
        split at h
        · split at h
          · cases h
          · cases h
          · rename_i z r' hr
            have hT' : ∀ t ∈ ts, IsT t.t := fun u hu => hT u (List.mem_cons_of_mem _ hu)
            obtain ⟨g1, g2⟩ := i1 _ _ _ _ _ hT' hr
            obtain ⟨g3, g4⟩ := i2 _ _ _ _ _ _ (fun u hu => hT' u (m1 _ _ _ _ _ hr u hu)) (show Nw (.bin t.a t.t y z) from ⟨hy, g1⟩) h
            refine ⟨g3, ?_⟩
            have : sz (.bin t.a t.t y z) = sz y + sz z + 1 := by rw [sz]
            simp only [List.length_cons]
            omega
        · simp only [Option.some.injEq, Except.ok.injEq, Prod.mk.injEq] at h
          obtain ⟨rfl, rfl⟩ := h
          exact ⟨hy, Nat.le_refl _⟩
    · intro d ts x r hT h
      cases ts with
      | nil => simp [one] at h
      | cons t ts =>
        have hT' : ∀ t ∈ ts, IsT t.t := fun u hu => hT u (List.mem_cons_of_mem _ hu)
        rw [one] at h
        split at h
        · rename_i hN
          split at h
          · simp at h
          · rename_i h12
            simp at h
            obtain ⟨rfl, rfl⟩ := h
            obtain ⟨w1, w2⟩ := word_of (hT t (by simp)) hN
            exact ⟨⟨w1, w2, by omega⟩, by rw [sz]; simp; omega⟩
        · split at h
          · rename_i hU
            split at h
            · rename_i h0
              simp at h
              obtain ⟨rfl, rfl⟩ := h
              exact ⟨nb_range _ hU h0, by rw [sz]; simp; omega⟩
            · simp at h
          · split at h
            · split at h
              · simp at h
              · split at h
                · cases h
                · cases h
                · rename_i z r' hr
                  obtain ⟨g1, g2⟩ := i1 _ _ _ _ _ hT' hr
                  split at h
                  · simp at h
                    obtain ⟨rfl, rfl⟩ := h
                    refine ⟨g1, ?_⟩
                    rw [List.length_tail]
                    simp only [List.length_cons]
                    omega
                  · simp at h
            · simp at h
theorem dd_len (u k : Nat) (h : u < 10 ^ (k + 1)) : (Lib.decDigits u).length ≤ k + 1 := by
  induction k generalizing u with
  | zero =>
    have : u < 10 := by simpa using h
    rw [Lib.decDigits, dif_pos this]
    simp
  | succ k ih =>
    by_cases h10 : u < 10
    · rw [Lib.decDigits, dif_pos h10]; simp
    · rw [Lib.decDigits, dif_neg h10, List.length_append]
      have := ih (u / 10) (by rw [Nat.div_lt_iff_lt_mul (by omega)]; rw [Nat.pow_succ] at h; exact h)
      simp
      omega
theorem bd_cases {o : List UInt8} (h : 0 < bd o) : o = [61, 61] ∨ o = [33, 61] ∨ o = [60] ∨ o = [62] ∨ o = [43] ∨ o = [45] ∨ o = [124] ∨ o = [42] ∨ o = [38] := by
  unfold bd at h
  split at h
  · rename_i h1; rcases h1 with h1 | h1 | h1 | h1 <;> simp [h1]
  · split at h
    · rename_i h1; rcases h1 with h1 | h1 | h1 <;> simp [h1]
    · split at h
      · rename_i h1; rcases h1 with h1 | h1 <;> simp [h1]
      · omega
theorem bd_len {o : List UInt8} (h : 0 < bd o) : o.length ≤ 2 := by
  rcases bd_cases h with rfl | rfl | rfl | rfl | rfl | rfl | rfl | rfl | rfl <;> simp
theorem txt_len {x : Ex} (h : Nw x) (ho : Okb x) : (txt x).length + 10 ≤ 40 * sz x := by
  induction x with
  | num a n =>
    rw [txt, itoa_pos n h.1, show sz (.num a n) = 1 by rw [sz]]
    have := dd_len n.toNat 19 (by have := h.2; omega)
    omega
  | nam a t =>
    rw [txt, show sz (.nam a t) = 1 by rw [sz]]
    have := h.2.2
    omega
  | bin a o l r il ir =>
    have h1 := il h.1 ho.2.1
    have h2 := ir h.2 ho.2.2
    have h5 := bd_len ho.1
    rw [txt_bin, show sz (.bin a o l r) = sz l + sz r + 1 by rw [sz]]
    have hs : ∀ (x : Ex) (m : Nat), (sdt x m).length ≤ (txt x).length + 2 := fun x m => by unfold sdt; split <;> simp
    have h3 := hs l (bd o)
    have h4 := hs r (bd o + 1)
    simp only [List.length_append, List.length_cons, List.length_nil]
    omega
theorem Wf.okb {x : Ex} (h : Wf (nb := nb) Lib.itoa x) : Okb x := by
  induction x with
  | num a n => trivial
  | nam a t => have := h.2; show t.length ≤ 3000; omega
  | bin a o l r il ir => exact ⟨h.1, il h.2.1, ir h.2.2⟩
end Go.Proofs.YtococaecjecjgaaGreatDoor.ex
namespace Go.Proofs.YtococaecjecjgaaGreatDoor.ex
set_option linter.unusedVariables false
open Go.RowKit
open mem lx

theorem top_one {x : Ex} (h : Okb x) : ¬ top x < 1 := by
  cases x with
  | num a n => show ¬ 4 < 1; omega
  | nam a t => show ¬ 4 < 1; omega
  | bin a o l r => have := h.1; show ¬ bd o < 1; omega
theorem sd_one {x : Ex} (h : Okb x) : sd x 1 = dp x := by unfold sd; rw [if_neg (top_one h)]
def R64 (n : Int) : Prop := -9223372036854775808 ≤ n ∧ n < 9223372036854775808
theorem wrap_r (n : Int) : R64 (wrap64 n) := by
  unfold wrap64 R64
  omega
theorem bits_r (o : BinOp) (a b : Int) : R64 (bits o .i64 a b) := by
  unfold bits
  rw [IntKind.wrap_i64]
  unfold R64
  omega
theorem jn_r (o : List UInt8) (a b : Int) : R64 (jn o a b) := by
  unfold jn
  repeat' split
  all_goals first | exact wrap_r _ | exact bits_r _ _ _ | (unfold R64; omega)
theorem ev_r {env : List UInt8 → Option Int} (he : ∀ t n, env t = some n → R64 n) {x : Ex} (hx : Nw x) {n : Int} (h : ev env x = .ok n) : R64 n := by
  cases x with
  | num a k => rw [ev] at h; injection h with h; rw [← h]; obtain ⟨h1, h2⟩ := hx; unfold R64; omega
  | nam a t =>
    rw [ev] at h
    cases hv : env t with
    | none => rw [hv] at h; cases h
    | some k => rw [hv] at h; injection h with h; rw [← h]; exact he t k hv
  | bin a o l r =>
    rw [ev] at h
    split at h
    · cases h
    · split at h
      · cases h
      · injection h with h
        rw [← h]
        exact jn_r _ _ _
theorem Nw.fit {x : Ex} (h : Nw x) : Fit x := by
  induction x with
  | num a n => obtain ⟨h1, h2⟩ := h; show _ ∧ _; omega
  | nam a t => trivial
  | bin a o l r il ir => exact ⟨il h.1, ir h.2⟩
end Go.Proofs.YtococaecjecjgaaGreatDoor.ex
