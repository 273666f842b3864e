/- Numbers as they are written are read; words of expressions. -/
import Derived.Test.YtfngcphklfjhjaaDoorEx8
import Derived.Test.YtfngcphklfjhjaaDoorExR
import Derived.Test.YtfngcphklfjhjaaDoorEx6
namespace Go.Proofs.YtfngcphklfjhjaaDoor.ex
set_option linter.unusedVariables false
open Go.ChangeShapes Go.WideShapes Go.ChangeAt Go.RowKit
open mem lx dig digs

theorem based_one {s t t' : ByteArray} {b b' : Int} (h : Based s t b) (h' : Based s t' b') : t = t' ∧ b = b' := by
  rcases h with ⟨h1, rfl, rfl⟩ | ⟨h1, h2, rfl, rfl⟩ | ⟨h1, h2, rfl, rfl⟩ <;> rcases h' with ⟨g1, rfl, rfl⟩ | ⟨g1, g2, rfl, rfl⟩ | ⟨g1, g2, rfl, rfl⟩ <;> simp_all
theorem parsed_one {b : Int} {s : ByteArray} {v v' : Nat} {e e' : Int} (h : Parsed b s v e) (h' : Parsed b s v' e') : v = v' ∧ e = e' := by
  rcases h with ⟨h1, rfl, rfl⟩ | ⟨h1, h2, rfl, rfl⟩ | ⟨h1, h2, h3, rfl, rfl⟩ | ⟨h1, h2, h3, rfl, rfl⟩ <;> rcases h' with ⟨g1, rfl, rfl⟩ | ⟨g1, g2, rfl, rfl⟩ | ⟨g1, g2, g3, rfl, rfl⟩ | ⟨g1, g2, g3, rfl, rfl⟩ <;> first | exact ⟨rfl, rfl⟩ | exact absurd h1 g1 | exact absurd g1 h1 | exact absurd g2 h2 | exact absurd h2 g2 | omega
theorem told_one {n : Bool} {v : Nat} {f m m' e e' : Int} (h : digs.Told n v f m e) (h' : digs.Told n v f m' e') : m = m' ∧ e = e' := by
  rcases h with ⟨h1, rfl, rfl⟩ | ⟨h1, h2, rfl, rfl⟩ | ⟨h1, h2, h3, rfl, rfl⟩ <;> rcases h' with ⟨g1, rfl, rfl⟩ | ⟨g1, g2, rfl, rfl⟩ | ⟨g1, g2, g3, rfl, rfl⟩ <;> first | exact ⟨rfl, rfl⟩ | exact absurd h1 g1 | exact absurd g1 h1 | (exfalso; cases n <;> simp_all <;> omega)
theorem numbered_one {s : ByteArray} {m m' e e' : Int} (h : Numbered s m e) (h' : Numbered s m' e') : m = m' ∧ e = e' := by
  obtain ⟨n, t, b, v, f, h1, h2, h3, h4⟩ := h
  obtain ⟨n', t', b', v', f', g1, g2, g3, g4⟩ := h'
  obtain rfl : n = n' := h1.symm.trans g1
  obtain ⟨rfl, rfl⟩ := based_one h2 g2
  obtain ⟨rfl, rfl⟩ := parsed_one h3 g3
  exact told_one h4 g4
theorem nb_eq {t : List UInt8} {m e : Int} (h : Numbered (tx t) m e) : nb t = (m, e) := by
  obtain ⟨h1, h2⟩ := numbered_one (nb_is t) h
  exact Prod.ext h1 h2
/-- What digits come to. -/
theorem pv_snoc (l : List UInt8) (c : UInt8) : ∀ k, k ≤ l.length → pv 10 (tx (l ++ [c])) k = pv 10 (tx l) k := by
  intro k
  induction k with
  | zero => intro _; rfl
  | succ k ih =>
    intro hk
    have e : dig.sb (tx (l ++ [c])) k = dig.sb (tx l) k := by
      unfold dig.sb tx
      simp only [List.getD_eq_getElem?_getD]
      rw [List.getElem?_append_left (by omega)]
    rw [pv, pv, ih (by omega), e]
theorem sb_last (l : List UInt8) (c : UInt8) : dig.sb (tx (l ++ [c])) l.length = (c.toNat : Int) := by
  unfold dig.sb tx
  simp
theorem dd_all (u : Nat) : (∀ c ∈ Lib.decDigits u, ∃ k, k < 10 ∧ c = UInt8.ofNat (48 + k)) ∧ Lib.decDigits u ≠ [] := by
  induction u using Nat.strongRecOn with
  | _ u ih =>
    rw [Lib.decDigits]
    split
    · rename_i h
      exact ⟨fun c hc => ⟨u, h, by simpa using hc⟩, by simp⟩
    · rename_i h
      obtain ⟨i1, i2⟩ := ih (u / 10) (by omega)
      refine ⟨fun c hc => ?_, by simp⟩
      rw [List.mem_append] at hc
      rcases hc with hc | hc
      · exact i1 c hc
      · exact ⟨u % 10, by omega, by simpa using hc⟩
theorem ch_toNat (k : Nat) (h : k < 10) : ((UInt8.ofNat (48 + k)).toNat : Int) = 48 + (k : Int) := by
  simp [UInt8.toNat_ofNat]
  omega
theorem dv_digit (k : Nat) (h : k < 10) : dv (48 + (k : Int)) = (k : Int) := by
  unfold dv
  rw [if_pos (by omega)]
  omega
theorem pv_one (c : UInt8) (k : Nat) (hk : k < 10) (hc : (c.toNat : Int) = 48 + (k : Int)) : pv 10 (tx [c]) 1 = k := by
  have h := sb_last [] c
  rw [show ([] : List UInt8).length = 0 from rfl, List.nil_append] at h
  rw [pv, pv, h, hc, dv_digit k hk]
  simp
theorem pv_more (l : List UInt8) (c : UInt8) (k : Nat) (hk : k < 10) (hc : (c.toNat : Int) = 48 + (k : Int)) : pv 10 (tx (l ++ [c])) (l.length + 1) = pv 10 (tx l) l.length * 10 + k := by
  rw [pv, pv_snoc _ _ _ (Nat.le_refl _), sb_last, hc, dv_digit k hk]
  simp
theorem dd_val (u : Nat) : pv 10 (tx (Lib.decDigits u)) (Lib.decDigits u).length = u := by
  induction u using Nat.strongRecOn with
  | _ u ih =>
    by_cases h : u < 10
    · have e : Lib.decDigits u = [UInt8.ofNat (48 + u)] := by rw [Lib.decDigits, dif_pos h]
      have hc := ch_toNat u h
      rw [e]
      generalize UInt8.ofNat (48 + u) = c at hc ⊢
      exact pv_one c u h hc
    · have e : Lib.decDigits u = Lib.decDigits (u / 10) ++ [UInt8.ofNat (48 + u % 10)] := by rw [Lib.decDigits, dif_neg h]
      have hc := ch_toNat (u % 10) (by omega)
      have hi := ih (u / 10) (by omega)
      rw [e]
      generalize UInt8.ofNat (48 + u % 10) = c at hc ⊢
      rw [List.length_append, show ([c] : List UInt8).length = 1 from rfl, pv_more _ c (u % 10) (by omega) hc, hi]
      omega
theorem dd_ok (u : Nat) : okD 10 (tx (Lib.decDigits u)) := by
  obtain ⟨h1, h2⟩ := dd_all u
  refine ⟨?_, fun i hi => ?_⟩
  · rw [tx_size]
    exact List.length_pos_iff.2 h2
  · rw [tx_size] at hi
    obtain ⟨k, hk, e⟩ := h1 _ (List.getElem_mem hi)
    have : dig.sb (tx (Lib.decDigits u)) i = 48 + (k : Int) := by
      unfold dig.sb tx
      simp only [List.getD_eq_getElem?_getD]
      rw [List.getElem?_eq_getElem hi, e]
      exact ch_toNat k hk
    rw [this, dv_digit k hk]
    omega
theorem dd_head (u : Nat) : ∃ k r, k < 10 ∧ Lib.decDigits u = UInt8.ofNat (48 + k) :: r ∧ (r ≠ [] → k ≠ 0) := by
  induction u using Nat.strongRecOn with
  | _ u ih =>
    by_cases h : u < 10
    · exact ⟨u, [], h, by rw [Lib.decDigits, dif_pos h], fun h => absurd rfl h⟩
    · have e : Lib.decDigits u = Lib.decDigits (u / 10) ++ [UInt8.ofNat (48 + u % 10)] := by rw [Lib.decDigits, dif_neg h]
      obtain ⟨k, r, h1, h2, h3⟩ := ih (u / 10) (by omega)
      refine ⟨k, r ++ [UInt8.ofNat (48 + u % 10)], h1, by rw [e, h2]; rfl, fun _ => ?_⟩
      cases r with
      | cons c r => exact h3 (by simp)
      | nil =>
        rintro rfl
        have hv := dd_val (u / 10)
        rw [h2, show ([UInt8.ofNat (48 + 0)] : List UInt8).length = 1 from rfl, pv_one _ 0 (by omega) (ch_toNat 0 (by omega))] at hv
        omega
theorem dg_digit (k : Nat) (h : k < 10) : isD (UInt8.ofNat (48 + k)) = true ∧ isL (UInt8.ofNat (48 + k)) = false := by
  have key : ∀ k : Fin 10, isD (UInt8.ofNat (48 + k.1)) = true ∧ isL (UInt8.ofNat (48 + k.1)) = false := by decide
  exact key ⟨k, h⟩
theorem pre_false (s : ByteArray) (p : ByteArray) (h : ∀ c, s.data.toList.head? = some c → p.data.toList.head? ≠ some c) (hp : 0 < p.size) : pre s p = false := by
  unfold pre
  by_cases hs : p.size ≤ s.size
  · rw [decide_eq_true hs, Bool.true_and, beq_eq_false_iff_ne]
    intro e
    rw [ByteArray.toList_eq, ByteArray.toList_eq] at e
    have e1 : (s.extract 0 p.size).data.toList = s.data.toList.take p.size := by simp [ByteArray.data_extract]
    rw [e1] at e
    cases hl : s.data.toList with
    | nil =>
      have : s.size = 0 := by
        have := congrArg List.length hl
        simpa using this
      omega
    | cons c r =>
      refine h c (by rw [hl]; rfl) ?_
      rw [← e, hl]
      cases hz : p.size with
      | zero => omega
      | succ z => rfl
  · rw [decide_eq_false hs]; rfl
theorem itoa_pos (n : Int) (h : 0 ≤ n) : Lib.itoa n = Lib.decDigits n.toNat := by unfold Lib.itoa; rw [if_neg (by omega)]
/-- AS IT IS WRITTEN A NUMBER IS READ. -/
theorem nb_itoa (n : Int) (h0 : 0 ≤ n) (h1 : n < 9223372036854775808) : isN (Lib.itoa n) = false ∧ isU (Lib.itoa n) = true ∧ nb (Lib.itoa n) = (n, 0) ∧ (∀ c ∈ Lib.itoa n, isW c = true) ∧ Lib.itoa n ≠ [] := by
  rw [itoa_pos n h0]
  obtain ⟨k, r, hk, e, hz⟩ := dd_head n.toNat
  obtain ⟨d1, d2⟩ := dg_digit k hk
  refine ⟨by rw [e]; exact d2, by rw [e]; exact d1, ?_, ?_, (dd_all _).2⟩
  · apply nb_eq
    have hpm : pre (tx (Lib.decDigits n.toNat)) pm = false := by
      refine pre_false _ _ (fun c hc => ?_) (by decide)
      show (some 45 : Option UInt8) ≠ some c
      rw [show (tx (Lib.decDigits n.toNat)).data.toList = Lib.decDigits n.toNat from L_tx _, e] at hc
      intro e2
      injection e2 with e2
      injection hc with hc
      rw [← hc] at e2
      have : ((45 : UInt8).toNat : Int) = ((UInt8.ofNat (48 + k)).toNat : Int) := by rw [e2]
      rw [ch_toNat k hk] at this
      have h45 : ((45 : UInt8).toNat : Int) = 45 := rfl
      omega
    have hno : ∀ (c2 : UInt8), isD c2 = false → pre (tx (Lib.decDigits n.toNat)) (tx [48, c2]) = false := by
      intro c2 hc2
      unfold pre
      by_cases hs : (tx [48, c2]).size ≤ (tx (Lib.decDigits n.toNat)).size
      · rw [decide_eq_true hs, Bool.true_and, beq_eq_false_iff_ne]
        intro e2
        rw [ByteArray.toList_eq, ByteArray.toList_eq] at e2
        have e1 : ((tx (Lib.decDigits n.toNat)).extract 0 (tx [48, c2]).size).data.toList = (Lib.decDigits n.toNat).take 2 := by
          simp [ByteArray.data_extract, tx]
          rfl
        have e3 : (tx [48, c2]).data.toList = [48, c2] := L_tx _
        rw [e1, e3, e] at e2
        cases r with
        | nil => simp at e2
        | cons c r =>
          simp at e2
          obtain ⟨k', hk', ek⟩ := (dd_all n.toNat).1 c (by rw [e]; simp)
          have := (dg_digit k' hk').1
          rw [← ek, e2.2, hc2] at this
          cases this
      · rw [decide_eq_false hs]; rfl
    refine ⟨false, _, 10, n.toNat, 0, hpm, Or.inr (Or.inr ⟨hno 120 (by decide), hno 98 (by decide), rfl, rfl⟩), Or.inr (Or.inr (Or.inr ⟨by unfold okB; omega, dd_ok _, ?_, ?_, rfl⟩)), Or.inr (Or.inr ⟨rfl, by omega, by omega, ?_, rfl⟩)⟩
    · show pv 10 (tx _) (tx _).size < _
      rw [tx_size, dd_val]; omega
    · show n.toNat = pv 10 (tx _) (tx _).size
      rw [tx_size, dd_val]
    · simp; omega
  · intro c hc
    obtain ⟨k', hk', rfl⟩ := (dd_all n.toNat).1 c hc
    unfold isW
    rw [(dg_digit k' hk').1]
    simp
/-- A number that is read is from 0 on. -/
theorem nb_range (t : List UInt8) (h : isU t = true) (h0 : (nb t).2 = 0) : 0 ≤ (nb t).1 ∧ (nb t).1 < 9223372036854775808 := by
  have hn := nb_is t
  obtain ⟨n, t', b, v, f, h1, h2, h3, h4⟩ := hn
  have hpm : pre (tx t) pm = false := by
    refine pre_false _ _ (fun c hc => ?_) (by decide)
    show (some 45 : Option UInt8) ≠ some c
    rw [show (tx t).data.toList = t from L_tx _] at hc
    intro e2
    injection e2 with e2
    unfold isU at h
    rw [hc, ← e2] at h
    revert h; decide
  rw [hpm] at h1
  subst h1
  rw [h0] at h4
  rcases h4 with ⟨g1, _, g3⟩ | ⟨_, _, _, g4⟩ | ⟨_, g2, g3, g4, _⟩
  · exact absurd g3.symm g1
  · omega
  · rw [g4]
    have : v ≠ 9223372036854775808 := fun e => by have := g3 e; cases this
    simp
    omega
end Go.Proofs.YtfngcphklfjhjaaDoor.ex
