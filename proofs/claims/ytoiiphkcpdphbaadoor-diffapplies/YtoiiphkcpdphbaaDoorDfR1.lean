/- The document's DiffApply. -/
import Derived.Test.YtoiiphkcpdphbaaDoorDfS
import Derived.Test.YtoiiphkcpdphbaaDoorDfA
namespace Go.Proofs.YtoiiphkcpdphbaaDoor.df
set_option linter.unusedVariables false
open Go.ChangeShapes Go.WideShapes Go.ChangeAt Go.RowKit
open mem
/-- What is wrong, as a number. -/
def eN (r : Int) : Int := if r = 3 then 4 else r
theorem eno_is (r : Int) : eno r = if r = 0 then .nilIface else .iface 22 (.int .i64 (eN r)) := rfl
/-- How far the document's text is made. -/
def Ra (a : List UInt8) (l : List Ed) (k : Nat) (rest d : List UInt8) : Prop := outE a l = d ++ outE rest (l.drop k) ∧ fitE rest.length (min d.length 4001) (l.drop k) = fitE a.length 0 l ∧ d.length ≤ 5000 * k ∧ rest.length ≤ a.length
theorem Ra.zero (a : List UInt8) (l : List Ed) : Ra a l 0 a [] := ⟨by simp, by rw [List.drop_zero]; rfl, by simp, Nat.le_refl _⟩
theorem Ra.arg {a : List UInt8} {l : List Ed} {k : Nat} {rest d : List UInt8} (h : Ra a l k rest d) (hk : k < l.length) (hw : l[k].w < 1 ∨ 3 < l[k].w ∨ l[k].n < 0) : fitE a.length 0 l = 1 := by
  rw [← h.2.1, List.drop_eq_getElem_cons hk]; unfold fitE; rw [if_pos hw]
theorem Ra.rng {a : List UInt8} {l : List Ed} {k : Nat} {rest d : List UInt8} (h : Ra a l k rest d) (hk : k < l.length) (hw : ¬ (l[k].w < 1 ∨ 3 < l[k].w ∨ l[k].n < 0)) (h3 : l[k].w ≠ 3) (hn : (rest.length : Int) < l[k].n) : fitE a.length 0 l = 2 := by
  rw [← h.2.1, List.drop_eq_getElem_cons hk]; unfold fitE; rw [if_neg hw, if_neg h3, if_pos hn]
theorem Ra.give {a : List UInt8} {l : List Ed} {k : Nat} {rest d : List UInt8} (h : Ra a l k rest d) (hk : k < l.length) (hs : Short l) (hw : ¬ (l[k].w < 1 ∨ 3 < l[k].w ∨ l[k].n < 0)) (h3 : l[k].w = 3) : Ra a l (k + 1) rest (d ++ l[k].t) := by
  obtain ⟨h1, h2, h4, h5⟩ := h
  have ht := hs.get k hk
  rw [List.drop_eq_getElem_cons hk] at h1 h2
  rw [outE_cons, if_neg (by omega), if_neg (by omega)] at h1
  refine ⟨by rw [h1, List.append_assoc], ?_, by rw [List.length_append]; omega, h5⟩
  rw [← h2]
  conv => rhs; unfold fitE
  rw [if_neg hw, if_pos h3, List.length_append]
  congr 1; omega
theorem Ra.keep {a : List UInt8} {l : List Ed} {k n : Nat} {rest d : List UInt8} (h : Ra a l k rest d) (hk : k < l.length) (ha : a.length ≤ 5000) (hn : l[k].n = (n : Int)) (hr : n ≤ rest.length) (h1' : l[k].w = 1) : Ra a l (k + 1) (rest.drop n) (d ++ rest.take n) := by
  obtain ⟨h1, h2, h4, h5⟩ := h
  rw [List.drop_eq_getElem_cons hk] at h1 h2
  rw [outE_cons, if_pos h1', hn, Int.toNat_natCast] at h1
  refine ⟨by rw [h1, List.append_assoc], ?_, by rw [List.length_append, List.length_take]; omega, by rw [List.length_drop]; omega⟩
  rw [← h2]
  conv => rhs; unfold fitE
  rw [if_neg (by omega), if_neg (by omega), if_neg (by omega), if_pos h1', hn, List.length_append, List.length_take, List.length_drop]
  congr 1 <;> omega
theorem Ra.take {a : List UInt8} {l : List Ed} {k n : Nat} {rest d : List UInt8} (h : Ra a l k rest d) (hk : k < l.length) (hn : l[k].n = (n : Int)) (hr : n ≤ rest.length) (h1' : l[k].w = 2) : Ra a l (k + 1) (rest.drop n) d := by
  obtain ⟨h1, h2, h4, h5⟩ := h
  rw [List.drop_eq_getElem_cons hk] at h1 h2
  rw [outE_cons, if_neg (by omega), if_pos h1', hn, Int.toNat_natCast] at h1
  refine ⟨h1, ?_, by omega, by rw [List.length_drop]; omega⟩
  rw [← h2]
  conv => rhs; unfold fitE
  rw [if_neg (by omega), if_neg (by omega), if_neg (by omega), if_neg (by omega), hn, List.length_drop]
  congr 1; omega
theorem Ra.end {a : List UInt8} {l : List Ed} {rest d : List UInt8} (h : Ra a l l.length rest d) : outE a l = d ∧ fitE a.length 0 l = if 0 < rest.length then 2 else if 4000 < d.length then 3 else 0 := by
  obtain ⟨h1, h2, _, _⟩ := h
  rw [List.drop_of_length_le (Nat.le_refl _)] at h1 h2
  refine ⟨by simpa [outE] using h1, ?_⟩
  rw [← h2]
  unfold fitE
  by_cases g1 : 0 < rest.length
  · rw [if_pos g1, if_pos (by omega)]
  · rw [if_neg g1, if_neg (by omega)]
    by_cases g2 : 4000 < d.length
    · rw [if_pos g2, if_pos (by omega)]
    · rw [if_neg g2, if_neg (by omega)]
/-- What the document's answers. -/
def raAns (a : List UInt8) (l : List Ed) : Value := if fitE a.length 0 l = 0 then .tuple #[.string (tx (outE a l)), .int .i64 0] else .tuple #[.string ⟨#[]⟩, .int .i64 (eN (fitE a.length 0 l))]
set_option maxHeartbeats 1000000 in
set_option maxRecDepth 10000 in
theorem refApply_at (a : ByteArray) (l : List Ed) (v : Value) (w : World) (hv : ed.View w v l) (ha : a.size ≤ 5000) (hl : Short l) :
    Calls Tryd.prog 12 #[.string a, v] w fun e w' => e = .returned (raAns (L a) l) ∧ Bl w w' := by
  obtain ⟨pp, cp, rfl, hcp, hin⟩ := hv
  have hlen := hl.1
  have HI : Hid (ed.In w pp l) := hin
  clear hin
  obtain ⟨R, hR⟩ : ∃ R, raAns (L a) l = R := ⟨_, rfl⟩
  rw [hR]
  have HR : Hid (raAns (L a) l = R) := hR
  clear hR
  go_enter Tryd.func12, Tryd.ntmps12
  go_wp2
  go_loopw [0, 6, 8, 11] (fun av dv _ iv wr => ∃ (k : Nat) (rest : ByteArray) (d : List UInt8), k ≤ l.length ∧ rest.size ≤ 5000 ∧ iv = .int .i64 (k : Int) ∧ av = .string rest ∧ dv = .string (tx d) ∧ Hid (Ra (L a) l k (L rest) d ∧ Bl w wr)) (fun _ _ _ iv _ => l.length - (intOf iv).toNat)
  case atStart => exact ⟨0, a, [], Nat.zero_le _, ha, rfl, rfl, rfl, Ra.zero _ _, Bl.refl _⟩
  case round =>
    obtain ⟨k, rest, d, hk, hrs, rfl, rfl, rfl, H⟩ := hrel
    by_cases hlt : k < l.length
    · have hlz : (k : Int) < (l.length : Int) := by omega
      obtain ⟨x, rfl, c0, c1, c2⟩ := (HI.out.step H.out.2).at' k hlt
      have htl := hl.get k hlt
      have hdl : d.length ≤ 25000000 := by have := H.out.1.2.2.1; omega
      have hds : (tx d).size ≤ 25000000 := by rw [tx_size]; exact hdl
      obtain ⟨E, hE⟩ : ∃ E, E = l[k] := ⟨_, rfl⟩
      rw [← hE] at c0 c1 c2 htl
      have HE : Hid (E = l[k]) := hE
      clear hE
      have hts : (tx E.t).size ≤ 5000 := by rw [tx_size]; exact htl
      by_cases h1 : 1 ≤ E.w ∧ E.w ≤ 3
      · have cW := fun w => within_at E.w 1 3 w
        rw [decide_eq_true h1] at cW
        by_cases h2 : E.n < 0
        · have hr := H.out.1.arg hlt (by rw [← HE.out]; omega)
          have hR : R = .tuple #[.string ⟨#[]⟩, .int .i64 1] := by rw [← HR.out]; unfold raAns; rw [hr]; rfl
          subst hR
          go_wp2_with (go_at_call 23; refine (cW _).mono ?_; rintro e w8 ⟨rfl, rfl⟩)
          go_ret2
          exact ⟨rfl, H.out.2.trans ((Bl.refl _).alloc _)⟩
        · obtain ⟨n, hn⟩ : ∃ n : Nat, E.n = (n : Int) := ⟨E.n.toNat, by omega⟩
          rw [hn] at c1
          have hn0 : ¬ (n : Int) < 0 := by omega
          by_cases h3 : E.w = 3
          · have hA := H.out.1.give hlt hl (by rw [← HE.out]; omega) (by rw [← HE.out]; exact h3)
            rw [← HE.out] at hA
            have HA : Hid (Ra (L a) l (k + 1) (L rest) (d ++ E.t)) := hA
            have hcat : tx d ++ tx E.t = tx (d ++ E.t) := tx_app _ _
            rw [h3] at c0 cW
            clear hA h1 h3 h2
            go_wp2_with (go_at_call 23; refine (cW _).mono ?_; rintro e w8 ⟨rfl, rfl⟩)
            go_roundw
            case rel => exact ⟨k + 1, rest, d ++ E.t, hlt, hrs, by go_num, rfl, rfl, HA.out, H.out.2.trans ((Bl.refl _).alloc _)⟩
            case measure => simp [intOf]; omega
          · have d3 : (E.w == 3) = false := by rw [beq_eq_false_iff_ne]; exact h3
            by_cases h4 : rest.size < n
            · have hr := H.out.1.rng hlt (by rw [← HE.out]; omega) (by rw [← HE.out]; exact h3) (by rw [← HE.out, L_len]; omega)
              have hR : R = .tuple #[.string ⟨#[]⟩, .int .i64 2] := by rw [← HR.out]; unfold raAns; rw [hr]; rfl
              subst hR
              have h4z : (rest.size : Int) < (n : Int) := by omega
              go_wp2_with (go_at_call 23; refine (cW _).mono ?_; rintro e w8 ⟨rfl, rfl⟩)
              go_ret2
              exact ⟨rfl, H.out.2.trans ((Bl.refl _).alloc _)⟩
            · have h4z : ¬ (rest.size : Int) < (n : Int) := by omega
              have hnr : n ≤ rest.size := by omega
              have ext2 : rest.extract n rest.size = tx ((L rest).drop n) := by rw [ext_tx, List.take_of_length_le (by rw [L_len]; exact Nat.le_refl _)]
              have hrs2 : (tx ((L rest).drop n)).size ≤ 5000 := by rw [tx_size, List.length_drop, L_len]; omega
              by_cases h5 : E.w = 1
              · have hA := H.out.1.keep hlt (by rw [L_len]; exact ha) (by rw [← HE.out]; exact hn) (by rw [L_len]; exact hnr) (by rw [← HE.out]; exact h5)
                have HA : Hid (Ra (L a) l (k + 1) (L (tx ((L rest).drop n))) (d ++ (L rest).take n)) := by rw [L_tx]; exact hA
                have ext : rest.extract 0 n = tx ((L rest).take n) := by rw [ext_tx, List.drop_zero]
                have hcat : tx d ++ tx ((L rest).take n) = tx (d ++ (L rest).take n) := tx_app _ _
                have hts1 : (tx ((L rest).take n)).size ≤ 5000 := by rw [tx_size, List.length_take, L_len]; omega
                rw [h5] at c0 cW
                clear hA h1 h3 h2 d3 h5 hn
                generalize (L rest).take n = t1 at ext hcat HA hts1
                generalize tx ((L rest).drop n) = rest2 at ext2 HA hrs2
                go_wp2_with (go_at_call 23; refine (cW _).mono ?_; rintro e w8 ⟨rfl, rfl⟩)
                go_roundw
                case rel => exact ⟨k + 1, rest2, d ++ t1, hlt, hrs2, by go_num, rfl, rfl, HA.out, H.out.2.trans ((Bl.refl _).alloc _)⟩
                case measure => simp [intOf]; omega
              · have h6 : E.w = 2 := by omega
                have hA := H.out.1.take hlt (by rw [← HE.out]; exact hn) (by rw [L_len]; exact hnr) (by rw [← HE.out]; exact h6)
                have HA : Hid (Ra (L a) l (k + 1) (L (tx ((L rest).drop n))) d) := by rw [L_tx]; exact hA
                rw [h6] at c0 cW
                clear hA h1 h3 h2 d3 h5 h6 hn
                generalize tx ((L rest).drop n) = rest2 at ext2 HA hrs2
                go_wp2_with (go_at_call 23; refine (cW _).mono ?_; rintro e w8 ⟨rfl, rfl⟩)
                go_roundw
                case rel => exact ⟨k + 1, rest2, d, hlt, hrs2, by go_num, rfl, rfl, HA.out, H.out.2.trans ((Bl.refl _).alloc _)⟩
                case measure => simp [intOf]; omega
      · have cW := fun w => within_at E.w 1 3 w
        rw [decide_eq_false h1] at cW
        have hr := H.out.1.arg hlt (by rw [← HE.out]; omega)
        have hR : R = .tuple #[.string ⟨#[]⟩, .int .i64 1] := by rw [← HR.out]; unfold raAns; rw [hr]; rfl
        subst hR
        go_wp2_with (go_at_call 23; refine (cW _).mono ?_; rintro e w8 ⟨rfl, rfl⟩)
        go_ret2
        exact ⟨rfl, H.out.2.trans ((Bl.refl _).alloc _)⟩
    · obtain rfl : k = l.length := by omega
      obtain ⟨he1, he2⟩ := H.out.1.end
      rw [L_len rest] at he2
      have hds : (tx d).size = d.length := tx_size d
      by_cases h1 : 0 < rest.size
      · rw [if_pos h1] at he2
        have hR : R = .tuple #[.string ⟨#[]⟩, .int .i64 2] := by rw [← HR.out]; unfold raAns; rw [he2]; rfl
        subst hR
        have h1z : 0 < (rest.size : Int) := by omega
        go_wp2
        go_ret2
        exact ⟨rfl, H.out.2⟩
      · rw [if_neg h1] at he2
        have h1z : ¬ 0 < (rest.size : Int) := by omega
        by_cases h2 : 4000 < d.length
        · rw [if_pos h2] at he2
          have hR : R = .tuple #[.string ⟨#[]⟩, .int .i64 4] := by rw [← HR.out]; unfold raAns; rw [he2]; rfl
          subst hR
          have h2z : 4000 < (d.length : Int) := by omega
          go_wp2
          go_ret2
          exact ⟨rfl, H.out.2⟩
        · rw [if_neg h2] at he2
          have hR : R = .tuple #[.string (tx d), .int .i64 0] := by rw [← HR.out]; unfold raAns; rw [he2, he1]; rfl
          subst hR
          have h2z : ¬ 4000 < (d.length : Int) := by omega
          go_wp2
          go_ret2
          exact ⟨rfl, H.out.2⟩
end Go.Proofs.YtoiiphkcpdphbaaDoor.df
