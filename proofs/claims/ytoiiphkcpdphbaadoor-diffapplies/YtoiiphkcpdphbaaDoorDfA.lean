/- Apply of package diff. -/
import Derived.Test.YtoiiphkcpdphbaaDoorDfF
import Derived.Test.YtoiiphkcpdphbaaDoorBldS
namespace Go.Proofs.YtoiiphkcpdphbaaDoor.df
set_option linter.unusedVariables false
open Go.ChangeShapes Go.WideShapes Go.ChangeAt Go.RowKit
open mem bld
/-- Nothing is wrong with the next edit, nor with those behind it. -/
theorem fit_step {left made : Int} {e : Ed} {r : List Ed} (h : fitE left made (e :: r) = 0) :
    0 ≤ e.n ∧ ((e.w = 1 ∧ e.n ≤ left ∧ ∃ m, fitE (left - e.n) m r = 0) ∨ (e.w = 2 ∧ e.n ≤ left ∧ ∃ m, fitE (left - e.n) m r = 0) ∨ (e.w = 3 ∧ ∃ m, fitE left m r = 0)) := by
  unfold fitE at h
  by_cases h1 : e.w < 1 ∨ 3 < e.w ∨ e.n < 0
  · rw [if_pos h1] at h; cases h
  · rw [if_neg h1] at h
    refine ⟨by omega, ?_⟩
    by_cases h3 : e.w = 3
    · rw [if_pos h3] at h; exact Or.inr (Or.inr ⟨h3, _, h⟩)
    · rw [if_neg h3] at h
      by_cases h4 : left < e.n
      · rw [if_pos h4] at h; cases h
      · rw [if_neg h4] at h
        by_cases h5 : e.w = 1
        · rw [if_pos h5] at h; exact Or.inl ⟨h5, by omega, _, h⟩
        · rw [if_neg h5] at h; exact Or.inr (Or.inl ⟨by omega, by omega, _, h⟩)
theorem KbE.cell {b : Nat} {w w' : World} {P : Nat} {c : Array Value} (h : Kb b w w') (hp : w.heap[P]? = some (.cells c 38 (0, 0))) (hne : P ≠ b) : w'.heap[P]? = some (.cells c 38 (0, 0)) :=
  h.same P _ hp hne (fun c fz e => by injection e with _ e2; exact absurd e2 (by decide))
theorem ext_tx (s : ByteArray) (i j : Nat) : s.extract i j = tx (((L s).take j).drop i) := by rw [← L_ext, tx_L]
theorem outE_cons (a : List UInt8) (e : Ed) (r : List Ed) : outE a (e :: r) = if e.w = 1 then a.take e.n.toNat ++ outE (a.drop e.n.toNat) r else if e.w = 2 then outE (a.drop e.n.toNat) r else e.t ++ outE a r := rfl
/-- How far a text is made. -/
def Ap (a : List UInt8) (l : List Ed) (k : Nat) (rest d : List UInt8) : Prop := outE a l = d ++ outE rest (l.drop k) ∧ (∃ m, fitE rest.length m (l.drop k) = 0) ∧ d.length ≤ 5000 * k ∧ rest.length ≤ a.length
theorem Ap.zero {a : List UInt8} {l : List Ed} (h : fitE a.length 0 l = 0) : Ap a l 0 a [] := ⟨by simp, ⟨0, by simpa using h⟩, by simp, Nat.le_refl _⟩
theorem Ap.step {a : List UInt8} {l : List Ed} {k : Nat} {rest d : List UInt8} (h : Ap a l k rest d) (hk : k < l.length) (hs : Short l) (ha : a.length ≤ 5000) : ∃ n : Nat, l[k].n = (n : Int) ∧
    ((l[k].w = 1 ∧ n ≤ rest.length ∧ Ap a l (k + 1) (rest.drop n) (d ++ rest.take n)) ∨ (l[k].w = 2 ∧ n ≤ rest.length ∧ Ap a l (k + 1) (rest.drop n) d) ∨ (l[k].w = 3 ∧ Ap a l (k + 1) rest (d ++ l[k].t))) := by
  obtain ⟨h1, ⟨m, h2⟩, h3, h4⟩ := h
  have ht := hs.get k hk
  rw [List.drop_eq_getElem_cons hk] at h1 h2
  obtain ⟨h5, h6⟩ := fit_step h2
  refine ⟨l[k].n.toNat, by omega, ?_⟩
  rw [outE_cons] at h1
  rcases h6 with ⟨g1, g2, m', g3⟩ | ⟨g1, g2, m', g3⟩ | ⟨g1, m', g3⟩
  · left
    rw [if_pos g1] at h1
    refine ⟨g1, by omega, ?_, ⟨m', ?_⟩, ?_, ?_⟩
    · rw [h1, List.append_assoc]
    · rw [List.length_drop, show ((rest.length - l[k].n.toNat : Nat) : Int) = rest.length - l[k].n by omega]; exact g3
    · rw [List.length_append, List.length_take]; omega
    · rw [List.length_drop]; omega
  · right; left
    rw [if_neg (by omega), if_pos g1] at h1
    refine ⟨g1, by omega, h1, ⟨m', ?_⟩, by omega, ?_⟩
    · rw [List.length_drop, show ((rest.length - l[k].n.toNat : Nat) : Int) = rest.length - l[k].n by omega]; exact g3
    · rw [List.length_drop]; omega
  · right; right
    rw [if_neg (by omega), if_neg (by omega)] at h1
    exact ⟨g1, by rw [h1, List.append_assoc], ⟨m', g3⟩, by rw [List.length_append]; omega, h4⟩
/-- What Apply answers. -/
def apAns (a : List UInt8) (l : List Ed) : Value := if fitE a.length 0 l = 0 then .tuple #[.string (tx (outE a l)), .nilIface] else .tuple #[.string ⟨#[]⟩, eno (fitE a.length 0 l)]
theorem eno_no {r : Int} (h : r ≠ 0) : ∃ z, eno r = .iface 22 (.int .i64 z) := ⟨_, by unfold eno; rw [if_neg h]⟩
set_option maxHeartbeats 1000000 in
set_option maxRecDepth 10000 in
theorem Apply_at (a : ByteArray) (l : List Ed) (v : Value) (w : World) (hv : ed.View w v l) (ha : a.size ≤ 5000) (hl : Short l) :
    Calls Tryd.prog 13 #[.string a, v] w fun e w' => e = .returned (apAns (L a) l) ∧ Bl w w' := by
  have cF := fits_at a l v w hv ha hl
  obtain ⟨pp, cp, rfl, hcp, hin⟩ := hv
  have hlen := hl.1
  have HI : Hid (ed.In w pp l) := hin
  clear hin
  rw [show (a.size : Int) = ((L a).length : Int) by rw [L_len]] at cF
  obtain ⟨R, hR⟩ : ∃ R, fitE (L a).length 0 l = R := ⟨_, rfl⟩
  rw [hR] at cF
  have HR : Hid (fitE (L a).length 0 l = R) := hR
  clear hR
  by_cases h0 : R = 0
  · subst h0
    have hans : apAns (L a) l = .tuple #[.string (tx (outE (L a) l)), .nilIface] := by unfold apAns; rw [if_pos HR.out]
    rw [hans]
    have HP0 : Hid (Ap (L a) l 0 (L a) []) := Ap.zero HR.out
    obtain ⟨T, hT⟩ : ∃ T, outE (L a) l = T := ⟨_, rfl⟩
    rw [hT]
    have HT : Hid (outE (L a) l = T) := hT
    clear hans hT HR
    go_enter Tryd.func13, Tryd.ntmps13
    go_wp2_with fail
    refine cF.mono ?_
    rintro e w5 ⟨rfl, hb5⟩
    have he0 : eno 0 = .nilIface := rfl
    rw [he0]
    clear he0 cF
    obtain ⟨M, hM⟩ : ∃ M, M = w5.heap.size := ⟨_, rfl⟩
    obtain ⟨w6, hw6⟩ : ∃ w6, w6 = w5.alloc (.cells #[.pointer none, .slice none 0 0] 68) := ⟨_, rfl⟩
    have H6 : Hid (Bd M M [] w6 ∧ Below M w5 w6 ∧ ed.In w5 pp l ∧ M = w5.heap.size) := ⟨by rw [hw6, hM]; exact Bd.new w5, by rw [hw6, hM]; exact (Bl.refl _).alloc _, HI.out.step hb5, hM⟩
    have HB : Hid (Bl w w5) := hb5
    clear hb5 HI
    go_wp2
    rw [← hM, ← hw6]
    clear hM hw6
    go_loopw [0, 9, 18, 24, 35, 41] (fun av _ iv _ _ _ wr => ∃ (k : Nat) (rest : ByteArray) (d : List UInt8), k ≤ l.length ∧ rest.size ≤ 5000 ∧ iv = .int .i64 (k : Int) ∧ av = .string rest ∧ Hid (Ap (L a) l k (L rest) d ∧ Bd M M d wr ∧ Below M w5 wr)) (fun _ _ iv _ _ _ _ => l.length - (intOf iv).toNat)
    case atStart => exact ⟨0, a, [], Nat.zero_le _, ha, rfl, rfl, HP0.out, H6.out.1, H6.out.2.1⟩
    case round =>
      clear HP0
      obtain ⟨k, rest, d, hk, hrs, rfl, rfl, H⟩ := hrel
      by_cases hlt : k < l.length
      · have hlz : (k : Int) < (l.length : Int) := by omega
        have hbl : Bl w5 wr := by have := H.out.2.2; rw [H6.out.2.2.2] at this; exact this
        obtain ⟨x, rfl, c0, c1, c2⟩ := (H6.out.2.2.1.step hbl).at' k hlt
        obtain ⟨n, hn, hst⟩ := H.out.1.step hlt hl (by rw [L_len]; exact ha)
        have htl := hl.get k hlt
        have hdl : d.length ≤ 25000000 := by have := H.out.1.2.2.1; omega
        obtain ⟨E, hE⟩ : ∃ E, E = l[k] := ⟨_, rfl⟩
        rw [← hE] at c0 c1 c2 hn hst htl
        rw [hn] at c1
        rw [L_len] at hst
        obtain ⟨P, hP⟩ : ∃ P, P = wr.heap.size := ⟨_, rfl⟩
        obtain ⟨w7, hw7⟩ : ∃ w7, w7 = wr.alloc (.cells #[.int .i64 E.w, .int .i64 (n : Int), .string (tx E.t)] 38) := ⟨_, rfl⟩
        have hb7 : Bl wr w7 := by rw [hw7]; exact (Bl.refl _).alloc _
        have hp7 : w7.heap[P]? = some (.cells #[.int .i64 E.w, .int .i64 (n : Int), .string (tx E.t)] 38 (0, 0)) := by rw [hw7, hP]; exact heap_alloc_new wr _
        have hPM : P ≠ M := by have := H.out.2.1.lt; omega
        have eP : wr.heap.size = P := hP.symm
        have ew7 : wr.alloc (.cells #[.int .i64 E.w, .int .i64 (n : Int), .string (tx E.t)] 38) = w7 := hw7.symm
        have hBM : M ≤ wr.heap.size := H.out.2.1.le
        have HW7 : Hid (Bd M M d w7 ∧ Below M w5 w7) := ⟨H.out.2.1.bl hb7, H.out.2.2.trans (hb7.mono hBM)⟩
        have p0 : w7.cell? ⟨P, 0, none⟩ = some (.int .i64 E.w) := by rw [cell_of hp7]; rfl
        have p1 : w7.cell? ⟨P, 1, none⟩ = some (.int .i64 (n : Int)) := by rw [cell_of hp7]; rfl
        have p2 : w7.cell? ⟨P, 2, none⟩ = some (.string (tx E.t)) := by rw [cell_of hp7]; rfl
        clear hw7 hP hE hn hbl hb7
        rcases hst with ⟨hw, hnr, hA⟩ | ⟨hw, hnr, hA⟩ | ⟨hw, hA⟩
        · rw [hw] at c0 p0 ew7 hp7
          have ext : rest.extract 0 n = tx ((L rest).take n) := by rw [ext_tx, List.drop_zero]
          have ext2 : rest.extract n rest.size = tx ((L rest).drop n) := by rw [ext_tx, List.take_of_length_le (by rw [L_len]; exact Nat.le_refl _)]
          have hrl : ((L rest).take n).length ≤ 5000 := by rw [List.length_take, L_len]; omega
          have HA : Hid (Ap (L a) l (k + 1) (L (tx ((L rest).drop n))) (d ++ (L rest).take n)) := by rw [L_tx]; exact hA
          have hrs2 : (tx ((L rest).drop n)).size ≤ 5000 := by rw [tx_size, List.length_drop, L_len]; omega
          clear hA hw
          generalize (L rest).take n = t1 at ext hrl HA
          generalize tx ((L rest).drop n) = rest2 at ext2 HA hrs2
          go_wp2_with fail
          refine (write_at M M d (tx t1) w7 HW7.out.1 (by rw [tx_size]; omega)).mono ?_
          rintro e w8 ⟨rfl, hB8, hl8, hk8⟩
          have hp8 := KbE.cell hk8 hp7 hPM
          have q1 : w8.cell? ⟨P, 1, none⟩ = some (.int .i64 (n : Int)) := by rw [cell_of hp8]; rfl
          rw [show (tx t1).data.toList = t1 from L_tx t1] at hB8
          have HW8 : Hid (Bd M M (d ++ t1) w8 ∧ Below M w5 w8) := ⟨hB8, HW7.out.2.trans hl8⟩
          clear hB8 hl8 hk8
          go_wp2
          go_roundw
          case rel => exact ⟨k + 1, rest2, _, hlt, hrs2, by go_num, rfl, HA.out, HW8.out⟩
          case measure => simp [intOf]; omega
        · rw [hw] at c0 p0 ew7 hp7
          have ext2 : rest.extract n rest.size = tx ((L rest).drop n) := by rw [ext_tx, List.take_of_length_le (by rw [L_len]; exact Nat.le_refl _)]
          have HA : Hid (Ap (L a) l (k + 1) (L (tx ((L rest).drop n))) d) := by rw [L_tx]; exact hA
          have hrs2 : (tx ((L rest).drop n)).size ≤ 5000 := by rw [tx_size, List.length_drop, L_len]; omega
          clear hA hw
          generalize tx ((L rest).drop n) = rest2 at ext2 HA hrs2
          go_wp2
          go_roundw
          case rel => exact ⟨k + 1, rest2, _, hlt, hrs2, by go_num, rfl, HA.out, HW7.out⟩
          case measure => simp [intOf]; omega
        · rw [hw] at c0 p0 ew7 hp7
          have HA : Hid (Ap (L a) l (k + 1) (L rest) (d ++ E.t)) := hA
          clear hA hw
          go_wp2_with fail
          refine (write_at M M d (tx E.t) w7 HW7.out.1 (by rw [tx_size]; omega)).mono ?_
          rintro e w8 ⟨rfl, hB8, hl8, hk8⟩
          rw [show (tx E.t).data.toList = E.t from L_tx E.t] at hB8
          have HW8 : Hid (Bd M M (d ++ E.t) w8 ∧ Below M w5 w8) := ⟨hB8, HW7.out.2.trans hl8⟩
          clear hB8 hl8 hk8
          go_wp2
          go_roundw
          case rel => exact ⟨k + 1, rest, _, hlt, hrs, by go_num, rfl, HA.out, HW8.out⟩
          case measure => simp [intOf]; omega
      · obtain rfl : k = l.length := by omega
        have hend : d = T := by
          have := H.out.1.1
          rw [List.drop_of_length_le (Nat.le_refl _), HT.out] at this
          simpa [outE] using this.symm
        subst hend
        go_wp2_with fail
        refine (string_at M M d wr H.out.2.1).mono ?_
        rintro e w9 ⟨rfl, hl9, hk9⟩
        have hfin : Bl w5 w9 := by
          have := H.out.2.2.trans hl9
          rw [H6.out.2.2.2] at this
          exact this
        clear hl9 hk9
        go_wp2
        go_ret2
        exact ⟨rfl, HB.out.trans hfin⟩
  · have hans : apAns (L a) l = .tuple #[.string ⟨#[]⟩, eno R] := by unfold apAns; rw [HR.out, if_neg h0]
    rw [hans]
    obtain ⟨z, hz⟩ := eno_no h0
    rw [hz] at cF ⊢
    clear hans hz
    go_enter Tryd.func13, Tryd.ntmps13
    go_wp2_with fail
    refine cF.mono ?_
    rintro e w5 ⟨rfl, hb5⟩
    clear cF
    go_wp2
    go_ret2
    exact ⟨rfl, hb5⟩
end Go.Proofs.YtoiiphkcpdphbaaDoor.df
