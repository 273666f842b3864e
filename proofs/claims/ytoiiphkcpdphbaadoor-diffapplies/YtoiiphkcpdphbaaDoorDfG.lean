/- Back of package diff. -/
import Derived.Test.YtoiiphkcpdphbaaDoorDfA
namespace Go.Proofs.YtoiiphkcpdphbaaDoor.df
set_option linter.unusedVariables false
open Go.ChangeShapes Go.WideShapes Go.ChangeAt Go.RowKit
open mem bld
theorem bckE_cons (a : List UInt8) (e : Ed) (r : List Ed) : bckE a (e :: r) = if e.w = 1 then ⟨1, e.n, []⟩ :: bckE (a.drop e.n.toNat) r else if e.w = 2 then ⟨3, 0, a.take e.n.toNat⟩ :: bckE (a.drop e.n.toNat) r else ⟨2, e.t.length, []⟩ :: bckE a r := rfl
/-- How far it is told what undoes edits. -/
def Bk (a : List UInt8) (l : List Ed) (k : Nat) (rest : List UInt8) (d : List Ed) : Prop := bckE a l = d ++ bckE rest (l.drop k) ∧ (∃ m, fitE rest.length m (l.drop k) = 0) ∧ d.length ≤ k ∧ rest.length ≤ a.length
theorem Bk.zero {a : List UInt8} {l : List Ed} (h : fitE a.length 0 l = 0) : Bk a l 0 a [] := ⟨by simp, ⟨0, by simpa using h⟩, by simp, Nat.le_refl _⟩
theorem Bk.step {a : List UInt8} {l : List Ed} {k : Nat} {rest : List UInt8} {d : List Ed} (h : Bk a l k rest d) (hk : k < l.length) : ∃ n : Nat, l[k].n = (n : Int) ∧
    ((l[k].w = 1 ∧ n ≤ rest.length ∧ Bk a l (k + 1) (rest.drop n) (d ++ [⟨1, n, []⟩])) ∨ (l[k].w = 2 ∧ n ≤ rest.length ∧ Bk a l (k + 1) (rest.drop n) (d ++ [⟨3, 0, rest.take n⟩])) ∨ (l[k].w = 3 ∧ Bk a l (k + 1) rest (d ++ [⟨2, l[k].t.length, []⟩]))) := by
  obtain ⟨h1, ⟨m, h2⟩, h3, h4⟩ := h
  rw [List.drop_eq_getElem_cons hk] at h1 h2
  obtain ⟨h5, h6⟩ := fit_step h2
  refine ⟨l[k].n.toNat, by omega, ?_⟩
  rw [bckE_cons] at h1
  rcases h6 with ⟨g1, g2, m', g3⟩ | ⟨g1, g2, m', g3⟩ | ⟨g1, m', g3⟩
  · left
    rw [if_pos g1] at h1
    refine ⟨g1, by omega, ?_, ⟨m', ?_⟩, ?_, ?_⟩
    · rw [h1, List.append_assoc, show ((l[k].n.toNat : Nat) : Int) = l[k].n by omega]; rfl
    · rw [List.length_drop, show ((rest.length - l[k].n.toNat : Nat) : Int) = rest.length - l[k].n by omega]; exact g3
    · rw [List.length_append]; simp; omega
    · rw [List.length_drop]; omega
  · right; left
    rw [if_neg (by omega), if_pos g1] at h1
    refine ⟨g1, by omega, ?_, ⟨m', ?_⟩, ?_, ?_⟩
    · rw [h1, List.append_assoc]; rfl
    · rw [List.length_drop, show ((rest.length - l[k].n.toNat : Nat) : Int) = rest.length - l[k].n by omega]; exact g3
    · rw [List.length_append]; simp; omega
    · rw [List.length_drop]; omega
  · right; right
    rw [if_neg (by omega), if_neg (by omega)] at h1
    exact ⟨g1, by rw [h1, List.append_assoc]; rfl, ⟨m', g3⟩, by rw [List.length_append]; simp; omega, h4⟩
/-- What Back answers. -/
def BkAns (w w' : World) (a : List UInt8) (l : List Ed) (r : Value) : Prop := Bl w w' ∧ ((fitE a.length 0 l = 0 ∧ ∃ u, r = .tuple #[u, .nilIface] ∧ ed.Own w' w.heap.size u (bckE a l)) ∨ (fitE a.length 0 l ≠ 0 ∧ r = .tuple #[.slice none 0 0, eno (fitE a.length 0 l)]))
set_option maxHeartbeats 1000000 in
set_option maxRecDepth 10000 in
theorem Back_at (a : ByteArray) (l : List Ed) (v : Value) (w : World) (hv : ed.View w v l) (ha : a.size ≤ 5000) (hl : Short l) :
    Calls Tryd.prog 15 #[.string a, v] w fun e w' => ∃ r, e = .returned r ∧ BkAns w w' (L a) l r := by
  have cF := fits_at a l v w hv ha hl
  obtain ⟨pp, cp, rfl, hcp, hin⟩ := hv
  have hlen := hl.1
  have HI : Hid (ed.In w pp l) := hin
  clear hin
  rw [show (a.size : Int) = ((L a).length : Int) by rw [L_len]] at cF
  obtain ⟨R, hR⟩ : ∃ R, fitE (L a).length 0 l = R := ⟨_, rfl⟩
  rw [hR] at cF
  have HR : Hid (fitE (L a).length 0 l = R) := hR
  clear hR
  by_cases h0 : R = 0
  · subst h0
    have HP0 : Hid (Bk (L a) l 0 (L a) []) := Bk.zero HR.out
    go_enter Tryd.func15, Tryd.ntmps15
    go_wp2_with fail
    refine cF.mono ?_
    rintro e w5 ⟨rfl, hb5⟩
    have he0 : eno 0 = .nilIface := rfl
    rw [he0]
    clear he0 cF
    have H6 : Hid (ed.In w5 pp l) := HI.out.step hb5
    have HB : Hid (Bl w w5) := hb5
    clear hb5 HI
    go_wp2
    go_loopw [0, 7, 9, 18, 24, 36, 50] (fun av bv _ iv _ _ _ wr => ∃ (k : Nat) (rest : ByteArray) (d : List Ed), k ≤ l.length ∧ rest.size ≤ 5000 ∧ iv = .int .i64 (k : Int) ∧ av = .string rest ∧ Hid (Bk (L a) l k (L rest) d ∧ ed.Own wr w5.heap.size bv d ∧ Bl w5 wr)) (fun _ _ _ iv _ _ _ _ => l.length - (intOf iv).toNat)
    case atStart => exact ⟨0, a, [], Nat.zero_le _, ha, rfl, rfl, HP0.out, ed.Own.nil _ _, Bl.refl _⟩
    case round =>
      clear HP0
      obtain ⟨k, rest, d, hk, hrs, rfl, rfl, H⟩ := hrel
      by_cases hlt : k < l.length
      · have hlz : (k : Int) < (l.length : Int) := by omega
        obtain ⟨x, rfl, c0, c1, c2⟩ := (H6.out.step H.out.2.2).at' k hlt
        obtain ⟨n, hn, hst⟩ := H.out.1.step hlt
        have htl := hl.get k hlt
        have hdl : d.length ≤ 5000 := by have := H.out.1.2.2.1; omega
        obtain ⟨E, hE⟩ : ∃ E, E = l[k] := ⟨_, rfl⟩
        rw [← hE] at c0 c1 c2 hn hst htl
        rw [hn] at c1
        rw [L_len] at hst
        obtain ⟨P, hP⟩ : ∃ P, P = wr.heap.size := ⟨_, rfl⟩
        obtain ⟨w7, hw7⟩ : ∃ w7, w7 = wr.alloc (.cells #[.int .i64 E.w, .int .i64 (n : Int), .string (tx E.t)] 38) := ⟨_, rfl⟩
        have hb7 : Bl wr w7 := by rw [hw7]; exact (Bl.refl _).alloc _
        have hp7 : w7.heap[P]? = some (.cells #[.int .i64 E.w, .int .i64 (n : Int), .string (tx E.t)] 38 (0, 0)) := by rw [hw7, hP]; exact heap_alloc_new wr _
        have eP : wr.heap.size = P := hP.symm
        have ew7 : wr.alloc (.cells #[.int .i64 E.w, .int .i64 (n : Int), .string (tx E.t)] 38) = w7 := hw7.symm
        have HW7 : Hid (ed.Own w7 w5.heap.size u7 d ∧ Bl w5 w7) := ⟨H.out.2.1.step hb7, H.out.2.2.trans hb7⟩
        have p0 : w7.cell? ⟨P, 0, none⟩ = some (.int .i64 E.w) := by rw [cell_of hp7]; rfl
        have p1 : w7.cell? ⟨P, 1, none⟩ = some (.int .i64 (n : Int)) := by rw [cell_of hp7]; rfl
        have p2 : w7.cell? ⟨P, 2, none⟩ = some (.string (tx E.t)) := by rw [cell_of hp7]; rfl
        clear hw7 hP hE hn hb7
        rcases hst with ⟨hw, hnr, hA⟩ | ⟨hw, hnr, hA⟩ | ⟨hw, hA⟩
        · rw [hw] at c0 p0 ew7 hp7
          have ext2 : rest.extract n rest.size = tx ((L rest).drop n) := by rw [ext_tx, List.take_of_length_le (by rw [L_len]; exact Nat.le_refl _)]
          have HA : Hid (Bk (L a) l (k + 1) (L (tx ((L rest).drop n))) (d ++ [⟨1, n, []⟩])) := by rw [L_tx]; exact hA
          have hrs2 : (tx ((L rest).drop n)).size ≤ 5000 := by rw [tx_size, List.length_drop, L_len]; omega
          clear hA hw
          generalize tx ((L rest).drop n) = rest2 at ext2 HA hrs2
          obtain ⟨X, hX⟩ : ∃ X, X = w7.heap.size := ⟨_, rfl⟩
          obtain ⟨w8, hw8⟩ : ∃ w8, w8 = w7.alloc (.cells #[.int .i64 1, .int .i64 (n : Int), .string ⟨#[]⟩] 38) := ⟨_, rfl⟩
          have hb8 : Bl w7 w8 := by rw [hw8]; exact (Bl.refl _).alloc _
          have hx8 : w8.heap[X]? = some (.cells #[.int .i64 1, .int .i64 (n : Int), .string ⟨#[]⟩] 38 (0, 0)) := by rw [hw8, hX]; exact heap_alloc_new w7 _
          obtain ⟨v9, w9, hr, ho9, hg9⟩ := ed.app_one w8 w5.heap.size u7 d ⟨1, n, []⟩ X (HW7.out.1.step hb8) (by rw [cell_of hx8]; rfl) (by rw [cell_of hx8]; rfl) (by rw [cell_of hx8]; rfl) (by omega) (Nat.le_trans HW7.out.2.size hb8.size)
          have hp9 : w9.heap[P]? = some (.cells #[.int .i64 1, .int .i64 (n : Int), .string (tx E.t)] 38 (0, 0)) := by
            have hp8 : w8.heap[P]? = _ := (Below.block hb8 P (lt_of_heap hp7)).trans hp7
            rw [hg9.block P (lt_of_heap hp8) (fun e => by have := (H.out.2.1.block P e.symm).2; omega)]
            exact hp8
          have q1 : w9.cell? ⟨P, 1, none⟩ = some (.int .i64 (n : Int)) := by rw [cell_of hp9]; rfl
          have HW9 : Hid (ed.Own w9 w5.heap.size v9 (d ++ [⟨1, n, []⟩]) ∧ Bl w5 w9) := ⟨ho9, bl_grown (HW7.out.2.trans hb8) hg9 (fun x e => (H.out.2.1.block x e).1)⟩
          have eX : w7.heap.size = X := hX.symm
          have ew8 : w7.alloc (.cells #[.int .i64 1, .int .i64 (n : Int), .string ⟨#[]⟩] 38) = w8 := hw8.symm
          have HRr : Hid _ := hr
          clear hX hw8 hb8 hx8 hr ho9 hg9 hp9
          go_wp2_with (at_builtin; refine Lib.wpList_append_run _ rfl (.tmp 26) (.tmp 30) _ _ rfl _ _ rfl rfl _ _ HRr.out ?_)
          go_roundw
          case rel => exact ⟨k + 1, rest2, _, hlt, hrs2, by go_num, rfl, HA.out, HW9.out⟩
          case measure => simp [intOf]; omega
        · rw [hw] at c0 p0 ew7 hp7
          have ext : rest.extract 0 n = tx ((L rest).take n) := by rw [ext_tx, List.drop_zero]
          have ext2 : rest.extract n rest.size = tx ((L rest).drop n) := by rw [ext_tx, List.take_of_length_le (by rw [L_len]; exact Nat.le_refl _)]
          have HA : Hid (Bk (L a) l (k + 1) (L (tx ((L rest).drop n))) (d ++ [⟨3, 0, (L rest).take n⟩])) := by rw [L_tx]; exact hA
          have hrs2 : (tx ((L rest).drop n)).size ≤ 5000 := by rw [tx_size, List.length_drop, L_len]; omega
          clear hA hw
          generalize (L rest).take n = t1 at ext HA
          generalize tx ((L rest).drop n) = rest2 at ext2 HA hrs2
          obtain ⟨X, hX⟩ : ∃ X, X = w7.heap.size := ⟨_, rfl⟩
          obtain ⟨w8, hw8⟩ : ∃ w8, w8 = w7.alloc (.cells #[.int .i64 3, .int .i64 0, .string (tx t1)] 38) := ⟨_, rfl⟩
          have hb8 : Bl w7 w8 := by rw [hw8]; exact (Bl.refl _).alloc _
          have hx8 : w8.heap[X]? = some (.cells #[.int .i64 3, .int .i64 0, .string (tx t1)] 38 (0, 0)) := by rw [hw8, hX]; exact heap_alloc_new w7 _
          obtain ⟨v9, w9, hr, ho9, hg9⟩ := ed.app_one w8 w5.heap.size u7 d ⟨3, 0, t1⟩ X (HW7.out.1.step hb8) (by rw [cell_of hx8]; rfl) (by rw [cell_of hx8]; rfl) (by rw [cell_of hx8]; rfl) (by omega) (Nat.le_trans HW7.out.2.size hb8.size)
          have hp9 : w9.heap[P]? = some (.cells #[.int .i64 2, .int .i64 (n : Int), .string (tx E.t)] 38 (0, 0)) := by
            have hp8 : w8.heap[P]? = _ := (Below.block hb8 P (lt_of_heap hp7)).trans hp7
            rw [hg9.block P (lt_of_heap hp8) (fun e => by have := (H.out.2.1.block P e.symm).2; omega)]
            exact hp8
          have q1 : w9.cell? ⟨P, 1, none⟩ = some (.int .i64 (n : Int)) := by rw [cell_of hp9]; rfl
          have HW9 : Hid (ed.Own w9 w5.heap.size v9 (d ++ [⟨3, 0, t1⟩]) ∧ Bl w5 w9) := ⟨ho9, bl_grown (HW7.out.2.trans hb8) hg9 (fun x e => (H.out.2.1.block x e).1)⟩
          have eX : w7.heap.size = X := hX.symm
          have ew8 : w7.alloc (.cells #[.int .i64 3, .int .i64 0, .string (tx t1)] 38) = w8 := hw8.symm
          have HRr : Hid _ := hr
          clear hX hw8 hb8 hx8 hr ho9 hg9 hp9
          go_wp2_with (at_builtin; refine Lib.wpList_append_run _ rfl (.tmp 38) (.tmp 44) _ _ rfl _ _ rfl rfl _ _ HRr.out ?_)
          go_roundw
          case rel => exact ⟨k + 1, rest2, _, hlt, hrs2, by go_num, rfl, HA.out, HW9.out⟩
          case measure => simp [intOf]; omega
        · rw [hw] at c0 p0 ew7 hp7
          have hts : (tx E.t).size = E.t.length := tx_size _
          have HA : Hid (Bk (L a) l (k + 1) (L rest) (d ++ [⟨2, E.t.length, []⟩])) := hA
          clear hA hw
          obtain ⟨X, hX⟩ : ∃ X, X = w7.heap.size := ⟨_, rfl⟩
          obtain ⟨w8, hw8⟩ : ∃ w8, w8 = w7.alloc (.cells #[.int .i64 2, .int .i64 (E.t.length : Int), .string ⟨#[]⟩] 38) := ⟨_, rfl⟩
          have hb8 : Bl w7 w8 := by rw [hw8]; exact (Bl.refl _).alloc _
          have hx8 : w8.heap[X]? = some (.cells #[.int .i64 2, .int .i64 (E.t.length : Int), .string ⟨#[]⟩] 38 (0, 0)) := by rw [hw8, hX]; exact heap_alloc_new w7 _
          obtain ⟨v9, w9, hr, ho9, hg9⟩ := ed.app_one w8 w5.heap.size u7 d ⟨2, E.t.length, []⟩ X (HW7.out.1.step hb8) (by rw [cell_of hx8]; rfl) (by rw [cell_of hx8]; rfl) (by rw [cell_of hx8]; rfl) (by omega) (Nat.le_trans HW7.out.2.size hb8.size)
          have hp9 : w9.heap[P]? = some (.cells #[.int .i64 3, .int .i64 (n : Int), .string (tx E.t)] 38 (0, 0)) := by
            have hp8 : w8.heap[P]? = _ := (Below.block hb8 P (lt_of_heap hp7)).trans hp7
            rw [hg9.block P (lt_of_heap hp8) (fun e => by have := (H.out.2.1.block P e.symm).2; omega)]
            exact hp8
          have q1 : w9.cell? ⟨P, 1, none⟩ = some (.int .i64 (n : Int)) := by rw [cell_of hp9]; rfl
          have HW9 : Hid (ed.Own w9 w5.heap.size v9 (d ++ [⟨2, E.t.length, []⟩]) ∧ Bl w5 w9) := ⟨ho9, bl_grown (HW7.out.2.trans hb8) hg9 (fun x e => (H.out.2.1.block x e).1)⟩
          have eX : w7.heap.size = X := hX.symm
          have ew8 : w7.alloc (.cells #[.int .i64 2, .int .i64 (E.t.length : Int), .string ⟨#[]⟩] 38) = w8 := hw8.symm
          have HRr : Hid _ := hr
          clear hX hw8 hb8 hx8 hr ho9 hg9 hp9
          go_wp2_with (at_builtin; refine Lib.wpList_append_run _ rfl (.tmp 52) (.tmp 57) _ _ rfl _ _ rfl rfl _ _ HRr.out ?_)
          go_roundw
          case rel => exact ⟨k + 1, rest, _, hlt, hrs, by go_num, rfl, HA.out, HW9.out⟩
          case measure => simp [intOf]; omega
      · obtain rfl : k = l.length := by omega
        have hend : d = bckE (L a) l := by
          have := H.out.1.1
          rw [List.drop_of_length_le (Nat.le_refl _)] at this
          simpa [bckE] using this.symm
        have HF : Hid (BkAns w wr (L a) l (.tuple #[u7, .nilIface])) := ⟨HB.out.trans H.out.2.2, Or.inl ⟨HR.out, u7, rfl, by rw [← hend]; exact H.out.2.1.low HB.out.size⟩⟩
        clear hend
        go_wp2
        go_ret2
        exact ⟨_, rfl, HF.out⟩
  · obtain ⟨z, hz⟩ := eno_no h0
    have HF : Hid (∀ w', Bl w w' → BkAns w w' (L a) l (.tuple #[.slice none 0 0, .iface 22 (.int .i64 z)])) := by
      intro w' hb
      refine ⟨hb, Or.inr ⟨by rw [HR.out]; exact h0, ?_⟩⟩
      rw [HR.out, hz]
    rw [hz] at cF
    clear hz
    go_enter Tryd.func15, Tryd.ntmps15
    go_wp2_with fail
    refine cF.mono ?_
    rintro e w5 ⟨rfl, hb5⟩
    clear cF
    go_wp2
    go_ret2
    exact ⟨_, rfl, HF.out _ hb5⟩
end Go.Proofs.YtoiiphkcpdphbaaDoor.df
