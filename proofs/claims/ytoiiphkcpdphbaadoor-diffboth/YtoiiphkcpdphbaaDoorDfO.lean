/- The document's DiffBoth, walked. -/
import Derived.Test.YtoiiphkcpdphbaaDoorDfQ
namespace Go.Proofs.YtoiiphkcpdphbaaDoor.df
set_option linter.unusedVariables false
open Go.ChangeShapes Go.WideShapes Go.ChangeAt Go.RowKit
open mem
theorem edits_sm (a b : ByteArray) (h : a.size + b.size ≤ 4000) : Small (edits (L a) (L b)) := by
  refine ⟨Nat.le_trans (edits_len _ _) (by rw [L_len, L_len]; omega), fun e he => ?_⟩
  have := rn_bd _ _ _ (rn_edits (L a) (L b)) e he
  rw [L_len, L_len] at this
  omega
theorem sumT_drop (l : List Ed) : ∀ j, sumT (l.drop j) ≤ sumT l := by
  induction l with
  | nil => intro j; simp
  | cons x l ih =>
    intro j
    cases j with
    | zero => simp
    | succ j => have := ih j; simp [sumT]; omega
theorem ext_x (s : ByteArray) (i j : Nat) : s.extract i j = tx (((L s).take j).drop i) := by rw [← L_ext, tx_L]
/-- What a sort leaves. -/
def SlAns (w w' : World) (base : Nat) (v : Value) (l : List Ed) : Prop := ∃ d : List Ed, d.Perm l ∧ d.Pairwise (fun p q => ¬ p.w < q.w) ∧ sw.Own w' base v d ∧ w.grownBy w' v.ownBlock
theorem slice_ans (base V : Nat) (v : Value) (l : List Ed) (w : World) (hl : l.length ≤ 100000) (hown : sw.Own w base v l) (hV : w.heap[V]? = some (.cells #[v] 71 (0, 0))) :
    Calls Tryd.prog 28 #[.iface 71 v, .func (.func 29) #[] #[.pointer (some ⟨V, 0, none⟩)]] w fun e w' => e = .returned (.tuple #[]) ∧ SlAns w w' base v l := slice_any base V v l w hl hown hV
/-- How far it is looked for what touches. -/
def Lk (x y : List Ed) (k : Nat) (l : List Ed) : Prop := l = x ++ oth x (y.take k) ∧ ∀ q ∈ y.take k, ∀ p ∈ x, p ≠ q → ¬ Tch p q
theorem Lk.next {x y : List Ed} {k : Nat} {l : List Ed} (h : Lk x y k l) (hk : k < y.length) (hn : ∀ p ∈ x, p ≠ y[k] → ¬ Tch p y[k]) : Lk x y (k + 1) (l ++ if y[k] ∈ x then [] else [y[k]]) := by
  refine ⟨by rw [h.1, oth_step x y k hk, List.append_assoc], fun q hq p hp hne => ?_⟩
  rw [List.take_add_one, List.getElem?_eq_getElem hk] at hq
  rcases List.mem_append.1 hq with hq | hq
  · exact h.2 q hq p hp hne
  · simp at hq
    subst hq
    exact hn p hp hne
theorem Lk.len {x y : List Ed} {k : Nat} {l : List Ed} (h : Lk x y k l) : l.length ≤ x.length + y.length := by
  rw [h.1, List.length_append]
  have h1 : (oth x (y.take k)).length ≤ (y.take k).length := List.length_filter_le _ _
  rw [List.length_take] at h1
  omega
set_option maxHeartbeats 4000000 in
set_option maxRecDepth 10000 in
theorem refBoth_at (old a b : ByteArray) (w : World) (ha : old.size + a.size ≤ 4000) (hb : old.size + b.size ≤ 4000) :
    Calls Tryd.prog 16 #[.string old, .string a, .string b] w fun e w' => e = .returned (.tuple #[.string (tx (both (L old) (L a) (L b)).1), .bool (both (L old) (L a) (L b)).2, .int .i64 0]) ∧ Bl w w' := by
  obtain ⟨R, hR⟩ : ∃ R, both (L old) (L a) (L b) = R := ⟨_, rfl⟩
  rw [hR]
  obtain ⟨X, hX⟩ : ∃ X, chg (edits (L old) (L a)) = X := ⟨_, rfl⟩
  obtain ⟨Y, hY⟩ : ∃ Y, chg (edits (L old) (L b)) = Y := ⟨_, rfl⟩
  have hsx := (chg_is _ _ _ (rn_edits (L old) (L a))).1
  have hsy := (chg_is _ _ _ (rn_edits (L old) (L b))).1
  have sA := edits_sm old a ha
  have sB := edits_sm old b hb
  have hXl : X.length ≤ 5000 := by rw [← hX]; exact Nat.le_trans (chg_len _) sA.1
  have hYl : Y.length ≤ 5000 := by rw [← hY]; exact Nat.le_trans (chg_len _) sB.1
  rw [hX] at hsx
  rw [hY] at hsy
  have HR : Hid ((match jn X Y with | none => (L a, false) | some l => (pat (L old) 0 l, true)) = R ∧ (X = [] ∨ Sep (L old).length 0 X) ∧ (Y = [] ∨ Sep (L old).length 0 Y)) := ⟨by rw [← hR, ← hX, ← hY]; rfl, hsx, hsy⟩
  have HJ : Hid (∀ l, jn X Y = some l → (l = [] ∨ Sep (L old).length 0 l) ∧ l.length ≤ 16000 ∧ ∀ j, (pat (L old) 0 (l.drop j)).length ≤ 100000000) := fun l hl => by
    have hj := hl
    rw [← hX, ← hY] at hj
    have h0 := jn_ok (L old) (L a) (L b) l hj
    have h2 := h0.2.1
    rw [L_len, L_len, L_len] at h2
    refine ⟨h0.1, by omega, fun j => ?_⟩
    have s1 := jn_sum hj
    have s2 := pat_sum (L old) 0 (chg (edits (L old) (L a)))
    have s3 := pat_sum (L old) 0 (chg (edits (L old) (L b)))
    rw [(chg_is _ _ _ (rn_edits (L old) (L a))).2, L_len] at s2
    rw [(chg_is _ _ _ (rn_edits (L old) (L b))).2, L_len] at s3
    have s4 := sumT_drop l j
    have s5 := pat_len (L old) 0 (l.drop j)
    have s6 : (L old).length * ((l.drop j).length + 1) ≤ 4000 * 16001 := Nat.mul_le_mul (by rw [L_len]; omega) (by rw [List.length_drop]; omega)
    omega
  clear hR hsx hsy
  go_enter Tryd.func16, Tryd.ntmps16
  go_wp2_with fail
  refine (refEdits_at old a w ha).mono ?_
  rintro e w1 ⟨v1, rfl, ho1, hb1⟩
  go_wp2_with fail
  refine (refEdits_at old b w1 hb).mono ?_
  rintro e w2 ⟨v2, rfl, ho2, hb2⟩
  go_wp2_with fail
  refine (swaps_at _ v1 w2 (ho1.step hb2).view sA).mono ?_
  rintro e w3 ⟨v3, rfl, ho3, hb3⟩
  rw [hX] at ho3
  obtain ⟨p3, q3, hv3, _⟩ := ho3.view
  subst hv3
  obtain ⟨V, hV⟩ : ∃ V, V = w3.heap.size := ⟨_, rfl⟩
  obtain ⟨w4, hw4⟩ : ∃ w4, w4 = w3.alloc (.cells #[.slice p3 X.length q3] 71) := ⟨_, rfl⟩
  have hb4 : Bl w3 w4 := by rw [hw4]; exact (Bl.refl _).alloc _
  have hV4 : w4.heap[V]? = some (.cells #[.slice p3 X.length q3] 71 (0, 0)) := by rw [hw4, hV]; exact heap_alloc_new w3 _
  have hs4 : w4.heap.size = V + 1 := by rw [hw4, hV]; simp
  go_wp2_with fail
  rw [← hw4, ← hV]
  refine (swaps_at _ v2 w4 (((ho2.step hb3).step hb4)).view sB).mono ?_
  rintro e w5 ⟨v5, rfl, ho5, hb5⟩
  rw [hY, hs4] at ho5
  obtain ⟨p5, q5, hv5, hq5, _⟩ := ho5.view
  subst hv5
  have hV5 : w5.heap[V]? = some (.cells #[.slice p3 X.length q3] 71 (0, 0)) := (Below.block hb5 V (lt_of_heap hV4)).trans hV4
  have hs5 : V < w5.heap.size := lt_of_heap hV5
  have hw2V : w2.heap.size ≤ V := by rw [hV]; exact hb3.size
  have HX0 : Hid (sw.Own w5 w2.heap.size (.slice p3 X.length q3) X ∧ Md w2 w5 V w5 ∧ ∀ g, (Value.slice p3 X.length q3).ownBlock = some g → g < V ∨ w5.heap.size ≤ g) := by
    refine ⟨(ho3.step hb4).step hb5, ⟨(hb3.trans hb4).trans hb5, fun k _ _ => rfl, Nat.le_refl _⟩, fun g hg => Or.inl ?_⟩
    have := (ho3.block g hg).2
    omega
  have HY5 : Hid (sw.Own w5 (V + 1) (.slice p5 Y.length q5) Y) := ho5
  have HV1 : Hid (ed.Own w2 w.heap.size v1 (edits (L old) (L a)) ∧ Bl w w2 ∧ chg (edits (L old) (L a)) = X ∧ Small (edits (L old) (L a))) := ⟨ho1.step hb2, hb1.trans hb2, hX, sA⟩
  have HVV : Hid (w2.heap.size ≤ V ∧ V < w5.heap.size ∧ w5.heap[V]? = some (.cells #[.slice p3 X.length q3] 71 (0, 0))) := ⟨hw2V, hs5, hV5⟩
  clear ho1 hb1 ho2 hb2 ho3 hb3 hV hw4 hb4 hV4 hs4 ho5 hb5 hV5 hs5 hw2V hX hY sA sB
  go_wp2
  go_loopw [15, 16, 18, 44, 51] (fun _ _ _ iv _ wr => ∃ (k : Nat) (v : Value) (l : List Ed), k ≤ Y.length ∧ iv = .int .i64 (k : Int) ∧ Hid (Lk X Y k l ∧ sw.Own wr w2.heap.size v l ∧ Md w2 w5 V wr ∧ wr.heap[V]? = some (.cells #[v] 71 (0, 0)) ∧ ∀ g, v.ownBlock = some g → g < V ∨ w5.heap.size ≤ g)) (fun _ _ _ iv _ _ => Y.length - (intOf iv).toNat)
  case atStart => exact ⟨0, _, X, Nat.zero_le _, rfl, ⟨by simp [oth], fun q hq => by simp at hq⟩, HX0.out.1, HX0.out.2.1, HVV.out.2.2, HX0.out.2.2⟩
  case round =>
    clear HX0
    obtain ⟨k, v, l, hk, rfl, H⟩ := hrel
    by_cases hlt : k < Y.length
    · have hlz : (k : Int) < (Y.length : Int) := by omega
      obtain ⟨x, c, hxc, _, hin⟩ := H.out.2.2.1.view HY5.out
      simp only [Value.slice.injEq] at hxc
      obtain ⟨rfl, _, rfl⟩ := hxc
      obtain ⟨y, rfl, c0, c1, c2⟩ := hin.at' k hlt
      obtain ⟨E, hE⟩ : ∃ E, E = Y[k] := ⟨_, rfl⟩
      rw [← hE] at c0 c1 c2
      have HE : Hid (E = Y[k]) := hE
      obtain ⟨P, hP⟩ : ∃ P, P = wr.heap.size := ⟨_, rfl⟩
      obtain ⟨w7, hw7⟩ : ∃ w7, w7 = wr.alloc (.cells #[.int .i64 E.w, .int .i64 E.n, .string (tx E.t)] 74) := ⟨_, rfl⟩
      have hb7 : Bl wr w7 := by rw [hw7]; exact (Bl.refl _).alloc _
      have hp7 : w7.heap[P]? = some (.cells #[.int .i64 E.w, .int .i64 E.n, .string (tx E.t)] 74 (0, 0)) := by rw [hw7, hP]; exact heap_alloc_new wr _
      have eP : wr.heap.size = P := hP.symm
      have ew7 : wr.alloc (.cells #[.int .i64 E.w, .int .i64 E.n, .string (tx E.t)] 74) = w7 := hw7.symm
      clear hE hw7 hin hP
      go_wp2_with fail
      refine (swaps_at _ v1 w7 ((HV1.out.1.step (H.out.2.2.1.1.trans hb7))).view HV1.out.2.2.2).mono ?_
      rintro e w8 ⟨v8, rfl, ho8, hb8⟩
      rw [HV1.out.2.2.1] at ho8
      obtain ⟨p8, q8, hv8, hq8, hin8⟩ := ho8.view
      subst hv8
      have H8 : Hid (Lk X Y k l ∧ sw.Own w8 w2.heap.size v l ∧ Md w2 w5 V w8 ∧ w8.heap[V]? = some (.cells #[v] 71 (0, 0)) ∧ (∀ g, v.ownBlock = some g → g < V ∨ w5.heap.size ≤ g) ∧ w8.heap[P]? = some (.cells #[.int .i64 E.w, .int .i64 E.n, .string (tx E.t)] 74 (0, 0)) ∧ sw.In w8 p8 X ∧ (∀ g, v.ownBlock = some g → g ≠ P)) := by
        have hb78 := hb7.trans hb8
        refine ⟨H.out.1, H.out.2.1.step hb78, H.out.2.2.1.step hb78, (Below.block hb78 V (lt_of_heap H.out.2.2.2.1)).trans H.out.2.2.2.1, H.out.2.2.2.2, (Below.block hb8 P (lt_of_heap hp7)).trans hp7, hin8, fun g hg e => ?_⟩
        have := (H.out.2.1.block g hg).2
        omega
      clear H hb7 hp7 ho8 hb8 hin8 ew7 eP c0 c1 c2
      go_wp2
      go_loopw [16, 18, 51] (fun hv _ jv wr => ∃ j : Nat, j ≤ X.length ∧ jv = .int .i64 (j : Int) ∧ hv = .bool (decide (E ∈ X.take j)) ∧ Hid ((∀ p ∈ X.take j, p ≠ E → ¬ Tch p E) ∧ Bl w8 wr)) (fun _ _ jv _ => X.length - (intOf jv).toNat)
      case atStart => exact ⟨0, Nat.zero_le _, rfl, by simp, fun p hp => by simp at hp, Bl.refl _⟩
      case round =>
        obtain ⟨j, hj, rfl, rfl, H⟩ := hrel
        by_cases hjl : j < X.length
        · have hjz : (j : Int) < (X.length : Int) := by omega
          obtain ⟨z, rfl, d0, d1, d2⟩ := (H8.out.2.2.2.2.2.2.1.step H.out.2).at' j hjl
          have htk : X.take (j + 1) = X.take j ++ [X[j]] := by rw [List.take_add_one, List.getElem?_eq_getElem hjl]; rfl
          obtain ⟨F, hF⟩ : ∃ F, F = X[j] := ⟨_, rfl⟩
          rw [← hF] at d0 d1 d2 htk
          have HF : Hid (X.take (j + 1) = X.take j ++ [F] ∧ F ∈ X) := ⟨htk, by rw [hF]; exact List.getElem_mem hjl⟩
          have hpP := (Below.block H.out.2 P (lt_of_heap H8.out.2.2.2.2.2.1)).trans H8.out.2.2.2.2.2.1
          obtain ⟨Q, hQ⟩ : ∃ Q, Q = wr.heap.size := ⟨_, rfl⟩
          obtain ⟨w9, hw9⟩ : ∃ w9, w9 = wr.alloc (.cells #[.int .i64 F.w, .int .i64 F.n, .string (tx F.t)] 74) := ⟨_, rfl⟩
          have hb9 : Bl wr w9 := by rw [hw9]; exact (Bl.refl _).alloc _
          have hq9 : w9.heap[Q]? = some (.cells #[.int .i64 F.w, .int .i64 F.n, .string (tx F.t)] 74 (0, 0)) := by rw [hw9, hQ]; exact heap_alloc_new wr _
          have hp9 := (Below.block hb9 P (lt_of_heap hpP)).trans hpP
          have a0 : w9.cell? ⟨P, 0, none⟩ = some (.int .i64 E.w) := by rw [cell_of hp9]; rfl
          have a1 : w9.cell? ⟨P, 1, none⟩ = some (.int .i64 E.n) := by rw [cell_of hp9]; rfl
          have a2 : w9.cell? ⟨P, 2, none⟩ = some (.string (tx E.t)) := by rw [cell_of hp9]; rfl
          have b0 : w9.cell? ⟨Q, 0, none⟩ = some (.int .i64 F.w) := by rw [cell_of hq9]; rfl
          have b1 : w9.cell? ⟨Q, 1, none⟩ = some (.int .i64 F.n) := by rw [cell_of hq9]; rfl
          have b2 : w9.cell? ⟨Q, 2, none⟩ = some (.string (tx F.t)) := by rw [cell_of hq9]; rfl
          have eQ : wr.heap.size = Q := hQ.symm
          have ew9 : wr.alloc (.cells #[.int .i64 F.w, .int .i64 F.n, .string (tx F.t)] 74) = w9 := hw9.symm
          have HB9 : Hid (Bl w8 w9) := H.out.2.trans hb9
          clear hF htk hpP hQ hw9 hb9 hq9 hp9
          by_cases hfe : F = E
          · have hEq := eqSw F E true (decide_eq_true hfe)
            have HN : Hid (decide (E ∈ X.take (j + 1)) = true ∧ ∀ p ∈ X.take (j + 1), p ≠ E → ¬ Tch p E) := by
              refine ⟨by rw [HF.out.1]; simp [hfe], fun p hp hne => ?_⟩
              rw [HF.out.1] at hp
              rcases List.mem_append.1 hp with hp | hp
              · exact H.out.1 p hp hne
              · simp at hp; exact absurd (hp.trans hfe) hne
            clear hfe
            go_wp2
            go_roundw
            case rel => exact ⟨j + 1, hjl, by go_num, by rw [HN.out.1], HN.out.2, HB9.out⟩
            case measure => simp [intOf]; omega
          · have hEq := eqSw F E false (decide_eq_false hfe)
            by_cases ht1 : F.w ≤ E.n
            · have dt1 : decide (F.w ≤ E.n) = true := decide_eq_true ht1
              by_cases ht2 : E.w ≤ F.n
              · have dt2 : decide (E.w ≤ F.n) = true := decide_eq_true ht2
                have hnone : jn X Y = none := (jn_touch 0 0 HR.out.2.1 HR.out.2.2).2 ⟨F, HF.out.2, E, by rw [HE.out]; exact List.getElem_mem hlt, hfe, ht1, ht2⟩
                have hRR : R = (L a, false) := by rw [← HR.out.1, hnone]
                subst hRR
                have HBz : Hid (Bl w w9) := (HV1.out.2.1.trans H8.out.2.2.1.1).trans HB9.out
                go_wp2
                go_ret3
                exact ⟨by rw [tx_L]; rfl, HBz.out⟩
              · have dt2 : decide (E.w ≤ F.n) = false := decide_eq_false ht2
                have HN : Hid (decide (E ∈ X.take (j + 1)) = decide (E ∈ X.take j) ∧ ∀ p ∈ X.take (j + 1), p ≠ E → ¬ Tch p E) := by
                  have hef : ¬ E = F := fun e => hfe e.symm
                  refine ⟨by rw [HF.out.1]; simp [hef], fun p hp hne => ?_⟩
                  rw [HF.out.1] at hp
                  rcases List.mem_append.1 hp with hp | hp
                  · exact H.out.1 p hp hne
                  · simp at hp; subst hp; exact fun h => ht2 h.2
                clear hfe
                go_wp2
                go_roundw
                case rel => exact ⟨j + 1, hjl, by go_num, by rw [HN.out.1], HN.out.2, HB9.out⟩
                case measure => simp [intOf]; omega
            · have dt1 : decide (F.w ≤ E.n) = false := decide_eq_false ht1
              have HN : Hid (decide (E ∈ X.take (j + 1)) = decide (E ∈ X.take j) ∧ ∀ p ∈ X.take (j + 1), p ≠ E → ¬ Tch p E) := by
                have hef : ¬ E = F := fun e => hfe e.symm
                refine ⟨by rw [HF.out.1]; simp [hef], fun p hp hne => ?_⟩
                rw [HF.out.1] at hp
                rcases List.mem_append.1 hp with hp | hp
                · exact H.out.1 p hp hne
                · simp at hp; subst hp; exact fun h => ht1 h.1
              clear hfe
              go_wp2
              go_roundw
              case rel => exact ⟨j + 1, hjl, by go_num, by rw [HN.out.1], HN.out.2, HB9.out⟩
              case measure => simp [intOf]; omega
        · have hjz : ¬ (j : Int) < (X.length : Int) := by omega
          obtain rfl : j = X.length := by omega
          rw [List.take_of_length_le (Nat.le_refl _)]
          have hno : ∀ p ∈ X, p ≠ Y[k] → ¬ Tch p Y[k] := by
            have := H.out.1
            rw [List.take_of_length_le (Nat.le_refl _), HE.out] at this
            exact this
          have hnx := H8.out.1.next hlt hno
          have hb8 := H.out.2
          have hV9 := (Below.block hb8 V (lt_of_heap H8.out.2.2.2.1)).trans H8.out.2.2.2.1
          by_cases hmem : E ∈ X
          · have hdm : decide (E ∈ X) = true := decide_eq_true hmem
            rw [if_pos (by rw [← HE.out]; exact hmem), List.append_nil] at hnx
            have HF : Hid (Lk X Y (k + 1) l ∧ sw.Own wr w2.heap.size v l ∧ Md w2 w5 V wr ∧ wr.heap[V]? = some (.cells #[v] 71 (0, 0)) ∧ ∀ g, v.ownBlock = some g → g < V ∨ w5.heap.size ≤ g) := ⟨hnx, H8.out.2.1.step hb8, H8.out.2.2.1.step hb8, hV9, H8.out.2.2.2.2.1⟩
            rw [hdm]
            clear hno hnx hb8 hV9 hmem hdm H
            go_wp2
            go_roundw
            case rel => exact ⟨k + 1, v, l, hlt, by go_num, HF.out⟩
            case measure => simp [intOf]; omega
          · have hdm : decide (E ∈ X) = false := decide_eq_false hmem
            rw [if_neg (by rw [← HE.out]; exact hmem), ← HE.out] at hnx
            have hown9 := H8.out.2.1.step hb8
            have hP9 := (Below.block hb8 P (lt_of_heap H8.out.2.2.2.2.2.1)).trans H8.out.2.2.2.2.2.1
            have hml := H8.out.1.len
            obtain ⟨pv, qv, hvs, _⟩ := hown9.view
            subst hvs
            have cV : wr.cell? ⟨V, 0, none⟩ = some (.slice pv l.length qv) := by rw [cell_of hV9]; rfl
            have a0 : wr.cell? ⟨P, 0, none⟩ = some (.int .i64 E.w) := by rw [cell_of hP9]; rfl
            have a1 : wr.cell? ⟨P, 1, none⟩ = some (.int .i64 E.n) := by rw [cell_of hP9]; rfl
            have a2 : wr.cell? ⟨P, 2, none⟩ = some (.string (tx E.t)) := by rw [cell_of hP9]; rfl
            obtain ⟨Z, hZ⟩ : ∃ Z, Z = wr.heap.size := ⟨_, rfl⟩
            obtain ⟨wa, hwa⟩ : ∃ wa, wa = wr.alloc (.cells #[.int .i64 E.w, .int .i64 E.n, .string (tx E.t)] 74) := ⟨_, rfl⟩
            have hba : Bl wr wa := by rw [hwa]; exact (Bl.refl _).alloc _
            have hza : wa.heap[Z]? = some (.cells #[.int .i64 E.w, .int .i64 E.n, .string (tx E.t)] 74 (0, 0)) := by rw [hwa, hZ]; exact heap_alloc_new wr _
            have z0 : wa.cell? ⟨Z, 0, none⟩ = some (.int .i64 E.w) := by rw [cell_of hza]; rfl
            have z1 : wa.cell? ⟨Z, 1, none⟩ = some (.int .i64 E.n) := by rw [cell_of hza]; rfl
            have z2 : wa.cell? ⟨Z, 2, none⟩ = some (.string (tx E.t)) := by rw [cell_of hza]; rfl
            have hMa := (H8.out.2.2.1.step hb8).step hba
            obtain ⟨v', wb, hr, hob, hgb⟩ := sw.app_one wa w2.heap.size (.slice pv l.length qv) l E Z (hown9.step hba) z0 z1 z2 (by omega) hMa.1.size
            have hwhere := sw.app_where wa w2.heap.size (.slice pv l.length qv) l E Z (hown9.step hba) z0 z1 z2 (by omega) v' wb hr
            have hVa := (Below.block hba V (lt_of_heap hV9)).trans hV9
            have hnv : (Value.slice pv l.length qv).ownBlock ≠ some V := fun e => by
              have h1 : pv = some ⟨V, 0, none⟩ := by
                rcases hown9.shape with ⟨e1, _⟩ | ⟨g, cap, e1, _⟩
                · rw [e1] at e; cases e
                · simp only [Value.slice.injEq] at e1
                  rw [e1.1] at e
                  simp [Value.ownBlock] at e
                  rw [e1.1, e]
              subst h1
              obtain ⟨cur, hc⟩ := hown9.kind
              rw [hV9] at hc
              injection hc with hc
              injection hc with _ hc
              exact absurd hc (by decide)
            have hVb : wb.heap[V]? = some (.cells #[.slice pv l.length qv] 71 (0, 0)) := by
              rw [hgb.block V (lt_of_heap hVa) (fun e => hnv e.symm)]
              exact hVa
            have hMb : Md w2 w5 V wb := hMa.grown hgb (fun g hg => ⟨(hown9.block g hg).1, H8.out.2.2.2.2.1 g hg⟩)
            have hwb : ∀ g, v'.ownBlock = some g → g < V ∨ w5.heap.size ≤ g := fun g hg => by
              rcases hwhere with h | h
              · exact H8.out.2.2.2.2.1 g (by rw [← h]; exact hg)
              · rw [h] at hg
                injection hg with hg
                have := hMa.2.2
                omega
            obtain ⟨pw, qw, hvs, _⟩ := hob.view
            subst hvs
            have cVb : wb.cell? ⟨V, 0, none⟩ = some (.slice pv l.length qv) := by rw [cell_of hVb]; rfl
            have fVb : wb.frozen? ⟨V, 0, none⟩ = false := by simp [World.frozen?, hVb]
            have hnv' : (Value.slice pw (l ++ [E]).length qw).ownBlock ≠ some V := fun e => by
              rcases hwb V e with h | h
              · omega
              · have := HVV.out; omega
            have HF : Hid (Lk X Y (k + 1) (l ++ [E]) ∧ sw.Own (wb.setCell ⟨V, 0, none⟩ (.slice pw (l ++ [E]).length qw)) w2.heap.size (.slice pw (l ++ [E]).length qw) (l ++ [E]) ∧ Md w2 w5 V (wb.setCell ⟨V, 0, none⟩ (.slice pw (l ++ [E]).length qw)) ∧ (wb.setCell ⟨V, 0, none⟩ (.slice pw (l ++ [E]).length qw)).heap[V]? = some (.cells #[.slice pw (l ++ [E]).length qw] 71 (0, 0)) ∧ ∀ g, (Value.slice pw (l ++ [E]).length qw).ownBlock = some g → g < V ∨ w5.heap.size ≤ g) := by
              refine ⟨hnx, hob.kept (grown_set wb V 0 _) (fun k hk e => hnv' (by rw [hk]; exact e.symm)), hMb.setV HVV.out.1, ?_, hwb⟩
              simp [World.setCell, Array.getElem?_modify, hVb]
            have HRr : Hid _ := hr
            have eZ : wr.heap.size = Z := hZ.symm
            have ewa : wr.alloc (.cells #[.int .i64 E.w, .int .i64 E.n, .string (tx E.t)] 74) = wa := hwa.symm
            obtain ⟨m1, hm1⟩ : ∃ m1, (l ++ [E]).length = m1 := ⟨_, rfl⟩
            rw [hm1] at HRr HF
            have HM1 : Hid ((l ++ [E]).length = m1) := hm1
            rw [hdm]
            clear hno hnx hb8 hV9 hmem hdm H hown9 hP9 hml hZ hwa hba hza z0 z1 z2 hMa hr hob hgb hwhere hVa hnv hVb hMb hwb hnv' hm1
            go_wp2_with (at_builtin; refine Lib.wpList_append_run _ rfl (.tmp 74) (.tmp 76) _ _ rfl _ _ rfl rfl _ _ HRr.out ?_)
            go_roundw
            case rel => exact ⟨k + 1, _, l ++ [E], hlt, by go_num, HF.out⟩
            case measure => simp [intOf]; omega
    · have hlz : ¬ (k : Int) < (Y.length : Int) := by omega
      obtain rfl : k = Y.length := by omega
      have hl1 := H.out.1.1
      have hno := H.out.1.2
      rw [List.take_of_length_le (Nat.le_refl _)] at hl1 hno
      obtain ⟨J, hJ⟩ : ∃ J, jn X Y = some J := by
        cases hj : jn X Y with
        | some J => exact ⟨J, rfl⟩
        | none =>
          obtain ⟨p, hp, q, hq, hne, ht⟩ := (jn_touch 0 0 HR.out.2.1 HR.out.2.2).1 hj
          exact absurd ht (hno q hq p hp hne)
      have hRR : R = (pat (L old) 0 J, true) := by rw [← HR.out.1, hJ]
      have hperm := jn_perm 0 0 J HR.out.2.1 HR.out.2.2 hJ
      rw [← hl1] at hperm
      obtain ⟨hsep, hJl, hJp⟩ := HJ.out J hJ
      have hml := H.out.1.len
      have hVk := H.out.2.2.2.1
      obtain ⟨pv, qv, hvs, _⟩ := H.out.2.1.view
      subst hvs
      have cV : wr.cell? ⟨V, 0, none⟩ = some (.slice pv l.length qv) := by rw [cell_of hVk]; rfl
      have hnv : (Value.slice pv l.length qv).ownBlock ≠ some V := fun e => by
        rcases H.out.2.2.2.2 V e with h | h
        · omega
        · have := HVV.out; omega
      have cS := slice_ans w2.heap.size V (.slice pv l.length qv) l wr (by omega) H.out.2.1 hVk
      have HQ : Hid (R = (pat (L old) 0 J, true) ∧ J.Perm l ∧ (J = [] ∨ Sep (L old).length 0 J) ∧ J.length ≤ 16000 ∧ ∀ j, (pat (L old) 0 (J.drop j)).length ≤ 100000000) := ⟨hRR, hperm, hsep, hJl, hJp⟩
      have HNV : Hid ((Value.slice pv l.length qv).ownBlock ≠ some V ∧ wr.heap[V]? = some (.cells #[.slice pv l.length qv] 71 (0, 0)) ∧ l.length ≤ X.length + Y.length) := ⟨hnv, hVk, hml⟩
      clear hl1 hno hJ hRR hperm hsep hJl hJp hnv hVk hml
      go_wp2_with fail
      refine cS.mono ?_
      rintro e ws ⟨rfl, hans⟩
      obtain ⟨d, hd1, hd2, hod, hgd⟩ := hans
      obtain ⟨hRR, hperm, hsep, hJl, hJp⟩ := HQ.out
      obtain ⟨hnv, hVk, hml⟩ := HNV.out
      have hdJ : d = J.reverse := one_order d J.reverse ((hd1.trans hperm.symm).trans (List.reverse_perm J).symm) (by rw [List.pairwise_reverse]; exact sep_pair hsep) hd2
      have hbs : Bl w2 ws := bl_grown H.out.2.2.1.1 hgd (fun g hg => (H.out.2.1.block g hg).1)
      have hVs : ws.heap[V]? = some (.cells #[.slice pv l.length qv] 71 (0, 0)) := by
        rw [hgd.block V (lt_of_heap hVk) (fun e => hnv e.symm)]
        exact hVk
      have cVs : ws.cell? ⟨V, 0, none⟩ = some (.slice pv l.length qv) := by rw [cell_of hVs]; rfl
      have hln : l.length = J.length := hperm.length_eq.symm
      obtain ⟨px, qx, hvx, _, hinx⟩ := hod.view
      simp only [Value.slice.injEq] at hvx
      obtain ⟨rfl, _, rfl⟩ := hvx
      obtain ⟨n, hn⟩ : ∃ n, l.length = n := ⟨_, rfl⟩
      rw [hn] at cVs ⊢
      have HD : Hid (sw.In ws pv d ∧ d = J.reverse ∧ J.length = n ∧ Bl w2 ws ∧ R = (pat (L old) 0 J, true) ∧ (J = [] ∨ Sep (L old).length 0 J) ∧ ∀ j, (pat (L old) 0 (J.drop j)).length ≤ 100000000) := ⟨hinx, hdJ, by omega, hbs, hRR, hsep, hJp⟩
      have hnb : n ≤ 16000 := by omega
      clear H hRR hperm hsep hJl hJp hml hVk cV hnv cS HQ HNV hd1 hd2 hod hgd hdJ hbs hVs hln hinx hn
      go_wp2
      go_loopw [0, 20, 85] (fun ov _ iv wr => ∃ k : Nat, k ≤ n ∧ iv = .int .i64 (k : Int) ∧ ov = .string (tx (pat (L old) 0 (J.drop (n - k)))) ∧ Hid (Bl ws wr)) (fun _ _ iv _ => n - (intOf iv).toNat)
      case atStart =>
        refine ⟨0, Nat.zero_le _, rfl, ?_, Bl.refl _⟩
        rw [Nat.sub_zero, List.drop_of_length_le (by rw [HD.out.2.2.1]; exact Nat.le_refl _)]
        simp [pat, tx_L]
      case round =>
        obtain ⟨k, hk, rfl, rfl, H⟩ := hrel
        by_cases hlt : k < n
        · have hlz : (k : Int) < (n : Int) := by omega
          have hdl : d.length = n := by rw [HD.out.2.1, List.length_reverse]; exact HD.out.2.2.1
          obtain ⟨z, rfl, c0, c1, c2⟩ := (HD.out.1.step H.out).at' k (by omega)
          obtain ⟨j, hj⟩ : ∃ j, j = n - 1 - k := ⟨_, rfl⟩
          have hjl : j < J.length := by rw [HD.out.2.2.1]; omega
          have hdk : d[k]'(by omega) = J[j]'hjl := by
            have : ∀ (d' : List Ed) (h' : k < d'.length), d' = J.reverse → d'[k]'h' = J[j]'hjl := by
              intro d' h' e
              subst e
              rw [List.getElem_reverse]
              congr 1
              rw [hj, HD.out.2.2.1]
            exact this d (by omega) HD.out.2.1
          rw [hdk] at c0 c1 c2
          obtain ⟨g1, g2, g3, g4⟩ := pat_step HD.out.2.2.2.2.2.1 j hjl
          have hpl := HD.out.2.2.2.2.2.2 (j + 1)
          have hpl2 := HD.out.2.2.2.2.2.2 j
          rw [show n - k = j + 1 by omega]
          obtain ⟨cur, hcur⟩ : ∃ cur, pat (L old) 0 (J.drop (j + 1)) = cur := ⟨_, rfl⟩
          rw [hcur] at g3 g4 hpl ⊢
          obtain ⟨F, hF⟩ : ∃ F, J[j]'hjl = F := ⟨_, rfl⟩
          rw [hF] at c0 c1 c2 g1 g2 g3 g4
          obtain ⟨fr, hfr⟩ : ∃ fr : Nat, F.w = (fr : Int) := ⟨F.w.toNat, by omega⟩
          obtain ⟨to, hto⟩ : ∃ to : Nat, F.n = (to : Int) := ⟨F.n.toNat, by omega⟩
          rw [hfr] at c0 g2 g4
          rw [hto] at c1 g2 g3 g4
          rw [Int.toNat_natCast, Int.toNat_natCast] at g4
          have hcs : (tx cur).size = cur.length := tx_size _
          have hf1 : fr ≤ cur.length := by omega
          have ht1 : to ≤ cur.length := by omega
          have ext1 : (tx cur).extract 0 fr = tx (cur.take fr) := by rw [ext_x, L_tx, List.drop_zero]
          have ext2 : (tx cur).extract to cur.length = tx (cur.drop to) := by rw [ext_x, L_tx, List.take_of_length_le (Nat.le_refl _)]
          have cat1 : tx (cur.take fr) ++ tx F.t = tx (cur.take fr ++ F.t) := tx_app _ _
          have cat2 : tx (cur.take fr ++ F.t) ++ tx (cur.drop to) = tx (cur.take fr ++ F.t ++ cur.drop to) := tx_app _ _
          have hlf : F.t.length ≤ 100000000 := by
            rw [g4] at hpl2
            simp only [List.length_append] at hpl2
            omega
          have z1 : (tx (cur.take fr)).size ≤ 100000000 := by rw [tx_size, List.length_take]; omega
          have z2 : (tx F.t).size ≤ 100000000 := by rw [tx_size]; exact hlf
          have z3 : (tx (cur.drop to)).size ≤ 100000000 := by rw [tx_size, List.length_drop]; omega
          have z4 : (tx (cur.take fr ++ F.t)).size ≤ 200000000 := by rw [tx_size, List.length_append, List.length_take]; omega
          have HG : Hid (tx (cur.take fr ++ F.t ++ cur.drop to) = tx (pat (L old) 0 (J.drop (n - (k + 1))))) := by
            rw [show n - (k + 1) = j by omega, g4, List.append_assoc]
            exact (rfl : _ = _)
          generalize tx (cur.take fr ++ F.t ++ cur.drop to) = r3 at cat2 HG
          generalize tx (cur.take fr ++ F.t) = r2 at cat1 cat2 z4
          generalize tx (cur.take fr) = r1 at ext1 cat1 z1
          generalize tx (cur.drop to) = r4 at ext2 cat2 z3
          clear hj hdk g1 g2 g3 g4 hpl hpl2 hcur hF hfr hto hdl
          generalize tx F.t = ft at c2 cat1 z2
          generalize tx cur = tc at hcs ext1 ext2
          go_wp2
          go_quiet (fail)
          go_wp2
          go_roundw
          case rel => exact ⟨k + 1, hlt, by go_num, by rw [HG.out], (H.out.trans ((Bl.refl _).alloc _)).trans (Dr.bl ⟨_, rfl⟩)⟩
          case measure => simp [intOf]; omega
        · have hlz : ¬ (k : Int) < (n : Int) := by omega
          obtain rfl : k = n := by omega
          have hRR := HD.out.2.2.2.2.1
          subst hRR
          have HBz : Hid (Bl w wr) := (HV1.out.2.1.trans HD.out.2.2.2.1).trans H.out
          rw [Nat.sub_self, List.drop_zero]
          go_wp2
          go_ret3
          exact ⟨rfl, HBz.out⟩
end Go.Proofs.YtoiiphkcpdphbaaDoor.df
