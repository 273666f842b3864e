/- pairOf of package diff: how many bytes can be kept from each place of both on. -/
import Derived.Test.YtoiiphkcpdphbaaDoorDf1
import Derived.Deep.RegionHeld3
namespace Go.Proofs.YtoiiphkcpdphbaaDoor.df
set_option linter.unusedVariables false
open Go.ChangeShapes Go.WideShapes Go.ChangeAt Go.RowKit
open mem

def rowU (l : List Int) : List Value := l.map (Value.int .u16)
theorem rowU_get (l : List Int) (k : Nat) (h : k < l.length) : (rowU l)[k]? = some (.int .u16 (l.getD k 0)) := by simp [rowU, h]
theorem infoU : (Tryd.prog.info? 83).map (fun i => (i.zero, i.size, i.bytes)) = some (some (.int .u16 0), 1, 2) := by kernel_rfl
/-- Block B holds just these numbers of 16 bits, and may be written. -/
def RowU (w : World) (B : Nat) (l : List Int) : Prop := w.heap[B]? = some (.cells (rowU l).toArray 83 (0, 0))
theorem RowU.cell {w : World} {B : Nat} {l : List Int} (h : RowU w B l) {j : Nat} (hj : j < l.length) : w.cell? ⟨B, j, none⟩ = some (.int .u16 (l.getD j 0)) := by
  unfold RowU at h
  have := rowU_get l j hj
  simp only [World.cell?, h]
  simpa using this
theorem RowU.frozen {w : World} {B : Nat} {l : List Int} (h : RowU w B l) (j : Nat) : w.frozen? ⟨B, j, none⟩ = false := by
  unfold RowU at h
  simp [World.frozen?, h]
theorem RowU.lt {w : World} {B : Nat} {l : List Int} (h : RowU w B l) : B < w.heap.size := lt_of_heap h
theorem RowU.set {w : World} {B : Nat} {l : List Int} (h : RowU w B l) (j : Nat) (v : Int) : RowU (w.setCell ⟨B, j, none⟩ (.int .u16 v)) B (l.set j v) := by
  unfold RowU at h ⊢
  simp [World.setCell, Array.getElem?_modify, h, rowU]
theorem RowU.step {w w' : World} {B : Nat} {l : List Int} (h : RowU w B l) (hb : Bl w w') : RowU w' B l := by
  have := h.lt
  unfold RowU at h ⊢
  rw [Below.block hb B this]
  exact h
theorem RowU.made (w : World) (n : Nat) : RowU (w.alloc (.cells (madeCells #[.int .u16 0] n) 83)) w.heap.size (List.replicate n 0) := by
  have hl : madeCells #[Value.int .u16 0] n = (rowU (List.replicate n (0 : Int))).toArray := by
    apply Array.ext'
    rw [toList_madeCells_one]
    simp [rowU]
  unfold RowU
  show (w.heap.push _)[w.heap.size]? = _
  rw [Array.getElem?_push, if_pos rfl, hl]
/-- How many can be kept from these places on. -/
def kp (a b : ByteArray) (i j : Nat) : Nat := lcs ((L a).drop i) ((L b).drop j)
theorem drop_at (a : ByteArray) (i : Nat) (h : i < a.size) : ∃ x, (L a).drop i = x :: (L a).drop (i + 1) ∧ sb a i = (x.toNat : Int) := by
  have h' : i < (L a).length := by rw [L_len]; exact h
  refine ⟨(L a)[i], List.drop_eq_getElem_cons h', ?_⟩
  rw [sb_get a i h]
  rfl
theorem kp_end (a b : ByteArray) (j : Nat) : kp a b a.size j = 0 := by
  unfold kp; rw [List.drop_of_length_le (by rw [L_len]; exact Nat.le_refl _), nil_lcs]
theorem kp_end' (a b : ByteArray) (i : Nat) : kp a b i b.size = 0 := by
  unfold kp; rw [List.drop_of_length_le (l := L b) (by rw [L_len]; exact Nat.le_refl _), lcs_nil]
theorem kp_same (a b : ByteArray) (i j : Nat) (hi : i < a.size) (hj : j < b.size) (h : sb a i = sb b j) : kp a b i j = kp a b (i + 1) (j + 1) + 1 := by
  obtain ⟨x, h1, h2⟩ := drop_at a i hi
  obtain ⟨y, h3, h4⟩ := drop_at b j hj
  unfold kp
  rw [h1, h3, lcs_cons, if_pos (UInt8.toNat_inj.1 (by omega))]
theorem kp_else (a b : ByteArray) (i j : Nat) (hi : i < a.size) (hj : j < b.size) (h : sb a i ≠ sb b j) : kp a b i j = max (kp a b (i + 1) j) (kp a b i (j + 1)) := by
  obtain ⟨x, h1, h2⟩ := drop_at a i hi
  obtain ⟨y, h3, h4⟩ := drop_at b j hj
  unfold kp
  rw [h1, h3, lcs_cons, if_neg (fun e => h (by rw [h2, h4, e]))]
theorem kp_le (a b : ByteArray) (i j : Nat) : kp a b i j ≤ a.size := by
  unfold kp
  refine Nat.le_trans (lcs_le_left _ _) ?_
  rw [List.length_drop, L_len]; omega
/-- The table, as far as it is told. -/
def KT (a b : ByteArray) (l : List Int) (i j : Int) : Prop := l.length = (a.size + 1) * (b.size + 1) ∧
  ∀ i' j' : Nat, i' ≤ a.size → j' ≤ b.size → (i < i' ∨ (i = i' ∧ j < j') ∨ j' = b.size) → l.getD (i' * (b.size + 1) + j') 0 = (kp a b i' j' : Int)
theorem idx_lt {n m i j : Nat} (hi : i ≤ n) (hj : j ≤ m) : i * (m + 1) + j < (n + 1) * (m + 1) := by
  have := Nat.mul_le_mul_right (m + 1) hi
  rw [Nat.add_mul, Nat.one_mul]
  omega
theorem idx_inj {m i j i' j' : Nat} (hj : j ≤ m) (hj' : j' ≤ m) (h : i * (m + 1) + j = i' * (m + 1) + j') : i = i' ∧ j = j' := by
  have e1 : (i * (m + 1) + j) / (m + 1) = i := by
    rw [Nat.add_comm, Nat.add_mul_div_right _ _ (by omega), Nat.div_eq_of_lt (by omega), Nat.zero_add]
  have e2 : (i' * (m + 1) + j') / (m + 1) = i' := by
    rw [Nat.add_comm, Nat.add_mul_div_right _ _ (by omega), Nat.div_eq_of_lt (by omega), Nat.zero_add]
  have e : i = i' := by rw [← e1, ← e2, h]
  subst e
  exact ⟨rfl, by omega⟩
theorem KT.zero (a b : ByteArray) : KT a b (List.replicate ((a.size + 1) * (b.size + 1)) 0) ((a.size : Int) - 1) ((b.size : Int) - 1) := by
  refine ⟨by simp, fun i' j' hi hj h => ?_⟩
  have e : (List.replicate ((a.size + 1) * (b.size + 1)) (0 : Int)).getD (i' * (b.size + 1) + j') 0 = 0 := by
    rw [List.getD_eq_getElem?_getD, List.getElem?_replicate]; split <;> rfl
  rw [e]
  rcases h with h | h | h
  · obtain rfl : i' = a.size := by omega
    rw [kp_end]; rfl
  · obtain rfl : j' = b.size := by omega
    rw [kp_end']; rfl
  · subst h
    rw [kp_end']; rfl
theorem KT.row {a b : ByteArray} {l : List Int} {i : Int} (h : KT a b l i (-1)) : KT a b l (i - 1) ((b.size : Int) - 1) := by
  refine ⟨h.1, fun i' j' hi hj hc => h.2 i' j' hi hj ?_⟩
  omega
theorem KT.set {a b : ByteArray} {l : List Int} {i j : Nat} (h : KT a b l (i : Int) (j : Int)) (hi : i < a.size) (hj : j < b.size) : KT a b (l.set (i * (b.size + 1) + j) (kp a b i j : Int)) (i : Int) ((j : Int) - 1) := by
  refine ⟨by rw [List.length_set]; exact h.1, fun i' j' hi' hj' hc => ?_⟩
  by_cases e : i * (b.size + 1) + j = i' * (b.size + 1) + j'
  · obtain ⟨rfl, rfl⟩ := idx_inj (by omega) hj' e
    rw [List.getD_eq_getElem?_getD, List.getElem?_set_self (by rw [h.1]; exact idx_lt (by omega) (by omega))]
    rfl
  · rw [List.getD_eq_getElem?_getD, List.getElem?_set_ne e, ← List.getD_eq_getElem?_getD]
    refine h.2 i' j' hi' hj' ?_
    by_cases e2 : i' = i
    · subst e2
      have : j' ≠ j := fun e3 => e (by rw [e3])
      omega
    · omega
/-- The result's block. -/
def Pr (w : World) (P : Nat) : Prop := w.heap[P]? = some (.cells #[.string ⟨#[]⟩, .string ⟨#[]⟩, .slice none 0 0] 58 (0, 0))
theorem Pr.set {w : World} {P B j : Nat} (h : Pr w P) (hne : B ≠ P) (v : Value) : Pr (w.setCell ⟨B, j, none⟩ v) P := by
  unfold Pr at h ⊢
  simp [World.setCell, Array.getElem?_modify, hne, h]
theorem Pr.step {w w' : World} {P : Nat} (h : Pr w P) (hb : Bl w w') : Pr w' P := by
  have := lt_of_heap h
  unfold Pr at h ⊢
  rw [Below.block hb P this]
  exact h
theorem Pr.cells {w : World} {P : Nat} (h : Pr w P) : w.cell? ⟨P, 0, none⟩ = some (.string ⟨#[]⟩) ∧ w.cell? ⟨P, 1, none⟩ = some (.string ⟨#[]⟩) ∧ w.cell? ⟨P, 2, none⟩ = some (.slice none 0 0) ∧ ∀ j, w.frozen? ⟨P, j, none⟩ = false := by
  unfold Pr at h
  refine ⟨?_, ?_, ?_, fun j => by simp [World.frozen?, h]⟩ <;> (rw [cell_of h]; rfl)
set_option maxHeartbeats 1000000 in
set_option maxRecDepth 10000 in
theorem pairOf_at (a b : ByteArray) (w : World) (hab : a.size + b.size ≤ 4000) :
    Calls Tryd.prog 20 #[.string a, .string b] w fun e w' => ∃ B, e = .returned (.agg #[.string a, .string b, .slice (some ⟨B, 0, none⟩) ((a.size + 1) * (b.size + 1)) ((a.size + 1) * (b.size + 1))]) ∧ w.heap.size ≤ B ∧ ∃ l, RowU w' B l ∧ KT a b l (-1) (-1) ∧ Bl w w' := by
  obtain ⟨N, hN⟩ : ∃ N, N = (a.size + 1) * (b.size + 1) := ⟨_, rfl⟩
  have hNb : N ≤ 20000000 := by
    rw [hN]
    exact Nat.le_trans (Nat.mul_le_mul (show a.size + 1 ≤ 4001 by omega) (show b.size + 1 ≤ 4001 by omega)) (by decide)
  obtain ⟨R, hR⟩ : ∃ R, R = b.size + 1 := ⟨_, rfl⟩
  have hRb : R ≤ 4001 := by omega
  have eR : (b.size : Int) + 1 = (R : Int) := by omega
  have eN : ((a.size : Int) + 1) * (R : Int) = (N : Int) := by rw [hN, hR]; simp
  have hmk := fun w => run_make_row' (P := Tryd.prog) 56 83 (.int .u16 0) 2 Tryd.underlying56 infoU rfl .i64 .i64 N (by omega) (by omega) w
  rw [← hN]
  have HN : Hid (N = (a.size + 1) * (b.size + 1) ∧ R = b.size + 1) := ⟨hN, hR⟩
  clear hN hR
  obtain ⟨w1, hw1⟩ : ∃ w1, w1 = (w.alloc (.cells #[.string ⟨#[]⟩, .string ⟨#[]⟩, .slice none 0 0] 58)).alloc (.cells (madeCells #[.int .u16 0] N) 83) := ⟨_, rfl⟩
  obtain ⟨P, hP⟩ : ∃ P, P = w.heap.size := ⟨_, rfl⟩
  obtain ⟨B, hB⟩ : ∃ B, B = P + 1 := ⟨_, rfl⟩
  have H0 : Hid (Pr w1 P ∧ RowU w1 B (List.replicate N 0) ∧ Bl w w1) := by
    refine ⟨?_, ?_, ?_⟩
    · rw [hw1, hP]
      unfold Pr
      rw [show ∀ o, ((w.alloc (.cells #[.string ⟨#[]⟩, .string ⟨#[]⟩, .slice none 0 0] 58)).alloc o).heap[w.heap.size]? = (w.alloc (.cells #[.string ⟨#[]⟩, .string ⟨#[]⟩, .slice none 0 0] 58)).heap[w.heap.size]? from fun o => Below.heap_alloc _ o _ (by simp)]
      show (w.heap.push _)[w.heap.size]? = _
      rw [Array.getElem?_push, if_pos rfl]
    · have := RowU.made (w.alloc (.cells #[.string ⟨#[]⟩, .string ⟨#[]⟩, .slice none 0 0] 58)) N
      rw [hw1, hB, hP]
      simpa using this
    · rw [hw1]; exact ((Bl.refl w).alloc _).trans ((Bl.refl _).alloc _)
  have HB : Hid (w.heap.size = P ∧ B = P + 1) := ⟨hP.symm, hB⟩
  go_enter Tryd.func20, Tryd.ntmps20
  go_wp2
  rw [← hw1, ← hP, ← hB]
  clear hw1 hP hB hmk
  go_loopw [7, 8, 9] (fun iv _ _ wr => ∃ (i : Int) (l : List Int), -1 ≤ i ∧ i < a.size ∧ iv = .int .i64 i ∧ Hid (Pr wr P ∧ RowU wr B l ∧ KT a b l i ((b.size : Int) - 1) ∧ Bl w wr)) (fun iv _ _ _ => (intOf iv + 1).toNat)
  case atStart => exact ⟨(a.size : Int) - 1, _, by omega, by omega, rfl, H0.out.1, H0.out.2.1, by rw [HN.out.1]; exact KT.zero a b, H0.out.2.2⟩
  case round =>
    clear H0
    obtain ⟨i, l, hi1, hi2, rfl, H⟩ := hrel
    by_cases hi0 : 0 ≤ i
    · obtain ⟨I, rfl⟩ : ∃ I : Nat, i = (I : Int) := ⟨i.toNat, by omega⟩
      have hIa : I < a.size := by omega
      clear hi0 hi1 hi2
      go_wp2
      go_loopw [8, 9] (fun jv _ wr => ∃ (j : Int) (l : List Int), -1 ≤ j ∧ j < b.size ∧ jv = .int .i64 j ∧ Hid (Pr wr P ∧ RowU wr B l ∧ KT a b l (I : Int) j ∧ Bl w wr)) (fun jv _ _ => (intOf jv + 1).toNat)
      case atStart => exact ⟨(b.size : Int) - 1, _, by omega, by omega, rfl, H⟩
      case round =>
        clear H
        obtain ⟨j, l, hj1, hj2, rfl, H⟩ := hrel
        by_cases hj0 : 0 ≤ j
        · obtain ⟨J, rfl⟩ : ∃ J : Nat, j = (J : Int) := ⟨j.toNat, by omega⟩
          have hJb : J < b.size := by omega
          clear hj0 hj1 hj2
          obtain ⟨T, hT⟩ : ∃ T, T = I * R := ⟨_, rfl⟩
          have eT : (I : Int) * (R : Int) = (T : Int) := by rw [hT]; simp
          obtain ⟨X, hX⟩ : ∃ X, X = T + J := ⟨_, rfl⟩
          have eX : (T : Int) + (J : Int) = (X : Int) := by omega
          have hXi : X = I * (b.size + 1) + J := by rw [hX, hT, HN.out.2]
          have hXR : X + R = (I + 1) * (b.size + 1) + J := by rw [hXi, HN.out.2, Nat.add_mul, Nat.one_mul]; omega
          have hX1 : X + 1 = I * (b.size + 1) + (J + 1) := by omega
          have hXN : X + R + 1 < N := by
            have := idx_lt (n := a.size) (m := b.size) (i := I + 1) (j := J + 1) (by omega) (by omega)
            rw [HN.out.1]; omega
          have hll : l.length = N := by rw [H.out.2.2.1.1, HN.out.1]
          have hTb : T ≤ N := by omega
          obtain ⟨Y, hY⟩ : ∃ Y, Y = X + R := ⟨_, rfl⟩
          have eY : (X : Int) + (R : Int) = (Y : Int) := by omega
          obtain ⟨Z, hZ⟩ : ∃ Z, Z = Y + 1 := ⟨_, rfl⟩
          have eZ : (Y : Int) + 1 = (Z : Int) := by omega
          obtain ⟨V, hV⟩ : ∃ V, V = X + 1 := ⟨_, rfl⟩
          have eV : (X : Int) + 1 = (V : Int) := by omega
          have bX : X < N := by omega
          have bY : Y < N := by omega
          have bZ : Z < N := by omega
          have bV : V < N := by omega
          have cY := H.out.2.1.cell (j := Y) (by omega)
          rw [hY, hXR, H.out.2.2.1.2 (I + 1) J (by omega) (by omega) (by omega), ← hXR, ← hY] at cY
          have cZ := H.out.2.1.cell (j := Z) (by omega)
          rw [hZ, hY, hXR, Nat.add_assoc, H.out.2.2.1.2 (I + 1) (J + 1) (by omega) (by omega) (by omega), ← Nat.add_assoc, ← hXR, ← hY, ← hZ] at cZ
          have cV := H.out.2.1.cell (j := V) (by omega)
          rw [hV, hX1, H.out.2.2.1.2 I (J + 1) (by omega) (by omega) (by omega), ← hX1, ← hV] at cV
          have cX := H.out.2.1.cell (j := X) (by omega)
          generalize l.getD X 0 = old at cX
          have fX := H.out.2.1.frozen X
          have b1 := kp_le a b (I + 1) J
          have b2 := kp_le a b (I + 1) (J + 1)
          have b3 := kp_le a b I (J + 1)
          have e1 : (((a[I]'hIa).toNat : Nat) : Int) = sb a I := (sb_get a I hIa).symm
          have e2 : (((b[J]'hJb).toNat : Nat) : Int) = sb b J := (sb_get b J hJb).symm
          have HS : Hid (∀ (q : Nat) (z : Int), z = (kp a b I J : Int) → Pr ((wr.drewN q).setCell ⟨B, X, none⟩ (.int .u16 z)) P ∧ RowU ((wr.drewN q).setCell ⟨B, X, none⟩ (.int .u16 z)) B (l.set X z) ∧ KT a b (l.set X z) (I : Int) ((J : Int) - 1) ∧ Bl w ((wr.drewN q).setCell ⟨B, X, none⟩ (.int .u16 z))) := by
            rintro q z rfl
            have hd : Bl wr (wr.drewN q) := Dr.bl ⟨q, rfl⟩
            refine ⟨(H.out.1.step hd).set (by have := HB.out; omega) _, (H.out.2.1.step hd).set X _, ?_, (H.out.2.2.2.trans hd).setCell (by have := HB.out; show w.heap.size ≤ B; omega) _⟩
            rw [hXi]
            exact H.out.2.2.1.set hIa hJb
          by_cases h3 : sb a I = sb b J
          · have d3 : (sb a I == sb b J) = true := by rw [beq_iff_eq]; exact h3
            have HK := kp_same a b I J hIa hJb h3
            have HK' : Hid (kp a b I J = kp a b (I + 1) (J + 1) + 1) := HK
            clear h3 HK hT hX hXi hXR hX1 hXN hY hZ hV hll
            generalize kp a b (I + 1) (J + 1) = k1 at cZ b2 HK'
            go_wp2
            go_quiet (fail)
            go_wp2
            go_roundw
            case rel => exact ⟨(J : Int) - 1, _, by omega, by omega, rfl, HS.out _ _ (by rw [HK'.out]; rfl)⟩
            case measure => simp [intOf]
          · have d3 : (sb a I == sb b J) = false := by rw [beq_eq_false_iff_ne]; exact h3
            have HK' : Hid (kp a b I J = max (kp a b (I + 1) J) (kp a b I (J + 1))) := kp_else a b I J hIa hJb h3
            clear h3 hT hX hXi hXR hX1 hXN hY hZ hV hll cZ
            generalize kp a b (I + 1) J = k1 at cY b1 HK'
            generalize kp a b I (J + 1) = k2 at cV b3 HK'
            have em : (if (k1 : Int) < (k2 : Int) then (k2 : Int) else (k1 : Int)) = (kp a b I J : Int) := by rw [HK'.out]; split <;> omega
            have bk := kp_le a b I J
            generalize hkk : kp a b I J = kk at em bk
            have HKK : Hid (kp a b I J = kk) := hkk
            clear hkk HK'
            go_wp2
            go_quiet (fail)
            go_wp2
            go_region
            go_wp2
            go_roundw
            case rel => exact ⟨(J : Int) - 1, _, by omega, by omega, rfl, HS.out _ _ (by rw [HKK.out, ← em]; simp)⟩
            case measure => simp [intOf]
        · have hj : j = -1 := by omega
          subst hj
          have H2 : Hid (Pr wr P ∧ RowU wr B l ∧ KT a b l ((I : Int) - 1) ((b.size : Int) - 1) ∧ Bl w wr) := ⟨H.out.1, H.out.2.1, H.out.2.2.1.row, H.out.2.2.2⟩
          clear H
          go_wp2
          go_roundw
          case rel => exact ⟨(I : Int) - 1, _, by omega, by omega, rfl, H2⟩
          case measure => simp [intOf]
    · have hi : i = -1 := by omega
      subst hi
      obtain ⟨c0, c1, c2, f0⟩ := H.out.1.cells
      have f1 := f0 1
      have f2 := f0 2
      replace f0 := f0 0
      obtain ⟨wz, hwz⟩ : ∃ wz, wz = ((wr.setCell ⟨P, 0, none⟩ (.string a)).setCell ⟨P, 1, none⟩ (.string b)).setCell ⟨P, 2, none⟩ (.slice (some ⟨B, 0, none⟩) N N) := ⟨_, rfl⟩
      have hz : wz.heap[P]? = some (.cells #[.string a, .string b, .slice (some ⟨B, 0, none⟩) N N] 58 (0, 0)) := by
        have := H.out.1
        unfold Pr at this
        rw [hwz]
        simp [World.setCell, Array.getElem?_modify, this]
      have v0 : wz.cell? ⟨P, 0, none⟩ = some (.string a) := by rw [cell_of hz]; rfl
      have v1 : wz.cell? ⟨P, 1, none⟩ = some (.string b) := by rw [cell_of hz]; rfl
      have v2 : wz.cell? ⟨P, 2, none⟩ = some (.slice (some ⟨B, 0, none⟩) N N) := by rw [cell_of hz]; rfl
      have HZ : Hid (w.heap.size ≤ B ∧ RowU wz B l ∧ KT a b l (-1) (-1) ∧ Bl w wz) := by
        have hPB := HB.out
        refine ⟨by omega, ?_, ⟨H.out.2.2.1.1, fun i' j' h1 h2 h3 => H.out.2.2.1.2 i' j' h1 h2 (by omega)⟩, ?_⟩
        · have := H.out.2.1
          unfold RowU at this ⊢
          rw [hwz]
          simp [World.setCell, Array.getElem?_modify, this, show P ≠ B by omega]
        · rw [hwz]
          have hle : w.heap.size ≤ P := by omega
          exact ((H.out.2.2.2.setCell (a := ⟨P, 0, none⟩) hle _).setCell (a := ⟨P, 1, none⟩) hle _).setCell (a := ⟨P, 2, none⟩) hle _
      clear hz
      go_wp2
      rw [← hwz]
      refine bodyPost_ret (v := .agg #[.string a, .string b, .slice (some ⟨B, 0, none⟩) N N]) (by simp [results, Tryd.f20, go_sem, v0, v1, v2]) rfl ⟨B, rfl, HZ.out.1, l, HZ.out.2⟩
end Go.Proofs.YtoiiphkcpdphbaaDoor.df
