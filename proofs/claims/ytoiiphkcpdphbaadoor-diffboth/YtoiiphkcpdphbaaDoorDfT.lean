/- The document's table of what two texts have in common: rows of numbers in a row. -/
import Derived.Test.YtoiiphkcpdphbaaDoorDf4
namespace Go.Proofs.YtoiiphkcpdphbaaDoor.df
set_option linter.unusedVariables false
open Go.ChangeShapes Go.WideShapes Go.ChangeAt Go.RowKit
open mem
def rowN (l : List Int) : List Value := l.map (Value.int .i64)
theorem rowN_get (l : List Int) (k : Nat) (h : k < l.length) : (rowN l)[k]? = some (.int .i64 (l.getD k 0)) := by simp [rowN, h]
theorem infoN : (Tryd.prog.info? 3).map (fun i => (i.zero, i.size, i.bytes)) = some (some (.int .i64 0), 1, 8) := by kernel_rfl
theorem infoR : (Tryd.prog.info? 51).map (fun i => (i.zero, i.size, i.bytes)) = some (some (.slice none 0 0), 1, 24) := by kernel_rfl
/-- Block B holds just these numbers, and may be written. -/
def RowN (w : World) (B : Nat) (l : List Int) : Prop := w.heap[B]? = some (.cells (rowN l).toArray 3 (0, 0))
theorem RowN.cell {w : World} {B : Nat} {l : List Int} (h : RowN w B l) {j : Nat} (hj : j < l.length) : w.cell? ⟨B, j, none⟩ = some (.int .i64 (l.getD j 0)) := by
  unfold RowN at h
  have := rowN_get l j hj
  simp only [World.cell?, h]
  simpa using this
theorem RowN.frozen {w : World} {B : Nat} {l : List Int} (h : RowN w B l) (j : Nat) : w.frozen? ⟨B, j, none⟩ = false := by
  unfold RowN at h
  simp [World.frozen?, h]
theorem RowN.lt {w : World} {B : Nat} {l : List Int} (h : RowN w B l) : B < w.heap.size := lt_of_heap h
theorem RowN.set {w : World} {B : Nat} {l : List Int} (h : RowN w B l) (j : Nat) (v : Int) : RowN (w.setCell ⟨B, j, none⟩ (.int .i64 v)) B (l.set j v) := by
  unfold RowN at h ⊢
  simp [World.setCell, Array.getElem?_modify, h, rowN]
theorem RowN.other {w : World} {B C j : Nat} {l : List Int} {v : Value} (h : RowN w B l) (hne : C ≠ B) : RowN (w.setCell ⟨C, j, none⟩ v) B l := by
  unfold RowN at h ⊢
  simp [World.setCell, Array.getElem?_modify, hne, h]
theorem RowN.step {w w' : World} {B : Nat} {l : List Int} (h : RowN w B l) (hb : Bl w w') : RowN w' B l := by
  have := h.lt
  unfold RowN at h ⊢
  rw [Below.block hb B this]
  exact h
theorem RowN.made (w : World) (n : Nat) : RowN (w.alloc (.cells (madeCells #[.int .i64 0] n) 3)) w.heap.size (List.replicate n 0) := by
  have hl : madeCells #[Value.int .i64 0] n = (rowN (List.replicate n (0 : Int))).toArray := by
    apply Array.ext'
    rw [toList_madeCells_one]
    simp [rowN]
  unfold RowN
  rw [heap_alloc_new, hl]
/-- Rows from i up to n lie in blocks of their own, and the block T tells where. -/
def Tab (w : World) (T : Nat) (rs : List Value) (G : Nat → Nat) (ls : Nat → List Int) (i n m : Nat) : Prop :=
  w.heap[T]? = some (.cells rs.toArray 51 (0, 0)) ∧ rs.length = n + 1 ∧
  (∀ x, i ≤ x → x ≤ n → rs[x]? = some (.slice (some ⟨G x, 0, none⟩) (m + 1) (m + 1)) ∧ T < G x ∧ RowN w (G x) (ls x) ∧ (ls x).length = m + 1) ∧
  (∀ x y, i ≤ x → x ≤ n → i ≤ y → y ≤ n → G x = G y → x = y)
theorem Tab.step {w w' : World} {T : Nat} {rs : List Value} {G : Nat → Nat} {ls : Nat → List Int} {i n m : Nat} (h : Tab w T rs G ls i n m) (hb : Bl w w') : Tab w' T rs G ls i n m := by
  obtain ⟨h1, h2, h3, h4⟩ := h
  refine ⟨by rw [Below.block hb T (lt_of_heap h1)]; exact h1, h2, fun x hx hn => ?_, h4⟩
  obtain ⟨g1, g2, g3, g4⟩ := h3 x hx hn
  exact ⟨g1, g2, g3.step hb, g4⟩
theorem Tab.ptr {w : World} {T : Nat} {rs : List Value} {G : Nat → Nat} {ls : Nat → List Int} {i n m : Nat} (h : Tab w T rs G ls i n m) (x : Nat) (hx : i ≤ x) (hn : x ≤ n) : w.cell? ⟨T, x, none⟩ = some (.slice (some ⟨G x, 0, none⟩) (m + 1) (m + 1)) := by
  rw [cell_of h.1]
  simpa using (h.2.2.1 x hx hn).1
theorem Tab.row {w : World} {T : Nat} {rs : List Value} {G : Nat → Nat} {ls : Nat → List Int} {i n m : Nat} (h : Tab w T rs G ls i n m) (x : Nat) (hx : i ≤ x) (hn : x ≤ n) : RowN w (G x) (ls x) := (h.2.2.1 x hx hn).2.2.1
theorem Tab.len {w : World} {T : Nat} {rs : List Value} {G : Nat → Nat} {ls : Nat → List Int} {i n m : Nat} (h : Tab w T rs G ls i n m) (x : Nat) (hx : i ≤ x) (hn : x ≤ n) : (ls x).length = m + 1 := (h.2.2.1 x hx hn).2.2.2
/-- A number put into row z. -/
def upd (ls : Nat → List Int) (z j : Nat) (v : Int) : Nat → List Int := fun x => if x = z then (ls x).set j v else ls x
theorem upd_upd (ls : Nat → List Int) (z j : Nat) (u v : Int) : upd (upd ls z j u) z j v = upd ls z j v := by
  funext x
  unfold upd
  by_cases e : x = z
  · rw [if_pos e, if_pos e, if_pos e, List.set_set]
  · rw [if_neg e, if_neg e, if_neg e]
theorem Tab.set {w : World} {T : Nat} {rs : List Value} {G : Nat → Nat} {ls : Nat → List Int} {i n m : Nat} (h : Tab w T rs G ls i n m) (z j : Nat) (v : Int) (hz : i ≤ z) (hzn : z ≤ n) : Tab (w.setCell ⟨G z, j, none⟩ (.int .i64 v)) T rs G (upd ls z j v) i n m := by
  obtain ⟨h1, h2, h3, h4⟩ := h
  obtain ⟨k1, k2, k3, k4⟩ := h3 z hz hzn
  refine ⟨?_, h2, fun x hx hn => ?_, h4⟩
  · have : G z ≠ T := by omega
    simp [World.setCell, Array.getElem?_modify, this, h1]
  · obtain ⟨g1, g2, g3, g4⟩ := h3 x hx hn
    unfold upd
    by_cases e : x = z
    · subst e
      rw [if_pos rfl]
      exact ⟨g1, g2, g3.set j v, by rw [List.length_set]; exact g4⟩
    · rw [if_neg e]
      exact ⟨g1, g2, g3.other (fun e2 => e (h4 z x hz hzn hx hn e2).symm), g4⟩
theorem Tab.new {w w' : World} {T : Nat} {rs : List Value} {G : Nat → Nat} {ls : Nat → List Int} {i n m g : Nat} (h : Tab w T rs G ls (i + 1) n m) (hi : i ≤ n) (hb : Bl w w') (hg : RowN w' g (List.replicate (m + 1) 0)) (hgw : w.heap.size ≤ g) :
    Tab (w'.setCell ⟨T, i, none⟩ (.slice (some ⟨g, 0, none⟩) (m + 1) (m + 1))) T (rs.set i (.slice (some ⟨g, 0, none⟩) (m + 1) (m + 1))) (fun x => if x = i then g else G x) (fun x => if x = i then List.replicate (m + 1) 0 else ls x) i n m := by
  have hT := lt_of_heap h.1
  obtain ⟨h1, h2, h3, h4⟩ := h.step hb
  have hGl : ∀ x, i + 1 ≤ x → x ≤ n → G x < w.heap.size := fun x hx hn => (h.row x hx hn).lt
  refine ⟨?_, by rw [List.length_set]; exact h2, fun x hx hn => ?_, fun x y hx hn hy hny e => ?_⟩
  · simp [World.setCell, Array.getElem?_modify, h1]
  · dsimp only
    by_cases e : x = i
    · subst e
      rw [if_pos rfl, if_pos rfl]
      refine ⟨by rw [List.getElem?_set_self (by omega)], by omega, hg.other (by omega), by simp⟩
    · rw [if_neg e, if_neg e, List.getElem?_set_ne (fun e' => e e'.symm)]
      obtain ⟨g1, g2, g3, g4⟩ := h3 x (by omega) hn
      exact ⟨g1, g2, g3.other (by omega), g4⟩
  · dsimp only at e
    by_cases ex : x = i
    · by_cases ey : y = i
      · omega
      · rw [if_pos ex, if_neg ey] at e
        have := hGl y (by omega) hny
        omega
    · by_cases ey : y = i
      · rw [if_neg ex, if_pos ey] at e
        have := hGl x (by omega) hn
        omega
      · rw [if_neg ex, if_neg ey] at e
        exact h4 x y (by omega) hn (by omega) hny e
/-- The rows from i on are told. -/
def Don (a b : ByteArray) (ls : Nat → List Int) (i : Nat) : Prop := ∀ x y, i ≤ x → x ≤ a.size → y ≤ b.size → (ls x).getD y 0 = (kp a b x y : Int)
/-- Row i from j on is told, and is nought ahead of that. -/
def Dor (a b : ByteArray) (ls : Nat → List Int) (i j : Nat) : Prop := ∀ y, y ≤ b.size → (j ≤ y → (ls i).getD y 0 = (kp a b i y : Int)) ∧ (y < j → (ls i).getD y 0 = 0)
theorem Don.next {a b : ByteArray} {ls : Nat → List Int} {i : Nat} (h : Don a b ls (i + 1)) (h' : Dor a b ls i 0) : Don a b ls i := fun x y hx hn hy => by
  by_cases e : x = i
  · subst e; exact (h' y hy).1 (Nat.zero_le _)
  · exact h x y (by omega) hn hy
theorem Don.set {a b : ByteArray} {ls : Nat → List Int} {i j : Nat} {v : Int} (h : Don a b ls (i + 1)) : Don a b (upd ls i j v) (i + 1) := fun x y hx hn hy => by
  unfold upd; rw [if_neg (by omega)]; exact h x y hx hn hy
theorem Dor.set {a b : ByteArray} {ls : Nat → List Int} {i j : Nat} (h : Dor a b ls i (j + 1)) (hl : (ls i).length = b.size + 1) (hj : j ≤ b.size) : Dor a b (upd ls i j (kp a b i j : Int)) i j := fun y hy => by
  unfold upd
  rw [if_pos rfl]
  by_cases e : y = j
  · subst e
    rw [List.getD_eq_getElem?_getD, List.getElem?_set_self (by omega)]
    exact ⟨fun _ => rfl, fun h => absurd h (Nat.lt_irrefl _)⟩
  · rw [List.getD_eq_getElem?_getD, List.getElem?_set_ne (fun e' => e e'.symm), ← List.getD_eq_getElem?_getD]
    exact ⟨fun h2 => (h y hy).1 (by omega), fun h2 => (h y hy).2 (by omega)⟩
theorem Dor.skip {a b : ByteArray} {ls : Nat → List Int} {i j : Nat} (h : Dor a b ls i (j + 1)) (hj : j ≤ b.size) (hk : kp a b i j = 0) : Dor a b ls i j := fun y hy => by
  by_cases e : y = j
  · subst e
    refine ⟨fun _ => ?_, fun h => absurd h (Nat.lt_irrefl _)⟩
    rw [(h y hy).2 (by omega), hk]; rfl
  · exact ⟨fun h2 => (h y hy).1 (by omega), fun h2 => (h y hy).2 (by omega)⟩
/-- The first one of two beginnings has no more than one less. -/
theorem kp_down (a b : ByteArray) (i j : Nat) (hi : i < a.size) (hj : j < b.size) : kp a b (i + 1) j ≤ kp a b (i + 1) (j + 1) + 1 ∧ kp a b i (j + 1) ≤ kp a b (i + 1) (j + 1) + 1 := by
  obtain ⟨x, h1, h2⟩ := drop_at a i hi
  obtain ⟨y, h3, h4⟩ := drop_at b j hj
  unfold kp
  rw [h1, h3]
  exact ⟨lcs_down' _ _ _, lcs_down _ _ _⟩
/-- The whole table. -/
def Whole (w : World) (T : Nat) (a b : ByteArray) : Prop := ∃ rs G ls, Tab w T rs G ls 0 a.size b.size ∧ Don a b ls 0
set_option maxHeartbeats 2000000 in
set_option maxRecDepth 10000 in
theorem common_at (a b : ByteArray) (w : World) (hab : a.size + b.size ≤ 4000) :
    Calls Tryd.prog 18 #[.string a, .string b] w fun e w' => ∃ T, e = .returned (.slice (some ⟨T, 0, none⟩) (a.size + 1) (a.size + 1)) ∧ Whole w' T a b ∧ Bl w w' := by
  obtain ⟨N, hN⟩ : ∃ N, N = a.size + 1 := ⟨_, rfl⟩
  obtain ⟨M, hM⟩ : ∃ M, M = b.size + 1 := ⟨_, rfl⟩
  have eN : (a.size : Int) + 1 = (N : Int) := by omega
  have eM : (b.size : Int) + 1 = (M : Int) := by omega
  have hNb : N ≤ 4001 := by omega
  have hMb : M ≤ 4001 := by omega
  have hmk := fun w => run_make_row' (P := Tryd.prog) 52 51 (.slice none 0 0) 24 Tryd.underlying52 infoR rfl .i64 .i64 N (by omega) (by omega) w
  have hmr := fun w => run_make_row' (P := Tryd.prog) 51 3 (.int .i64 0) 8 Tryd.underlying51 infoN rfl .i64 .i64 M (by omega) (by omega) w
  rw [← hN]
  have HN : Hid (N = a.size + 1 ∧ M = b.size + 1) := ⟨hN, hM⟩
  clear hN hM
  obtain ⟨T, hT⟩ : ∃ T, T = w.heap.size := ⟨_, rfl⟩
  obtain ⟨w1, hw1⟩ : ∃ w1, w1 = w.alloc (.cells (madeCells #[.slice none 0 0] N) 51) := ⟨_, rfl⟩
  have H0 : Hid (Tab w1 T (List.replicate N (.slice none 0 0)) (fun _ => 0) (fun _ => []) N a.size b.size ∧ Bl w w1) := by
    refine ⟨⟨?_, by rw [List.length_replicate]; exact HN.out.1, fun x hx hn => by have := HN.out; omega, fun x y hx hn => by have := HN.out; omega⟩, by rw [hw1]; exact (Bl.refl _).alloc _⟩
    have hl : madeCells #[Value.slice none 0 0] N = (List.replicate N (Value.slice none 0 0)).toArray := by
      apply Array.ext'
      rw [toList_madeCells_one]
    rw [hw1, hT, heap_alloc_new, hl]
  have HT : Hid (w.heap.size = T) := hT.symm
  go_enter Tryd.func18, Tryd.ntmps18
  go_wp2
  rw [← hw1, ← hT]
  clear hw1 hT hmk
  go_loopw [6, 7] (fun iv _ wr => ∃ (i : Int) (I : Nat) (rs : List Value) (G : Nat → Nat) (ls : Nat → List Int), iv = .int .i64 i ∧ I ≤ N ∧ Hid (i = (I : Int) - 1 ∧ Tab wr T rs G ls I a.size b.size ∧ Don a b ls I ∧ Bl w wr)) (fun iv _ _ => (intOf iv + 1).toNat)
  case atStart => exact ⟨(a.size : Int), N, _, _, _, rfl, Nat.le_refl _, by have := HN.out; omega, H0.out.1, fun x y hx hn => by have := HN.out; omega, H0.out.2⟩
  case round =>
    clear H0
    obtain ⟨i, I, rs, G, ls, rfl, hIN, H⟩ := hrel
    by_cases hI : I = 0
    · subst hI
      have hi : i = -1 := by have := H.out.1; omega
      subst hi
      go_wp2
      go_ret
      exact ⟨T, rfl, ⟨rs, G, ls, H.out.2.1, H.out.2.2.1⟩, H.out.2.2.2⟩
    · obtain ⟨X, rfl⟩ : ∃ X, I = X + 1 := ⟨I - 1, by omega⟩
      obtain rfl : i = (X : Int) := by have := H.out.1; omega
      have hXn : X ≤ a.size := by have := HN.out; omega
      have hXz : 0 ≤ (X : Int) := by omega
      have hXN : X < N := by have := HN.out; omega
      have cT : ∃ q, wr.cell? ⟨T, X, none⟩ = some q := by
        rw [cell_of H.out.2.1.1]
        refine ⟨rs[X]'(by rw [H.out.2.1.2.1]; omega), ?_⟩
        simp
      obtain ⟨q0, cT⟩ := cT
      have fT : wr.frozen? ⟨T, X, none⟩ = false := by have := H.out.2.1.1; simp [World.frozen?, this]
      have hTl : T < wr.heap.size := lt_of_heap H.out.2.1.1
      obtain ⟨g, hgg⟩ : ∃ g, g = wr.heap.size := ⟨_, rfl⟩
      obtain ⟨w2, hw2⟩ : ∃ w2, w2 = wr.alloc (.cells (madeCells #[.int .i64 0] M) 3) := ⟨_, rfl⟩
      have hb2 : Bl wr w2 := by rw [hw2]; exact (Bl.refl _).alloc _
      have cT2 := at_bl hb2 cT
      have fT2 : w2.frozen? ⟨T, X, none⟩ = false := by
        have := (H.out.2.1.step hb2).1
        simp [World.frozen?, this]
      obtain ⟨w3, hw3⟩ : ∃ w3, w3 = w2.setCell ⟨T, X, none⟩ (.slice (some ⟨g, 0, none⟩) M M) := ⟨_, rfl⟩
      have HX : Hid (∃ rs G ls, Tab w3 T rs G ls X a.size b.size ∧ Don a b ls (X + 1) ∧ Dor a b ls X M ∧ Bl w w3) := by
        have hrow : RowN w2 g (List.replicate (b.size + 1) 0) := by rw [hw2, hgg, ← HN.out.2]; exact RowN.made wr M
        have ht := H.out.2.1.new hXn hb2 hrow (by omega)
        refine ⟨_, _, _, by rw [hw3, HN.out.2]; exact ht, fun x y hx hn hy => ?_, fun y hy => ⟨fun h => by have := HN.out; omega, fun h => ?_⟩, ?_⟩
        · rw [if_neg (by omega)]; exact H.out.2.2.1 x y hx hn hy
        · rw [if_pos rfl, List.getD_eq_getElem?_getD, List.getElem?_replicate]; split <;> rfl
        · rw [hw3]; exact (H.out.2.2.2.trans hb2).setCell (by have := HT.out; show w.heap.size ≤ T; omega) _
      have eg : wr.heap.size = g := hgg.symm
      have ew2 : wr.alloc (.cells (madeCells #[.int .i64 0] M) 3) = w2 := hw2.symm
      clear hgg hw2 hb2 H cT fT hTl
      go_wp2
      rw [← hw3]
      clear hw3 cT2 fT2 ew2 eg
      go_loopw [7] (fun jv wr => ∃ (j : Int) (Jp : Nat) (rs : List Value) (G : Nat → Nat) (ls : Nat → List Int), jv = .int .i64 j ∧ Jp ≤ M ∧ Hid (j = (Jp : Int) - 1 ∧ Tab wr T rs G ls X a.size b.size ∧ Don a b ls (X + 1) ∧ Dor a b ls X Jp ∧ Bl w wr)) (fun jv _ => (intOf jv + 1).toNat)
      case atStart =>
        obtain ⟨rs, G, ls, t1, t2, t3, t4⟩ := HX.out
        exact ⟨(b.size : Int), M, rs, G, ls, rfl, Nat.le_refl _, by have := HN.out; omega, t1, t2, t3, t4⟩
      case round =>
        clear HX
        obtain ⟨j, Jp, rs, G, ls, rfl, hJM, H⟩ := hrel
        by_cases hJ : Jp = 0
        · subst hJ
          have hj : j = -1 := by have := H.out.1; omega
          subst hj
          have HF : Hid (Tab wr T rs G ls X a.size b.size ∧ Don a b ls X ∧ Bl w wr) := ⟨H.out.2.1, H.out.2.2.1.next H.out.2.2.2.1, H.out.2.2.2.2⟩
          go_wp2
          go_roundw
          case rel => exact ⟨(X : Int) - 1, X, rs, G, ls, by go_num, by omega, rfl, HF.out⟩
          case measure => simp [intOf]
        · obtain ⟨Y, rfl⟩ : ∃ Y, Jp = Y + 1 := ⟨Jp - 1, by omega⟩
          obtain rfl : j = (Y : Int) := by have := H.out.1; omega
          have hYm : Y ≤ b.size := by have := HN.out; omega
          have hYz : 0 ≤ (Y : Int) := by omega
          have hYM : Y < M := by have := HN.out; omega
          by_cases hx : X = a.size
          · have d1 : ((X : Int) == (a.size : Int)) = true := by rw [beq_iff_eq]; omega
            have HF : Hid (Tab wr T rs G ls X a.size b.size ∧ Don a b ls (X + 1) ∧ Dor a b ls X Y ∧ Bl w wr) := ⟨H.out.2.1, H.out.2.2.1, H.out.2.2.2.1.skip hYm (by rw [hx]; exact kp_end a b Y), H.out.2.2.2.2⟩
            clear hx
            go_wp2
            go_roundw
            case rel => exact ⟨(Y : Int) - 1, Y, rs, G, ls, by go_num, by omega, rfl, HF.out⟩
            case measure => simp [intOf]
          · have d1 : ((X : Int) == (a.size : Int)) = false := by rw [beq_eq_false_iff_ne]; omega
            by_cases hy : Y = b.size
            · have d2 : ((Y : Int) == (b.size : Int)) = true := by rw [beq_iff_eq]; omega
              have HF : Hid (Tab wr T rs G ls X a.size b.size ∧ Don a b ls (X + 1) ∧ Dor a b ls X Y ∧ Bl w wr) := ⟨H.out.2.1, H.out.2.2.1, H.out.2.2.2.1.skip hYm (by rw [hy]; exact kp_end' a b X), H.out.2.2.2.2⟩
              clear hy
              go_wp2
              go_roundw
              case rel => exact ⟨(Y : Int) - 1, Y, rs, G, ls, by go_num, by omega, rfl, HF.out⟩
              case measure => simp [intOf]
            · have d2 : ((Y : Int) == (b.size : Int)) = false := by rw [beq_eq_false_iff_ne]; omega
              have hXa : X < a.size := by omega
              have hYb : Y < b.size := by omega
              obtain ⟨X1, hX1⟩ : ∃ X1, X1 = X + 1 := ⟨_, rfl⟩
              obtain ⟨Y1, hY1⟩ : ∃ Y1, Y1 = Y + 1 := ⟨_, rfl⟩
              have eX1 : (X : Int) + 1 = (X1 : Int) := by omega
              have eY1 : (Y : Int) + 1 = (Y1 : Int) := by omega
              have bX1 : X1 < N := by have := HN.out; omega
              have bY1 : Y1 < M := by have := HN.out; omega
              have p0 := H.out.2.1.ptr X (Nat.le_refl _) (by omega)
              have p1 := H.out.2.1.ptr X1 (by omega) (by omega)
              rw [← HN.out.2] at p0 p1
              have r0 := H.out.2.1.row X (Nat.le_refl _) (by omega)
              have r1 := H.out.2.1.row X1 (by omega) (by omega)
              have l0 := H.out.2.1.len X (Nat.le_refl _) (by omega)
              have l1 := H.out.2.1.len X1 (by omega) (by omega)
              have c0 := r0.cell (j := Y) (by omega)
              rw [(H.out.2.2.2.1 Y hYm).2 (by omega)] at c0
              have f0 := r0.frozen Y
              have c1 := r1.cell (j := Y) (by omega)
              rw [H.out.2.2.1 X1 Y (by omega) (by omega) hYm] at c1
              have c2 := r0.cell (j := Y1) (by omega)
              rw [(H.out.2.2.2.1 Y1 (by omega)).1 (by omega)] at c2
              have c3 := r1.cell (j := Y1) (by omega)
              rw [H.out.2.2.1 X1 Y1 (by omega) (by omega) (by omega)] at c3
              have b1 := kp_le a b X1 Y
              have b2 := kp_le a b X Y1
              have b3 := kp_le a b X1 Y1
              have hdn : kp a b X1 Y ≤ kp a b X1 Y1 + 1 ∧ kp a b X Y1 ≤ kp a b X1 Y1 + 1 := by rw [hX1, hY1]; exact kp_down a b X Y hXa hYb
              have e1 : (((a[X]'hXa).toNat : Nat) : Int) = sb a X := (sb_get a X hXa).symm
              have e2 : (((b[Y]'hYb).toNat : Nat) : Int) = sb b Y := (sb_get b Y hYb).symm
              have hTg := (H.out.2.1.2.2.1 X (Nat.le_refl _) (by omega)).2.1
              have hgT : G X ≠ T := by omega
              have hgg : G X1 ≠ G X := fun e => by have := H.out.2.1.2.2.2 X1 X (by omega) (by omega) (Nat.le_refl _) (by omega) e; omega
              have hbase : w.heap.size ≤ G X := by have := HT.out; omega
              obtain ⟨K, hK⟩ : ∃ K, K = max (kp a b X1 Y) (kp a b X Y1) := ⟨_, rfl⟩
              have em1 : (if (kp a b X1 Y : Int) < (kp a b X Y1 : Int) then (kp a b X Y1 : Int) else (kp a b X1 Y : Int)) = (K : Int) := by rw [hK]; split <;> omega
              have hKb : K ≤ 4000 := by omega
              have HS : Hid (∀ (q : Nat) (v : Int), v = (kp a b X Y : Int) → Tab ((wr.setCell ⟨G X, Y, none⟩ (.int .i64 v)).drewN q) T rs G (upd ls X Y v) X a.size b.size ∧ Don a b (upd ls X Y v) (X + 1) ∧ Dor a b (upd ls X Y v) X Y ∧ Bl w ((wr.setCell ⟨G X, Y, none⟩ (.int .i64 v)).drewN q)) := by
                rintro q v rfl
                have hd : ∀ x : World, Bl x (x.drewN q) := fun x => Dr.bl ⟨q, rfl⟩
                exact ⟨(H.out.2.1.set X Y _ (Nat.le_refl _) (by omega)).step (hd _), H.out.2.2.1.set, H.out.2.2.2.1.set l0 hYm, (H.out.2.2.2.2.setCell (a := ⟨G X, Y, none⟩) hbase _).trans (hd _)⟩
              by_cases h3 : sb a X = sb b Y
              · have d3 : (sb a X == sb b Y) = true := by rw [beq_iff_eq]; exact h3
                have hks : kp a b X Y = kp a b X1 Y1 + 1 := by rw [hX1, hY1]; exact kp_same a b X Y hXa hYb h3
                have em2 : (if (K : Int) < 1 + (kp a b X1 Y1 : Int) then 1 + (kp a b X1 Y1 : Int) else (K : Int)) = (kp a b X Y : Int) := by rw [hks]; split <;> omega
                have HQ : Hid (Tab (wr.setCell ⟨G X, Y, none⟩ (.int .i64 (K : Int))) T rs G (upd ls X Y (K : Int)) X a.size b.size ∧ Bl w (wr.setCell ⟨G X, Y, none⟩ (.int .i64 (K : Int)))) := ⟨H.out.2.1.set X Y _ (Nat.le_refl _) (by omega), H.out.2.2.2.2.setCell (a := ⟨G X, Y, none⟩) hbase _⟩
                have HD : Hid (Don a b (upd ls X Y (kp a b X Y : Int)) (X + 1) ∧ Dor a b (upd ls X Y (kp a b X Y : Int)) X Y ∧ (ls X).length = M ∧ X1 = X + 1 ∧ Don a b ls (X + 1)) := ⟨H.out.2.2.1.set, H.out.2.2.2.1.set l0 hYm, by rw [l0, HN.out.2], hX1, H.out.2.2.1⟩
                have bk := kp_le a b X Y
                clear h3 hX1 hY1 r0 r1 l0 l1 hdn hK hks HS c3
                obtain ⟨k1, hk1⟩ : ∃ k1, kp a b X1 Y = k1 := ⟨_, rfl⟩
                obtain ⟨k2, hk2⟩ : ∃ k2, kp a b X Y1 = k2 := ⟨_, rfl⟩
                rw [hk1] at c1 em1 b1
                rw [hk2] at c2 em1 b2
                have em1n : (if k1 < k2 then (k2 : Int) else (k1 : Int)) = (K : Int) := by rw [← em1]; split <;> split <;> omega
                clear hk1 hk2
                obtain ⟨gi, hgi⟩ : ∃ gi, G X = gi := ⟨_, rfl⟩
                obtain ⟨gj, hgj⟩ : ∃ gj, G X1 = gj := ⟨_, rfl⟩
                rw [hgi] at p0 c0 f0 c2 hgT hgg hbase HQ
                rw [hgj] at p1 c1 hgg
                have HG : Hid (G X = gi ∧ G X1 = gj) := ⟨hgi, hgj⟩
                clear hgi hgj H
                go_wp2
                go_region
                generalize hwq : (wr.setCell ⟨gi, Y, none⟩ (.int .i64 (K : Int))).drew = wq
                have HW : Hid (Tab wq T rs G (upd ls X Y (K : Int)) X a.size b.size ∧ Bl w wq) := by
                  rw [← hwq]
                  exact ⟨HQ.out.1.step (Bl.drew (Bl.refl _)), HQ.out.2.trans (Bl.drew (Bl.refl _))⟩
                obtain ⟨dd1, dd2, dd3, dd4, dd5⟩ := HD.out
                have q0 := HW.out.1.ptr X (Nat.le_refl _) (by omega)
                have q1 := HW.out.1.ptr X1 (by omega) (by omega)
                rw [← HN.out.2, HG.out.1] at q0
                rw [← HN.out.2, HG.out.2] at q1
                have s0 := (HW.out.1.row X (Nat.le_refl _) (by omega)).cell (j := Y) (by rw [HW.out.1.len X (Nat.le_refl _) (by omega)]; omega)
                have s3 := (HW.out.1.row X1 (by omega) (by omega)).cell (j := Y1) (by rw [HW.out.1.len X1 (by omega) (by omega)]; omega)
                have t0 := (HW.out.1.row X (Nat.le_refl _) (by omega)).frozen Y
                rw [HG.out.1] at s0 t0
                rw [HG.out.2] at s3
                have v0 : (upd ls X Y (K : Int) X).getD Y 0 = (K : Int) := by
                  unfold upd
                  rw [if_pos rfl, List.getD_eq_getElem?_getD, List.getElem?_set_self (by omega)]
                  rfl
                have v3 : (upd ls X Y (K : Int) X1).getD Y1 0 = (kp a b X1 Y1 : Int) := by
                  unfold upd
                  rw [if_neg (by omega)]
                  exact dd5 X1 Y1 (by omega) (by omega) (by omega)
                rw [v0] at s0
                rw [v3] at s3
                have HZ : Hid (∀ (q : Nat), Tab ((wq.drewN q).setCell ⟨gi, Y, none⟩ (.int .i64 (kp a b X Y : Int))) T rs G (upd ls X Y (kp a b X Y : Int)) X a.size b.size ∧ Bl w ((wq.drewN q).setCell ⟨gi, Y, none⟩ (.int .i64 (kp a b X Y : Int)))) := by
                  intro q
                  have hd : ∀ x : World, Bl x (x.drewN q) := fun x => Dr.bl ⟨q, rfl⟩
                  have := (HW.out.1.step (hd _)).set X Y (kp a b X Y : Int) (Nat.le_refl _) (by omega)
                  rw [upd_upd, HG.out.1] at this
                  exact ⟨this, (HW.out.2.trans (hd _)).setCell (a := ⟨gi, Y, none⟩) hbase _⟩
                have HD2 : Hid (Don a b (upd ls X Y (kp a b X Y : Int)) (X + 1) ∧ Dor a b (upd ls X Y (kp a b X Y : Int)) X Y) := ⟨dd1, dd2⟩
                clear hwq dd1 dd2 dd3 dd4 dd5 v0 v3 HD HQ c0 c1 c2 f0 p0 p1 em1 em1n
                generalize kp a b X1 Y1 = k3 at s3 em2 b3
                generalize kp a b X Y = kk at em2 bk HZ HD2
                have em2n : (if K < 1 + k3 then 1 + (k3 : Int) else (K : Int)) = (kk : Int) := by rw [← em2]; split <;> split <;> omega
                go_wp2
                go_quiet (fail)
                go_wp2
                go_region
                go_wp2
                go_roundw
                case rel => exact ⟨(Y : Int) - 1, Y, rs, G, _, by go_num, by omega, rfl, (HZ.out _).1, HD2.out.1, HD2.out.2, (HZ.out _).2⟩
                case measure => simp [intOf]
              · have d3 : (sb a X == sb b Y) = false := by rw [beq_eq_false_iff_ne]; exact h3
                have HK' : Hid (kp a b X Y = K) := by rw [hK, hX1, hY1]; exact kp_else a b X Y hXa hYb h3
                clear h3 hX1 hY1 r0 r1 l0 l1 c3 b3 hdn hK
                obtain ⟨k1, hk1⟩ : ∃ k1, kp a b X1 Y = k1 := ⟨_, rfl⟩
                obtain ⟨k2, hk2⟩ : ∃ k2, kp a b X Y1 = k2 := ⟨_, rfl⟩
                rw [hk1] at c1 em1 b1
                rw [hk2] at c2 em1 b2
                have em1n : (if k1 < k2 then (k2 : Int) else (k1 : Int)) = (K : Int) := by rw [← em1]; split <;> split <;> omega
                clear hk1 hk2
                obtain ⟨gi, hgi⟩ : ∃ gi, G X = gi := ⟨_, rfl⟩
                obtain ⟨gj, hgj⟩ : ∃ gj, G X1 = gj := ⟨_, rfl⟩
                rw [hgi] at p0 c0 f0 c2 hgT hgg hbase HS
                rw [hgj] at p1 c1 hgg
                clear hgi hgj H
                go_wp2
                go_region
                go_wp2
                go_quiet (fail)
                go_wp2
                go_roundw
                case rel => exact ⟨(Y : Int) - 1, Y, rs, G, _, by go_num, by omega, rfl, HS.out _ _ (by rw [HK'.out])⟩
                case measure => simp [intOf]
end Go.Proofs.YtoiiphkcpdphbaaDoor.df
