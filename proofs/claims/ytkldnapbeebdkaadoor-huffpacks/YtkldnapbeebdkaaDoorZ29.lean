/- Texts laid together: HsP, Su7. -/
import Derived.Test.YtkldnapbeebdkaaDoorZ16
import Derived.Test.YtkldnapbeebdkaaDoorZ28
import Derived.Shelf.GgSortFunc.Tiny
/- Signs in one row, each behind the one ahead, in plain numbers. -/
namespace Go.Proofs.YtkldnapbeebdkaaDoor.hg
set_option linter.unusedVariables false
/-- By length, then by number. -/
def lx (l : List Int) (a b : Nat) : Prop := l.getD a 0 < l.getD b 0 ∨ (l.getD a 0 = l.getD b 0 ∧ a < b)
theorem lx.irrefl {l : List Int} {a : Nat} (h : lx l a a) : False := by unfold lx at h; omega
theorem lx.asymm {l : List Int} {a b : Nat} (h : lx l a b) (k : lx l b a) : False := by unfold lx at h k; omega
theorem lx.trans {l : List Int} {a b c : Nat} (h : lx l a b) (k : lx l b c) : lx l a c := by unfold lx at h k ⊢; omega
/-- All things that have bits, in their order. -/
def IsM (l : List Int) (M : List Nat) : Prop := M.Pairwise (lx l) ∧ ∀ x, x ∈ M ↔ x < l.length ∧ 0 < l.getD x 0
theorem cnt_none (l : List Int) (m : Nat) : ∀ k i, i ≤ k → (∀ x, i ≤ x → x < k → l.getD x 0 ≠ (m : Int)) → cnt l m k = cnt l m i
  | 0, i, h, _ => by rw [Nat.le_zero.1 h]
  | k + 1, i, h, hx => by
    by_cases e : i = k + 1
    · rw [e]
    · rw [cnt, if_neg (hx k (by omega) (by omega)), cnt_none l m k i (by omega) fun x h1 h2 => hx x h1 (by omega)]
      rfl
theorem E_skip (l : List Int) (n : Nat) : ∀ d m, (∀ j, m < j → j ≤ m + d → cnt l j n = 0) → E l n (m + d) = E l n m * 2 ^ d
  | 0, m, _ => by simp
  | d + 1, m, h => by
    rw [← Nat.add_assoc, E, E_skip l n d m (fun j h1 h2 => h j h1 (by omega)), h (m + d + 1) (by omega) (by omega), Nat.pow_succ, Nat.add_zero, Nat.mul_comm 2, Nat.mul_assoc]
theorem IsM.at {l : List Int} {M : List Nat} (h : IsM l M) {i j : Nat} (hij : i < j) (hj : j < M.length) : lx l (M.getD i 0) (M.getD j 0) := by
  have := List.pairwise_iff_getElem.1 h.1 i j (by omega) hj hij
  rw [List.getD_eq_getElem?_getD, List.getD_eq_getElem?_getD, List.getElem?_eq_getElem hj, List.getElem?_eq_getElem (by omega : i < M.length)]
  exact this
theorem IsM.get {l : List Int} {M : List Nat} (h : IsM l M) {i : Nat} (hi : i < M.length) : M.getD i 0 < l.length ∧ 0 < l.getD (M.getD i 0) 0 := by
  refine (h.2 _).1 ?_
  rw [List.getD_eq_getElem?_getD, List.getElem?_eq_getElem hi]
  exact List.getElem_mem hi
theorem IsM.find {l : List Int} {M : List Nat} (h : IsM l M) {x : Nat} (hx : x < l.length) (h0 : 0 < l.getD x 0) : ∃ i, i < M.length ∧ M.getD i 0 = x := by
  obtain ⟨i, hi, e⟩ := List.mem_iff_getElem.1 ((h.2 x).2 ⟨hx, h0⟩)
  exact ⟨i, hi, by rw [List.getD_eq_getElem?_getD, List.getElem?_eq_getElem hi]; exact e⟩
/-- What stands ahead of place k: just those at the places ahead. -/
theorem IsM.ahead {l : List Int} {M : List Nat} (h : IsM l M) {k x : Nat} (hk : k < M.length) (hx : x < l.length) (h0 : 0 < l.getD x 0) (hl : lx l x (M.getD k 0)) : ∃ i, i < k ∧ M.getD i 0 = x := by
  obtain ⟨i, hi, e⟩ := h.find hx h0
  refine ⟨i, ?_, e⟩
  rcases Nat.lt_trichotomy i k with h1 | h1 | h1
  · exact h1
  · rw [← h1, e] at hl; exact hl.irrefl.elim
  · have := h.at h1 hi
    rw [e] at this
    exact (this.asymm hl).elim
theorem sgn_val {l : List Int} {n x m : Nat} (h : l.getD x 0 = ((m + 1 : Nat) : Int)) : sgn l n x = ((2 * E l n m + cnt l (m + 1) x : Nat) : Int) := by
  unfold sgn
  rw [if_pos (by omega), h]
  rfl
theorem cnt_zero {l : List Int} {m : Nat} : ∀ {k}, (∀ x, x < k → l.getD x 0 ≠ (m : Int)) → cnt l m k = 0 := fun {k} h => (cnt_none l m k 0 (Nat.zero_le _) fun x _ h2 => h x h2).trans rfl
/-- The first one is 0. -/
theorem IsM.first {l : List Int} {M : List Nat} (h : IsM l M) (h0 : 0 < M.length) : sgn l l.length (M.getD 0 0) = 0 := by
  obtain ⟨hx, hp⟩ := h.get h0
  obtain ⟨m, hm⟩ : ∃ m : Nat, l.getD (M.getD 0 0) 0 = ((m + 1 : Nat) : Int) := ⟨(l.getD (M.getD 0 0) 0).toNat - 1, by omega⟩
  have no : ∀ x, x < l.length → 0 < l.getD x 0 → ¬ lx l x (M.getD 0 0) := fun x hx h1 h2 => by
    obtain ⟨i, hi, _⟩ := h.ahead h0 hx h1 h2
    omega
  rw [sgn_val hm]
  have e1 : cnt l (m + 1) (M.getD 0 0) = 0 := cnt_zero fun x hx' e => no x (by omega) (by omega) (Or.inr ⟨by omega, hx'⟩)
  have e2 : E l l.length m = 0 := by
    have := E_skip l l.length m 0 (fun j h1 h2 => cnt_zero fun x hx' e => no x hx' (by omega) (Or.inl (by omega)))
    rw [Nat.zero_add] at this
    rw [this]
    simp [E]
  rw [e1, e2]
  rfl
/-- Each other one: the one ahead and one, with noughts behind it. -/
theorem IsM.next {l : List Int} {M : List Nat} (h : IsM l M) {k : Nat} (hk : k + 1 < M.length) :
    l.getD (M.getD k 0) 0 ≤ l.getD (M.getD (k + 1) 0) 0 ∧ sgn l l.length (M.getD (k + 1) 0) = (sgn l l.length (M.getD k 0) + 1) * 2 ^ (l.getD (M.getD (k + 1) 0) 0 - l.getD (M.getD k 0) 0).toNat := by
  obtain ⟨ha, hpa⟩ := h.get (i := k) (by omega)
  obtain ⟨hb, hpb⟩ := h.get hk
  have hab := h.at (i := k) (j := k + 1) (by omega) hk
  -- nothing stands between them
  have no : ∀ x, x < l.length → 0 < l.getD x 0 → lx l (M.getD k 0) x → lx l x (M.getD (k + 1) 0) → False := fun x hx h0 h1 h2 => by
    obtain ⟨i, hi, e⟩ := h.ahead hk hx h0 h2
    by_cases hik : i = k
    · rw [← e, hik] at h1; exact h1.irrefl
    · have := h.at (i := i) (j := k) (by omega) (by omega)
      rw [e] at this
      exact this.asymm h1
  generalize M.getD k 0 = a at *
  generalize M.getD (k + 1) 0 = b at *
  obtain ⟨m, hm⟩ : ∃ m : Nat, l.getD a 0 = ((m + 1 : Nat) : Int) := ⟨(l.getD a 0).toNat - 1, by omega⟩
  obtain ⟨q, hq⟩ : ∃ q : Nat, l.getD b 0 = ((q + 1 : Nat) : Int) := ⟨(l.getD b 0).toNat - 1, by omega⟩
  refine ⟨by unfold lx at hab; omega, ?_⟩
  rw [sgn_val hm, sgn_val hq, hm, hq]
  rcases hab with h1 | ⟨h1, h2⟩
  · have hmq : m < q := by omega
    have e1 : cnt l (q + 1) b = 0 := cnt_zero fun x hx e => no x (by omega) (by omega) (Or.inl (by omega)) (Or.inr ⟨by omega, hx⟩)
    have e2 : cnt l (m + 1) l.length = cnt l (m + 1) a + 1 := by
      have h3 : cnt l (m + 1) (a + 1) = cnt l (m + 1) a + 1 := by rw [cnt, if_pos hm]
      rw [← h3]
      exact cnt_none l (m + 1) l.length (a + 1) ha fun x h4 h5 e => no x h5 (by omega) (Or.inr ⟨by omega, by omega⟩) (Or.inl (by omega))
    have e3 : E l l.length q = E l l.length (m + 1) * 2 ^ (q - (m + 1)) := by
      have := E_skip l l.length (q - (m + 1)) (m + 1) fun j h4 h5 => cnt_zero fun x hx e => no x hx (by omega) (Or.inl (by omega)) (Or.inl (by omega))
      rw [show m + 1 + (q - (m + 1)) = q by omega] at this
      exact this
    have e4 : E l l.length (m + 1) = 2 * E l l.length m + cnt l (m + 1) a + 1 := by rw [E, e2]; omega
    rw [e1, e3, e4, show (((q + 1 : Nat) : Int) - ((m + 1 : Nat) : Int)).toNat = (q - (m + 1)) + 1 by omega]
    generalize 2 * E l l.length m + cnt l (m + 1) a = V
    rw [show (2 : Int) ^ (q - (m + 1) + 1) = ((2 ^ (q - (m + 1) + 1) : Nat) : Int) by simp]
    rw [show ((V : Nat) : Int) + 1 = ((V + 1 : Nat) : Int) by simp, ← Int.natCast_mul]
    congr 1
    rw [Nat.pow_succ, Nat.add_zero, Nat.mul_comm 2, Nat.mul_assoc]
  · obtain rfl : m = q := by omega
    have e1 : cnt l (m + 1) b = cnt l (m + 1) a + 1 := by
      have h3 : cnt l (m + 1) (a + 1) = cnt l (m + 1) a + 1 := by rw [cnt, if_pos hm]
      rw [← h3]
      exact cnt_none l (m + 1) b (a + 1) h2 fun x h4 h5 e => no x (by omega) (by omega) (Or.inr ⟨by omega, by omega⟩) (Or.inr ⟨by omega, by omega⟩)
    rw [e1, Int.sub_self]
    simp
    omega
theorem sgn_bd {l : List Int} {n x : Nat} (hok : okS l n) (ht : tk l n ≤ 16777216) (hx : x < n) : 0 ≤ sgn l n x ∧ sgn l n x < 16777216 := by
  by_cases ha : 0 < l.getD x 0
  · obtain ⟨a, hA⟩ : ∃ a : Nat, l.getD x 0 = ((a + 1 : Nat) : Int) := ⟨(l.getD x 0).toNat - 1, by omega⟩
    have hxo := hok x hx
    have ex : sgn l n x = ((2 * E l n a + cnt l (a + 1) x : Nat) : Int) := by unfold sgn; rw [if_pos ha, hA]; rfl
    have hE := E_le (l := l) (n := n) (m := a + 1) (by omega) ht
    have h1 : 2 * E l n a + cnt l (a + 1) x + 1 ≤ E l n (a + 1) := by
      rw [E]
      have := cnt_lt (l := l) (m := a + 1) hx hA
      omega
    have h2 : (2 : Nat) ^ (a + 1) ≤ 2 ^ 24 := Nat.pow_le_pow_right (by decide) (by omega)
    have h3 : (2 : Nat) ^ 24 = 16777216 := by decide
    rw [ex]
    generalize (2 : Nat) ^ (a + 1) = q at hE h2
    omega
  · have ex : sgn l n x = 0 := by unfold sgn; rw [if_neg ha]
    rw [ex]
    omega
end Go.Proofs.YtkldnapbeebdkaaDoor.hg
/- sort.SliceStable of a row of numbers, by a closure that looks another row up. -/
namespace Go.Proofs.YtkldnapbeebdkaaDoor.su
set_option linter.unusedVariables false
open Go.ChangeShapes Go.WideShapes Go.ChangeAt Go.RowKit
open mem rows
open Go.Sort Go.Shelf Go.Lib
noncomputable def siT : TypeInfo := (Tryd.prog.info? 22).get (by kernel_rfl)
noncomputable def siE : TypeInfo := (Tryd.prog.info? 3).get (by kernel_rfl)
theorem siK (n : Nat) (h2 : 2 ≤ n) : Lib.swapperK n siE 2 = 5 := by
  have a : siE.hasPointers = false := by kernel_rfl
  have b : siE.bytes = 8 := by kernel_rfl
  have c : (n == 0) = false := by simp; omega
  have d : (n == 1) = false := by simp; omega
  simp [Lib.swapperK, a, b, c, d]
def ints (L : List Nat) : List Int := L.map fun (x : Nat) => (x : Int)
theorem ints_len (L : List Nat) : (ints L).length = L.length := by simp [ints]
theorem ints_at (L : List Nat) (k : Nat) : (ints L).getD k 0 = ((L.getD k 0 : Nat) : Int) := by
  simp only [ints, List.getD_eq_getElem?_getD, List.getElem?_map]
  cases L[k]? <;> rfl
theorem fins (L : List Nat) (N : Nat) (h : ∀ x, x ∈ L → x < N) : ∃ F : List (Fin N), F.map Fin.val = L := by
  induction L with
  | nil => exact ⟨[], rfl⟩
  | cons x L ih =>
    obtain ⟨F, hF⟩ := ih fun y hy => h y (List.mem_cons_of_mem _ hy)
    exact ⟨⟨x, h x (by simp)⟩ :: F, by rw [List.map_cons, hF]⟩
theorem cell_grown {w w' : World} {A : Nat} {a : Addr} {v : Value} (h : w.cell? a = some v) (hg : w.grownBy w' (some A)) (hne : A ≠ a.block) : w'.cell? a = some v := by
  have hlt : a.block < w.heap.size := by
    rcases Nat.lt_or_ge a.block w.heap.size with h1 | h1
    · exact h1
    · simp [World.cell?, Array.getElem?_eq_none h1] at h
  rw [hg.cell_far a hlt (fun e => hne (by injection e with e; exact e.symm))]
  exact h
/-- A thing, as it is sorted: by how many bits it has. -/
abbrev keyE (l : List Int) (h : 0 < l.length) : Key (Fin l.length) := { default := ⟨0, h⟩, key := fun x => l.getD x.1 0 }
def encT {N : Nat} (x : Fin N × Nat) : Value := .int .i64 ((x.1.1 : Nat) : Int)
set_option maxRecDepth 10000 in
/-- The closure of HuffSigns. -/
theorem lessK_at (l : List Int) (X O A n c cx : Nat) (px : Addr) (G : Nat → Nat) (w : World) (hN : l.length ≤ 4000) (hX : w.cell? ⟨X, 0, none⟩ = some (.slice (some px) l.length cx)) (hO : w.cell? ⟨O, 0, none⟩ = some (.slice (some ⟨A, 0, none⟩) n c)) (hn : n ≤ 4000)
    (hl : ∀ k, k < l.length → w.cell? (px.add k) = some (.int .i64 (l.getD k 0)))
    (hc : ∀ t, t < n → w.cell? ⟨A, t, none⟩ = some (.int .i64 ((G t : Nat) : Int))) (i j : Nat) (hi : i < n) (hj : j < n) (gi : G i < l.length) (gj : G j < l.length) :
    Calls Tryd.prog 26 #[.int .i64 (i : Int), .int .i64 (j : Int), .pointer (some ⟨X, 0, none⟩), .pointer (some ⟨O, 0, none⟩)] w fun e w' => e = .returned (.bool (decide (l.getD (G i) 0 < l.getD (G j) 0))) ∧ ∃ q, w' = w.drewN q := by
  have ci := hc i hi
  have cj := hc j hj
  have li := hl (G i) gi
  have lj := hl (G j) gj
  have i1 : 0 ≤ (i : Int) ∧ (i : Int) < (n : Int) := by omega
  have i2 : 0 ≤ (j : Int) ∧ (j : Int) < (n : Int) := by omega
  have g1 : 0 ≤ (G i : Int) ∧ (G i : Int) < (l.length : Int) := by omega
  have g2 : 0 ≤ (G j : Int) ∧ (G j : Int) < (l.length : Int) := by omega
  generalize l.getD (G i) 0 = x at *
  generalize l.getD (G j) 0 = y at *
  generalize G i = a at *
  generalize G j = b at *
  clear hc hl
  go_enter Tryd.func26, Tryd.ntmps26
  go_wp2
  go_quiet (fail)
  go_wp2
  go_ret
  exact ⟨rfl, nq, rfl⟩
theorem zip_get {N : Nat} (F : List (Fin N)) (k : Nat) (h : k < F.length) [Inhabited (Fin N × Nat)] : (F.zipIdx.toArray)[k]! = (F[k], k) := by
  rw [getElem!_pos _ _ (by simpa using h)]
  simp
theorem tiny_at (p : Option Addr) (n c : Nat) (hn : n ≤ 1) (fn : Fn) (ca cb : Array Value) (w : World) :
    Calls Tryd.prog 25 #[.iface 22 (.slice p n c), .func fn ca cb] w fun e w' => e = .returned (.tuple #[]) ∧ ∃ os, w' = grow w os := by
  have hK : Lib.swapperK n siE 2 = n + 1 := by
    rcases Nat.eq_zero_or_pos n with h | h
    · rw [h]; simp [Lib.swapperK]
    · rw [show n = 1 by omega]; simp [Lib.swapperK]
  exact Any.sort_SliceStable_tiny layT.laid 22 3 siT siE (by kernel_rfl) (by kernel_rfl) (by kernel_rfl) (by kernel_rfl) 2 (fun _ => by kernel_rfl) p n c hn (55 + n) (by
      rw [hK]
      rcases Nat.eq_zero_or_pos n with h | h
      · rw [h]; kernel_rfl
      · rw [show n = 1 by omega]; kernel_rfl) fn ca cb w
theorem grown_grow (w : World) (os : Array Obj) (row : Option Nat) : w.grownBy (grow w os) row := ⟨rfl, rfl, rfl, by simp, fun k hk _ => heap_grow_old _ _ hk⟩
theorem Own.grown {w w' : World} {base : Nat} {v : Value} {l : List Int} (h : Own w base v l) (hg : w.grownBy w' none) : Own w' base v l := h.kept hg (fun k _ e => by cases e)
theorem heap_sorted {α : Type} [Inhabited α] {enc : α → Value} {w : World} {g n : Nat} {os : Array Obj} {cur : Array Value} {e : TypeId} {fr : Nat × Nat} (d : Array α) (hb : w.heap[g]? = some (.cells cur e fr)) :
    (sortWorld enc w g 0 n d os).heap[g]? = some (.cells (putCells enc 0 d cur) e fr) := by
  have hg : g < w.heap.size := (Array.getElem?_eq_some_iff.1 hb).1
  unfold sortWorld
  rw [heap_grow_old _ _ (by simpa using hg)]
  simp [putRow, mapBlock, Sort.ahead, Array.getElem?_modify, hb, onCells]
set_option maxRecDepth 100000 in
/-- sort.SliceStable of a row of things, by how many bits each has. -/
theorem stable_ints (l : List Int) (X O A c cx base : Nat) (px : Addr) (L : List Nat) (w : World) (hN : l.length ≤ 4000) (hL : L.Pairwise (· < ·)) (hm : ∀ x ∈ L, x < l.length) (hn : L.length ≤ 4000) (hown : Own w base (.slice (some ⟨A, 0, none⟩) L.length c) (ints L))
    (hX : w.cell? ⟨X, 0, none⟩ = some (.slice (some px) l.length cx)) (hO : w.cell? ⟨O, 0, none⟩ = some (.slice (some ⟨A, 0, none⟩) L.length c)) (hl : ∀ k, k < l.length → w.cell? (px.add k) = some (.int .i64 (l.getD k 0))) (hAX : A ≠ X) (hAO : A ≠ O) (hAp : A ≠ px.block) :
    Calls Tryd.prog 25 #[.iface 22 (.slice (some ⟨A, 0, none⟩) L.length c), .func (.func 26) #[] #[.pointer (some ⟨X, 0, none⟩), .pointer (some ⟨O, 0, none⟩)]] w fun e w' =>
      e = .returned (.tuple #[]) ∧ w.grownBy w' (some A) ∧ ∃ M : List Nat, M.Perm L ∧ M.Pairwise (hg.lx l) ∧ Own w' base (.slice (some ⟨A, 0, none⟩) L.length c) (ints M) := by
  rcases Nat.lt_or_ge L.length 2 with h2 | h2
  · refine (tiny_at (some ⟨A, 0, none⟩) L.length c (by omega) _ _ _ w).mono ?_
    rintro e w' ⟨rfl, os, rfl⟩
    refine ⟨rfl, grown_grow _ _ _, L, List.Perm.refl _, ?_, Own.grown hown (grown_grow _ _ _)⟩
    rw [List.pairwise_iff_getElem]
    intro i j hi hj hij
    omega
  have h0 : 0 < l.length := by
    have := hm (L[0]'(by omega)) (List.getElem_mem _)
    omega
  letI : Key (Fin l.length) := keyE l h0
  obtain ⟨F, hF⟩ := fins L l.length hm
  have hFl : F.length = L.length := by have := congrArg List.length hF; rw [List.length_map] at this; exact this
  have es : F.zipIdx.toArray.size = L.length := by simp [hFl]
  have hFv : ∀ j, (hj : j < F.length) → L.getD j 0 = (F[j]'hj).1 := fun j hj => by
    have h1 : L[j]? = (F.map Fin.val)[j]? := by rw [hF]
    rw [List.getD_eq_getElem?_getD, h1]
    simp [hj]
  rcases hown.2 with ⟨h, _⟩ | ⟨g, cap, cur, hv, hbg, hgb, hnc, hcm, hcs, htake⟩
  · cases h
  simp only [Value.slice.injEq, Option.some.injEq, Addr.mk.injEq] at hv
  obtain ⟨⟨rfl, _⟩, _, rfl⟩ := hv
  have hblk : A < w.heap.size := (Array.getElem?_eq_some_iff.1 hgb).1
  have hcell : ∀ j, j < L.length → w.cell? ⟨A, j, none⟩ = some (.int .i64 ((L.getD j 0 : Nat) : Int)) := fun j hj => by
    rcases hown.shape with ⟨h, _⟩ | ⟨g', cap', e, _, _, _, _, hc⟩
    · cases h
    · simp only [Value.slice.injEq, Option.some.injEq, Addr.mk.injEq] at e
      rw [e.1.1, hc j (by rw [ints_len]; exact hj), ints_at]
  have hH : Holds (encT (N := l.length)) w A 0 F.zipIdx.toArray := fun j hj => by
    have hj' : j < F.length := by simpa using hj
    rw [Nat.zero_add, zip_get F j hj']
    refine ⟨?_, by simp [World.frozen?, hgb]⟩
    rw [hcell j (by omega), hFv j hj']
    rfl
  have hless : LessReads Tryd.prog 26 #[.pointer (some ⟨X, 0, none⟩), .pointer (some ⟨O, 0, none⟩)] (encT (N := l.length)) ltK A 0 F.zipIdx.toArray.size w := fun m os dk hdk i j hi hj => by
    have hg := grown_sort (enc := encT (N := l.length)) (w := w) (blk := A) (off := 0) (n := m) (os := os) dk
    have hcell2 : ∀ t, t < L.length → (sortWorld (encT (N := l.length)) w A 0 m dk os).cell? ⟨A, t, none⟩ = some (.int .i64 (((dk[t]!).1.1 : Nat) : Int)) := fun t ht => by
      have := (holds_sortWorld (encT (N := l.length)) w A 0 m F.zipIdx.toArray dk os hblk hH hdk t (by omega)).1
      rw [Nat.zero_add] at this
      exact this
    have hc := lessK_at l X O A L.length c cx px (fun t => (dk[t]!).1.1) _ hN (cell_grown hX hg hAX) (cell_grown hO hg hAO) hn (fun k hk => cell_grown (hl k hk) hg (by unfold Addr.add; split <;> exact hAp)) hcell2 i j (by omega) (by omega) (dk[i]!).1.2 (dk[j]!).1.2
    exact hc
  refine Any.sort_SliceStable_of_stable layT.laid 22 3 siT siE (by kernel_rfl) (by kernel_rfl) (by kernel_rfl) (by kernel_rfl) 2 (fun _ => by kernel_rfl) (some ⟨A, 0, none⟩) L.length c (by omega) 59 (by rw [siK _ h2]; kernel_rfl) (.func 26) #[] #[.pointer (some ⟨X, 0, none⟩), .pointer (some ⟨O, 0, none⟩)] w _ ?_
  have hB : sliceBound Tryd.prog 3 siE 2 (some ⟨A, 0, none⟩) L.length c = #[.slice (some ⟨A, 0, none⟩) L.length c, typeHandle Tryd.prog 3] := by
    unfold sliceBound; rw [if_neg (swapperK_gt _ _ _ h2)]
  obtain ⟨os0, hW⟩ : ∃ os0, stableWorld Tryd.prog layT.ren 22 (some ⟨A, 0, none⟩) L.length c w = grow w os0 := by
    unfold stableWorld; rw [alloc_eq_grow, alloc_eq_grow, grow_grow]; exact ⟨_, rfl⟩
  rw [hB, hW]
  have LL : Ls (encT (N := l.length)) ltK 26 #[.pointer (some ⟨X, 0, none⟩), .pointer (some ⟨O, 0, none⟩)] 59 #[.slice (some ⟨A, 0, none⟩) L.length c, typeHandle Tryd.prog 3] (grow w os0) A 0 F.zipIdx.toArray := by
    refine ⟨enters_of Tryd.func26 (by kernel_rfl) rfl, hless.grow hblk os0, ?_, holds_grow _ w _ A 0 _ hblk hH, by rw [size_grow]; omega⟩
    rw [es]
    exact swapSwaps_of_literal true 59 (fun args W => run_callFunc_extern Tryd.func59 (by kernel_rfl) (by kernel_rfl) (by kernel_rfl) (e := Extern.ReflectliteSwapper.swap true) (by kernel_rfl) args W) 3 siE (by kernel_rfl) (by kernel_rfl) (fun _ => by kernel_rfl) (encT (N := l.length)) (fun _ => rfl) A 0 L.length c
  have hp := stable_at LL (by rw [es]; omega) (fun x hx => by rw [zip_get F x (by rw [hFl, ← es]; exact hx)])
  rw [es] at hp
  refine hp.mono ?_
  rintro e w' ⟨rfl, d', hperm, hsort, ⟨k, os, rfl⟩, hgr⟩
  have hz : d'.size = L.length := by rw [hperm.1, es]
  have hpm : d'.toList.Perm F.zipIdx := by
    have h1 := hperm.2.2
    rw [Array.extract_eq_self_of_le (by omega), Array.extract_eq_self_of_le (by omega)] at h1
    simpa using h1
  have hgr2 : w.grownBy (sortWorld (encT (N := l.length)) (grow w os0) A 0 k d' os) (some A) := (grown_grow w os0 (some A)).trans hgr
  have hmap : (d'.toList.map fun x => x.1.1).Perm L := by
    have h1 := hpm.map (fun x : Fin l.length × Nat => x.1.1)
    have h2 : (F.zipIdx.map fun x => x.1.1) = L := by
      rw [← hF]
      apply List.ext_getElem
      · simp
      · intro i h1 h2; simp
    rw [h2] at h1
    exact h1
  refine ⟨rfl, hgr2, d'.toList.map fun x => x.1.1, hmap, ?_, ?_⟩
  · rw [List.pairwise_map, List.pairwise_iff_getElem]
    intro i j hi hj hij
    rw [Array.length_toList] at hi hj
    have h1 := hsort i j (Nat.zero_le _) hij (by omega)
    rw [getElem!_pos d' i hi, getElem!_pos d' j hj, T_not] at h1
    simp only [Array.getElem_toList]
    have tag : ∀ q (hq : q < d'.size), ∃ (ht : (d'[q]).2 < F.length), (d'[q]).1 = F[(d'[q]).2] := fun q hq => by
      have hmem : d'[q] ∈ F.zipIdx := hpm.mem_iff.1 (by rw [← Array.getElem_toList]; exact List.getElem_mem _)
      have := List.mem_zipIdx_iff_getElem?.1 hmem
      exact ⟨(List.getElem?_eq_some_iff.1 this).1, (List.getElem?_eq_some_iff.1 this).2.symm⟩
    obtain ⟨ti, ei⟩ := tag i hi
    obtain ⟨tj, ej⟩ := tag j hj
    have hnd : (d'.toList.map fun x => x.1.1).Nodup := hmap.nodup_iff.2 (hL.imp (fun h => Nat.ne_of_lt h))
    have hne : (d'[i]).1.1 ≠ (d'[j]).1.1 := by
      have := (List.pairwise_iff_getElem.1 (List.nodup_iff_pairwise_ne.1 hnd) i j (by simpa using hi) (by simpa using hj) hij)
      simpa using this
    have hmono : (d'[i]).2 < (d'[j]).2 → (d'[i]).1.1 < (d'[j]).1.1 := fun h => by
      rw [ei, ej, ← hFv _ ti, ← hFv _ tj]
      have := List.pairwise_iff_getElem.1 hL (d'[i]).2 (d'[j]).2 (by omega) (by omega) h
      rw [List.getD_eq_getElem?_getD, List.getD_eq_getElem?_getD, List.getElem?_eq_getElem (by omega : (d'[i]).2 < L.length), List.getElem?_eq_getElem (by omega : (d'[j]).2 < L.length)]
      exact this
    have k1 : Key.key (d'[i]).1 = l.getD (d'[i]).1.1 0 := rfl
    have k2 : Key.key (d'[j]).1 = l.getD (d'[j]).1.1 0 := rfl
    rw [k1, k2] at h1
    unfold hg.lx
    by_cases htag : (d'[i]).2 < (d'[j]).2
    · have := hmono htag; omega
    · have hte : (d'[i]).2 ≠ (d'[j]).2 := fun e => hne (by
        rw [ei, ej]
        congr 2)
      omega
  · have hml : (ints (d'.toList.map fun x => x.1.1)).length = L.length := by rw [ints_len, List.length_map, Array.length_toList, hz]
    have hgb' : (grow w os0).heap[A]? = some (.cells cur 3 (0, 0)) := by rw [heap_grow_old _ _ hblk]; exact hgb
    rw [ints_len] at hnc htake
    refine ⟨by simp [rowI], Or.inr ⟨A, c, putCells (encT (N := l.length)) 0 d' cur, by rw [hml], hbg, heap_sorted d' hgb', by rw [hml]; exact hnc, hcm, ?_, ?_⟩⟩
    · simpa [putCells] using hcs
    · rw [hml]
      apply List.ext_getElem?
      intro j
      by_cases hj : j < L.length
      · have hj2 : j < d'.size := by omega
        have hj3 : j < cur.size := by omega
        simp [putCells, rowI, ints, hj, hj2, hj3, encT]
      · rw [List.getElem?_eq_none (by rw [List.length_take]; omega), List.getElem?_eq_none (by simp only [rowI, List.length_map]; rw [hml]; omega)]
end Go.Proofs.YtkldnapbeebdkaaDoor.su
