/- Texts laid together: Ty6, LayD, OrA, OrB. -/
import Derived.Test.YtpanodaecjlgaaaZ20
import Derived.Deep.OwnRows
import Derived.Test.YtpanodaecjlgaaaChecked
import Derived.Shelf.Slices.Delete
import Derived.Test.YtpanodaecjlgaaaZ3
import Derived.Deep.RegionHeld3
/- Whether templates fit together: whether a Check's sum is taken over itself. -/
namespace Go.Proofs.Ytpanodaecjlgaaa.tm
set_option linter.unusedVariables false
open Go.ChangeShapes Go.WideShapes Go.ChangeAt Go.RowKit Go.Shelf
open mem lx ex

/-- Which ones were met. -/
def Mt (w : World) (M n : Nat) (met : List Nat) : Prop := ∃ arr : Array Value, w.heap[M]? = some (.cells arr 4 (0, 0)) ∧ arr.size = n ∧ ∀ k, k < n → arr[k]? = some (.bool (decide (k ∈ met)))
theorem Mt.made (w : World) (n : Nat) : Mt (w.alloc (.cells (madeCells #[.bool false] n) 4)) w.heap.size n [] := by
  refine ⟨_, new_at _ _, size_madeCells _ _, fun k hk => ?_⟩
  rw [← Array.getElem?_toList, toList_madeCells_one, List.getElem?_replicate, if_pos hk]
  simp
theorem Mt.step {w w' : World} {M n : Nat} {met : List Nat} (h : Mt w M n met) (hb : w'.heap[M]? = w.heap[M]?) : Mt w' M n met := by
  obtain ⟨arr, h1, h2⟩ := h
  exact ⟨arr, by rw [hb]; exact h1, h2⟩
theorem Mt.lt {w : World} {M n : Nat} {met : List Nat} (h : Mt w M n met) : M < w.heap.size := by
  obtain ⟨arr, h1, _⟩ := h
  exact lt_of_heap h1
theorem Mt.cell {w : World} {M n : Nat} {met : List Nat} (h : Mt w M n met) (k : Nat) (hk : k < n) : w.cell? ⟨M, k, none⟩ = some (.bool (decide (k ∈ met))) ∧ w.frozen? ⟨M, k, none⟩ = false := by
  obtain ⟨arr, h1, h2, h3⟩ := h
  exact ⟨by rw [cell_of h1]; exact h3 k hk, by simp [World.frozen?, h1]⟩
theorem Mt.set {w : World} {M n : Nat} {met : List Nat} (h : Mt w M n met) (j : Nat) (hj : j < n) : Mt (w.setCell ⟨M, j, none⟩ (.bool true)) M n (j :: met) := by
  obtain ⟨arr, h1, h2, h3⟩ := h
  refine ⟨arr.setIfInBounds j (.bool true), by simp [World.setCell, Array.getElem?_modify, h1], by simp [h2], fun k hk => ?_⟩
  rw [Array.getElem?_setIfInBounds]
  by_cases e : j = k
  · subst e; rw [if_pos rfl, if_pos (by rw [h2]; exact hj)]; simp
  · rw [if_neg e, h3 k hk]
    have e' : ¬ k = j := fun h => e h.symm
    simp [e']
def isF : Option Value → Bool
  | some (.bool false) => true
  | _ => false
def cntF (w : World) (M n : Nat) : Nat := ((List.range n).filter (fun k => isF (w.cell? ⟨M, k, none⟩))).length
theorem cntF_is {w : World} {M n : Nat} {met : List Nat} (h : Mt w M n met) : cntF w M n = unm n met := by
  unfold cntF unm
  congr 1
  apply List.filter_congr
  intro k hk
  rw [(h.cell k (List.mem_range.1 hk)).1]
  by_cases hm : k ∈ met <;> simp [hm, isF]
def lnV : Value → Nat
  | .slice _ k _ => k
  | _ => 0
theorem infoB : (Try.prog.info? 4).map (fun i => (i.zero, i.size, i.bytes)) = some (some (.bool false), 1, 1) := by kernel_rfl
/-- How far going round has come. -/
structure Rn (w wr : World) (ds : List D) (i M n : Nat) (p : Option Addr) (c : Nat) (met todo : List Nat) : Prop where
  bl : Bl w wr
  q : qi.Q wr w.heap.size (.slice p todo.length c) (ints todo)
  mt : Mt wr M n met
  ne : ∀ k, (Value.slice p todo.length c).ownBlock = some k → k ≠ M
  lt : ∀ j ∈ todo, j < ds.length
  is : rnd ds i = bR ds i met todo
  len : mu ds met todo ≤ 20000
end Go.Proofs.Ytpanodaecjlgaaa.tm
/- The library's own texts that a call comes to, as this program has them: laid on the shelf's. -/
namespace Go.Proofs.Ytpanodaecjlgaaa.layD
open Go.Shelf
def rf : FuncId → FuncId
  | 23 => 29
  | x => x
def rt : TypeId → TypeId
  | 0 => 0
  | 3 => 3
  | 4 => 4
  | 22 => 38
  | x => x
def rg : Nat → Nat

  | x => x
def ren : Ren := ⟨rf, rt, rg⟩
set_option maxRecDepth 100000 in
theorem laid23 : Lays2.n23 Try.prog ren where
  mixed := by kernel_rfl
  f23 := by kernel_rfl
  t0 := by kernel_rfl
  a0 := fun _ => by kernel_rfl
  z0 := fun _ => by kernel_rfl
  v0 := fun _ => by kernel_rfl
  t3 := by kernel_rfl
  a3 := fun _ => by kernel_rfl
  z3 := fun _ => by kernel_rfl
  v3 := fun _ => by kernel_rfl
  t4 := by kernel_rfl
  a4 := fun _ => by kernel_rfl
  z4 := fun _ => by kernel_rfl
  v4 := fun _ => by kernel_rfl
  t22 := by kernel_rfl
  a22 := fun _ => by kernel_rfl
  z22 := fun _ => by kernel_rfl
  v22 := fun _ => by kernel_rfl
  i3 := by kernel_rfl
end Go.Proofs.Ytpanodaecjlgaaa.layD
/- In which order rules are done: the program's closures. -/
namespace Go.Proofs.Ytpanodaecjlgaaa.oq
set_option linter.unusedVariables false
open Go.ChangeShapes Go.WideShapes Go.ChangeAt Go.RowKit Go.Shelf
open mem lx ex tm
open Go.Sort (Holds putRow putCells mapBlock onCells)

/-- Numbers as they lie, to be looked at. -/
def Rw (w : World) (p : Option Addr) (l : List Nat) : Prop := ∀ (k z : Nat), l[k]? = some z → ∃ g, p = some ⟨g, 0, none⟩ ∧ g < w.heap.size ∧ w.cell? ⟨g, k, none⟩ = some (.int .i64 (z : Int))
theorem Rw.bl {w w' : World} {p : Option Addr} {l : List Nat} (h : Rw w p l) (hb : Bl w w') : Rw w' p l := fun k z hk => by
  obtain ⟨g, h1, h2, h3⟩ := h k z hk
  exact ⟨g, h1, Nat.lt_of_lt_of_le h2 hb.size, at_bl hb h3⟩
theorem rw_own {w : World} {base : Nat} {v : Value} {l : List Nat} (h : ri.Own w base v (ints l)) : ∃ p c, v = .slice p l.length c ∧ l.length ≤ c ∧ Rw w p l := by
  rcases h.shape with ⟨rfl, hl⟩ | ⟨g, cap, rfl, _, hg, hc, _, hcell⟩
  · have hl0 : l = [] := by cases l with | nil => rfl | cons a r => cases hl
    subst hl0
    exact ⟨none, 0, rfl, Nat.le_refl _, fun k z hk => (by cases hk)⟩
  · rw [ints_len] at hc hcell ⊢
    refine ⟨_, cap, rfl, hc, fun k z hk => ⟨g, rfl, hg, ?_⟩⟩
    have hk' := (List.getElem?_eq_some_iff.1 hk).1
    rw [hcell k hk']
    have : (ints l)[k]? = some (z : Int) := by unfold ints; rw [List.getElem?_map, hk]; rfl
    rw [List.getD_eq_getElem?_getD, this]
    rfl
set_option maxHeartbeats 1000000 in
theorem Index_at (z : Nat) (p : Option Addr) (n c : Nat) (l : List Nat) (w : World) (hR : Rw w p l) (hn : n = l.length) (hn2 : n ≤ 5000) :
    Calls Try.prog 43 #[.slice p n c, .int .i64 (z : Int)] w fun e w' => (∃ r : Int, e = .returned (.int .i64 r) ∧ (0 ≤ r ↔ z ∈ l)) ∧ w' = w := by
  have HIN : Hid (Rw w p l) := hR
  have HN : Hid (n = l.length) := hn
  clear hR hn
  go_enter Try.func43, Try.ntmps43
  go_wp2
  go_loopw [5, 8] (fun _ i wr => ∃ k : Nat, k ≤ n ∧ i = .int .i64 (k : Int) ∧ wr = w ∧ Hid (∀ j y, j < k → l[j]? = some y → y ≠ z)) (fun _ i _ => n - (intOf i).toNat)
  case atStart => exact ⟨0, Nat.zero_le _, rfl, rfl, fun j y hj => absurd hj (Nat.not_lt_zero _)⟩
  case round =>
    obtain ⟨k, hk, rfl, hwr, H⟩ := hrel
    subst hwr
    by_cases hlt : k < n
    · have hltz : (k : Int) < n := by omega
      obtain ⟨y, hy⟩ : ∃ y, l[k]? = some y := ⟨_, List.getElem?_eq_getElem (by have := HN.out; omega)⟩
      obtain ⟨g, rfl, hg, hc⟩ := HIN.out k y hy
      have HY : Hid (l[k]? = some y) := hy
      clear hy
      by_cases hyz : z = y
      · subst hyz
        go_wp2
        go_ret
        exact ⟨⟨(k : Int), rfl, ⟨fun _ => List.mem_of_getElem? HY.out, fun _ => by omega⟩⟩, rfl⟩
      · have hne : ¬ ((z : Int) = (y : Int)) := by omega
        have HK : Hid (∀ j x, j < k + 1 → l[j]? = some x → x ≠ z) := fun j x hj hx => by
          by_cases h : j < k
          · exact H.out j x h hx
          · obtain rfl : j = k := by omega
            rw [HY.out] at hx
            injection hx with hx
            rw [← hx]; exact fun e => hyz e.symm
        clear hyz
        go_wp2
        go_roundw
        case rel => exact ⟨k + 1, hlt, by go_num, by trivial, HK⟩
        case measure => simp [intOf]; omega
    · have hltz : ¬ (k : Int) < n := by omega
      obtain rfl : k = n := by omega
      go_wp2
      go_ret
      refine ⟨⟨-1, rfl, ⟨fun h => absurd h (by decide), fun h => ?_⟩⟩, by trivial⟩
      obtain ⟨j, hj⟩ := List.mem_iff_getElem?.1 h
      have h1 := (List.getElem?_eq_some_iff.1 hj).1
      exact absurd rfl (H.out j z (by have := HN.out; omega) hj)
theorem Contains_at (z : Nat) (p : Option Addr) (n c : Nat) (l : List Nat) (w : World) (hR : Rw w p l) (hn : n = l.length) (hn2 : n ≤ 5000) :
    Calls Try.prog 24 #[.slice p n c, .int .i64 (z : Int)] w fun e w' => e = .returned (.bool (decide (z ∈ l))) ∧ w' = w := by
  have c1 := Index_at z p n c l w hR hn hn2
  obtain ⟨b, hb⟩ : ∃ b, b = decide (z ∈ l) := ⟨_, rfl⟩
  rw [← hb]
  have HB : Hid (b = decide (z ∈ l)) := hb
  clear hR hn hb
  go_enter Try.func24, Try.ntmps24
  go_wp2_with fail
  refine Calls.mono c1 ?_
  rintro e w1 ⟨⟨r, rfl, h⟩, rfl⟩
  clear c1
  by_cases hz : z ∈ l
  · have hr := h.2 hz
    have HT : Hid (b = true) := by show b = true; rw [HB.out]; exact decide_eq_true hz
    clear h hz
    go_wp2
    go_ret
    exact ⟨by rw [HT.out]; rfl, rfl⟩
  · have hr : ¬ (0 ≤ r) := fun hc => hz (h.1 hc)
    have HT : Hid (b = false) := by show b = false; rw [HB.out]; exact decide_eq_false hz
    clear h hz
    go_wp2
    go_ret
    exact ⟨ret_bool (by rw [HT.out]; exact decide_eq_false (by omega)), rfl⟩
theorem waits_at (j P4 : Nat) (p : Option Addr) (n c : Nat) (l : List Nat) (w : World) (h4 : w.cell? ⟨P4, 0, none⟩ = some (.slice p n c)) (hP : P4 < w.heap.size) (hR : Rw w p l) (hn : n = l.length) (hn2 : n ≤ 5000) :
    Calls Try.prog 23 #[.int .i64 (j : Int), .pointer (some ⟨P4, 0, none⟩)] w fun e w' => e = .returned (.bool (decide (j ∈ l))) ∧ w' = w := by
  have c1 := Contains_at j p n c l w hR hn hn2
  clear hR hn
  go_enter Try.func23, Try.ntmps23
  go_wp2_with fail
  refine Calls.mono c1 ?_
  rintro e w1 ⟨rfl, rfl⟩
  clear c1
  go_wp2
  go_ret
  exact ⟨rfl, rfl⟩
set_option maxHeartbeats 1000000 in
theorem IndexU_at (P4 : Nat) (p : Option Addr) (n c : Nat) (l : List Nat) (q : Option Addr) (m d : Nat) (U : List Nat) (w : World) (h4 : w.cell? ⟨P4, 0, none⟩ = some (.slice p n c)) (hP : P4 < w.heap.size) (hR : Rw w p l) (hn : n = l.length) (hn2 : n ≤ 5000) (hU : Rw w q U) (hm : m = U.length) (hm2 : m ≤ 5000) :
    Calls Try.prog 28 #[.slice q m d, .func (.func 23) #[] #[.pointer (some ⟨P4, 0, none⟩)]] w fun e w' => (∃ r : Int, e = .returned (.int .i64 r) ∧ (0 ≤ r ↔ ∃ j ∈ U, j ∈ l)) ∧ w' = w := by
  have cW := fun j => waits_at j P4 p n c l w h4 hP hR hn hn2
  have HIN : Hid (Rw w q U) := hU
  have HN : Hid (m = U.length) := hm
  clear hR hn hU hm h4 hP
  go_enter Try.func28, Try.ntmps28
  go_wp2
  go_loopw [5, 8] (fun _ i wr => ∃ k : Nat, k ≤ m ∧ i = .int .i64 (k : Int) ∧ wr = w ∧ Hid (∀ j y, j < k → U[j]? = some y → y ∉ l)) (fun _ i _ => m - (intOf i).toNat)
  case atStart => exact ⟨0, Nat.zero_le _, rfl, rfl, fun j y hj => absurd hj (Nat.not_lt_zero _)⟩
  case round =>
    obtain ⟨k, hk, rfl, hwr, H⟩ := hrel
    subst hwr
    by_cases hlt : k < m
    · have hltz : (k : Int) < m := by omega
      obtain ⟨y, hy⟩ : ∃ y, U[k]? = some y := ⟨_, List.getElem?_eq_getElem (by have := HN.out; omega)⟩
      obtain ⟨g, rfl, hg, hc⟩ := HIN.out k y hy
      have HY : Hid (U[k]? = some y) := hy
      have cY := cW y
      clear hy cW
      by_cases hyz : y ∈ l
      · rw [decide_eq_true hyz] at cY
        have HM : Hid (y ∈ l) := hyz
        clear hyz
        go_wp2_with fail
        refine cY.mono ?_
        rintro e w1 ⟨rfl, rfl⟩
        clear cY
        go_wp2
        go_ret
        exact ⟨⟨(k : Int), rfl, ⟨fun _ => ⟨y, List.mem_of_getElem? HY.out, HM.out⟩, fun _ => by omega⟩⟩, rfl⟩
      · rw [decide_eq_false hyz] at cY
        have HK : Hid (∀ j x, j < k + 1 → U[j]? = some x → x ∉ l) := fun j x hj hx => by
          by_cases h : j < k
          · exact H.out j x h hx
          · obtain rfl : j = k := by omega
            rw [HY.out] at hx
            injection hx with hx
            rw [← hx]; exact hyz
        clear hyz
        go_wp2_with fail
        refine cY.mono ?_
        rintro e w1 ⟨rfl, hw1⟩
        obtain rfl := hw1.symm
        clear cY
        go_wp2
        go_roundw
        case rel => exact ⟨k + 1, hlt, by go_num, by trivial, HK⟩
        case measure => simp [intOf]; omega
    · have hltz : ¬ (k : Int) < m := by omega
      obtain rfl : k = m := by omega
      clear cW
      go_wp2
      go_ret
      refine ⟨⟨-1, rfl, ⟨fun h => absurd h (by decide), fun h => ?_⟩⟩, by trivial⟩
      obtain ⟨y, hy, hyl⟩ := h
      obtain ⟨j, hj⟩ := List.mem_iff_getElem?.1 hy
      have h1 := (List.getElem?_eq_some_iff.1 hj).1
      exact absurd hyl (H.out j y (by have := HN.out; omega) hj)
theorem ContainsU_at (P4 : Nat) (p : Option Addr) (n c : Nat) (l : List Nat) (q : Option Addr) (m d : Nat) (U : List Nat) (w : World) (h4 : w.cell? ⟨P4, 0, none⟩ = some (.slice p n c)) (hP : P4 < w.heap.size) (hR : Rw w p l) (hn : n = l.length) (hn2 : n ≤ 5000) (hU : Rw w q U) (hm : m = U.length) (hm2 : m ≤ 5000) :
    Calls Try.prog 26 #[.slice q m d, .func (.func 23) #[] #[.pointer (some ⟨P4, 0, none⟩)]] w fun e w' => e = .returned (.bool (U.any (fun j => l.contains j))) ∧ w' = w := by
  have c1 := IndexU_at P4 p n c l q m d U w h4 hP hR hn hn2 hU hm hm2
  obtain ⟨b, hb⟩ : ∃ b, b = U.any (fun j => l.contains j) := ⟨_, rfl⟩
  rw [← hb]
  have HB : Hid (b = U.any (fun j => l.contains j)) := hb
  clear hR hn hU hm h4 hP hb
  go_enter Try.func26, Try.ntmps26
  go_wp2_with fail
  refine Calls.mono c1 ?_
  rintro e w1 ⟨⟨r, rfl, h⟩, rfl⟩
  clear c1
  by_cases hz : ∃ j ∈ U, j ∈ l
  · have hr := h.2 hz
    have e : U.any (fun j => l.contains j) = true := by
      obtain ⟨j, h1, h2⟩ := hz
      exact List.any_eq_true.2 ⟨j, h1, by simpa using h2⟩
    have HT : Hid (b = _) := HB.out.trans e
    clear h hz e
    go_wp2
    go_ret
    exact ⟨by rw [HT.out]; rfl, rfl⟩
  · have hr : ¬ (0 ≤ r) := fun hc => hz (h.1 hc)
    have e : U.any (fun j => l.contains j) = false := by
      rw [List.any_eq_false]
      intro j h1 h2
      exact hz ⟨j, h1, by simpa using h2⟩
    have HT : Hid (b = _) := HB.out.trans e
    clear h hz e
    go_wp2
    go_ret
    exact ⟨ret_bool (by rw [HT.out]; exact decide_eq_false (by omega)), rfl⟩
/-- What the closures look at. -/
structure Lk (w : World) (ok : Nat → Prop) (P1 P4 P7 : Nat) (p0 : Option Addr) (n0 c0 : Nat) (cs : List C) (p : Option Addr) (c : Nat) (l : List Nat) : Prop where
  c1 : w.cell? ⟨P1, 0, none⟩ = some (.slice p0 n0 c0)
  c4 : w.cell? ⟨P4, 0, none⟩ = some (.slice p l.length c)
  c7 : w.cell? ⟨P7, 0, none⟩ = some (.func (.func 23) #[] #[.pointer (some ⟨P4, 0, none⟩)])
  l1 : P1 < w.heap.size
  l4 : P4 < w.heap.size
  l7 : P7 < w.heap.size
  rw : Rw w p l
  len : l.length ≤ 5000
  lie : ir.Lie w ok p0 n0 c0 cs
  n0 : n0 ≤ 3000
theorem Lk.bl {w w' : World} {ok : Nat → Prop} {P1 P4 P7 : Nat} {p0 : Option Addr} {n0 c0 : Nat} {cs : List C} {p : Option Addr} {c : Nat} {l : List Nat} (h : Lk w ok P1 P4 P7 p0 n0 c0 cs p c l) (hb : Bl w w') : Lk w' ok P1 P4 P7 p0 n0 c0 cs p c l :=
  ⟨at_bl hb h.c1, at_bl hb h.c4, at_bl hb h.c7, Nat.lt_of_lt_of_le h.l1 hb.size, Nat.lt_of_lt_of_le h.l4 hb.size, Nat.lt_of_lt_of_le h.l7 hb.size, h.rw.bl hb, h.len, lie_bl h.lie hb, h.n0⟩
set_option maxRecDepth 10000 in
set_option maxHeartbeats 4000000 in
theorem ready_at (i : Nat) (x : C) (w : World) (ok : Nat → Prop) (P1 P4 P7 : Nat) (p0 : Option Addr) (n0 c0 : Nat) (cs : List C) (p : Option Addr) (c : Nat) (l : List Nat) (h : Lk w ok P1 P4 P7 p0 n0 c0 cs p c l) (hx : cs[i]? = some x) :
    Calls Try.prog 25 #[.int .i64 (i : Int), .pointer (some ⟨P1, 0, none⟩), .pointer (some ⟨P7, 0, none⟩)] w fun e w' => e = .returned (.bool (ready (cs.map C.d) l i)) ∧ Bl w w' := by
  have H : Hid (Lk w ok P1 P4 P7 p0 n0 c0 cs p c l) := h
  have hbd : Bl w w.drew := (Bl.refl _).drew
  have cU := under_at x i cs ok p0 n0 c0 w.drew (lie_bl h.lie hbd) h.n0 hx
  have q1 := at_bl hbd h.c1
  have q7 := at_bl hbd h.c7
  have r1 := h.c1
  have r7 := h.c7
  have hl1 := h.l1
  have hl7 := h.l7
  obtain ⟨U, hU⟩ : ∃ U, U = under (cs.map C.d) i := ⟨_, rfl⟩
  rw [← hU] at cU
  have hU2 : U.length ≤ 5000 := by
    rw [hU]
    have h1 := under_len (cs.map C.d) i
    rw [List.length_map, ← h.lie.1] at h1
    have := h.n0
    omega
  have HU : Hid (ready (cs.map C.d) l i = !(U.any (fun j => l.contains j))) := by show ready _ _ _ = _; rw [hU]; rfl
  clear h hx hU
  go_enter Try.func25, Try.ntmps25
  go_upto_region 1 with fail
  go_region_held3 (fun wS => wS.cell? ⟨P1, 0, none⟩ = some (.slice p0 n0 c0) ∧ wS.cell? ⟨P7, 0, none⟩ = some (.func (.func 23) #[] #[.pointer (some ⟨P4, 0, none⟩)])) (refine ⟨?_, ?_⟩ <;> first | assumption)
    (first
      | (go_at_call 27; (with_reducible refine cU.mono ?_); rintro e w2 ⟨u, rfl, hb2, ho2⟩
         obtain ⟨pu, cu, rfl, hcu, hru⟩ := rw_own ho2
         have HL2 : Hid (Lk w2 ok P1 P4 P7 p0 n0 c0 cs p c l ∧ Bl w w2) := ⟨H.out.bl (hbd.trans hb2), hbd.trans hb2⟩
         have s1 := HL2.out.1.c1
         have s7 := HL2.out.1.c7
         have cC := ContainsU_at P4 p l.length c l pu U.length cu U w2 HL2.out.1.c4 HL2.out.1.l4 HL2.out.1.rw rfl HL2.out.1.len hru rfl hU2
         clear hb2 ho2 hru)
      | (go_at_call 26; (with_reducible refine cC.mono ?_); rintro e w3 ⟨rfl, hw3⟩; obtain rfl := hw3.symm))
  go_wp2
  go_ret
  exact ⟨ret_bool (by rw [HU.out]; simp), HL2.out.2⟩
/-- What is looked for among those that are left. -/
def Fnd (ds : List D) (l : List Nat) (r : Int) : Prop := (∃ k z : Nat, r = (k : Int) ∧ l[k]? = some z ∧ ready ds l z = true ∧ ∀ j y, j < k → l[j]? = some y → ready ds l y = false) ∨ (r = -1 ∧ ∀ y ∈ l, ready ds l y = false)
set_option maxHeartbeats 2000000 in
theorem IndexR_at (w : World) (ok : Nat → Prop) (P1 P4 P7 : Nat) (p0 : Option Addr) (n0 c0 : Nat) (cs : List C) (p : Option Addr) (c : Nat) (l : List Nat) (h : Lk w ok P1 P4 P7 p0 n0 c0 cs p c l) (hl : ∀ y ∈ l, y < cs.length) :
    Calls Try.prog 28 #[.slice p l.length c, .func (.func 25) #[] #[.pointer (some ⟨P1, 0, none⟩), .pointer (some ⟨P7, 0, none⟩)]] w fun e w' => (∃ r : Int, e = .returned (.int .i64 r) ∧ Fnd (cs.map C.d) l r) ∧ Bl w w' := by
  have H : Hid (Lk w ok P1 P4 P7 p0 n0 c0 cs p c l) := h
  have HL : Hid (∀ y ∈ l, y < cs.length) := hl
  obtain ⟨m, hm⟩ : ∃ m, m = l.length := ⟨_, rfl⟩
  have hm2 : m ≤ 5000 := by rw [hm]; exact h.len
  have HN : Hid (m = l.length) := hm
  rw [← hm]
  clear h hl hm
  go_enter Try.func28, Try.ntmps28
  go_wp2
  go_loopw [5, 8] (fun _ i wr => ∃ k : Nat, k ≤ m ∧ i = .int .i64 (k : Int) ∧ Hid (Bl w wr ∧ ∀ j y, j < k → l[j]? = some y → ready (cs.map C.d) l y = false)) (fun _ i _ => m - (intOf i).toNat)
  case atStart => exact ⟨0, Nat.zero_le _, rfl, Bl.refl _, fun j y hj => absurd hj (Nat.not_lt_zero _)⟩
  case round =>
    obtain ⟨k, hk, rfl, HB⟩ := hrel
    by_cases hlt : k < m
    · have hltz : (k : Int) < m := by omega
      obtain ⟨y, hy⟩ : ∃ y, l[k]? = some y := ⟨_, List.getElem?_eq_getElem (by have := HN.out; omega)⟩
      have HK := H.out.bl HB.out.1
      obtain ⟨x, hx⟩ : ∃ x, cs[y]? = some x := ⟨_, List.getElem?_eq_getElem (HL.out y (List.mem_of_getElem? hy))⟩
      have cY := ready_at y x wr ok P1 P4 P7 p0 n0 c0 cs p c l HK hx
      obtain ⟨g, rfl, hg, hc⟩ := HK.rw k y hy
      have HY : Hid (l[k]? = some y) := hy
      clear hy hx HK
      cases hr : ready (cs.map C.d) l y with
      | true =>
        rw [hr] at cY
        have HR : Hid (ready (cs.map C.d) l y = true) := hr
        clear hr
        go_wp2_with fail
        refine cY.mono ?_
        rintro e w1 ⟨rfl, hb1⟩
        have HB1 : Hid (Bl w w1) := HB.out.1.trans hb1
        clear cY hb1
        go_wp2
        go_ret
        exact ⟨⟨(k : Int), rfl, Or.inl ⟨k, y, rfl, HY.out, HR.out, HB.out.2⟩⟩, HB1.out⟩
      | false =>
        rw [hr] at cY
        have HK2 : Hid (∀ j x, j < k + 1 → l[j]? = some x → ready (cs.map C.d) l x = false) := fun j x hj hx => by
          by_cases h : j < k
          · exact HB.out.2 j x h hx
          · obtain rfl : j = k := by omega
            rw [HY.out] at hx
            injection hx with hx
            rw [← hx]; exact hr
        clear hr
        go_wp2_with fail
        refine cY.mono ?_
        rintro e w1 ⟨rfl, hb1⟩
        have HB1 : Hid (Bl w w1) := HB.out.1.trans hb1
        clear cY hb1
        go_wp2
        go_roundw
        case rel => exact ⟨k + 1, hlt, by go_num, HB1.out, HK2.out⟩
        case measure => simp [intOf]; omega
    · have hltz : ¬ (k : Int) < m := by omega
      obtain rfl : k = m := by omega
      go_wp2
      go_ret
      refine ⟨⟨-1, rfl, Or.inr ⟨rfl, fun y hy => ?_⟩⟩, HB.out.1⟩
      obtain ⟨j, hj⟩ := List.mem_iff_getElem?.1 hy
      have h1 := (List.getElem?_eq_some_iff.1 hj).1
      exact HB.out.2 j y (by have := HN.out; omega) hj
/-- One number less: slices.Delete. -/
theorem Delete_at (v : Value) (l : List Nat) (w : World) (base k : Nat) (hown : ri.Own w base v (ints l)) (hk : k < l.length) :
    Calls Try.prog 29 #[v, .int .i64 (k : Int), .int .i64 ((k + 1 : Nat) : Int)] w fun e w' => ∃ v', e = .returned v' ∧ ri.Own w' base v' (ints (l.eraseIdx k)) ∧ w.grownBy w' v.ownBlock ∧ v'.ownBlock = v.ownBlock := by
  rcases hown.2 with ⟨rfl, h0⟩ | ⟨g, cap, cur, rfl, hbg, hg, hnc, hcm, hcs, htake⟩
  · rw [ints_len] at h0; omega
  · have hcell : ∀ j, j < (ints l).length → w.cell? ⟨g, 0 + j, none⟩ = some (.int .i64 ((ints l).toArray[j]!)) ∧ w.frozen? ⟨g, 0 + j, none⟩ = false := by
      intro j hj
      have h1 : (ri.rowI (ints l))[j]? = some (.int .i64 ((ints l).getD j 0)) := ri.rowI_get _ _ hj
      rw [← htake, List.getElem?_take, if_pos (by omega)] at h1
      refine ⟨?_, by simp [World.frozen?, hg]⟩
      rw [Nat.zero_add, cell_of hg]
      have e : (ints l).toArray[j]! = (ints l).getD j 0 := by
        rw [List.getD_eq_getElem?_getD, List.getElem?_eq_getElem hj, Option.getD_some]
        rw [getElem!_pos _ j (by simpa using hj)]
        simp
      rw [e]
      simpa using h1
    have hH : Holds (Value.int .i64) w g 0 (ints l).toArray := fun j hj => hcell j (by simpa using hj)
    have hlen := ints_len l
    have c := Any.slices_Delete_int layD.laid23 g 0 cap k (k + 1) (ints l) w hH hnc (by unfold maxLen at hcm; omega) (by omega) (by rw [hlen]; omega)
    refine c.mono ?_
    rintro e w' ⟨rfl, q, rfl⟩
    obtain ⟨d, hd⟩ : ∃ d, d = ((ints l).take k ++ (ints l).drop (k + 1) ++ List.replicate (k + 1 - k) 0).toArray := ⟨_, rfl⟩
    have hdl : d.size = l.length := by rw [hd]; simp [hlen]; omega
    have hee : ints (l.eraseIdx k) = (ints l).take k ++ (ints l).drop (k + 1) := by unfold ints; rw [List.eraseIdx_eq_take_drop_succ, List.map_append, List.map_take, List.map_drop]
    have hel : (ints (l.eraseIdx k)).length = l.length - 1 := by rw [ints_len, List.length_eraseIdx, if_pos hk]
    rw [← hd]
    have hheap : (putRow (Value.int .i64) (Sort.ahead w q) g 0 d).heap[g]? = some (.cells (putCells (Value.int .i64) 0 d cur) 3 (0, 0)) := by
      simp [putRow, mapBlock, Sort.ahead, Array.getElem?_modify, hg, onCells]
    refine ⟨_, rfl, ⟨by simp [ri.rowI], Or.inr ⟨g, cap, _, by rw [hel, hlen, show k + 1 - k = 1 by omega], hbg, hheap, by rw [hel]; omega, hcm, ?_, ?_⟩⟩, ⟨rfl, rfl, rfl, by simp [putRow, mapBlock, Sort.ahead], fun j hj hne => ?_⟩, rfl⟩
    · simp [putCells, hcs]
    · rw [hel, Nat.mul_one]
      apply List.ext_getElem?
      intro j
      by_cases hj : j < l.length - 1
      · have hj3 : j < cur.size := by rw [hcs]; omega
        have hjd : j < d.size := by omega
        rw [List.getElem?_take_of_lt hj, ri.rowI_get _ j (by rw [hel]; exact hj), Array.getElem?_toList]
        have e : d[j] = (ints (l.eraseIdx k)).getD j 0 := by
          have hj4 : j < (ints (l.eraseIdx k)).length := by rw [hel]; exact hj
          rw [List.getD_eq_getElem?_getD, List.getElem?_eq_getElem hj4, Option.getD_some]
          have h5 : d[j]? = some ((ints (l.eraseIdx k))[j]) := by
            rw [hd, List.getElem?_toArray, ← hee, List.getElem?_append_left hj4, List.getElem?_eq_getElem hj4]
          rw [Array.getElem?_eq_getElem hjd] at h5
          exact Option.some.inj h5
        rw [← e]
        simp [putCells, hjd, hj3]
      · rw [List.getElem?_take_eq_none (by omega), List.getElem?_eq_none (by simp [ri.rowI, hel]; omega)]
    · have : g ≠ j := fun e => hne (by rw [← e]; rfl)
      simp [putRow, mapBlock, Sort.ahead, Array.getElem?_modify, this]
end Go.Proofs.Ytpanodaecjlgaaa.oq
/- In which order rules are done: Order of package types. -/
namespace Go.Proofs.Ytpanodaecjlgaaa.oq
set_option linter.unusedVariables false
open Go.ChangeShapes Go.WideShapes Go.ChangeAt Go.RowKit Go.Shelf
open mem lx ex tm

theorem erase_idx : ∀ (l : List Nat) (k z : Nat), l.Nodup → l[k]? = some z → l.eraseIdx k = l.erase z := by
  intro l
  induction l with
  | nil => intro k z _ h; cases h
  | cons a r ih =>
    intro k z hn h
    cases k with
    | zero =>
      simp at h
      subst h
      simp
    | succ k =>
      have h' : r[k]? = some z := by simpa using h
      have hne : a ≠ z := fun e => by
        subst e
        exact (List.nodup_cons.1 hn).1 (List.mem_of_getElem? h')
      rw [List.eraseIdx_cons_succ, ih k z (List.nodup_cons.1 hn).2 h', List.erase_cons_tail (by simpa using hne)]
theorem lft_nodup (ds : List D) (met : List Nat) : (lft ds met).Nodup := List.nodup_range.filter _
theorem fnd_some {ds : List D} {l : List Nat} {k z : Nat} (h1 : l[k]? = some z) (h2 : ready ds l z = true) (h3 : ∀ j y, j < k → l[j]? = some y → ready ds l y = false) : l.find? (ready ds l) = some z := by
  obtain ⟨hk, he⟩ := List.getElem?_eq_some_iff.1 h1
  rw [List.find?_eq_some_iff_getElem]
  refine ⟨h2, k, hk, he, fun j hj => ?_⟩
  rw [h3 j _ hj (List.getElem?_eq_getElem (by omega))]
  rfl
theorem fnd_none {ds : List D} {l : List Nat} (h : ∀ y ∈ l, ready ds l y = false) : l.find? (ready ds l) = none := by
  rw [List.find?_eq_none]
  intro y hy
  rw [h y hy]
  exact Bool.false_ne_true
/-- A row's block is no variable of another type. -/
theorem own_vr {w : World} {base P : Nat} {v x : Value} {l : List Int} {t : TypeId} (h : ri.Own w base v l) (hP : Vr w P x t) (ht : t ≠ 3) : v.ownBlock ≠ some P := by
  rcases h.2 with ⟨rfl, _⟩ | ⟨g, cap, cur, rfl, _, hg, _⟩
  · intro e; cases e
  · intro e
    injection e with e
    unfold Vr at hP
    subst e
    rw [show (⟨g, 0, none⟩ : Addr).block = g from rfl, hg] at hP
    injection hP with hP
    injection hP with _ h2
    exact ht h2.symm
/-- All that Order holds. -/
structure Oh (w wr : World) (P1 P4 : Nat) (p : Option Addr) (n c : Nat) (vo vc : Value) (lo lc : List Nat) : Prop where
  bl : Bl w wr
  c1 : Vr wr P1 (.slice p n c) 26
  c4 : Vr wr P4 vc 38
  own : ri.Own2 wr w.heap.size vo (ints lo) vc (ints lc)
  p1 : w.heap.size ≤ P1
  p4 : w.heap.size ≤ P4
theorem Oh.bl' {w wr w' : World} {P1 P4 : Nat} {p : Option Addr} {n c : Nat} {vo vc : Value} {lo lc : List Nat} (h : Oh w wr P1 P4 p n c vo vc lo lc) (hb : Bl wr w') : Oh w w' P1 P4 p n c vo vc lo lc :=
  ⟨h.bl.trans hb, h.c1.step hb, h.c4.step hb, h.own.step hb, h.p1, h.p4⟩
/-- A number more in the order. -/
theorem Oh.order {w wr : World} {P1 P4 : Nat} {p : Option Addr} {n c : Nat} {vo vc : Value} {lo lc : List Nat} (h : Oh w wr P1 P4 p n c vo vc lo lc) (X k : Nat) (hX : wr.cell? ⟨X, 0, none⟩ = some (.int .i64 (k : Int))) (hn : lo.length ≤ 5000) :
    ∃ v' w', (Builtin.append_ #[38, 38] 38 #[vo, .slice (some ⟨X, 0, none⟩) 1 1]).run Try.prog wr = .ok v' w' ∧ Oh w w' P1 P4 p n c v' vc (lo ++ [k]) lc ∧ wr.grownBy w' vo.ownBlock := by
  obtain ⟨v', w', hr, ho, hg, hv⟩ := ri.app_one wr w.heap.size vo (ints lo) (k : Int) X h.own.a hX (by rw [ints_len]; exact hn) h.bl.size
  rw [← ints_app] at ho
  refine ⟨v', w', hr, ⟨bl_grown h.bl hg (fun x hx => (h.own.a.block x hx).1), h.c1.grown hg (own_vr h.own.a h.c1 (by decide)), h.c4.grown hg (own_vr h.own.a h.c4 (by decide)), h.own.first ho hg hv, h.p1, h.p4⟩, hg⟩
/-- A Check more. -/
theorem Oh.check {w wr : World} {P1 P4 : Nat} {p : Option Addr} {n c : Nat} {vo vc : Value} {lo lc : List Nat} (h : Oh w wr P1 P4 p n c vo vc lo lc) (hne : P1 ≠ P4) (X k : Nat) (hX : wr.cell? ⟨X, 0, none⟩ = some (.int .i64 (k : Int))) (hn : lc.length ≤ 5000) :
    ∃ v' w', (Builtin.append_ #[38, 38] 38 #[vc, .slice (some ⟨X, 0, none⟩) 1 1]).run Try.prog wr = .ok v' w' ∧ Oh w (w'.setCell ⟨P4, 0, none⟩ v') P1 P4 p n c vo v' lo (lc ++ [k]) ∧ Vr w' P4 vc 38 := by
  obtain ⟨v', w', hr, ho, hg, hv⟩ := ri.app_one wr w.heap.size vc (ints lc) (k : Int) X h.own.b hX (by rw [ints_len]; exact hn) h.bl.size
  rw [← ints_app] at ho
  have hb' := bl_grown h.bl hg (fun x hx => (h.own.b.block x hx).1)
  have h4 := h.c4.grown hg (own_vr h.own.b h.c4 (by decide))
  have h1 := h.c1.grown hg (own_vr h.own.b h.c1 (by decide))
  have hO := h.own.second ho hg hv
  have hgs : w'.grownBy (w'.setCell ⟨P4, 0, none⟩ v') (some P4) := grown_set _ _ _ _
  refine ⟨v', w', hr, ⟨hb'.setCell h.p4 _, h1.set_other (fun e => hne e.symm) _, h4.set _, ⟨hO.a.kept hgs (fun x hx e => own_vr hO.a h4 (by decide) (by rw [hx, ← e])), hO.b.kept hgs (fun x hx e => own_vr hO.b h4 (by decide) (by rw [hx, ← e])), hO.apart, Nat.le_trans hO.le hgs.size⟩, h.p1, h.p4⟩, h4⟩
/-- A Check less. -/
theorem Oh.drop {w wr w' : World} {P1 P4 : Nat} {p : Option Addr} {n c : Nat} {vo vc v' : Value} {lo lc lc' : List Nat} (h : Oh w wr P1 P4 p n c vo vc lo lc) (hne : P1 ≠ P4) (ho : ri.Own w' w.heap.size v' (ints lc')) (hg : wr.grownBy w' vc.ownBlock) (hv : v'.ownBlock = vc.ownBlock) :
    Oh w (w'.setCell ⟨P4, 0, none⟩ v') P1 P4 p n c vo v' lo lc' ∧ Vr w' P4 vc 38 := by
  have hb' := bl_grown h.bl hg (fun x hx => (h.own.b.block x hx).1)
  have h4 := h.c4.grown hg (own_vr h.own.b h.c4 (by decide))
  have h1 := h.c1.grown hg (own_vr h.own.b h.c1 (by decide))
  have hO := h.own.second ho hg (Or.inl hv)
  have hgs : w'.grownBy (w'.setCell ⟨P4, 0, none⟩ v') (some P4) := grown_set _ _ _ _
  exact ⟨⟨hb'.setCell h.p4 _, h1.set_other (fun e => hne e.symm) _, h4.set _, ⟨hO.a.kept hgs (fun x hx e => own_vr hO.a h4 (by decide) (by rw [hx, ← e])), hO.b.kept hgs (fun x hx e => own_vr hO.b h4 (by decide) (by rw [hx, ← e])), hO.apart, Nat.le_trans hO.le hgs.size⟩, h.p1, h.p4⟩, h4⟩
def isS (d : D) : Bool := d.ru == 1 || d.ru == 2
def isK (d : D) : Bool := d.ru == 3
end Go.Proofs.Ytpanodaecjlgaaa.oq
