/- Texts laid together: HrP, Su1. -/
import Derived.Test.YtkldnapbeebdkaaDoorZ13
import Derived.Test.YtkldnapbeebdkaaDoorZ7
import Derived.Test.YtkldnapbeebdkaaDoorZ3
import Derived.Shelf.GgSortMore.Stable
import Derived.Deep.LoopGhost
import Derived.Deep.AppendLies
import Derived.Maps.AppendAt
import Derived.Sort.WalkB2
import Derived.Sort.WalkB12
/- Groups joined in a list that isn't sorted: the first of the least numbers is taken out, twice. -/
namespace Go.Proofs.YtkldnapbeebdkaaDoor.hfp
set_option linter.unusedVariables false
/-- In both the groups of each number stand in like order. -/
def SE (a b : List G) : Prop := ∀ k : Int, a.filter (fun x => decide (x.1 = k)) = b.filter (fun x => decide (x.1 = k))
theorem SE.refl (a : List G) : SE a a := fun _ => rfl
theorem SE.symm {a b : List G} (h : SE a b) : SE b a := fun k => (h k).symm
theorem SE.trans {a b c : List G} (h : SE a b) (h' : SE b c) : SE a c := fun k => (h k).trans (h' k)
theorem SE.append {a b a' b' : List G} (h : SE a b) (h' : SE a' b') : SE (a ++ a') (b ++ b') := fun k => by
  rw [List.filter_append, List.filter_append, h k, h' k]
theorem SE.sort (l : List G) : SE (l.mergeSort leP) l := fun k => by
  have hp : (l.mergeSort leP).Perm l := List.mergeSort_perm l leP
  have hs : (l.filter fun x => decide (x.1 = k)).Pairwise (fun a b => leP a b = true) := by
    rw [List.pairwise_iff_forall_sublist]
    intro a b hab
    have ha := List.mem_filter.1 (hab.subset (by simp : a ∈ [a, b]))
    have hb := List.mem_filter.1 (hab.subset (by simp : b ∈ [a, b]))
    have h1 := of_decide_eq_true ha.2
    have h2 := of_decide_eq_true hb.2
    unfold leP
    rw [h1, h2]
    simp
  have hsub := List.sublist_mergeSort leP_trans leP_total hs List.filter_sublist
  have h2 := hsub.filter (fun x => decide (x.1 = k))
  rw [List.filter_filter] at h2
  simp only [Bool.and_self] at h2
  exact (h2.eq_of_length (hp.filter _).length_eq.symm).symm
theorem sorted_eq : ∀ (a b : List G), a.Pairwise (fun x y => leP x y = true) → b.Pairwise (fun x y => leP x y = true) → SE a b → a = b
  | [], b, _, _, h => by
    cases b with
    | nil => rfl
    | cons y b => have := h y.1; simp at this
  | x :: a, b, ha, hb, h => by
    cases b with
    | nil => have := h x.1; simp at this
    | cons y b =>
      rw [List.pairwise_cons] at ha hb
      have e : x.1 = y.1 := by
        have hx : x ∈ y :: b := by
          have : x ∈ (y :: b).filter (fun z => decide (z.1 = x.1)) := by rw [← h x.1]; simp
          exact (List.mem_filter.1 this).1
        have hy : y ∈ x :: a := by
          have : y ∈ (x :: a).filter (fun z => decide (z.1 = y.1)) := by rw [h y.1]; simp
          exact (List.mem_filter.1 this).1
        have h1 : y.1 ≤ x.1 := by
          rcases List.mem_cons.1 hx with rfl | hx
          · exact Int.le_refl _
          · exact of_decide_eq_true (hb.1 x hx)
        have h2 : x.1 ≤ y.1 := by
          rcases List.mem_cons.1 hy with rfl | hy
          · exact Int.le_refl _
          · exact of_decide_eq_true (ha.1 y hy)
        omega
      have hk := h x.1
      rw [List.filter_cons, List.filter_cons, if_pos (by simp), if_pos (by simp [e])] at hk
      injection hk with hxy _
      subst hxy
      have : a = b := sorted_eq a b ha.2 hb.2 fun k => by
        have := h k
        rw [List.filter_cons, List.filter_cons] at this
        split at this
        · injection this
        · exact this
      rw [this]
theorem sort_pw (l : List G) : (l.mergeSort leP).Pairwise (fun x y => leP x y = true) := List.pairwise_mergeSort leP_trans leP_total l
theorem SE.same {a b : List G} (h : SE a b) : a.mergeSort leP = b.mergeSort leP := sorted_eq _ _ (sort_pw a) (sort_pw b) (((SE.sort a).trans h).trans (SE.sort b).symm)
theorem hloop_SE {a b : List G} (h : SE a b) (f : Nat) (ls : List Int) : hloop f a ls = hloop f b ls := by
  cases f with
  | zero => rfl
  | succ f => rw [hloop, hloop, h.same]
/-- The first of the least numbers stands at k. -/
def Fl (l : List G) (k : Nat) : Prop := k < l.length ∧ (∀ i, i < l.length → (l.getD k (0, [])).1 ≤ (l.getD i (0, [])).1) ∧ ∀ i, i < k → (l.getD k (0, [])).1 < (l.getD i (0, [])).1
theorem get_d (l : List G) (i : Nat) (h : i < l.length) : l.getD i (0, []) = l[i] := by rw [List.getD_eq_getElem?_getD, List.getElem?_eq_getElem h]; rfl
theorem Fl.sort {l : List G} {k : Nat} (h : Fl l k) : l.mergeSort leP = l.getD k (0, []) :: (l.eraseIdx k).mergeSort leP := by
  obtain ⟨h1, h2, h3⟩ := h
  have hl : l = l.take k ++ l.getD k (0, []) :: l.drop (k + 1) := by
    rw [get_d l k h1, List.getElem_cons_drop h1, List.take_append_drop]
  have he : l.eraseIdx k = l.take k ++ l.drop (k + 1) := List.eraseIdx_eq_take_drop_succ l k
  have hmem : ∀ x ∈ l, (l.getD k (0, [])).1 ≤ x.1 := fun x hx => by
    obtain ⟨i, hi, rfl⟩ := List.mem_iff_getElem.1 hx
    have := h2 i hi
    rw [get_d l i hi] at this
    exact this
  generalize l.getD k (0, []) = g at *
  refine sorted_eq _ _ (sort_pw l) ?_ ((SE.sort l).trans fun n => ?_)
  · rw [List.pairwise_cons]
    refine ⟨fun x hx => ?_, sort_pw _⟩
    have hx' := (List.mergeSort_perm (l.eraseIdx k) leP).mem_iff.1 hx
    exact decide_eq_true (hmem x (List.mem_of_mem_eraseIdx hx'))
  · have hs := SE.sort (l.eraseIdx k) n
    rw [List.filter_cons, hs, he]
    conv => lhs; rw [hl]
    rw [List.filter_append, List.filter_append, List.filter_cons]
    by_cases hn : g.1 = n
    · have e : (l.take k).filter (fun x => decide (x.1 = n)) = [] := by
        rw [List.filter_eq_nil_iff]
        intro x hx
        obtain ⟨i, hi, rfl⟩ := List.mem_iff_getElem.1 hx
        rw [List.length_take] at hi
        have := h3 i (by omega)
        rw [get_d l i (by omega)] at this
        rw [List.getElem_take]
        simp
        omega
      rw [e]
      simp [hn]
    · simp [hn]
/-- One round. -/
theorem rloop_step {f : Nat} {l : List G} {ls : List Int} {i j : Nat} (hi : Fl l i) (hj : Fl (l.eraseIdx i) j) :
    hloop (f + 1) l ls = hloop f ((l.eraseIdx i).eraseIdx j ++ [cat (l.getD i (0, [])) ((l.eraseIdx i).getD j (0, []))]) (bump ls ((l.getD i (0, [])).2 ++ ((l.eraseIdx i).getD j (0, [])).2)) := by
  have hs := hi.sort
  rw [hj.sort] at hs
  rw [hloop_step hs]
  exact hloop_SE (SE.append (SE.sort _) (SE.refl _)) _ _
/-- .. of what is at hand in both. -/
theorem two_of {l : List G} {i j : Nat} (hi : Fl l i) (hj : Fl (l.eraseIdx i) j) : l.mergeSort leP = l.getD i (0, []) :: (l.eraseIdx i).getD j (0, []) :: ((l.eraseIdx i).eraseIdx j).mergeSort leP := by rw [hi.sort, hj.sort]
end Go.Proofs.YtkldnapbeebdkaaDoor.hfp
/- A row sorted by 'less' and 'swap': two parts of it exchanged, turned round. -/
namespace Go.Proofs.YtkldnapbeebdkaaDoor.su
set_option linter.unusedVariables false
open Go.Shelf Go.RowKit Go.Lib Go.Sort
open mem st
variable {α : Type} [Inhabited α]
/-- What 'less' and 'swap' are asked for: the row is d0's at first, in the block blk of the world w0. -/
structure Ls (enc : α → Value) (lt : α → α → Bool) (g : Nat) (lb : Array Value) (sf : Nat) (sb : Array Value) (w0 : World) (blk off : Nat) (d0 : Array α) : Prop where
  eg : ∀ args w, (callFunc g args).run Tryd.prog w = .ok (.enter g args) w
  hless : LessReads Tryd.prog g lb enc lt blk off d0.size w0
  hswap : SwapSwaps Tryd.prog sf sb enc blk off d0.size
  hH : Holds enc w0 blk off d0
  hblk : blk < w0.heap.size
/-- Both, as a value. -/
abbrev dv (g : Nat) (lb : Array Value) (sf : Nat) (sb : Array Value) : Value := .agg #[.func (.func g) #[] lb, .func (.func sf) #[] sb]
/-- The box of both. -/
abbrev bxo (g : Nat) (lb : Array Value) (sf : Nat) (sb : Array Value) : Obj := .cells #[.func (.func g) #[] lb, .func (.func sf) #[] sb] 85
theorem mixedP : Tryd.prog.follows .mixedOrders = true := by kernel_rfl
/-- The world w', of the sort, from w on: the row holds d. -/
def St (enc : α → Value) (w0 : World) (blk off : Nat) (d : Array α) (w w' : World) : Prop := SW enc w0 blk off d w' ∧ w.grownBy w' (some blk)
theorem St.drewN {enc : α → Value} {w0 w w' : World} {blk off : Nat} {d : Array α} (h : St enc w0 blk off d w w') (q : Nat) : St enc w0 blk off d w (w'.drewN q) :=
  ⟨h.1.drewN q, h.2.os, h.2.tape, h.2.output, h.2.size, h.2.block⟩
theorem St.swap {enc : α → Value} {w0 w w' : World} {blk off : Nat} {d : Array α} (h : St enc w0 blk off d w w') (hblk : blk < w0.heap.size) (i j : Nat) (hi : i < d.size) (hj : j < d.size) :
    St enc w0 blk off (swp d i j) w ((w'.setCell ⟨blk, off + i, none⟩ (enc d[j]!)).setCell ⟨blk, off + j, none⟩ (enc d[i]!)) := by
  refine ⟨h.1.swap hblk i j hi hj, h.2.os, h.2.tape, h.2.output, by simpa using h.2.size, fun k hk hne => ?_⟩
  have := h.2.block k hk hne
  rw [← this]
  have hb : blk ≠ k := fun e => hne (by rw [e])
  simp [setCell_eq, mapBlock, Array.getElem?_modify, hb]
theorem St.trans {enc : α → Value} {w0 w w' w'' : World} {blk off : Nat} {d d' : Array α} (h : St enc w0 blk off d w w') (k : St enc w0 blk off d' w' w'') : St enc w0 blk off d' w w'' := ⟨k.1, h.2.trans k.2⟩
theorem St.boxed {enc : α → Value} {w0 w : World} {blk off : Nat} {d : Array α} (h : SW enc w0 blk off d w) (o : Obj) : St enc w0 blk off d w (w.alloc o) := ⟨h.alloc o, World.grownBy_alloc w o _⟩
theorem St.box {enc : α → Value} {w0 w w' : World} {blk off : Nat} {d : Array α} {g : Nat} {lb : Array Value} {sf : Nat} {sb : Array Value} (h : St enc w0 blk off d (w.alloc (bxo g lb sf sb)) w') (hw : blk < w.heap.size) :
    w'.cell? ⟨w.heap.size, 0, none⟩ = some (.func (.func g) #[] lb) ∧ w'.cell? ⟨w.heap.size, 1, none⟩ = some (.func (.func sf) #[] sb) := by
  have e : ∀ k, w'.cell? ⟨w.heap.size, k, none⟩ = (w.alloc (bxo g lb sf sb)).cell? ⟨w.heap.size, k, none⟩ := fun k => h.2.cell_far _ (by simp) (by simp; omega)
  rw [e, e]
  simp
theorem Ls.swp {enc : α → Value} {lt : α → α → Bool} {g : Nat} {lb : Array Value} {sf : Nat} {sb : Array Value} {w0 : World} {blk off : Nat} {d0 : Array α} (L : Ls enc lt g lb sf sb w0 blk off d0) {w wr : World} {dk : Array α} (S : St enc w0 blk off dk w wr) (hs : dk.size = d0.size)
    (i j : Nat) (zi zj : Int) (hi : zi = (i : Int)) (hj : zj = (j : Int)) (bi : i < dk.size) (bj : j < dk.size) : ∃ w2, (callFunc sf (#[.int .i64 zi, .int .i64 zj] ++ sb)).run Tryd.prog wr = .ok (.value (.tuple #[])) w2 ∧ Aside (St enc w0 blk off (swp dk i j) w w2) := by
  subst hi hj
  exact ⟨_, L.hswap wr dk (S.1.holds L.hblk L.hH hs) hs i j (by omega) (by omega), S.swap L.hblk i j bi bj⟩
theorem Ls.less {enc : α → Value} {lt : α → α → Bool} {g : Nat} {lb : Array Value} {sf : Nat} {sb : Array Value} {w0 : World} {blk off : Nat} {d0 : Array α} (L : Ls enc lt g lb sf sb w0 blk off d0) {w wr : World} {dk : Array α} (S : St enc w0 blk off dk w wr) (hs : dk.size = d0.size)
    (i j : Nat) (zi zj : Int) (hi : zi = (i : Int)) (hj : zj = (j : Int)) (bi : i < dk.size) (bj : j < dk.size) (t : Bool) (ht : lt dk[i]! dk[j]! = t) : Calls Tryd.prog g (#[.int .i64 zi, .int .i64 zj] ++ lb) wr fun e w' => e = .returned (.bool t) ∧ Aside (St enc w0 blk off dk w w') := by
  subst hi hj ht
  refine (S.1.less L.hless hs i j (by omega) (by omega)).mono ?_
  rintro e w' ⟨rfl, q, rfl⟩
  exact ⟨rfl, S.drewN q⟩
set_option maxHeartbeats 4000000 in
set_option maxRecDepth 1000000 in
theorem swapRange_at {enc : α → Value} {lt : α → α → Bool} {g : Nat} {lb : Array Value} {sf : Nat} {sb : Array Value} {w0 : World} {blk off : Nat} {d0 : Array α} (L : Ls enc lt g lb sf sb w0 blk off d0)
    (a b n : Nat) (d : Array α) (w : World) (hs : d.size = d0.size) (S : SW enc w0 blk off d w) (hab : a + n ≤ b) (hb : b + n ≤ d.size) (hsz : d.size < 4611686018427387904) (lo hi : Nat) (hlo : lo ≤ a) (hhi : b + n ≤ hi) (hhs : hi ≤ d.size) :
    Calls Tryd.prog 77 #[dv g lb sf sb, .int .i64 a, .int .i64 b, .int .i64 n] w fun e w' => e = .returned (.tuple #[]) ∧ ∃ d', Sr a b n d d' ∧ PermIn lo hi d d' ∧ St enc w0 blk off d' w w' := by
  have mixed := mixedP
  have hbw : blk < w.heap.size := S.lt L.hblk
  have S0 : Aside (St enc w0 blk off d w (w.alloc (bxo g lb sf sb))) := St.boxed S _
  have S00 : Aside (St enc w0 blk off d (w.alloc (bxo g lb sf sb)) (w.alloc (bxo g lb sf sb))) := ⟨S.alloc _, World.grownBy.refl _ _⟩
  clear S
  go_enter Tryd.func77, Tryd.ntmps77
  go_wp2
  go_loopg [8] n (fun kx s wr => ∃ (i : Nat) (dk : Array α), s = .int .i64 i ∧ i ≤ n ∧ n - i ≤ kx ∧ Hid (dk.size = d.size ∧ Sr a b i d dk ∧ PermIn lo hi d dk) ∧ Aside (St enc w0 blk off dk (w.alloc (bxo g lb sf sb)) wr))
  case atStart => exact ⟨0, d, rfl, by omega, by omega, ⟨rfl, Sr.zero a b d, permIn_refl _ _ _⟩, S00⟩
  case round =>
    clear S00
    obtain ⟨i, dk, rfl, h1, h2, H, S1⟩ := hrel
    by_cases hlt : i < n
    · have hltz : (i : Int) < n := by omega
      have hds := H.out.1
      obtain ⟨c0, c1⟩ := S1.out.box hbw
      obtain ⟨w2, hsw, S2⟩ := L.swp S1.out (by omega) (a + i) (b + i) ((a : Int) + (i : Int)) ((b : Int) + (i : Int)) (by omega) (by omega) (by omega) (by omega)
      clear S1
      go_wp2
      go_roundg (n - (i + 1))
      case measure => omega
      case rel => exact ⟨i + 1, _, by go_num, by omega, by omega, ⟨by rw [size_swp]; exact hds, H.out.2.1.step (by omega) (by omega), Sr.perm (n := n) H.out.2.2 (by omega) (by omega) (by omega) (by omega) hhs⟩, S2⟩
    · have hin : i = n := by omega
      have hltz : ¬ (i : Int) < n := by omega
      go_wp2
      go_end0
      exact ⟨rfl, dk, by rw [← hin]; exact H.out.2.1, H.out.2.2, S0.out.trans S1.out⟩
set_option maxHeartbeats 4000000 in
set_option maxRecDepth 1000000 in
theorem rotate_at {enc : α → Value} {lt : α → α → Bool} {g : Nat} {lb : Array Value} {sf : Nat} {sb : Array Value} {w0 : World} {blk off : Nat} {d0 : Array α} (L : Ls enc lt g lb sf sb w0 blk off d0)
    (a m b : Nat) (d : Array α) (w : World) (hs : d.size = d0.size) (S : SW enc w0 blk off d w) (ham : a < m) (hmb : m < b) (hb : b ≤ d.size) (hsz : d.size < 4611686018427387904) :
    Calls Tryd.prog 69 #[dv g lb sf sb, .int .i64 a, .int .i64 m, .int .i64 b] w fun e w' => e = .returned (.tuple #[]) ∧ ∃ d', Rt a m b d d' ∧ PermIn a b d d' ∧ St enc w0 blk off d' w w' := by
  have mixed := mixedP
  have hbw : blk < w.heap.size := S.lt L.hblk
  have S0 : Aside (St enc w0 blk off d w (w.alloc (bxo g lb sf sb))) := St.boxed S _
  have S00 : Aside (St enc w0 blk off d (w.alloc (bxo g lb sf sb)) (w.alloc (bxo g lb sf sb))) := ⟨S.alloc _, World.grownBy.refl _ _⟩
  clear S
  go_enter Tryd.func69, Tryd.ntmps69
  go_wp2
  go_loopg [8, 9] (b - a) (fun kx s10 s11 wr => ∃ (i j : Nat) (dk : Array α), s10 = .int .i64 i ∧ s11 = .int .i64 j ∧ 0 < i ∧ 0 < j ∧ a + i ≤ m ∧ m + j ≤ b ∧ i + j ≤ kx ∧ Hid (dk.size = d.size ∧ PermIn a b d dk ∧ ∀ d', Rt (m - i) m (m + j) dk d' → Rt a m b d d') ∧ Aside (St enc w0 blk off dk (w.alloc (bxo g lb sf sb)) wr))
  case atStart => exact ⟨m - a, b - m, d, by congr 1; omega, by congr 1; omega, by omega, by omega, by omega, by omega, by omega, ⟨rfl, permIn_refl _ _ _, fun d' h => by rw [show m - (m - a) = a by omega, show m + (b - m) = b by omega] at h; exact h⟩, S00⟩
  case round =>
    clear S00
    obtain ⟨i, j, dk, rfl, rfl, hi0, hj0, hai, hjb, hkx, H, S1⟩ := hrel
    obtain ⟨hds, hperm, hrt⟩ := H.out
    obtain ⟨c0, c1⟩ := S1.out.box hbw
    by_cases hij : i = j
    · subst hij
      have c := swapRange_at L (m - i) m i dk wr (by omega) S1.out.1 (by omega) (by omega) (by omega) a b (by omega) (by omega) (by omega)
      rw [show ((m - i : Nat) : Int) = (m : Int) - (i : Int) by omega] at c
      clear hrt hperm
      go_wp2_with fail
      refine Calls.mono c ?_
      rintro e w2 ⟨rfl, d1, hsr, hp, hS⟩
      have S2 : Aside (St enc w0 blk off d1 w w2) := S0.out.trans (S1.out.trans hS)
      clear c c0 c1 hS S1
      go_wp2
      go_end0
      exact ⟨rfl, d1, H.out.2.2 _ (Rt.same hsr (by omega)), permIn_trans _ _ _ _ _ H.out.2.1 hp, S2.out⟩
    · have hne : ((i : Int) == (j : Int)) = false := by rw [beq_eq_false_iff_ne]; omega
      by_cases hgt : j < i
      · have c := swapRange_at L (m - i) m j dk wr (by omega) S1.out.1 (by omega) (by omega) (by omega) a b (by omega) (by omega) (by omega)
        rw [show ((m - i : Nat) : Int) = (m : Int) - (i : Int) by omega] at c
        have hgz : (j : Int) < i := by omega
        clear hrt hperm
        go_wp2_with fail
        refine Calls.mono c ?_
        rintro e w2 ⟨rfl, d1, hsr, hp, hS⟩
        have S2 : Aside (St enc w0 blk off d1 (w.alloc (bxo g lb sf sb)) w2) := S1.out.trans hS
        clear c c0 c1 hS S1
        go_wp2
        go_roundg (i - j + j)
        case measure => omega
        case rel => exact ⟨i - j, j, d1, by congr 1; omega, rfl, by omega, hj0, by omega, hjb, Nat.le_refl _, ⟨hp.1.trans hds, permIn_trans _ _ _ _ _ H.out.2.1 hp, fun d' h => H.out.2.2 _ (Rt.more hsr hgt (by omega) h)⟩, S2⟩
      · have c := swapRange_at L (m - i) (m + j - i) i dk wr (by omega) S1.out.1 (by omega) (by omega) (by omega) a b (by omega) (by omega) (by omega)
        rw [show ((m - i : Nat) : Int) = (m : Int) - (i : Int) by omega, show ((m + j - i : Nat) : Int) = (m : Int) + (j : Int) - (i : Int) by omega] at c
        have hgz : ¬ (j : Int) < i := by omega
        clear hrt hperm
        go_wp2_with fail
        refine Calls.mono c ?_
        rintro e w2 ⟨rfl, d1, hsr, hp, hS⟩
        have S2 : Aside (St enc w0 blk off d1 (w.alloc (bxo g lb sf sb)) w2) := S1.out.trans hS
        clear c c0 c1 hS S1
        go_wp2
        go_roundg (i + (j - i))
        case measure => omega
        case rel => exact ⟨i, j - i, d1, rfl, by congr 1; omega, hi0, by omega, hai, by omega, Nat.le_refl _, ⟨hp.1.trans hds, permIn_trans _ _ _ _ _ H.out.2.1 hp, fun d' h => H.out.2.2 _ (Rt.fewer hsr (by omega) (by omega) h)⟩, S2⟩
end Go.Proofs.YtkldnapbeebdkaaDoor.su
