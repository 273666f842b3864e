/- Texts laid together: Hf4, HfP. -/
import Derived.Test.YtkldnapbeebdkaaDoorZ12
/- The groups at first. -/
namespace Go.Proofs.YtkldnapbeebdkaaDoor.hf
set_option linter.unusedVariables false
open Go.ChangeShapes Go.WideShapes Go.ChangeAt Go.RowKit
open mem rows
/-- Groups, each beside its things, which lie in blocks that are none of F. -/
def Ths (w : World) (F : Nat → Prop) (L : List (Gv × List Int)) : Prop := ∀ x ∈ L, ∃ b cap, x.1.2 = (some ⟨b, 0, none⟩, x.2.length, cap) ∧ ¬ F b ∧ b < w.heap.size ∧ 0 < x.2.length ∧ ∀ k, k < x.2.length → w.cell? ⟨b, k, none⟩ = some (.int .i64 (x.2.getD k 0))
theorem Ths.step {w w' : World} {F F' : Nat → Prop} {L : List (Gv × List Int)} (h : Ths w F L) (hk : ∀ b, b < w.heap.size → ¬ F b → w'.heap[b]? = w.heap[b]?) (hs : w.heap.size ≤ w'.heap.size) (hF : ∀ b, b < w.heap.size → F' b → F b) : Ths w' F' L := by
  intro x hx
  obtain ⟨b, cap, h1, h2, h3, h4, h5⟩ := h x hx
  refine ⟨b, cap, h1, fun h => h2 (hF b h3 h), Nat.lt_of_lt_of_le h3 hs, h4, fun k hk' => ?_⟩
  rw [World.cell?_of_block (hk b h3 h2)]
  exact h5 k hk'
theorem Ths.mem {w : World} {F : Nat → Prop} {L L' : List (Gv × List Int)} (h : Ths w F L) (hm : ∀ x ∈ L', x ∈ L) : Ths w F L' := fun x hx => h x (hm x hx)
theorem Ths.cons {w : World} {F : Nat → Prop} {L L' : List (Gv × List Int)} (h : Ths w F L) (h' : Ths w F L') : Ths w F (L ++ L') := fun x hx => by
  rcases List.mem_append.1 hx with h1 | h1
  · exact h x h1
  · exact h' x h1
/-- How often things may stand. -/
def okL (l : List Int) (k : Nat) : Prop := ∀ i, i < k → 0 ≤ l.getD i 0 ∧ l.getD i 0 ≤ 1099511627776
/-- The groups at first, of the first k things. -/
def grp (l : List Int) (k : Nat) : List (Int × List Int) := ((List.range k).filter fun i => decide (0 < l.getD i 0)).map fun i => (l.getD i 0, [(i : Int)])
theorem grp_succ (l : List Int) (k : Nat) : grp l (k + 1) = grp l k ++ (if 0 < l.getD k 0 then [(l.getD k 0, [(k : Int)])] else []) := by
  unfold grp
  rw [List.range_succ, List.filter_append, List.map_append]
  by_cases h : 0 < l.getD k 0 <;> simp only [h, List.filter_cons, List.filter_nil, decide_true, decide_false, if_true, if_false, List.map_cons, List.map_nil, Bool.false_eq_true]
theorem grp_len (l : List Int) (k : Nat) : (grp l k).length ≤ k := by
  unfold grp
  rw [List.length_map]
  exact Nat.le_trans (List.length_filter_le _ _) (by simp)
abbrev numbers (L : List (Gv × List Int)) : List (Int × List Int) := L.map fun x => (x.1.1, x.2)
abbrev bare (L : List (Gv × List Int)) : List Gv := L.map (·.1)
/-- What alone answers. -/
def Alone (l : List Int) (n : Nat) (w : World) (e : Ending) (w' : World) : Prop :=
  Bl w w' ∧ ((256 < n ∧ e = .returned (.tuple #[.slice none 0 0, .iface 23 (.int .i64 4)])) ∨
       (n ≤ 256 ∧ ¬ okL l n ∧ e = .returned (.tuple #[.slice none 0 0, .iface 23 (.int .i64 1)])) ∨
       (n ≤ 256 ∧ okL l n ∧ ∃ v L, e = .returned (.tuple #[v, .nilIface]) ∧ Gr w' w.heap.size v (bare L) ∧ Ths w' (fun b => bk v = some b) L ∧ numbers L = grp l n))
set_option maxHeartbeats 4000000 in
set_option maxRecDepth 10000 in
theorem alone_at (p : Option Addr) (n c : Nat) (l : List Int) (w : World) (hin : In w p l) (hn : n = l.length) (hn63 : n ≤ 9223372036854775807) :
    Calls Tryd.prog 19 #[.slice p n c] w fun e w' => Alone l n w e w' := by
  have HIN : Hid (In w p l) := hin
  have HN : Hid (n = l.length) := hn
  clear hin hn
  by_cases hbig : 256 < n
  · have hbz : (256 : Int) < n := by omega
    go_enter Tryd.func19, Tryd.ntmps19
    go_wp2
    go_ret2
    exact ⟨Bl.refl _, Or.inl ⟨hbig, rfl⟩⟩
  have hbz : ¬ (256 : Int) < n := by omega
  obtain ⟨base, hbase⟩ : ∃ b, b = w.heap.size := ⟨_, rfl⟩
  have HB : Hid (base = w.heap.size) := hbase
  clear hbase
  go_enter Tryd.func19, Tryd.ntmps19
  go_wp2
  go_loopw [4, 5, 6, 13] (fun v _ _ i wr => ∃ (k : Nat) (L : List (Gv × List Int)), k ≤ n ∧ i = .int .i64 (k : Int) ∧ Hid (Gr wr base v (bare L) ∧ Ths wr (fun b => bk v = some b) L ∧ numbers L = grp l k ∧ okL l k ∧ Bl w wr)) (fun _ _ _ i _ => n - (intOf i).toNat)
  case atStart => exact ⟨0, [], Nat.zero_le _, rfl, ⟨Gr.nil _ _, fun x hx => by simp at hx, rfl, fun i hi => absurd hi (Nat.not_lt_zero _), Bl.refl _⟩⟩
  case round =>
    obtain ⟨k, L, hk, rfl, H⟩ := hrel
    obtain ⟨hgr, hth, hnum, hok, hbl⟩ := H.out
    by_cases hlt : k < n
    · have hltz : (k : Int) < n := by omega
      obtain ⟨x, rfl, hcell⟩ := (HIN.out.step hbl).at k (by rw [← HN.out]; exact hlt)
      obtain ⟨z, hz⟩ : ∃ z, z = l.getD k 0 := ⟨_, rfl⟩
      rw [← hz] at hcell
      have HZ : Hid (z = l.getD k 0) := hz
      clear hz
      by_cases hneg : z < 0
      · clear hgr hth hnum hok hbl
        go_wp2
        go_ret2
        exact ⟨H.out.2.2.2.2, Or.inr (Or.inl ⟨by omega, fun h => by have := h k hlt; rw [← HZ.out] at this; omega, rfl⟩)⟩
      · by_cases hgt : 1099511627776 < z
        · clear hgr hth hnum hok hbl
          go_wp2
          go_ret2
          exact ⟨H.out.2.2.2.2, Or.inr (Or.inl ⟨by omega, fun h => by have := h k hlt; rw [← HZ.out] at this; omega, rfl⟩)⟩
        · have hok' : okL l (k + 1) := fun i hi => by
            by_cases h : i < k
            · exact hok i h
            · obtain rfl : i = k := by omega
              rw [← HZ.out]
              omega
          by_cases hpos : 0 < z
          · have hlen : (bare L).length ≤ 5000 := by
              have := grp_len l k
              rw [← hnum] at this
              simp only [numbers, bare, List.length_map] at this ⊢
              omega
            have hbs : base ≤ wr.heap.size := by rw [HB.out]; exact hbl.size
            obtain ⟨W2, hW2⟩ : ∃ W2, W2 = ((wr.alloc (.cells #[.int .i64 (k : Int)] 3)).alloc (.cells #[.int .i64 z, .slice (some ⟨wr.heap.size, 0, none⟩) 1 1] 49)) := ⟨_, rfl⟩
            have hB2 : Bl wr W2 := by rw [hW2]; exact ((Bl.refl wr).alloc _).alloc _
            have hS2 : W2.heap.size = wr.heap.size + 2 := by rw [hW2]; simp
            have hC2 : W2.cell? ⟨wr.heap.size, 0, none⟩ = some (.int .i64 (k : Int)) := by rw [hW2]; go_simp
            obtain ⟨v', w', hr, ho', hg', hbk⟩ := app_gr W2 base u4 (bare L) (z, some ⟨wr.heap.size, 0, none⟩, 1, 1) (wr.heap.size + 1) (hgr.step hB2) (by rw [hW2]; go_simp) (by rw [hW2]; go_simp) hlen (by omega)
            have hbase' : ∀ b, bk u4 = some b → base ≤ b ∧ b < wr.heap.size := fun b hb => by
              rcases hgr with ⟨h, _⟩ | ⟨g, off, cap, cur, h1, h2, h3, _⟩
              · rw [h] at hb; cases hb
              · rw [h1] at hb
                simp only [bk, Option.some.injEq] at hb
                subst hb
                exact ⟨h2, lt_of_heap h3⟩
            have HF : Hid (Gr w' base v' (bare (L ++ [((z, some ⟨wr.heap.size, 0, none⟩, 1, 1), [(k : Int)])])) ∧ Ths w' (fun b => bk v' = some b) (L ++ [((z, some ⟨wr.heap.size, 0, none⟩, 1, 1), [(k : Int)])]) ∧ numbers (L ++ [((z, some ⟨wr.heap.size, 0, none⟩, 1, 1), [(k : Int)])]) = grp l (k + 1) ∧ okL l (k + 1) ∧ Bl w w') := by
              have hFb : ∀ b, b < W2.heap.size → bk v' = some b → bk u4 = some b := fun b hb h => by
                rcases hbk with h1 | h1
                · rw [← h1]; exact h
                · rw [h1] at h; injection h with h; omega
              refine ⟨by simp only [bare, List.map_append, List.map_cons, List.map_nil]; exact ho', Ths.cons (hth.step (fun b h1 h2 => ?_) (Nat.le_trans (by omega) hg'.size) (fun b h1 h2 => hFb b (by omega) h2)) ?_, ?_, hok', bl_grown (hbl.trans hB2) hg' (fun b hb => by rw [← HB.out]; exact (hbase' b hb).1)⟩
              · rw [hg'.block b (by omega) (fun e => h2 e.symm), Below.block hB2 b h1]
              · intro x hx
                rw [List.mem_singleton] at hx
                subst hx
                refine ⟨wr.heap.size, 1, rfl, fun h => ?_, Nat.lt_of_lt_of_le (by omega) hg'.size, Nat.one_pos, fun j hj => ?_⟩
                · have := hbase' _ (hFb _ (by omega) h)
                  omega
                · obtain rfl : j = 0 := by simp only [List.length_singleton] at hj; omega
                  rw [World.cell?_of_block (hg'.block wr.heap.size (by omega) (fun e => by have := hbase' _ e.symm; omega))]
                  exact hC2
              · rw [grp_succ, ← HZ.out, if_pos hpos]
                simp only [numbers, List.map_append, List.map_cons, List.map_nil]
                rw [← hnum]
            have HR : Hid _ := hr
            rw [hW2] at HR
            clear hgr hth hnum hok hok' hbl hr ho' hg' hbk hbase' hB2 hC2 hS2 hW2 H
            go_wp2_with (at_builtin; refine Lib.wpList_append_run _ rfl (.tmp 27) (.tmp 32) _ _ rfl _ _ rfl rfl _ _ HR.out ?_)
            go_roundw
            case rel => exact ⟨k + 1, _, hlt, by go_num, HF⟩
            case measure => simp [intOf]; omega
          · have HF : Hid (Gr wr base u4 (bare L) ∧ Ths wr (fun b => bk u4 = some b) L ∧ numbers L = grp l (k + 1) ∧ okL l (k + 1) ∧ Bl w wr) := ⟨hgr, hth, by rw [grp_succ, ← HZ.out, if_neg hpos, List.append_nil]; exact hnum, hok', hbl⟩
            clear hgr hth hnum hok hok' hbl H
            go_wp2
            go_roundw
            case rel => exact ⟨k + 1, L, hlt, by go_num, HF⟩
            case measure => simp [intOf]; omega
    · have hltz : ¬ (k : Int) < n := by omega
      obtain rfl : k = n := by omega
      clear hgr hth hnum hok hbl
      go_wp2
      go_ret2
      exact ⟨H.out.2.2.2.2, Or.inr (Or.inr ⟨by omega, H.out.2.2.2.1, u4, L, rfl, by rw [← HB.out]; exact H.out.1, H.out.2.1, H.out.2.2.1⟩)⟩
end Go.Proofs.YtkldnapbeebdkaaDoor.hf
/- HUFFMAN's signs, in plain lists: groups joined, and how many bits each thing has then. -/
namespace Go.Proofs.YtkldnapbeebdkaaDoor.hfp
set_option linter.unusedVariables false
abbrev G := Int × List Int
def leP (x y : G) : Bool := decide (x.1 ≤ y.1)
theorem leP_trans (a b c : G) : leP a b → leP b c → leP a c := by
  unfold leP
  simp only [decide_eq_true_eq]
  omega
theorem leP_total (a b : G) : leP a b || leP b a := by
  unfold leP
  simp only [Bool.or_eq_true, decide_eq_true_eq]
  omega
def cat (a b : G) : G := (a.1 + b.1, a.2 ++ b.2)
/-- One bit more for each of some things. -/
def bump (ls : List Int) : List Int → List Int
  | [] => ls
  | i :: t => bump (ls.set i.toNat (ls.getD i.toNat 0 + 1)) t
def hloop : Nat → List G → List Int → List Int
  | 0, _, ls => ls
  | f + 1, gs, ls => match gs.mergeSort leP with
    | a :: b :: r => hloop f (r ++ [cat a b]) (bump ls (a.2 ++ b.2))
    | _ => ls
theorem hloop_step {f : Nat} {gs r : List G} {a b : G} {ls : List Int} (h : gs.mergeSort leP = a :: b :: r) : hloop (f + 1) gs ls = hloop f (r ++ [cat a b]) (bump ls (a.2 ++ b.2)) := by
  rw [hloop, h]
theorem sort_two {gs : List G} (h : 1 < gs.length) : ∃ a b r, gs.mergeSort leP = a :: b :: r ∧ r.length + 2 = gs.length := by
  have hl := List.length_mergeSort (le := leP) gs
  match hs : gs.mergeSort leP with
  | [] => rw [hs] at hl; simp at hl; omega
  | [a] => rw [hs] at hl; simp at hl; omega
  | a :: b :: r => exact ⟨a, b, r, rfl, by rw [hs] at hl; simpa using hl⟩
theorem hloop_end {f : Nat} {gs : List G} {ls : List Int} (h : gs.length ≤ 1) : hloop f gs ls = ls := by
  cases f with
  | zero => rfl
  | succ f =>
    rw [hloop]
    have hl := List.length_mergeSort (le := leP) gs
    split
    · next hs => rw [hs] at hl; simp at hl; omega
    · rfl
/-! ### Bits that are counted -/
theorem bump_len (t : List Int) : ∀ ls : List Int, (bump ls t).length = ls.length := by
  induction t with
  | nil => intro ls; rfl
  | cons i t ih => intro ls; rw [bump, ih]; simp
theorem bump_append (t t' : List Int) : ∀ ls : List Int, bump ls (t ++ t') = bump (bump ls t) t' := by
  induction t with
  | nil => intro ls; rfl
  | cons i t ih => intro ls; rw [List.cons_append, bump, ih, bump]
theorem getD_set (ls : List Int) (i j : Nat) (v : Int) : (ls.set i v).getD j 0 = if i = j ∧ j < ls.length then v else ls.getD j 0 := by
  simp only [List.getD_eq_getElem?_getD, List.getElem?_set]
  by_cases h : i = j
  · subst h
    by_cases h2 : i < ls.length
    · simp [h2]
    · simp [h2]
  · simp [h]
/-- Each thing that stands there once has one bit more, others as many as before. -/
theorem bump_get (t : List Int) : ∀ (ls : List Int) (j : Nat), (∀ i ∈ t, 0 ≤ i ∧ i.toNat < ls.length) → t.Nodup → (bump ls t).getD j 0 = if (j : Int) ∈ t then ls.getD j 0 + 1 else ls.getD j 0 := by
  induction t with
  | nil => intro ls j _ _; simp [bump]
  | cons i t ih =>
    intro ls j hr hn
    obtain ⟨hi, hn⟩ := List.nodup_cons.1 hn
    have hri := hr i (by simp)
    rw [bump, ih _ j (fun k hk => by rw [List.length_set]; exact hr k (by simp [hk])) hn, getD_set]
    by_cases hj : (j : Int) ∈ t
    · have : i.toNat ≠ j := fun e => hi (by have : i = (j : Int) := by omega
                                            rw [this]; exact hj)
      rw [if_pos hj, if_neg (by omega), if_pos (by simp [hj])]
    · rw [if_neg hj]
      by_cases hij : i.toNat = j
      · rw [if_pos (by omega), if_pos (by simp; left; omega), hij]
      · rw [if_neg (by omega), if_neg (by simp [hj]; omega)]
theorem bump_bd (t : List Int) : ∀ (ls : List Int) (B : Int), (∀ j, 0 ≤ ls.getD j 0 ∧ ls.getD j 0 ≤ B) → ∀ j, 0 ≤ (bump ls t).getD j 0 ∧ (bump ls t).getD j 0 ≤ B + t.length := by
  induction t with
  | nil => intro ls B h j; have := h j; show 0 ≤ ls.getD j 0 ∧ ls.getD j 0 ≤ B + ((0 : Nat) : Int); omega
  | cons i t ih =>
    intro ls B h j
    rw [bump]
    have := ih (ls.set i.toNat (ls.getD i.toNat 0 + 1)) (B + 1) (fun k => by
      rw [getD_set]
      have h1 := h i.toNat
      have h2 := h k
      split <;> omega) j
    rw [List.length_cons]
    omega
/-! ### What stays so while groups are joined -/
theorem perm_sumI {α : Type} (f : α → Int) {l l' : List α} (h : l.Perm l') : (l.map f).sum = (l'.map f).sum := by
  induction h with
  | nil => rfl
  | cons x _ ih => simp [ih]
  | swap x y l => simp; omega
  | trans _ _ h1 h2 => rw [h1, h2]
theorem perm_sumN {α : Type} (f : α → Nat) {l l' : List α} (h : l.Perm l') : (l.map f).sum = (l'.map f).sum := (h.map f).sum_nat
def sm (gs : List G) : Int := (gs.map (·.1)).sum
def tn (gs : List G) : Nat := (gs.map (·.2.length)).sum
theorem sm_step {gs r : List G} {a b : G} (h : gs.mergeSort leP = a :: b :: r) : sm (r ++ [cat a b]) = sm gs := by
  have := perm_sumI (fun x : G => x.1) (List.mergeSort_perm gs leP)
  unfold sm
  rw [← this, h]
  simp [cat]
  omega
theorem tn_step {gs r : List G} {a b : G} (h : gs.mergeSort leP = a :: b :: r) : tn (r ++ [cat a b]) = tn gs := by
  have := perm_sumN (fun x : G => x.2.length) (List.mergeSort_perm gs leP)
  unfold tn
  rw [← this, h]
  simp [cat]
  omega
theorem mem_step {gs r : List G} {a b : G} (h : gs.mergeSort leP = a :: b :: r) : a ∈ gs ∧ b ∈ gs ∧ ∀ x ∈ r, x ∈ gs := by
  have hp := List.mergeSort_perm gs leP
  rw [h] at hp
  exact ⟨hp.mem_iff.1 (by simp), hp.mem_iff.1 (by simp), fun x hx => hp.mem_iff.1 (by simp [hx])⟩
theorem le_sm {gs : List G} (h0 : ∀ g ∈ gs, 0 ≤ g.1) : ∀ g ∈ gs, g.1 ≤ sm gs := by
  unfold sm
  induction gs with
  | nil => intro g hg; simp at hg
  | cons x gs ih =>
    intro g hg
    have hx := h0 x (by simp)
    have hs : 0 ≤ (gs.map (·.1)).sum := by
      clear ih hg
      induction gs with
      | nil => simp
      | cons y gs ih2 =>
        have := ih2 (fun g hg => h0 g (by simp at hg ⊢; rcases hg with h | h <;> simp [h]))
        have := h0 y (by simp)
        simp
        omega
    simp only [List.map_cons, List.sum_cons]
    rcases List.mem_cons.1 hg with rfl | hg
    · omega
    · have := ih (fun g hg => h0 g (by simp [hg])) g hg
      omega
theorem two_sm {gs r : List G} {a b : G} (h0 : ∀ g ∈ gs, 0 ≤ g.1) (h : gs.mergeSort leP = a :: b :: r) : a.1 + b.1 ≤ sm gs ∧ 0 ≤ a.1 ∧ 0 ≤ b.1 := by
  obtain ⟨ha, hb, hr⟩ := mem_step h
  rw [← sm_step h]
  refine ⟨le_sm (fun g hg => ?_) (cat a b) (by simp), h0 a ha, h0 b hb⟩
  rcases List.mem_append.1 hg with h1 | h1
  · exact h0 g (hr g h1)
  · simp at h1
    subst h1
    have := h0 a ha
    have := h0 b hb
    simp [cat]
    omega
/-- Numbers that can be held, and things that there are. -/
structure Pw (n : Nat) (gs : List G) (ls : List Int) : Prop where
  pos : ∀ g ∈ gs, 0 ≤ g.1
  sum : sm gs ≤ 281474976710656
  rng : ∀ g ∈ gs, ∀ t ∈ g.2, 0 ≤ t ∧ t.toNat < n
  few : tn gs ≤ 256
  cnt : gs.length ≤ 256
  len : ls.length = n
  low : ∀ j, 0 ≤ ls.getD j 0 ∧ ls.getD j 0 ≤ 256 * (256 - (gs.length : Int))
theorem len_tn {gs : List G} : ∀ g ∈ gs, g.2.length ≤ tn gs := by
  unfold tn
  induction gs with
  | nil => intro g hg; simp at hg
  | cons x gs ih =>
    intro g hg
    simp only [List.map_cons, List.sum_cons]
    rcases List.mem_cons.1 hg with rfl | hg
    · omega
    · have := ih g hg
      omega
theorem Pw.step {n : Nat} {gs r : List G} {a b : G} {ls : List Int} (p : Pw n gs ls) (h : gs.mergeSort leP = a :: b :: r) : Pw n (r ++ [cat a b]) (bump ls (a.2 ++ b.2)) := by
  obtain ⟨ha, hb, hr⟩ := mem_step h
  have hl := List.length_mergeSort (le := leP) gs
  rw [h] at hl
  simp only [List.length_cons] at hl
  have h2 := two_sm p.pos h
  have hc := len_tn (gs := r ++ [cat a b]) (cat a b) (by simp)
  rw [tn_step h] at hc
  have hcl : (cat a b).2.length = (a.2 ++ b.2).length := rfl
  refine ⟨fun g hg => ?_, by rw [sm_step h]; exact p.sum, fun g hg t ht => ?_, by rw [tn_step h]; exact p.few, ?_, by rw [bump_len]; exact p.len, fun j => ?_⟩
  · rcases List.mem_append.1 hg with h1 | h1
    · exact p.pos g (hr g h1)
    · simp at h1
      subst h1
      simp [cat]
      omega
  · rcases List.mem_append.1 hg with h1 | h1
    · exact p.rng g (hr g h1) t ht
    · simp at h1
      subst h1
      rcases List.mem_append.1 ht with h3 | h3
      · exact p.rng a ha t h3
      · exact p.rng b hb t h3
  · have := p.cnt
    simp
    omega
  · have := bump_bd (a.2 ++ b.2) ls _ p.low j
    have hf := p.few
    simp only [List.length_append, List.length_singleton] at this hcl ⊢
    omega
end Go.Proofs.YtkldnapbeebdkaaDoor.hfp
