/- The groups at first. -/
import Derived.Test.YtkldnapbeebdkaaDoorHf3
namespace Go.Proofs.YtkldnapbeebdkaaDoor.hf
set_option linter.unusedVariables false
open Go.ChangeShapes Go.WideShapes Go.ChangeAt Go.RowKit
open mem rows
/-- Groups, each beside its things, which lie in blocks that are none of F. -/
def Ths (w : World) (F : Nat → Prop) (L : List (Gv × List Int)) : Prop := ∀ x ∈ L, ∃ b cap, x.1.2 = (some ⟨b, 0, none⟩, x.2.length, cap) ∧ ¬ F b ∧ b < w.heap.size ∧ 0 < x.2.length ∧ ∀ k, k < x.2.length → w.cell? ⟨b, k, none⟩ = some (.int .i64 (x.2.getD k 0))
theorem Ths.step {w w' : World} {F F' : Nat → Prop} {L : List (Gv × List Int)} (h : Ths w F L) (hk : ∀ b, b < w.heap.size → ¬ F b → w'.heap[b]? = w.heap[b]?) (hs : w.heap.size ≤ w'.heap.size) (hF : ∀ b, b < w.heap.size → F' b → F b) : Ths w' F' L := by
  intro x hx
  obtain ⟨b, cap, h1, h2, h3, h4, h5⟩ := h x hx
  refine ⟨b, cap, h1, fun h => h2 (hF b h3 h), Nat.lt_of_lt_of_le h3 hs, h4, fun k hk' => ?_⟩
  rw [World.cell?_of_block (hk b h3 h2)]
  exact h5 k hk'
theorem Ths.mem {w : World} {F : Nat → Prop} {L L' : List (Gv × List Int)} (h : Ths w F L) (hm : ∀ x ∈ L', x ∈ L) : Ths w F L' := fun x hx => h x (hm x hx)
theorem Ths.cons {w : World} {F : Nat → Prop} {L L' : List (Gv × List Int)} (h : Ths w F L) (h' : Ths w F L') : Ths w F (L ++ L') := fun x hx => by
  rcases List.mem_append.1 hx with h1 | h1
  · exact h x h1
  · exact h' x h1
/-- How often things may stand. -/
def okL (l : List Int) (k : Nat) : Prop := ∀ i, i < k → 0 ≤ l.getD i 0 ∧ l.getD i 0 ≤ 1099511627776
/-- The groups at first, of the first k things. -/
def grp (l : List Int) (k : Nat) : List (Int × List Int) := ((List.range k).filter fun i => decide (0 < l.getD i 0)).map fun i => (l.getD i 0, [(i : Int)])
theorem grp_succ (l : List Int) (k : Nat) : grp l (k + 1) = grp l k ++ (if 0 < l.getD k 0 then [(l.getD k 0, [(k : Int)])] else []) := by
  unfold grp
  rw [List.range_succ, List.filter_append, List.map_append]
  by_cases h : 0 < l.getD k 0 <;> simp only [h, List.filter_cons, List.filter_nil, decide_true, decide_false, if_true, if_false, List.map_cons, List.map_nil, Bool.false_eq_true]
theorem grp_len (l : List Int) (k : Nat) : (grp l k).length ≤ k := by
  unfold grp
  rw [List.length_map]
  exact Nat.le_trans (List.length_filter_le _ _) (by simp)
abbrev numbers (L : List (Gv × List Int)) : List (Int × List Int) := L.map fun x => (x.1.1, x.2)
abbrev bare (L : List (Gv × List Int)) : List Gv := L.map (·.1)
/-- What alone answers. -/
def Alone (l : List Int) (n : Nat) (w : World) (e : Ending) (w' : World) : Prop :=
  Bl w w' ∧ ((256 < n ∧ e = .returned (.tuple #[.slice none 0 0, .iface 23 (.int .i64 4)])) ∨
       (n ≤ 256 ∧ ¬ okL l n ∧ e = .returned (.tuple #[.slice none 0 0, .iface 23 (.int .i64 1)])) ∨
       (n ≤ 256 ∧ okL l n ∧ ∃ v L, e = .returned (.tuple #[v, .nilIface]) ∧ Gr w' w.heap.size v (bare L) ∧ Ths w' (fun b => bk v = some b) L ∧ numbers L = grp l n))
set_option maxHeartbeats 4000000 in
set_option maxRecDepth 10000 in
theorem alone_at (p : Option Addr) (n c : Nat) (l : List Int) (w : World) (hin : In w p l) (hn : n = l.length) (hn63 : n ≤ 9223372036854775807) :
    Calls Tryd.prog 19 #[.slice p n c] w fun e w' => Alone l n w e w' := by
  have HIN : Hid (In w p l) := hin
  have HN : Hid (n = l.length) := hn
  clear hin hn
  by_cases hbig : 256 < n
  · have hbz : (256 : Int) < n := by omega
    go_enter Tryd.func19, Tryd.ntmps19
    go_wp2
    go_ret2
    exact ⟨Bl.refl _, Or.inl ⟨hbig, rfl⟩⟩
  have hbz : ¬ (256 : Int) < n := by omega
  obtain ⟨base, hbase⟩ : ∃ b, b = w.heap.size := ⟨_, rfl⟩
  have HB : Hid (base = w.heap.size) := hbase
  clear hbase
  go_enter Tryd.func19, Tryd.ntmps19
  go_wp2
  go_loopw [4, 5, 6, 13] (fun v _ _ i wr => ∃ (k : Nat) (L : List (Gv × List Int)), k ≤ n ∧ i = .int .i64 (k : Int) ∧ Hid (Gr wr base v (bare L) ∧ Ths wr (fun b => bk v = some b) L ∧ numbers L = grp l k ∧ okL l k ∧ Bl w wr)) (fun _ _ _ i _ => n - (intOf i).toNat)
  case atStart => exact ⟨0, [], Nat.zero_le _, rfl, ⟨Gr.nil _ _, fun x hx => by simp at hx, rfl, fun i hi => absurd hi (Nat.not_lt_zero _), Bl.refl _⟩⟩
  case round =>
    obtain ⟨k, L, hk, rfl, H⟩ := hrel
    obtain ⟨hgr, hth, hnum, hok, hbl⟩ := H.out
    by_cases hlt : k < n
    · have hltz : (k : Int) < n := by omega
      obtain ⟨x, rfl, hcell⟩ := (HIN.out.step hbl).at k (by rw [← HN.out]; exact hlt)
      obtain ⟨z, hz⟩ : ∃ z, z = l.getD k 0 := ⟨_, rfl⟩
      rw [← hz] at hcell
      have HZ : Hid (z = l.getD k 0) := hz
      clear hz
      by_cases hneg : z < 0
      · clear hgr hth hnum hok hbl
        go_wp2
        go_ret2
        exact ⟨H.out.2.2.2.2, Or.inr (Or.inl ⟨by omega, fun h => by have := h k hlt; rw [← HZ.out] at this; omega, rfl⟩)⟩
      · by_cases hgt : 1099511627776 < z
        · clear hgr hth hnum hok hbl
          go_wp2
          go_ret2
          exact ⟨H.out.2.2.2.2, Or.inr (Or.inl ⟨by omega, fun h => by have := h k hlt; rw [← HZ.out] at this; omega, rfl⟩)⟩
        · have hok' : okL l (k + 1) := fun i hi => by
            by_cases h : i < k
            · exact hok i h
            · obtain rfl : i = k := by omega
              rw [← HZ.out]
              omega
          by_cases hpos : 0 < z
          · have hlen : (bare L).length ≤ 5000 := by
              have := grp_len l k
              rw [← hnum] at this
              simp only [numbers, bare, List.length_map] at this ⊢
              omega
            have hbs : base ≤ wr.heap.size := by rw [HB.out]; exact hbl.size
            obtain ⟨W2, hW2⟩ : ∃ W2, W2 = ((wr.alloc (.cells #[.int .i64 (k : Int)] 3)).alloc (.cells #[.int .i64 z, .slice (some ⟨wr.heap.size, 0, none⟩) 1 1] 49)) := ⟨_, rfl⟩
            have hB2 : Bl wr W2 := by rw [hW2]; exact ((Bl.refl wr).alloc _).alloc _
            have hS2 : W2.heap.size = wr.heap.size + 2 := by rw [hW2]; simp
            have hC2 : W2.cell? ⟨wr.heap.size, 0, none⟩ = some (.int .i64 (k : Int)) := by rw [hW2]; go_simp
            obtain ⟨v', w', hr, ho', hg', hbk⟩ := app_gr W2 base u4 (bare L) (z, some ⟨wr.heap.size, 0, none⟩, 1, 1) (wr.heap.size + 1) (hgr.step hB2) (by rw [hW2]; go_simp) (by rw [hW2]; go_simp) hlen (by omega)
            have hbase' : ∀ b, bk u4 = some b → base ≤ b ∧ b < wr.heap.size := fun b hb => by
              rcases hgr with ⟨h, _⟩ | ⟨g, off, cap, cur, h1, h2, h3, _⟩
              · rw [h] at hb; cases hb
              · rw [h1] at hb
                simp only [bk, Option.some.injEq] at hb
                subst hb
                exact ⟨h2, lt_of_heap h3⟩
            have HF : Hid (Gr w' base v' (bare (L ++ [((z, some ⟨wr.heap.size, 0, none⟩, 1, 1), [(k : Int)])])) ∧ Ths w' (fun b => bk v' = some b) (L ++ [((z, some ⟨wr.heap.size, 0, none⟩, 1, 1), [(k : Int)])]) ∧ numbers (L ++ [((z, some ⟨wr.heap.size, 0, none⟩, 1, 1), [(k : Int)])]) = grp l (k + 1) ∧ okL l (k + 1) ∧ Bl w w') := by
              have hFb : ∀ b, b < W2.heap.size → bk v' = some b → bk u4 = some b := fun b hb h => by
                rcases hbk with h1 | h1
                · rw [← h1]; exact h
                · rw [h1] at h; injection h with h; omega
              refine ⟨by simp only [bare, List.map_append, List.map_cons, List.map_nil]; exact ho', Ths.cons (hth.step (fun b h1 h2 => ?_) (Nat.le_trans (by omega) hg'.size) (fun b h1 h2 => hFb b (by omega) h2)) ?_, ?_, hok', bl_grown (hbl.trans hB2) hg' (fun b hb => by rw [← HB.out]; exact (hbase' b hb).1)⟩
              · rw [hg'.block b (by omega) (fun e => h2 e.symm), Below.block hB2 b h1]
              · intro x hx
                rw [List.mem_singleton] at hx
                subst hx
                refine ⟨wr.heap.size, 1, rfl, fun h => ?_, Nat.lt_of_lt_of_le (by omega) hg'.size, Nat.one_pos, fun j hj => ?_⟩
                · have := hbase' _ (hFb _ (by omega) h)
                  omega
                · obtain rfl : j = 0 := by simp only [List.length_singleton] at hj; omega
                  rw [World.cell?_of_block (hg'.block wr.heap.size (by omega) (fun e => by have := hbase' _ e.symm; omega))]
                  exact hC2
              · rw [grp_succ, ← HZ.out, if_pos hpos]
                simp only [numbers, List.map_append, List.map_cons, List.map_nil]
                rw [← hnum]
            have HR : Hid _ := hr
            rw [hW2] at HR
            clear hgr hth hnum hok hok' hbl hr ho' hg' hbk hbase' hB2 hC2 hS2 hW2 H
            go_wp2_with (at_builtin; refine Lib.wpList_append_run _ rfl (.tmp 27) (.tmp 32) _ _ rfl _ _ rfl rfl _ _ HR.out ?_)
            go_roundw
            case rel => exact ⟨k + 1, _, hlt, by go_num, HF⟩
            case measure => simp [intOf]; omega
          · have HF : Hid (Gr wr base u4 (bare L) ∧ Ths wr (fun b => bk u4 = some b) L ∧ numbers L = grp l (k + 1) ∧ okL l (k + 1) ∧ Bl w wr) := ⟨hgr, hth, by rw [grp_succ, ← HZ.out, if_neg hpos, List.append_nil]; exact hnum, hok', hbl⟩
            clear hgr hth hnum hok hok' hbl H
            go_wp2
            go_roundw
            case rel => exact ⟨k + 1, L, hlt, by go_num, HF⟩
            case measure => simp [intOf]; omega
    · have hltz : ¬ (k : Int) < n := by omega
      obtain rfl : k = n := by omega
      clear hgr hth hnum hok hbl
      go_wp2
      go_ret2
      exact ⟨H.out.2.2.2.2, Or.inr (Or.inr ⟨by omega, H.out.2.2.2.1, u4, L, rfl, by rw [← HB.out]; exact H.out.1, H.out.2.1, H.out.2.2.1⟩)⟩
end Go.Proofs.YtkldnapbeebdkaaDoor.hf
