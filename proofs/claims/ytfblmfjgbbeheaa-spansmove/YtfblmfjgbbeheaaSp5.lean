/- What Of of package spans answers: the right spans of the places from 0 on. -/
import Derived.Test.YtfblmfjgbbeheaaSp4
import Derived.StillTailTactics
namespace Go.Proofs.Ytfblmfjgbbeheaa.sp
set_option linter.unusedVariables false
open Go.ChangeShapes Go.WideShapes Go.ChangeAt Go.RowKit
open mem rows span

theorem rowS_set (l : List (Int × Int)) (k : Nat) (e : Int) (h : k < l.length) : (rowS l).set (k * 2 + 1) (.int .i64 e) = rowS (l.set k ((nth l k).1, e)) := by
  induction l generalizing k with
  | nil => exact absurd h (Nat.not_lt_zero _)
  | cons x l ih =>
    have e1 : rowS (x :: l) = .int .i64 x.1 :: .int .i64 x.2 :: rowS l := by unfold rowS; rw [List.flatMap_cons]; rfl
    cases k with
    | zero =>
      rw [e1]
      simp only [List.set]
      unfold rowS
      rw [List.flatMap_cons]
      rfl
    | succ k =>
      have := ih k (by simpa using h)
      rw [e1, show (k + 1) * 2 + 1 = (k * 2 + 1) + 2 by omega]
      simp only [List.set]
      rw [this]
      unfold rowS
      rw [List.flatMap_cons]
      rfl
theorem rowS_set0 (l : List (Int × Int)) (k : Nat) (e : Int) (h : k < l.length) : (rowS l).set (k * 2) (.int .i64 e) = rowS (l.set k (e, (nth l k).2)) := by
  induction l generalizing k with
  | nil => exact absurd h (Nat.not_lt_zero _)
  | cons x l ih =>
    have e1 : rowS (x :: l) = .int .i64 x.1 :: .int .i64 x.2 :: rowS l := by unfold rowS; rw [List.flatMap_cons]; rfl
    cases k with
    | zero =>
      rw [e1]
      simp only [List.set]
      unfold rowS
      rw [List.flatMap_cons]
      rfl
    | succ k =>
      have := ih k (by simpa using h)
      rw [e1, show (k + 1) * 2 = k * 2 + 2 by omega]
      simp only [List.set]
      rw [this]
      unfold rowS
      rw [List.flatMap_cons]
      rfl
theorem own_set {w : World} {base g cap : Nat} {l l' : List (Int × Int)} {t : Nat} {x : Value} (h : OwnS w base (.slice (some ⟨g, 0, none⟩) l.length cap) l) (hl : l'.length = l.length) (ht : t < l.length * 2) (hr : (rowS l).set t x = rowS l') :
    OwnS (w.setCell ⟨g, t, none⟩ x) base (.slice (some ⟨g, 0, none⟩) l.length cap) l' := by
  rcases h.2 with ⟨h0, _⟩ | ⟨g', cap', cur, hv, hbg, hg, hnc, hcm, hcs, htake⟩
  · cases h0
  · cases hv
    refine ⟨by rw [rowS_len], Or.inr ⟨g, cap, cur.setIfInBounds t x, by rw [hl], hbg, ?_, by rw [hl]; exact hnc, hcm, by rw [Array.size_setIfInBounds]; exact hcs, ?_⟩⟩
    · simp [World.setCell, Array.getElem?_modify, hg]
    · rw [Array.toList_setIfInBounds, hl, List.take_set, htake]
      exact hr
theorem own_free {w : World} {base g n cap : Nat} {l : List (Int × Int)} (h : OwnS w base (.slice (some ⟨g, 0, none⟩) n cap) l) (t : Nat) : w.frozen? ⟨g, t, none⟩ = false := by
  rcases h.2 with ⟨h0, _⟩ | ⟨g', cap', cur, hv, hbg, hg, _⟩
  · cases h0
  · cases hv
    simp [World.frozen?, hg]
theorem own_last {w : World} {base g cap N L1 : Nat} {pre : List (Int × Int)} {c0 d0 : Int} (h : OwnS w base (.slice (some ⟨g, 0, none⟩) L1 cap) (pre ++ [(c0, d0)])) (hN : N = pre.length) (hL : L1 = N + 1) (M : Int) :
    OwnS (w.drew.setCell ⟨g, N * 2 + 1, none⟩ (.int .i64 M)) base (.slice (some ⟨g, 0, none⟩) L1 cap) (pre ++ [(c0, M)]) := by
  have hl : L1 = (pre ++ [(c0, d0)]).length := by rw [hL, hN]; simp
  rw [hl] at h ⊢
  refine own_set (w := w.drew) h (by simp) (by simp; omega) ?_
  rw [rowS_set _ N M (by simp; omega)]
  congr 1
  unfold nth
  rw [hN, List.getD_eq_getElem?_getD]
  simp
theorem _root_.Go.Proofs.Ytfblmfjgbbeheaa.rows.OwnS.down {w : World} {base base' : Nat} {v : Value} {l : List (Int × Int)} (h : OwnS w base v l) (hb : base' ≤ base) : OwnS w base' v l := by
  refine ⟨h.1, ?_⟩
  rcases h.2 with h | ⟨g, cap, cur, h1, h2, h3⟩
  · exact Or.inl h
  · exact Or.inr ⟨g, cap, cur, h1, Nat.le_trans hb h2, h3⟩
/-- What is made of the first k of some spans that stand in order. -/
structure Mg (S : List (Int × Int)) (k : Nat) (R : List (Int × Int)) : Prop where
  r : right R
  h : ∀ p, has R p ↔ has (S.take k) p
  n : R.length ≤ k
  c : ∀ pre c d, R = pre ++ [(c, d)] → ∃ j, j < k ∧ c = (nth S j).1
theorem has_take (S : List (Int × Int)) (k : Nat) (hk : k < S.length) (p : Int) : has (S.take (k + 1)) p ↔ has (S.take k) p ∨ ((nth S k).1 ≤ p ∧ p < (nth S k).2) := by
  rw [take_nth S k hk, has_append, has_one]
theorem Mg.start (S : List (Int × Int)) : Mg S 0 [] := ⟨trivial, fun p => by rw [List.take_zero], Nat.zero_le _, fun pre c d h => by simp at h⟩
theorem Mg.first {S : List (Int × Int)} {k : Nat} (h : Mg S k []) (hk : k < S.length) (h0 : 0 ≤ (nth S k).1) (h1 : (nth S k).1 < (nth S k).2) : Mg S (k + 1) ([] ++ [nth S k]) := by
  obtain ⟨hr, hh⟩ := put_first (m := -1) (a := (nth S k).1) (b := (nth S k).2) (by omega) h1
  refine ⟨hr, fun p => ?_, by simp, fun pre c d e => ⟨k, by omega, ?_⟩⟩
  · rw [has_take S k hk, ← h.h p]
    exact hh p
  · rw [List.nil_append] at e
    have e : [nth S k] = pre ++ [(c, d)] := e
    rcases pre with _ | ⟨y, pre⟩
    · simp at e; rw [e]
    · simp at e
theorem Mg.on {S : List (Int × Int)} {k : Nat} {pre : List (Int × Int)} {c d : Int} (h : Mg S k (pre ++ [(c, d)])) (hs : S.Pairwise fun x y => x.1 ≤ y.1) (hk : k < S.length) (hd : (nth S k).1 ≤ d) : Mg S (k + 1) (pre ++ [(c, max d (nth S k).2)]) := by
  obtain ⟨j, hj, hc⟩ := h.c pre c d rfl
  have hle : (nth S j).1 ≤ (nth S k).1 := by
    have := (List.pairwise_iff_getElem.1 hs) j k (by omega) hk (by omega)
    unfold nth
    rw [List.getD_eq_getElem?_getD, List.getD_eq_getElem?_getD, List.getElem?_eq_getElem (by omega), List.getElem?_eq_getElem hk]
    exact this
  obtain ⟨hr, hh⟩ := put_on (m := -1) (b := (nth S k).2) h.r (show c ≤ (nth S k).1 by omega) hd
  refine ⟨hr, fun p => ?_, by have := h.n; simp at this ⊢; omega, fun pre' c' d' e => ⟨j, by omega, ?_⟩⟩
  · rw [has_take S k hk, ← h.h p]
    exact hh p
  · have := (List.append_inj' e rfl).2
    simp at this
    rw [← this.1, hc]
theorem Mg.new {S : List (Int × Int)} {k : Nat} {pre : List (Int × Int)} {c d : Int} (h : Mg S k (pre ++ [(c, d)])) (hk : k < S.length) (hd : d < (nth S k).1) (h1 : (nth S k).1 < (nth S k).2) : Mg S (k + 1) (pre ++ [(c, d)] ++ [nth S k]) := by
  obtain ⟨hr, hh⟩ := put_new (m := -1) (a := (nth S k).1) (b := (nth S k).2) h.r hd h1
  refine ⟨hr, fun p => ?_, by have := h.n; simp at this ⊢; omega, fun pre' c' d' e => ⟨k, by omega, ?_⟩⟩
  · rw [has_take S k hk, ← h.h p]
    exact hh p
  · have := (List.append_inj' e rfl).2
    simp at this
    rw [this]
/-- The right spans of those places, from 0 on. -/
def IsOf (f : Int → Prop) (l : List (Int × Int)) : Prop := right l ∧ ∀ p, has l p ↔ 0 ≤ p ∧ f p
theorem IsOf.same {f g : Int → Prop} {a b : List (Int × Int)} (ha : IsOf f a) (hb : IsOf g b) (h : ∀ p, 0 ≤ p → (f p ↔ g p)) : a = b :=
  unique ha.1 hb.1 fun p => by
    rw [ha.2, hb.2]
    exact ⟨fun x => ⟨x.1, (h p x.1).1 x.2⟩, fun x => ⟨x.1, (h p x.1).2 x.2⟩⟩
theorem IsOf.congr {f g : Int → Prop} {a : List (Int × Int)} (ha : IsOf f a) (h : ∀ p, 0 ≤ p → (f p ↔ g p)) : IsOf g a :=
  ⟨ha.1, fun p => by rw [ha.2]; exact ⟨fun x => ⟨x.1, (h p x.1).1 x.2⟩, fun x => ⟨x.1, (h p x.1).2 x.2⟩⟩⟩
theorem has_keep (l : List (Int × Int)) (p : Int) : has (keepS l) p ↔ 0 ≤ p ∧ has l p := by
  unfold keepS has
  constructor
  · rintro ⟨x, hx, h⟩
    rw [List.mem_filter, List.mem_map] at hx
    obtain ⟨⟨y, hy, rfl⟩, _⟩ := hx
    simp only at h
    exact ⟨by omega, y, hy, by omega, h.2⟩
  · rintro ⟨hp, y, hy, h⟩
    refine ⟨(max y.1 0, y.2), ?_, by simp only; omega, h.2⟩
    rw [List.mem_filter, List.mem_map]
    exact ⟨⟨y, hy, rfl⟩, by simp only [decide_eq_true_iff]; omega⟩
theorem has_perm {a b : List (Int × Int)} (h : a.Perm b) (p : Int) : has a p ↔ has b p := by
  unfold has
  constructor
  · rintro ⟨x, hx, h'⟩; exact ⟨x, h.mem_iff.1 hx, h'⟩
  · rintro ⟨x, hx, h'⟩; exact ⟨x, h.mem_iff.2 hx, h'⟩
theorem keep_mem {l S : List (Int × Int)} (hp : S.Perm (keepS l)) (k : Nat) (hk : k < S.length) : 0 ≤ (nth S k).1 ∧ (nth S k).1 < (nth S k).2 := by
  have := hp.mem_iff.1 (nth_mem S k hk)
  unfold keepS at this
  rw [List.mem_filter, List.mem_map] at this
  obtain ⟨⟨y, hy, e⟩, h⟩ := this
  rw [← e] at h ⊢
  simp only [decide_eq_true_iff] at h
  exact ⟨by simp only; omega, h⟩
theorem snoc_of {R : List (Int × Int)} (h : R ≠ []) : ∃ pre c d, R = pre ++ [(c, d)] := by
  rcases List.eq_nil_or_concat R with h' | ⟨pre, x, h'⟩
  · exact absurd h' h
  · exact ⟨pre, x.1, x.2, by rw [h']; simp⟩
set_option maxRecDepth 10000 in
theorem Of_at (v : Value) (l : List (Int × Int)) (w : World) (hv : View w v l) (hl : l.length ≤ 4000) :
    Calls Try.prog 19 #[v] w fun e w' => ∃ v' l', e = .returned v' ∧ OwnS w' w.heap.size v' l' ∧ IsOf (has l) l' ∧ l'.length ≤ l.length ∧ Bl w w' := by
  have cS := sorted_at v l w hv hl
  clear hv
  obtain ⟨base, hbase⟩ : ∃ b, b = w.heap.size := ⟨_, rfl⟩
  rw [← hbase] at cS ⊢
  have HB : Hid (base = w.heap.size) := hbase
  clear hbase
  go_enter Try.func19, Try.ntmps19
  go_wp2_with (go_at_call 34; refine cS.mono ?_; rintro e w1 ⟨sv, S, rfl, hoS, hp, hs, hb1⟩; obtain ⟨q, c, rfl, hq⟩ := OwnS.view hoS; obtain ⟨n, hn⟩ : ∃ n, n = S.length := ⟨_, rfl⟩; rw [← hn]; have HN : Hid (n = S.length) := hn; have HS : Hid (OwnS w1 base (.slice q S.length c) S) := hoS; have HQ : Hid (InS w1 q S) := hq; have HP : Hid (S.Perm (keepS l)) := hp; have HW : Hid (S.Pairwise fun x y => x.1 ≤ y.1) := hs; have hnl : n ≤ 4000 := (by rw [hn, hp.length_eq]; exact Nat.le_trans (keepS_len l) hl); clear hn hoS hq hp hs cS)
  obtain ⟨b1, hb1e⟩ : ∃ b, b = w1.heap.size := ⟨_, rfl⟩
  have HB1 : Hid (b1 = w1.heap.size) := hb1e
  clear hb1e
  go_loopw [3, 10] (fun rv i wr => ∃ (k : Nat) (R : List (Int × Int)), k ≤ n ∧ i = .int .i64 (k : Int) ∧ Hid (Mg S k R) ∧ OwnS wr b1 rv R ∧ Bl w1 wr) (fun _ i _ => n - (intOf i).toNat)
  case atStart => exact ⟨0, [], Nat.zero_le _, rfl, Mg.start S, OwnS.nil _ _, Bl.refl _⟩
  case round =>
    obtain ⟨k, R, hk, rfl, HG, hown, hbl⟩ := hrel
    by_cases hlt : k < n
    · have hlz : (k : Int) < (n : Int) := by omega
      have hkS : k < S.length := by rw [← HN.out]; exact hlt
      obtain ⟨x, rfl, hc1, hc2⟩ := (HQ.out.step hbl).at k hkS
      have hkm := keep_mem HP.out k hkS
      by_cases hR : R = []
      · subst hR
        have HG' : Hid (Mg S (k + 1) ([] ++ [nth S k])) := HG.out.first hkS hkm.1 hkm.2
        clear HG hkm
        generalize nth S k = y at hc1 hc2 HG'
        obtain ⟨a, b⟩ := y
        simp only at hc1 hc2
        obtain ⟨p, cc, rfl⟩ := hown.slice
        simp only [List.length_nil] at hown ⊢
        go_wp2
        go_quiet (fail)
        go_wp2_with (at_builtin; refine wpL_appS rfl (.tmp 41) (.tmp 43) rfl rfl _ _ (a, b) (wr.heap.size + 1) rfl rfl _ (((hown.alloc _).step ((Bl.refl _).drewN nq)).alloc _) (by go_simp) (by go_simp) (by simp) (by have := hbl.size; rw [← HB1.out] at this; simp; omega) ?_; intro v' w3 hw3 hg3; have hb3 : Bl w1 w3 := bl_grown (((hbl.alloc _).drewN nq).alloc _) hg3 (fun k e => by rw [← HB1.out]; exact (hown.block k e).1); clear hg3)
        go_roundw
        case rel => exact ⟨k + 1, _, by omega, by go_num, HG', hw3, hb3⟩
        case measure => simp [intOf]; omega
      · obtain ⟨pre, c0, d0, rfl⟩ := snoc_of hR
        clear hR
        have hpn := HG.out.n
        obtain ⟨N, hN⟩ : ∃ N, N = pre.length := ⟨_, rfl⟩
        have hN1 : (pre ++ [(c0, d0)]).length = N + 1 := by rw [hN]; simp
        rw [hN1] at hpn
        rcases hown.shape with ⟨_, h0⟩ | ⟨g, cap, rfl, hg0, hg1, hg2, hg3, hcells⟩
        · simp at h0
        have hlast : nth (pre ++ [(c0, d0)]) N = (c0, d0) := by unfold nth; rw [hN, List.getD_eq_getElem?_getD]; simp
        have hce := (hcells N (by omega)).2
        have hce : wr.cell? ⟨g, N * 2 + 1, none⟩ = some (.int .i64 d0) := by
          have h := hce
          rw [show (pre ++ [(c0, d0)]).getD N (0, 0) = (c0, d0) from hlast, Nat.mul_comm] at h
          exact h
        clear hcells hlast
        rw [hN1] at hown hg2 ⊢
        have HNp : Hid (N = pre.length) := hN
        have HN1 : Hid ((pre ++ [(c0, d0)]).length = N + 1) := hN1
        clear hN hN1
        obtain ⟨L1, hL1⟩ : ∃ L1, L1 = N + 1 := ⟨_, rfl⟩
        rw [← hL1] at hown hg2 hpn ⊢
        have HL1 : Hid (L1 = N + 1) := hL1
        have he : (L1 : Int) - 1 = (N : Int) := by omega
        have he1 : (N : Int) < (L1 : Int) := by omega
        have he2 : N < L1 := by omega
        have he3 : L1 ≤ 4000 := by omega
        clear hL1 hpn
        by_cases hdd : (nth S k).1 ≤ d0
        · have HG' : Hid (Mg S (k + 1) (pre ++ [(c0, max d0 (nth S k).2)])) := HG.out.on HW.out hkS hdd
          clear HG hkm
          generalize nth S k = y at hc1 hc2 HG' hdd
          obtain ⟨a, b⟩ := y
          simp only at hc1 hc2 hdd HG'
          obtain ⟨M, hM⟩ : ∃ M, max d0 b = M := ⟨_, rfl⟩
          rw [hM] at HG'
          go_wp2
          go_quiet (fail)
          go_wp2
          have hoz := (hown.alloc (Obj.cells #[Value.int IntKind.i64 a, Value.int IntKind.i64 b] 28)).step ((Bl.refl _).drewN nq)
          have hbz : Bl w1 _ := (hbl.alloc (Obj.cells #[Value.int IntKind.i64 a, Value.int IntKind.i64 b] 28)).drewN nq
          have hz1 : ((wr.alloc (Obj.cells #[Value.int IntKind.i64 a, Value.int IntKind.i64 b] 28)).drewN nq).cell? ⟨wr.heap.size, 1, none⟩ = some (.int .i64 b) := by simp
          have hz2 : ((wr.alloc (Obj.cells #[Value.int IntKind.i64 a, Value.int IntKind.i64 b] 28)).drewN nq).cell? ⟨g, N * 2 + 1, none⟩ = some (.int .i64 d0) := at_bl (((Bl.refl wr).alloc (Obj.cells #[Value.int IntKind.i64 a, Value.int IntKind.i64 b] 28)).drewN nq) hce
          generalize (wr.alloc (Obj.cells #[Value.int IntKind.i64 a, Value.int IntKind.i64 b] 28)).drewN nq = wz at hoz hbz hz1 hz2 ⊢
          have hzf := own_free hoz (N * 2 + 1)
          clear hown hc1 hc2 hce hdd
          refine wp_region_still_tail 12 (by kernel_rfl) (by kernel_rfl) ?_
          change wpStill _ _ wz.drew (fun a' => wpList _ _ _ _ a' wz.drew) _ _
          simp only [List.take_succ_cons, List.take_zero, List.drop_succ_cons, List.drop_zero]
          iterate 12 still_step
          refine wpStill_nil ?_
          go_wp2
          go_roundw
          case rel => exact ⟨k + 1, _, by omega, by go_num, HG', own_last hoz HNp.out HL1.out M, hbz.drew.setCell (by rw [← HB1.out]; exact hg0) _⟩
          case measure => simp [intOf]; omega
        · have HG' : Hid (Mg S (k + 1) (pre ++ [(c0, d0)] ++ [nth S k])) := HG.out.new hkS (by omega) hkm.2
          clear HG hkm
          generalize nth S k = y at hc1 hc2 HG' hdd
          obtain ⟨a, b⟩ := y
          simp only at hc1 hc2 hdd HG'
          go_wp2
          go_quiet (fail)
          go_wp2_with (at_builtin; refine wpL_appS rfl (.tmp 41) (.tmp 43) rfl rfl _ _ (a, b) (wr.heap.size + 1) rfl rfl _ (((hown.alloc _).step ((Bl.refl _).drewN nq)).alloc _) (by go_simp) (by go_simp) (by rw [HN1.out, ← HL1.out]; omega) (by have := hbl.size; rw [← HB1.out] at this; simp; omega) ?_; intro v' w3 hw3 hg3; have hb3 : Bl w1 w3 := bl_grown (((hbl.alloc _).drewN nq).alloc _) hg3 (fun k e => by rw [← HB1.out]; exact (hown.block k e).1); clear hg3)
          go_roundw
          case rel => exact ⟨k + 1, _, by omega, by go_num, HG', hw3, hb3⟩
          case measure => simp [intOf]; omega
    · obtain rfl : k = n := by omega
      have HI : Hid (IsOf (has l) R ∧ R.length ≤ l.length) := ⟨⟨HG.out.r, fun p => by
        rw [HG.out.h, HN.out, List.take_length, has_perm HP.out, has_keep]⟩, by
        have h1 := HG.out.n
        rw [HN.out, HP.out.length_eq] at h1
        exact Nat.le_trans h1 (keepS_len l)⟩
      clear HG HP HW
      go_wp2
      go_ret
      exact ⟨_, R, rfl, hown.down (by rw [HB.out, HB1.out]; exact hb1.size), HI.out.1, HI.out.2, hb1.trans hbl⟩
end Go.Proofs.Ytfblmfjgbbeheaa.sp
