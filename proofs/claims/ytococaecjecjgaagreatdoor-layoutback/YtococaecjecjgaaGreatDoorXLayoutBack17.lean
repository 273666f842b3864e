/- Texts laid together: Ty5, TyP, Qi, Ty6, Ty7. -/
import Derived.Test.YtococaecjecjgaaGreatDoorXLayoutBack16
import Derived.Deep.Upon
import Derived.Deep.OwnRows
/- Whether templates fit together: the Checks under a Check. -/
namespace Go.Proofs.YtococaecjecjgaaGreatDoor.tm
set_option linter.unusedVariables false
open Go.ChangeShapes Go.WideShapes Go.ChangeAt Go.RowKit Go.Shelf
open mem lx ex

def pf (ds : List D) (a j : Nat) : List Nat := ((List.range j).drop a).filter (isC ds)
theorem pf_start (ds : List D) (a j : Nat) (h : j ≤ a) : pf ds a j = [] := by
  unfold pf
  rw [List.drop_eq_nil_of_le (by rw [List.length_range]; exact h)]
  rfl
theorem pf_step (ds : List D) (a j : Nat) (h : a ≤ j) : pf ds a (j + 1) = pf ds a j ++ (if isC ds j = true then [j] else []) := by
  unfold pf
  rw [List.range_succ, List.drop_append_of_le_length (by rw [List.length_range]; exact h), List.filter_append]
  congr 1
  cases hc : isC ds j <;> simp [hc]
theorem pf_len (ds : List D) (a j : Nat) : (pf ds a j).length ≤ j := by
  unfold pf
  refine Nat.le_trans (List.length_filter_le _ _) ?_
  rw [List.length_drop, List.length_range]
  omega
theorem under_is (ds : List D) (i : Nat) (d : D) (h : ds[i]? = some d) : (∀ a b, ends ds d = (some a, some b) → under ds i = pf ds a (b + 1)) ∧ (∀ b, ends ds d = (none, b) → under ds i = []) ∧ (∀ a, ends ds d = (a, none) → under ds i = []) := by
  unfold under
  rw [h]
  dsimp only
  refine ⟨fun a b he => by rw [he]; rfl, fun b he => by rw [he], fun a he => by rw [he]; cases a <;> rfl⟩
def ints (l : List Nat) : List Int := l.map (fun k : Nat => (k : Int))
theorem ints_app (a : List Nat) (k : Nat) : ints (a ++ [k]) = ints a ++ [(k : Int)] := by simp [ints]
theorem ints_len (a : List Nat) : (ints a).length = a.length := by simp [ints]
set_option maxRecDepth 10000 in
set_option maxHeartbeats 4000000 in
theorem under_at (x : C) (i : Nat) (cs : List C) (ok : Nat → Prop) (p : Option Addr) (n c : Nat) (w : World) (hin : ir.Lie w ok p n c cs) (hn : n ≤ 3000) (hx : cs[i]? = some x) :
    Calls Tryz.prog 136 #[.slice p n c, .int .i64 (i : Int)] w fun e w' => ∃ v, e = .returned v ∧ Bl w w' ∧ ri.Own w' w.heap.size v (ints (under (cs.map C.d) i)) := by
  have hil := (List.getElem?_eq_some_iff.1 hx).1
  have hnc := hin.1
  have hncap := hin.2.1
  obtain ⟨X, rfl, _, g0', g⟩ := lie_at hin i x hx
  have g0 : w.cell? (X.add (i * 13)) = some (.int .i64 (x.d.kd : Int)) := g0'
  clear g0'
  have g1 := g 1 _ rfl
  have g2 := g 2 _ rfl
  have g3 := g 3 _ rfl
  have g4 := g 4 _ rfl
  have g5 := g 5 _ rfl
  have g6 := g 6 _ rfl
  have g7 := g 7 _ rfl
  have g8 := g 8 _ rfl
  have g9 := g 9 _ rfl
  have g10 := g 10 _ rfl
  have g11 := g 11 _ rfl
  have g12 := g 12 _ rfl
  clear g
  have i0 : (0 : Int) ≤ (i : Int) := by omega
  have i1 : (i : Int) < (n : Int) := by omega
  have cE := ends_at x cs ok (some X) n c w hin hn
  obtain ⟨o1, o2, o3⟩ := under_is (cs.map C.d) i x.d (by rw [List.getElem?_map, hx]; rfl)
  obtain ⟨U, hU⟩ : ∃ U, U = under (cs.map C.d) i := ⟨_, rfl⟩
  rw [← hU] at o1 o2 o3 ⊢
  obtain ⟨E, hE⟩ : ∃ E, E = ends (cs.map C.d) x.d := ⟨_, rfl⟩
  rw [← hE] at cE o1 o2 o3
  have HI : Hid (ir.Lie w ok (some X) n c cs ∧ n = cs.length ∧ E = ends (cs.map C.d) x.d) := ⟨hin, hnc, hE⟩
  unfold itV cl at cE
  clear hin hnc hx hE hU
  go_enter Tryz.func136, Tryz.ntmps136
  go_wp2_with fail
  refine cE.mono ?_
  rintro e w2 ⟨rfl, hb2⟩
  have H2 : Hid (Bl w w2) := hb2
  clear cE hb2 g0 g1 g2 g3 g4 g5 g6 g7 g8 g9 g10 g11 g12
  obtain ⟨ea, eb⟩ := E
  cases ea with
  | none =>
    have hi : idx (none : Option Nat) = -1 := rfl
    have HU : Hid (U = []) := o2 _ rfl
    clear o1 o2 o3
    go_wp2
    go_ret
    exact ⟨.slice none 0 0, rfl, H2.out, by rw [HU.out]; exact ri.Own.nil _ _⟩
  | some a =>
    have hi : idx (none : Option Nat) = -1 := rfl
    have hi2 : idx (some a) = (a : Int) := rfl
    have ha0 : ¬ ((a : Int) < 0) := by omega
    -- where it ends
    obtain ⟨b1, hb1, hUb, hbn⟩ : ∃ b1 : Nat, idx eb = (b1 : Int) - 1 ∧ U = pf (cs.map C.d) a b1 ∧ b1 ≤ n := by
      cases eb with
      | none => exact ⟨0, rfl, by rw [o3 _ rfl, pf_start _ _ _ (Nat.zero_le _)], Nat.zero_le _⟩
      | some b =>
        refine ⟨b + 1, ?_, o1 a b rfl, ?_⟩
        · show ((b : Nat) : Int) = _
          omega
        · have := (ends_lt HI.out.2.2.symm).2
          rw [List.length_map, ← HI.out.2.1] at this
          omega
    have HU : Hid (U = pf (cs.map C.d) a b1) := hUb
    clear o1 o2 o3 hUb
    obtain ⟨B, hB⟩ : ∃ B, B = idx eb := ⟨_, rfl⟩
    rw [← hB]
    have hB1 : B = (b1 : Int) - 1 := by rw [hB, hb1]
    clear hB hb1
    subst hB1
    go_wp2
    go_loopw [7, 8] (fun v s8 wr => ∃ j : Nat, a ≤ j ∧ (j ≤ b1 ∨ j = a) ∧ s8 = .int .i64 (j : Int) ∧ Hid (Bl w wr ∧ ri.Own wr w.heap.size v (ints (pf (cs.map C.d) a j)))) (fun _ s8 _ => b1 - (intOf s8).toNat)
    case atStart => exact ⟨a, Nat.le_refl _, Or.inr rfl, rfl, H2.out, by rw [pf_start _ _ _ (Nat.le_refl _)]; exact ri.Own.nil _ _⟩
    case round =>
      obtain ⟨j, hj1, hj2, rfl, HB⟩ := hrel
      have hb64 : (b1 : Int) - 1 < 9223372036854775808 := by omega
      by_cases hjb : j < b1
      · have d1 : decide ((j : Int) ≤ (b1 : Int) - 1) = true := decide_eq_true (by omega)
        have d1' : (j : Int) ≤ (b1 : Int) - 1 := by omega
        have j0 : (0 : Int) ≤ (j : Int) := by omega
        have j1 : (j : Int) < (n : Int) := by omega
        obtain ⟨y, hy⟩ : ∃ y, cs[j]? = some y := ⟨_, List.getElem?_eq_getElem (by have := HI.out.2.1; omega)⟩
        obtain ⟨Y, hY, _, _, gy⟩ := lie_at (lie_bl HI.out.1 HB.out.1) j y hy
        injection hY with hY
        subst hY
        have y9 := gy 9 _ rfl
        have hisC : isC (cs.map C.d) j = (y.d.ru == 3) := by
          unfold isC
          rw [List.getElem?_map, hy]
          rfl
        clear gy
        by_cases r3 : y.d.ru = 3
        · rw [r3] at y9
          obtain ⟨M, hM⟩ : ∃ M, M = wr.heap.size := ⟨_, rfl⟩
          obtain ⟨w7, hw7⟩ : ∃ w7, w7 = wr.alloc (.cells #[.int .i64 (j : Int)] 3) := ⟨_, rfl⟩
          have hb7 : Bl wr w7 := by rw [hw7]; exact (Bl.refl _).alloc _
          have c7 : w7.cell? ⟨M, 0, none⟩ = some (.int .i64 (j : Int)) := by rw [hw7, hM, cell_of (new_at _ _)]; rfl
          obtain ⟨v', w8, hr8, ho8, hg8, _⟩ := ri.app_one w7 w.heap.size u7 _ (j : Int) M (HB.out.2.step hb7) c7 (by rw [ints_len]; have := pf_len (cs.map C.d) a j; omega) (Nat.le_trans HB.out.1.size hb7.size)
          have hb8 : Bl w w8 := bl_grown (HB.out.1.trans hb7) hg8 (fun k hk => (HB.out.2.block k hk).1)
          have HR : Hid _ := hr8
          have H8 : Hid (Bl w w8 ∧ ri.Own w8 w.heap.size v' (ints (pf (cs.map C.d) a (j + 1)))) := by
            refine ⟨hb8, ?_⟩
            rw [pf_step _ _ _ hj1, hisC, r3]
            rw [show (if ((3 : Nat) == 3) = true then [j] else []) = [j] from rfl, ints_app]
            exact ho8
          clear c7 hr8 ho8 hg8 hb8 hb7 hy hisC
          go_upto_region 9 with fail
          go_wp2_with (at_builtin; rw [← hw7, ← hM]; refine Lib.wpList_append_run _ rfl (.tmp 32) (.tmp 34) _ _ rfl _ _ rfl rfl _ _ HR.out ?_)
          go_roundw
          case rel => exact ⟨j + 1, by omega, Or.inl (by omega), by go_num, H8.out⟩
          case measure => simp [intOf]; omega
        · have r3' : ¬ ((y.d.ru : Int) = 3) := by omega
          have H8 : Hid (Bl w wr ∧ ri.Own wr w.heap.size u7 (ints (pf (cs.map C.d) a (j + 1)))) := by
            refine ⟨HB.out.1, ?_⟩
            rw [pf_step _ _ _ hj1, hisC]
            rw [show (y.d.ru == 3) = false by simpa using r3]
            rw [show (if false = true then [j] else []) = ([] : List Nat) from rfl, List.append_nil]
            exact HB.out.2
          clear hy hisC
          go_wp2
          go_roundw
          case rel => exact ⟨j + 1, by omega, Or.inl (by omega), by go_num, H8.out⟩
          case measure => simp [intOf]; omega
      · have d1 : decide ((j : Int) ≤ (b1 : Int) - 1) = false := decide_eq_false (by omega)
        have d1' : ¬ ((j : Int) ≤ (b1 : Int) - 1) := by omega
        have H9 : Hid (Bl w wr ∧ ri.Own wr w.heap.size u7 (ints U)) := by
          refine ⟨HB.out.1, ?_⟩
          have h := HB.out.2
          rw [HU.out]
          rcases hj2 with h2 | h2
          · obtain rfl : j = b1 := by omega
            exact h
          · subst h2
            rw [pf_start _ _ _ (Nat.le_refl _)] at h
            rw [pf_start _ _ _ (by omega)]
            exact h
        go_wp2
        go_ret
        exact ⟨_, rfl, H9.out⟩
end Go.Proofs.YtococaecjecjgaaGreatDoor.tm
/- Whether templates fit together: going round comes to an end (pure). -/
namespace Go.Proofs.YtococaecjecjgaaGreatDoor.tm
set_option linter.unusedVariables false
open lx ex

def unm (n : Nat) (met : List Nat) : Nat := ((List.range n).filter (fun k => decide (k ∉ met))).length
theorem filter_lt (p q : Nat → Bool) (l : List Nat) (h : ∀ x, q x = true → p x = true) (j : Nat) (hj : j ∈ l) (hp : p j = true) (hq : q j = false) : (l.filter q).length < (l.filter p).length := by
  have le : ∀ l : List Nat, (l.filter q).length ≤ (l.filter p).length := by
    intro l
    induction l with
    | nil => exact Nat.le_refl _
    | cons x r ih =>
      rw [List.filter_cons, List.filter_cons]
      cases hx : q x with
      | true => rw [if_pos (h x hx), if_pos rfl]; simp; exact ih
      | false =>
        rw [if_neg (by simp)]
        split
        · simp; omega
        · exact ih
  induction l with
  | nil => cases hj
  | cons x r ih =>
    rw [List.filter_cons, List.filter_cons]
    by_cases hxj : x = j
    · subst hxj
      rw [hp, hq]
      simp
      have := le r
      omega
    · have hj' : j ∈ r := by
        rw [List.mem_cons] at hj
        rcases hj with e | e
        · exact absurd e.symm hxj
        · exact e
      have := ih hj'
      cases hx : q x with
      | true => rw [if_pos (h x hx), if_pos rfl]; simp; exact this
      | false =>
        rw [if_neg (by simp)]
        split
        · simp; omega
        · exact this
theorem unm_lt (n : Nat) (met : List Nat) (j : Nat) (hj : j < n) (hm : j ∉ met) : unm n (j :: met) < unm n met := by
  unfold unm
  refine filter_lt _ _ _ ?_ j (List.mem_range.2 hj) (by simpa using hm) (by simp)
  intro x hx
  simp only [List.mem_cons, not_or, decide_eq_true_eq] at hx ⊢
  exact hx.2
theorem unm_le (n : Nat) (met : List Nat) : unm n met ≤ n := by
  unfold unm
  refine Nat.le_trans (List.length_filter_le _ _) ?_
  rw [List.length_range]
  exact Nat.le_refl _
def mu (ds : List D) (met todo : List Nat) : Nat := todo.length + unm ds.length met * (ds.length + 1)
theorem isC_lt {ds : List D} {k : Nat} (h : isC ds k = true) : k < ds.length := by
  unfold isC at h
  rcases Nat.lt_or_ge k ds.length with hk | hk
  · exact hk
  · rw [List.getElem?_eq_none hk] at h
    simp at h
theorem under_lt {ds : List D} {j k : Nat} (h : k ∈ under ds j) : k < ds.length := by
  unfold under at h
  split at h
  · cases h
  · split at h
    · exact isC_lt (List.mem_filter.1 h).2
    · cases h
theorem under_len (ds : List D) (j : Nat) : (under ds j).length ≤ ds.length := by
  unfold under
  split
  · exact Nat.zero_le _
  · rename_i d _
    split
    · rename_i a b he
      have := (ends_lt he).2
      have h2 := pf_len ds a (b + 1)
      unfold pf at h2
      unfold upTo
      omega
    · exact Nat.zero_le _
theorem mu_step (ds : List D) (met r : List Nat) (j : Nat) (hj : j < ds.length) (hm : j ∉ met) : mu ds (j :: met) (r ++ under ds j) < mu ds met (j :: r) := by
  unfold mu
  have h1 := under_len ds j
  have h2 := unm_lt ds.length met j hj hm
  rw [List.length_append, List.length_cons]
  have h3 : (unm ds.length (j :: met) + 1) * (ds.length + 1) ≤ unm ds.length met * (ds.length + 1) := Nat.mul_le_mul_right _ h2
  rw [Nat.add_mul, Nat.one_mul] at h3
  omega
theorem bfs_enough (ds : List D) (tg : Nat) (f : Nat) : ∀ met todo, mu ds met todo < f → (∀ j ∈ todo, j < ds.length) → bfs ds tg f met todo = bfs ds tg (f + 1) met todo ∧ (bfs ds tg f met todo).isSome = true := by
  induction f with
  | zero => intro met todo h; exact absurd h (Nat.not_lt_zero _)
  | succ f ih =>
    intro met todo h ht
    cases todo with
    | nil => exact ⟨rfl, rfl⟩
    | cons j r =>
      rw [bfs, bfs]
      by_cases e : j = tg
      · rw [if_pos e, if_pos e]; exact ⟨rfl, rfl⟩
      · rw [if_neg e, if_neg e]
        by_cases hm : j ∈ met
        · rw [if_pos hm, if_pos hm]
          refine ih met r ?_ (fun k hk => ht k (by simp [hk]))
          unfold mu at h ⊢
          rw [List.length_cons] at h
          omega
        · rw [if_neg hm, if_neg hm]
          refine ih _ _ ?_ ?_
          · have := mu_step ds met r j (ht j (by simp)) hm
            omega
          · intro k hk
            rw [List.mem_append] at hk
            rcases hk with hk | hk
            · exact ht k (by simp [hk])
            · exact under_lt hk
theorem bfs_more (ds : List D) (tg f met todo) (h : mu ds met todo < f) (ht : ∀ j ∈ todo, j < ds.length) (g : Nat) : bfs ds tg (f + g) met todo = bfs ds tg f met todo := by
  induction g with
  | zero => rfl
  | succ g ih => rw [← Nat.add_assoc, ← (bfs_enough ds tg (f + g) met todo (by omega) ht).1, ih]
/-- Whether one comes to it, at last. -/
def bR (ds : List D) (tg : Nat) (met todo : List Nat) : Bool := bfs ds tg (mu ds met todo + 1) met todo == some true
theorem bR_of (ds : List D) (tg f met todo) (h : mu ds met todo < f) (ht : ∀ j ∈ todo, j < ds.length) : (bfs ds tg f met todo == some true) = bR ds tg met todo := by
  unfold bR
  obtain ⟨g, rfl⟩ : ∃ g, f = mu ds met todo + 1 + g := ⟨f - (mu ds met todo + 1), by omega⟩
  rw [bfs_more ds tg _ met todo (by omega) ht g]
theorem bR_nil (ds : List D) (tg : Nat) (met : List Nat) : bR ds tg met [] = false := rfl
theorem bR_hit (ds : List D) (tg : Nat) (met r : List Nat) : bR ds tg met (tg :: r) = true := by
  unfold bR
  rw [bfs, if_pos rfl]; rfl
theorem bR_met (ds : List D) (tg : Nat) (met r : List Nat) (j : Nat) (h1 : j ≠ tg) (h2 : j ∈ met) (ht : ∀ k ∈ j :: r, k < ds.length) : bR ds tg met (j :: r) = bR ds tg met r := by
  have h3 : bR ds tg met (j :: r) = (bfs ds tg (mu ds met (j :: r)) met r == some true) := by
    unfold bR
    rw [bfs, if_neg h1, if_pos h2]
  rw [h3]
  refine bR_of _ _ _ _ _ ?_ (fun k hk => ht k (by simp [hk]))
  unfold mu
  rw [List.length_cons]
  omega
theorem bR_new (ds : List D) (tg : Nat) (met r : List Nat) (j : Nat) (h1 : j ≠ tg) (h2 : j ∉ met) (ht : ∀ k ∈ j :: r, k < ds.length) : bR ds tg met (j :: r) = bR ds tg (j :: met) (r ++ under ds j) := by
  have h3 : bR ds tg met (j :: r) = (bfs ds tg (mu ds met (j :: r)) (j :: met) (r ++ under ds j) == some true) := by
    unfold bR
    rw [bfs, if_neg h1, if_neg h2]
  rw [h3]
  refine bR_of _ _ _ _ _ (mu_step ds met r j (ht j (by simp)) h2) ?_
  intro k hk
  rw [List.mem_append] at hk
  rcases hk with hk | hk
  · exact ht k (by simp [hk])
  · exact under_lt hk
theorem rnd_is (ds : List D) (i : Nat) : rnd ds i = bR ds i [] (under ds i) := by
  unfold rnd
  refine bR_of _ _ _ _ _ ?_ (fun k hk => under_lt hk)
  unfold mu
  have h1 := under_len ds i
  have h2 := unm_le ds.length []
  have h3 : unm ds.length [] * (ds.length + 1) ≤ ds.length * (ds.length + 1) := Nat.mul_le_mul_right _ h2
  have h4 : (ds.length + 1) * (ds.length + 1) = ds.length * (ds.length + 1) + (ds.length + 1) := by rw [Nat.add_mul, Nat.one_mul]
  omega
end Go.Proofs.YtococaecjecjgaaGreatDoor.tm
/- A row of numbers from which one takes at the left, and to which one adds at the right. -/
namespace Go.Proofs.YtococaecjecjgaaGreatDoor.qi
set_option linter.unusedVariables false
open Go.ChangeShapes Go.WideShapes Go.ChangeAt Go.RowKit Go.Shelf
open mem lx ex

def Q (w : World) (base : Nat) (v : Value) (l : List Int) : Prop := (v = .slice none 0 0 ∧ l = []) ∨ ∃ (g off cap : Nat), v = .slice (some ⟨g, off, none⟩) l.length cap ∧ base ≤ g ∧ g < w.heap.size ∧ l.length ≤ cap ∧ cap ≤ maxLen ∧ (∀ k u, (ri.rowI l)[k]? = some u → w.cell? ⟨g, off + k, none⟩ = some u) ∧ (∀ k, k < cap → (w.cell? ⟨g, off + k, none⟩).isSome = true ∧ w.frozen? ⟨g, off + k, none⟩ = false)
theorem Q.shape {w : World} {base : Nat} {v : Value} {l : List Int} (h : Q w base v l) : ∃ p c, v = .slice p l.length c ∧ l.length ≤ c ∧ c ≤ maxLen := by
  rcases h with ⟨rfl, rfl⟩ | ⟨g, off, cap, rfl, _, _, h1, h2, _⟩
  · exact ⟨none, 0, rfl, Nat.le_refl _, Nat.zero_le _⟩
  · exact ⟨_, cap, rfl, h1, h2⟩
theorem Q.of {w : World} {base : Nat} {v : Value} {l : List Int} (h : ri.Own w base v l) : Q w base v l := by
  rcases h.2 with ⟨h1, h2⟩ | ⟨g, cap, cur, rfl, hbg, hg, hnc, hcm, hcs, htake⟩
  · exact Or.inl ⟨h1, List.eq_nil_of_length_eq_zero h2⟩
  · refine Or.inr ⟨g, 0, cap, rfl, hbg, lt_of_heap hg, hnc, hcm, fun k u hu => ?_, fun k hk => ?_⟩
    · have hk : k < l.length * 1 := by
        have := (List.getElem?_eq_some_iff.1 hu).1
        simpa [ri.rowI] using this
      rw [← htake, List.getElem?_take, if_pos hk] at hu
      rw [Nat.zero_add, cell_of hg]
      simpa using hu
    · rw [Nat.zero_add]
      refine ⟨?_, by simp [World.frozen?, hg]⟩
      rw [cell_of hg, Array.getElem?_eq_getElem (by rw [hcs]; omega)]
      rfl
theorem Q.block {w : World} {base : Nat} {v : Value} {l : List Int} (h : Q w base v l) : ∀ k, v.ownBlock = some k → base ≤ k ∧ k < w.heap.size := by
  intro k hk
  rcases h with ⟨rfl, _⟩ | ⟨g, off, cap, rfl, h1, h2, _⟩
  · cases hk
  · injection hk with hk
    subst hk
    exact ⟨h1, h2⟩
theorem Q.kept {w w' : World} {base : Nat} {v : Value} {l : List Int} {row : Option Nat} (h : Q w base v l) (hg : w.grownBy w' row) (hne : ∀ k, v.ownBlock = some k → row ≠ some k) : Q w' base v l := by
  rcases h with h | ⟨g, off, cap, rfl, h1, h2, h3, h4, h5, h6⟩
  · exact Or.inl h
  · have hb : w'.heap[g]? = w.heap[g]? := hg.block g h2 (fun e => hne g rfl e.symm)
    refine Or.inr ⟨g, off, cap, rfl, h1, Nat.lt_of_lt_of_le h2 hg.size, h3, h4, fun k u hu => ?_, fun k hk => ?_⟩
    · rw [World.cell?_of_block (a := ⟨g, off + k, none⟩) hb]; exact h5 k u hu
    · rw [World.cell?_of_block (a := ⟨g, off + k, none⟩) hb, World.frozen?_of_block (a := ⟨g, off + k, none⟩) hb]; exact h6 k hk
theorem Q.bl {w w' : World} {base : Nat} {v : Value} {l : List Int} (h : Q w base v l) (hb : Bl w w') : Q w' base v l := h.kept (row := none) ⟨hb.os, hb.tape, hb.output, hb.size, fun k hk _ => Below.block hb k hk⟩ (fun _ _ => by simp)
/-- The first one. -/
theorem Q.head {w : World} {base : Nat} {p : Option Addr} {n c : Nat} {z : Int} {l : List Int} (h : Q w base (.slice p n c) (z :: l)) : ∃ x, p = some x ∧ n = l.length + 1 ∧ 1 ≤ c ∧ w.cell? x = some (.int .i64 z) ∧ Q w base (.slice (if c = 1 then some x else some ⟨x.block, x.off + 1, none⟩) l.length (c - 1)) l := by
  rcases h with ⟨_, h⟩ | ⟨g, off, cap, hv, h1, h2, h3, h4, h5, h6⟩
  · cases h
  · injection hv with e1 e2 e3
    subst e1 e2 e3
    have h3' : l.length + 1 ≤ c := h3
    refine ⟨_, rfl, rfl, by omega, by have := h5 0 _ rfl; exact this, Or.inr ?_⟩
    by_cases hc : c = 1
    · rw [if_pos hc]
      have hl : l = [] := List.eq_nil_of_length_eq_zero (by omega)
      subst hl
      refine ⟨g, off, c - 1, rfl, h1, h2, Nat.zero_le _, by omega, fun k u hu => by simp [ri.rowI] at hu, fun k hk => h6 k (by omega)⟩
    · rw [if_neg hc]
      refine ⟨g, off + 1, c - 1, rfl, h1, h2, by omega, by omega, fun k u hu => ?_, fun k hk => ?_⟩
      · have := h5 (k + 1) u (by simpa [ri.rowI] using hu)
        rw [show off + 1 + k = off + (k + 1) by omega]; exact this
      · rw [show off + 1 + k = off + (k + 1) by omega]; exact h6 (k + 1) (by omega)
theorem tape_setCells (b : Nat) : ∀ (vs : List Value) (o : Nat) (w : World), (w.setCells b o vs).tape = w.tape ∧ (w.setCells b o vs).heap.size = w.heap.size
  | [], _, _ => ⟨rfl, rfl⟩
  | v :: r, o, w => by
    obtain ⟨h1, h2⟩ := tape_setCells b r (o + 1) (w.setCell ⟨b, o, none⟩ v)
    exact ⟨h1.trans rfl, h2.trans (by simp [World.setCell])⟩
theorem grown_cells (w : World) (b o : Nat) (vs : List Value) : w.grownBy (w.setCells b o vs) (some b) :=
  ⟨World.os_setCells w b o vs, (tape_setCells b vs o w).1, World.output_setCells w b o vs, Nat.le_of_eq (tape_setCells b vs o w).2.symm, fun k hk hne => World.heap_setCells_other w b o vs hk (fun e => hne (by rw [e]))⟩
theorem rowI_len (l : List Int) : (ri.rowI l).length = l.length := by simp [ri.rowI]
theorem rowI_app (a b : List Int) : ri.rowI (a ++ b) = ri.rowI a ++ ri.rowI b := by simp [ri.rowI]
set_option maxRecDepth 10000 in
/-- More, at the right. -/
theorem Q.app {w : World} {base base2 : Nat} {v u : Value} {l m : List Int} (h : Q w base v l) (hu : ri.Own w base2 u m) (hn : l.length + m.length ≤ 100000) (hb : base ≤ w.heap.size) :
    ∃ v' w', (Builtin.append_ #[198, 198] 198 #[v, u]).run Tryz.prog w = .ok v' w' ∧ Q w' base v' (l ++ m) ∧ w.grownBy w' v.ownBlock ∧ (v'.ownBlock = v.ownBlock ∨ v'.ownBlock = some w.heap.size) := by
  obtain ⟨i, hi, hz, h1, h2⟩ := ri.infoI'
  have hs : Src Tryz.prog i.size 198 u m.length (ri.rowI m) w := by
    rw [h1]
    rcases hu.shape with ⟨rfl, rfl⟩ | ⟨g, cap, rfl, _, _, _, _, hc⟩
    · exact Src.ofNil w Tryz.underlying198 0
    · refine Src.ofSlice w Tryz.underlying198 _ _ _ _ (by rw [rowI_len, Nat.mul_one]) (fun j x hx => ?_) (fun x hx => ?_)
      · have hj : j < m.length := by have := (List.getElem?_eq_some_iff.1 hx).1; rwa [rowI_len] at this
        rw [ri.rowI_get m j hj] at hx
        injection hx with hx
        rw [Addr.add_lit, Nat.zero_add, hc j hj, hx]
      · simp only [ri.rowI, List.mem_map] at hx
        obtain ⟨z, _, rfl⟩ := hx
        rfl
  -- a new row
  have grow : ∀ (p : Option Addr) (sc : Nat), v = .slice p l.length sc → sc < l.length + m.length → (Builtin.firstCells i.size l.length (.slice p l.length sc)).run Tryz.prog w.drew = .ok (ri.rowI l).toArray w.drew →
      ∃ v' w', (Builtin.append_ #[198, 198] 198 #[v, u]).run Tryz.prog w = .ok v' w' ∧ Q w' base v' (l ++ m) ∧ w.grownBy w' v.ownBlock ∧ (v'.ownBlock = v.ownBlock ∨ v'.ownBlock = some w.heap.size) := by
    rintro p sc rfl hg hold
    have hrun := run_append_grow_src (P := Tryz.prog) w 198 198 198 3 i (.int .i64 0) Tryz.underlying198 hi hz p l.length sc (ri.rowI l) hold u m.length (ri.rowI m) hs hg (by omega) (growslice_fits hg (by rw [h2]; omega))
    have hge := grownCap_ge w (l.length + m.length) sc 3
    have hcm := grownCap_le_maxLen w (l.length + m.length) sc 3 (by unfold maxLen; omega)
    obtain ⟨A, hA⟩ : ∃ A, A = (ri.rowI l ++ ri.rowI m).toArray ++ Builtin.zeroCells (Value.int .i64 0).cells (grownCap w (l.length + m.length) sc 3 - (l.length + m.length)) := ⟨_, rfl⟩
    rw [← hA] at hrun
    have hAs : A.size = grownCap w (l.length + m.length) sc 3 := by
      rw [hA, Array.size_append, size_zeroCells, List.size_toArray, List.length_append, rowI_len, rowI_len, show (Value.int .i64 0).cells.size = 1 from rfl]
      omega
    have hcell : ∀ j, (w.drew.alloc (.cells A 3)).cell? ⟨w.heap.size, j, none⟩ = A[j]? := fun j => World.cell?_alloc_new w.drew A 3 j
    have hnew : (w.drew.alloc (.cells A 3)).heap[w.heap.size]? = some (.cells A 3 (0, 0)) := new_at w.drew (.cells A 3)
    refine ⟨_, _, hrun, Or.inr ⟨w.heap.size, 0, _, by rw [List.length_append], hb, lt_of_heap hnew, by rw [List.length_append]; exact hge, hcm, fun k x hx => ?_, fun k hk => ?_⟩, ⟨rfl, rfl, rfl, by simp, fun k hk _ => Below.heap_alloc w.drew _ k hk⟩, Or.inr rfl⟩
    · rw [Nat.zero_add, hcell, hA]
      have hk := (List.getElem?_eq_some_iff.1 hx).1
      rw [rowI_app] at hx hk
      rw [Array.getElem?_append_left (by rw [List.size_toArray]; exact hk), List.getElem?_toArray]
      exact hx
    · rw [Nat.zero_add, hcell]
      refine ⟨by rw [Array.getElem?_eq_getElem (by rw [hAs]; exact hk)]; rfl, ?_⟩
      unfold World.frozen?
      dsimp only
      rw [hnew]
      simp
  rcases h with ⟨rfl, rfl⟩ | ⟨g, off, cap, rfl, k1, k2, k3, k4, k5, k6⟩
  · by_cases hm : m = []
    · subst hm
      refine ⟨.slice none 0 0, w, ?_, Or.inl ⟨rfl, rfl⟩, ⟨rfl, rfl, rfl, Nat.le_refl _, fun _ _ _ => rfl⟩, Or.inl rfl⟩
      exact run_append_nothing (P := Tryz.prog) w 198 198 198 3 i Tryz.underlying198 hi none 0 0 (Nat.le_refl _) u hs
    · have hmp : 0 < m.length := List.length_pos_iff.2 hm
      exact grow none 0 rfl (by simpa using hmp) (run_firstCells_none w.drew i.size 0 0 0)
  · by_cases hroom : l.length + m.length ≤ cap
    · have hrun := run_append_room_src (P := Tryz.prog) w 198 198 198 3 i Tryz.underlying198 hi g off l.length cap u m.length (ri.rowI m) hs hroom
        (fun j hj => by rw [rowI_len] at hj; rw [h1, Nat.mul_one, Nat.add_assoc]; exact (k6 _ (by omega)).1) (fun j hj => by rw [rowI_len] at hj; rw [h1, Nat.mul_one, Nat.add_assoc]; exact (k6 _ (by omega)).2)
      rw [h1, Nat.mul_one] at hrun
      refine ⟨_, _, hrun, Or.inr ⟨g, off, cap, by rw [List.length_append], k1, by rw [(tape_setCells g _ _ w).2]; exact k2, by rw [List.length_append]; exact hroom, k4, fun k x hx => ?_, fun k hk => ?_⟩, grown_cells _ _ _ _, Or.inl rfl⟩
      · rw [rowI_app] at hx
        by_cases hkl : k < l.length
        · rw [List.getElem?_append_left (by rw [rowI_len]; exact hkl)] at hx
          rw [World.cell?_setCells_out g _ _ w _ (fun _ _ => Or.inl (by show off + k < off + l.length; omega))]
          exact k5 k x hx
        · rw [List.getElem?_append_right (by rw [rowI_len]; omega), rowI_len] at hx
          have hj := (List.getElem?_eq_some_iff.1 hx).1
          have := World.cell?_setCells_in g (ri.rowI m) (off + l.length) w (fun j hj => by rw [rowI_len] at hj; rw [Nat.add_assoc]; exact (k6 _ (by omega)).1) (k - l.length) hj
          rw [show off + l.length + (k - l.length) = off + k by omega] at this
          rw [this, ← hx]
          first | rfl | exact (List.getElem?_eq_getElem hj).symm
      · exact ⟨World.isSome_setCells g _ _ w _ (k6 k hk).1, by rw [World.frozen?_setCells]; exact (k6 k hk).2⟩
    · refine grow _ cap rfl (by omega) ?_
      rw [h1]
      exact run_firstCells_some w.drew 1 l.length ⟨g, off, none⟩ l.length cap (ri.rowI l) (by rw [rowI_len, Nat.mul_one]) (fun j x hx => by rw [Addr.add_lit]; simpa using k5 j x hx)
end Go.Proofs.YtococaecjecjgaaGreatDoor.qi
/- Whether templates fit together: whether a Check's sum is taken over itself. -/
namespace Go.Proofs.YtococaecjecjgaaGreatDoor.tm
set_option linter.unusedVariables false
open Go.ChangeShapes Go.WideShapes Go.ChangeAt Go.RowKit Go.Shelf
open mem lx ex

/-- Which ones were met. -/
def Mt (w : World) (M n : Nat) (met : List Nat) : Prop := ∃ arr : Array Value, w.heap[M]? = some (.cells arr 4 (0, 0)) ∧ arr.size = n ∧ ∀ k, k < n → arr[k]? = some (.bool (decide (k ∈ met)))
theorem Mt.made (w : World) (n : Nat) : Mt (w.alloc (.cells (madeCells #[.bool false] n) 4)) w.heap.size n [] := by
  refine ⟨_, new_at _ _, size_madeCells _ _, fun k hk => ?_⟩
  rw [← Array.getElem?_toList, toList_madeCells_one, List.getElem?_replicate, if_pos hk]
  simp
theorem Mt.step {w w' : World} {M n : Nat} {met : List Nat} (h : Mt w M n met) (hb : w'.heap[M]? = w.heap[M]?) : Mt w' M n met := by
  obtain ⟨arr, h1, h2⟩ := h
  exact ⟨arr, by rw [hb]; exact h1, h2⟩
theorem Mt.lt {w : World} {M n : Nat} {met : List Nat} (h : Mt w M n met) : M < w.heap.size := by
  obtain ⟨arr, h1, _⟩ := h
  exact lt_of_heap h1
theorem Mt.cell {w : World} {M n : Nat} {met : List Nat} (h : Mt w M n met) (k : Nat) (hk : k < n) : w.cell? ⟨M, k, none⟩ = some (.bool (decide (k ∈ met))) ∧ w.frozen? ⟨M, k, none⟩ = false := by
  obtain ⟨arr, h1, h2, h3⟩ := h
  exact ⟨by rw [cell_of h1]; exact h3 k hk, by simp [World.frozen?, h1]⟩
theorem Mt.set {w : World} {M n : Nat} {met : List Nat} (h : Mt w M n met) (j : Nat) (hj : j < n) : Mt (w.setCell ⟨M, j, none⟩ (.bool true)) M n (j :: met) := by
  obtain ⟨arr, h1, h2, h3⟩ := h
  refine ⟨arr.setIfInBounds j (.bool true), by simp [World.setCell, Array.getElem?_modify, h1], by simp [h2], fun k hk => ?_⟩
  rw [Array.getElem?_setIfInBounds]
  by_cases e : j = k
  · subst e; rw [if_pos rfl, if_pos (by rw [h2]; exact hj)]; simp
  · rw [if_neg e, h3 k hk]
    have e' : ¬ k = j := fun h => e h.symm
    simp [e']
def isF : Option Value → Bool
  | some (.bool false) => true
  | _ => false
def cntF (w : World) (M n : Nat) : Nat := ((List.range n).filter (fun k => isF (w.cell? ⟨M, k, none⟩))).length
theorem cntF_is {w : World} {M n : Nat} {met : List Nat} (h : Mt w M n met) : cntF w M n = unm n met := by
  unfold cntF unm
  congr 1
  apply List.filter_congr
  intro k hk
  rw [(h.cell k (List.mem_range.1 hk)).1]
  by_cases hm : k ∈ met <;> simp [hm, isF]
def lnV : Value → Nat
  | .slice _ k _ => k
  | _ => 0
theorem infoB : (Tryz.prog.info? 4).map (fun i => (i.zero, i.size, i.bytes)) = some (some (.bool false), 1, 1) := by kernel_rfl
/-- How far going round has come. -/
structure Rn (w wr : World) (ds : List D) (i M n : Nat) (p : Option Addr) (c : Nat) (met todo : List Nat) : Prop where
  bl : Bl w wr
  q : qi.Q wr w.heap.size (.slice p todo.length c) (ints todo)
  mt : Mt wr M n met
  ne : ∀ k, (Value.slice p todo.length c).ownBlock = some k → k ≠ M
  lt : ∀ j ∈ todo, j < ds.length
  is : rnd ds i = bR ds i met todo
  len : mu ds met todo ≤ 20000
set_option maxRecDepth 10000 in
set_option maxHeartbeats 4000000 in
theorem round_at (x : C) (i : Nat) (cs : List C) (ok : Nat → Prop) (p : Option Addr) (n c : Nat) (w : World) (hin : ir.Lie w ok p n c cs) (hn : n ≤ 100) (hx : cs[i]? = some x) :
    Calls Tryz.prog 103 #[.slice p n c, .int .i64 (i : Int)] w fun e w' => e = .returned (.bool (rnd (cs.map C.d) i)) ∧ Bl w w' := by
  have hmk : ∀ w, (Instr.makeSlice 222 (.int .i64 (n : Int)) (.int .i64 (n : Int))).run Tryz.prog w = _ := fun w => run_make_row' (P := Tryz.prog) 222 4 (.bool false) 1 Tryz.underlying222 infoB rfl .i64 .i64 n (by omega) (by omega) w
  obtain ⟨w1, hw1⟩ : ∃ w1, w1 = w.alloc (.cells (madeCells #[.bool false] n) 4) := ⟨_, rfl⟩
  obtain ⟨M, hM⟩ : ∃ M, M = w.heap.size := ⟨_, rfl⟩
  have hb1 : Bl w w1 := by rw [hw1]; exact (Bl.refl _).alloc _
  have hm1 : Mt w1 M n [] := by rw [hw1, hM]; exact Mt.made w n
  have cU := under_at x i cs ok p n c w1 (lie_bl hin hb1) (by omega) hx
  have hnc := hin.1
  have H1 : Hid (Bl w w1 ∧ Mt w1 M n [] ∧ M = w.heap.size ∧ ir.Lie w ok p n c cs ∧ n = (cs.map C.d).length ∧ i < n) := ⟨hb1, hm1, hM, hin, by rw [List.length_map]; exact hnc, by rw [hnc]; exact (List.getElem?_eq_some_iff.1 hx).1⟩
  clear hb1 hm1 hin hnc hx
  go_enter Tryz.func103, Tryz.ntmps103
  go_wp2_with fail
  rw [← hw1]
  refine cU.mono ?_
  rintro e w2 ⟨v, rfl, hb2, ho2⟩
  rw [← hM]
  obtain ⟨p0, c0, rfl, hc0, _⟩ := (qi.Q.of ho2).shape
  rw [ints_len] at hc0
  have H2 : Hid (Rn w w2 (cs.map C.d) i M n p0 c0 [] (under (cs.map C.d) i)) := by
    have hq : qi.Q w2 w1.heap.size (.slice p0 (under (cs.map C.d) i).length c0) (ints (under (cs.map C.d) i)) := by
      have := qi.Q.of ho2
      rw [ints_len] at this
      exact this
    have hw1s : w.heap.size < w1.heap.size := by have := H1.out.2.1.lt; have := H1.out.2.2.1; omega
    refine ⟨H1.out.1.trans hb2, ?_, H1.out.2.1.step (Below.block hb2 M H1.out.2.1.lt), fun k hk => ?_, fun j hj => under_lt hj, rnd_is _ _, ?_⟩
    · rcases hq with h | ⟨g, off, cap, h0, h1, h2⟩
      · exact Or.inl h
      · exact Or.inr ⟨g, off, cap, h0, by omega, h2⟩
    · have h1 := (hq.block k hk).1
      have h2 := H1.out.2.2.1
      omega
    · have h1 := under_len (cs.map C.d) i
      have h2 := unm_le (cs.map C.d).length []
      have h3 := H1.out.2.2.2.2.1
      have h4 : unm (cs.map C.d).length [] * ((cs.map C.d).length + 1) ≤ 100 * 101 := Nat.mul_le_mul (by omega) (by omega)
      unfold mu
      omega
  rw [ints_len]
  clear cU hw1 hM ho2 hb2
  go_wp2
  go_loopw [6] (fun v wr => ∃ (met todo : List Nat) (p1 : Option Addr) (c1 : Nat), v = .slice p1 todo.length c1 ∧ todo.length ≤ c1 ∧ Hid (Rn w wr (cs.map C.d) i M n p1 c1 met todo)) (fun v wr => lnV v + cntF wr M n * (n + 1))
  case atStart => exact ⟨[], _, p0, c0, rfl, hc0, H2.out⟩
  case round =>
    clear H2
    obtain ⟨met, todo, p1, c1, rfl, hc1, HR⟩ := hrel
    cases todo with
    | nil =>
      have HX : Hid (rnd (cs.map C.d) i = false ∧ Bl w wr) := ⟨by rw [HR.out.is]; exact bR_nil _ _ _, HR.out.bl⟩
      rw [show ([] : List Nat).length = 0 from rfl]
      go_wp2
      rw [HX.out.1]
      go_ret
      exact ⟨rfl, HX.out.2⟩
    | cons j r =>
      have hq0 : qi.Q wr w.heap.size (.slice p1 (j :: r).length c1) ((j : Int) :: ints r) := HR.out.q
      obtain ⟨X, rfl, _, hc2, q0, hq'⟩ := hq0.head
      rw [ints_len] at hq'
      have hjn : j < n := by have := HR.out.lt j (by simp); have := H1.out.2.2.2.2.1; omega
      have hds := H1.out.2.2.2.2.1
      obtain ⟨m, hm⟩ : ∃ m, m = r.length := ⟨_, rfl⟩
      have hlr : (j :: r).length = m + 1 := by rw [hm]; simp
      rw [hlr] at hc1 ⊢
      have j0 : (0 : Int) ≤ (j : Int) := by omega
      have j1 : (j : Int) < (n : Int) := by omega
      have hcm := (hq0.shape)
      have m1 : (1 : Int) ≤ ((m + 1 : Nat) : Int) := by omega
      have hgt : (0 : Int) < ((m + 1 : Nat) : Int) := by omega
      rw [← hm] at hq'
      obtain ⟨p2, hp2⟩ : ∃ p2, p2 = (if c1 = 1 then some X else some (⟨X.block, X.off + 1, none⟩ : Addr)) := ⟨_, rfl⟩
      rw [← hp2] at hq'
      have hne2 : ∀ k, (Value.slice p2 m (c1 - 1)).ownBlock = some k → k ≠ M := by
        intro k hk
        refine HR.out.ne k ?_
        rw [hp2] at hk
        split at hk
        · exact hk
        · exact hk
      rcases Nat.decEq c1 1 with hcc | hcc
      · obtain rfl : p2 = some (⟨X.block, X.off + 1, none⟩ : Addr) := by rw [hp2, if_neg hcc]
        clear hp2
        have hX0 : X.add 0 = X := Addr.add_zero' X
        obtain ⟨g1, g2⟩ := HR.out.mt.cell j hjn
        have HQ : Hid (qi.Q wr w.heap.size (.slice (some (⟨X.block, X.off + 1, none⟩ : Addr)) m (c1 - 1)) (ints r) ∧ (∀ k, (Value.slice (some (⟨X.block, X.off + 1, none⟩ : Addr)) m (c1 - 1)).ownBlock = some k → k ≠ M) ∧ m = r.length ∧ n = (cs.map C.d).length) := ⟨hq', hne2, hm, hds⟩
        have hMs := HR.out.mt.lt
        clear hq' hne2 hq0 hcm hlr hm hds
        by_cases hji : j = i
        · have HX : Hid (rnd (cs.map C.d) i = true ∧ Bl w wr) := ⟨by rw [HR.out.is, hji]; exact bR_hit _ _ _ _, HR.out.bl⟩
          subst hji
          clear HQ HR g1 g2
          go_wp2
          rw [HX.out.1]
          go_ret
          exact ⟨rfl, HX.out.2⟩
        · have hji' : ¬ ((j : Int) = (i : Int)) := by omega
          by_cases hmt : j ∈ met
          · rw [decide_eq_true hmt] at g1
            have H9 : Hid (Rn w wr (cs.map C.d) i M n (some (⟨X.block, X.off + 1, none⟩ : Addr)) ((c1 - 1)) met r ∧ m = r.length) := by
              refine ⟨⟨HR.out.bl, by rw [← HQ.out.2.2.1]; exact HQ.out.1, HR.out.mt, by rw [← HQ.out.2.2.1]; exact HQ.out.2.1, fun k hk => HR.out.lt k (by simp [hk]), ?_, ?_⟩, HQ.out.2.2.1⟩
              · rw [HR.out.is]; exact bR_met _ _ _ _ _ hji hmt HR.out.lt
              · have := HR.out.len
                unfold mu at this ⊢
                rw [List.length_cons] at this
                omega
            clear hmt HQ HR
            go_wp2
            go_roundw
            case rel => exact ⟨met, r, _, _, by rw [← H9.out.2], by rw [← H9.out.2]; omega, H9.out.1⟩
            case measure => simp [lnV]
          · rw [decide_eq_false hmt] at g1
            have hmu := mu_step (cs.map C.d) met r j (by rw [← HQ.out.2.2.2]; exact hjn) hmt
            have hcu := cntF_is HR.out.mt
            obtain ⟨y, hy⟩ : ∃ y, cs[j]? = some y := ⟨_, List.getElem?_eq_getElem (by have := HQ.out.2.2.2; rw [List.length_map] at this; omega)⟩
            obtain ⟨w5, hw5⟩ : ∃ w5, w5 = wr.setCell ⟨M, j, none⟩ (.bool true) := ⟨_, rfl⟩
            have hb5 : Bl w w5 := by rw [hw5]; exact HR.out.bl.setCell (by show w.heap.size ≤ M; have := H1.out.2.2.1; omega) _
            have hm5 : Mt w5 M n (j :: met) := by rw [hw5]; exact HR.out.mt.set j hjn
            have hq5 : qi.Q w5 w.heap.size (.slice (some (⟨X.block, X.off + 1, none⟩ : Addr)) m (c1 - 1)) (ints r) := by
              rw [hw5]
              exact HQ.out.1.kept (grown_set wr M j (.bool true)) (fun k hk e => HQ.out.2.1 k hk (by injection e with e; exact e.symm))
            have cU := under_at y j cs ok p n c w5 (lie_bl H1.out.2.2.2.1 hb5) (by omega) hy
            have H5 : Hid (Bl w w5 ∧ Mt w5 M n (j :: met) ∧ qi.Q w5 w.heap.size (.slice (some (⟨X.block, X.off + 1, none⟩ : Addr)) m (c1 - 1)) (ints r) ∧ mu (cs.map C.d) (j :: met) (r ++ under (cs.map C.d) j) < mu (cs.map C.d) met (j :: r) ∧ j ∉ met ∧ cntF wr M n = unm n met) := ⟨hb5, hm5, hq5, hmu, hmt, hcu⟩
            clear hb5 hm5 hq5 hmu hmt hy hcu
            go_wp2_with fail
            rw [← hw5]
            refine cU.mono ?_
            rintro e w6 ⟨u, rfl, hb6, ho6⟩
            have hq6 := H5.out.2.2.1.bl hb6
            have hM5 := H5.out.2.1.lt
            obtain ⟨v7, w7, hr7, hq7, hg7, hv7⟩ := qi.Q.app hq6 ho6 (by rw [ints_len, ints_len]; have h1 := HR.out.len; have h2 := H5.out.2.2.2.1; unfold mu at h1 h2; rw [List.length_append] at h2; omega) (Nat.le_trans H5.out.1.size hb6.size)
            obtain ⟨p7, c7, rfl, hc7, _⟩ := hq7.shape
            have H7 : Hid (Rn w w7 (cs.map C.d) i M n p7 c7 (j :: met) (r ++ under (cs.map C.d) j) ∧ (ints r ++ ints (under (cs.map C.d) j)).length = (r ++ under (cs.map C.d) j).length) := by
              have el : (ints r ++ ints (under (cs.map C.d) j)).length = (r ++ under (cs.map C.d) j).length := by simp [ints]
              refine ⟨⟨bl_grown (H5.out.1.trans hb6) hg7 (fun k hk => (H5.out.2.2.1.block k hk).1), ?_, ?_, ?_, ?_, ?_, ?_⟩, el⟩
              · rw [← el]
                have := hq7
                rw [show ints r ++ ints (under (cs.map C.d) j) = ints (r ++ under (cs.map C.d) j) by simp [ints]] at this ⊢
                exact this
              · refine (H5.out.2.1.step (Below.block hb6 M hM5)).step (hg7.block M (Nat.lt_of_lt_of_le hM5 hb6.size) (fun e => ?_))
                exact HQ.out.2.1 M e.symm rfl
              · intro k hk e
                rw [← el] at hk
                rcases hv7 with h | h
                · rw [h] at hk
                  exact HQ.out.2.1 k hk e
                · rw [h] at hk
                  injection hk with hk
                  have := hb6.size
                  omega
              · intro k hk
                rw [List.mem_append] at hk
                rcases hk with hk | hk
                · exact HR.out.lt k (by simp [hk])
                · exact under_lt hk
              · rw [HR.out.is]; exact bR_new _ _ _ _ _ hji H5.out.2.2.2.2.1 HR.out.lt
              · have h1 := HR.out.len
                have h2 := H5.out.2.2.2.1
                omega
            have HR7 : Hid _ := hr7
            have HC : Hid ((ints r ++ ints (under (cs.map C.d) j)).length ≤ c7) := hc7
            clear hr7 hq7 hg7 hv7 hq6 hb6 ho6 hc7 cU
            go_wp2_with (at_builtin; refine Lib.wpList_append_run _ rfl (.tmp 33) (.tmp 36) _ _ rfl _ _ rfl rfl _ _ HR7.out ?_)
            go_roundw
            case rel => exact ⟨j :: met, r ++ under (cs.map C.d) j, p7, c7, by rw [← H7.out.2, List.length_append], by rw [← H7.out.2]; exact HC.out, H7.out.1⟩
            case measure =>
              have h1 := H5.out.2.2.2.1
              have h2 := cntF_is H7.out.1.mt
              have h3 := H5.out.2.2.2.2.2
              have h4 := HQ.out.2.2.1
              have h5 := HQ.out.2.2.2
              unfold mu at h1
              rw [← h5, ← h2, ← h3, List.length_cons, ← H7.out.2] at h1
              simp [lnV] at h1 ⊢
              omega
      · obtain rfl : p2 = some X := by rw [hp2, if_pos hcc]
        subst hcc
        obtain rfl : m = 0 := by omega
        clear hp2
        have hX0 : X.add 0 = X := Addr.add_zero' X
        obtain ⟨g1, g2⟩ := HR.out.mt.cell j hjn
        have HQ : Hid (qi.Q wr w.heap.size (.slice (some X) 0 0) (ints r) ∧ (∀ k, (Value.slice (some X) 0 0).ownBlock = some k → k ≠ M) ∧ 0 = r.length ∧ n = (cs.map C.d).length) := ⟨hq', hne2, hm, hds⟩
        have hMs := HR.out.mt.lt
        clear hq' hne2 hq0 hcm hlr hm hds
        by_cases hji : j = i
        · have HX : Hid (rnd (cs.map C.d) i = true ∧ Bl w wr) := ⟨by rw [HR.out.is, hji]; exact bR_hit _ _ _ _, HR.out.bl⟩
          subst hji
          clear HQ HR g1 g2
          go_wp2
          rw [HX.out.1]
          go_ret
          exact ⟨rfl, HX.out.2⟩
        · have hji' : ¬ ((j : Int) = (i : Int)) := by omega
          by_cases hmt : j ∈ met
          · rw [decide_eq_true hmt] at g1
            have H9 : Hid (Rn w wr (cs.map C.d) i M n (some X) (0) met r ∧ 0 = r.length) := by
              refine ⟨⟨HR.out.bl, by rw [← HQ.out.2.2.1]; exact HQ.out.1, HR.out.mt, by rw [← HQ.out.2.2.1]; exact HQ.out.2.1, fun k hk => HR.out.lt k (by simp [hk]), ?_, ?_⟩, HQ.out.2.2.1⟩
              · rw [HR.out.is]; exact bR_met _ _ _ _ _ hji hmt HR.out.lt
              · have := HR.out.len
                unfold mu at this ⊢
                rw [List.length_cons] at this
                omega
            clear hmt HQ HR
            go_wp2
            go_roundw
            case rel => exact ⟨met, r, _, _, by rw [← H9.out.2], by rw [← H9.out.2]; omega, H9.out.1⟩
            case measure => simp [lnV]
          · rw [decide_eq_false hmt] at g1
            have hmu := mu_step (cs.map C.d) met r j (by rw [← HQ.out.2.2.2]; exact hjn) hmt
            have hcu := cntF_is HR.out.mt
            obtain ⟨y, hy⟩ : ∃ y, cs[j]? = some y := ⟨_, List.getElem?_eq_getElem (by have := HQ.out.2.2.2; rw [List.length_map] at this; omega)⟩
            obtain ⟨w5, hw5⟩ : ∃ w5, w5 = wr.setCell ⟨M, j, none⟩ (.bool true) := ⟨_, rfl⟩
            have hb5 : Bl w w5 := by rw [hw5]; exact HR.out.bl.setCell (by show w.heap.size ≤ M; have := H1.out.2.2.1; omega) _
            have hm5 : Mt w5 M n (j :: met) := by rw [hw5]; exact HR.out.mt.set j hjn
            have hq5 : qi.Q w5 w.heap.size (.slice (some X) 0 0) (ints r) := by
              rw [hw5]
              exact HQ.out.1.kept (grown_set wr M j (.bool true)) (fun k hk e => HQ.out.2.1 k hk (by injection e with e; exact e.symm))
            have cU := under_at y j cs ok p n c w5 (lie_bl H1.out.2.2.2.1 hb5) (by omega) hy
            have H5 : Hid (Bl w w5 ∧ Mt w5 M n (j :: met) ∧ qi.Q w5 w.heap.size (.slice (some X) 0 0) (ints r) ∧ mu (cs.map C.d) (j :: met) (r ++ under (cs.map C.d) j) < mu (cs.map C.d) met (j :: r) ∧ j ∉ met ∧ cntF wr M n = unm n met) := ⟨hb5, hm5, hq5, hmu, hmt, hcu⟩
            clear hb5 hm5 hq5 hmu hmt hy hcu
            go_wp2_with fail
            rw [← hw5]
            refine cU.mono ?_
            rintro e w6 ⟨u, rfl, hb6, ho6⟩
            have hq6 := H5.out.2.2.1.bl hb6
            have hM5 := H5.out.2.1.lt
            obtain ⟨v7, w7, hr7, hq7, hg7, hv7⟩ := qi.Q.app hq6 ho6 (by rw [ints_len, ints_len]; have h1 := HR.out.len; have h2 := H5.out.2.2.2.1; unfold mu at h1 h2; rw [List.length_append] at h2; omega) (Nat.le_trans H5.out.1.size hb6.size)
            obtain ⟨p7, c7, rfl, hc7, _⟩ := hq7.shape
            have H7 : Hid (Rn w w7 (cs.map C.d) i M n p7 c7 (j :: met) (r ++ under (cs.map C.d) j) ∧ (ints r ++ ints (under (cs.map C.d) j)).length = (r ++ under (cs.map C.d) j).length) := by
              have el : (ints r ++ ints (under (cs.map C.d) j)).length = (r ++ under (cs.map C.d) j).length := by simp [ints]
              refine ⟨⟨bl_grown (H5.out.1.trans hb6) hg7 (fun k hk => (H5.out.2.2.1.block k hk).1), ?_, ?_, ?_, ?_, ?_, ?_⟩, el⟩
              · rw [← el]
                have := hq7
                rw [show ints r ++ ints (under (cs.map C.d) j) = ints (r ++ under (cs.map C.d) j) by simp [ints]] at this ⊢
                exact this
              · refine (H5.out.2.1.step (Below.block hb6 M hM5)).step (hg7.block M (Nat.lt_of_lt_of_le hM5 hb6.size) (fun e => ?_))
                exact HQ.out.2.1 M e.symm rfl
              · intro k hk e
                rw [← el] at hk
                rcases hv7 with h | h
                · rw [h] at hk
                  exact HQ.out.2.1 k hk e
                · rw [h] at hk
                  injection hk with hk
                  have := hb6.size
                  omega
              · intro k hk
                rw [List.mem_append] at hk
                rcases hk with hk | hk
                · exact HR.out.lt k (by simp [hk])
                · exact under_lt hk
              · rw [HR.out.is]; exact bR_new _ _ _ _ _ hji H5.out.2.2.2.2.1 HR.out.lt
              · have h1 := HR.out.len
                have h2 := H5.out.2.2.2.1
                omega
            have HR7 : Hid _ := hr7
            have HC : Hid ((ints r ++ ints (under (cs.map C.d) j)).length ≤ c7) := hc7
            clear hr7 hq7 hg7 hv7 hq6 hb6 ho6 hc7 cU
            go_wp2_with (at_builtin; refine Lib.wpList_append_run _ rfl (.tmp 33) (.tmp 36) _ _ rfl _ _ rfl rfl _ _ HR7.out ?_)
            go_roundw
            case rel => exact ⟨j :: met, r ++ under (cs.map C.d) j, p7, c7, by rw [← H7.out.2, List.length_append], by rw [← H7.out.2]; exact HC.out, H7.out.1⟩
            case measure =>
              have h1 := H5.out.2.2.2.1
              have h2 := cntF_is H7.out.1.mt
              have h3 := H5.out.2.2.2.2.2
              have h4 := HQ.out.2.2.1
              have h5 := HQ.out.2.2.2
              unfold mu at h1
              rw [← h5, ← h2, ← h3, List.length_cons, ← H7.out.2] at h1
              simp [lnV] at h1 ⊢
              omega
end Go.Proofs.YtococaecjecjgaaGreatDoor.tm
/- Whether templates fit together: an item that has a name. -/
namespace Go.Proofs.YtococaecjecjgaaGreatDoor.tm
set_option linter.unusedVariables false
open Go.ChangeShapes Go.WideShapes Go.ChangeAt Go.RowKit Go.Shelf
open mem lx ex

theorem SetM.block {w : World} {b k : Nat} {S : List (List UInt8)} (h : SetM w b S k) : ∃ es clock, w.heap[b]? = some (.map es clock) := by
  obtain ⟨f, c, ⟨D, ⟨es, clock, h1, _⟩, _⟩, _⟩ := h
  exact ⟨es, clock, h1⟩
/-- Expressions stay when a map changes. -/
theorem Kx.map {w w' : World} {b k : Nat} {S : List (List UInt8)} (h : SetM w b S k) (hg : w.grownBy w' (some b)) : Kx w w' := fun x cs hx => by
  rw [hg.block x (lt_of_heap hx) (fun e => by
    injection e with e
    subst e
    obtain ⟨es, clock, hb⟩ := h.block
    rw [hx] at hb
    cases hb)]
  exact hx
theorem below_grown {B b : Nat} {w0 w w' : World} (h : Below B w0 w) (hg : w.grownBy w' (some b)) (hB : B ≤ b) (hs : B ≤ w.heap.size) : Below B w0 w' := ⟨hg.os.trans h.os, hg.tape.trans h.tape, hg.output.trans h.output, Nat.le_trans h.size hg.size, fun k hk => by
  rw [hg.block k (by omega) (fun e => by injection e with e; omega)]
  exact h.block k hk⟩
/-- One who looks at a struct. -/
structure Ck (w : World) (K eb nb' sb : Nat) (earl names seen : List (List UInt8)) (ke kn ks : Nat) : Prop where
  h : w.heap[K]? = some (.cells #[.map (some eb), .map (some nb'), .map (some sb)] 138 (0, 0))
  e : SetM w eb earl ke
  n : SetM w nb' names kn
  s : SetM w sb seen ks
  d1 : eb ≠ nb'
  d2 : eb ≠ sb
  d3 : nb' ≠ sb
theorem Ck.bl {w w' : World} {K eb nb' sb : Nat} {earl names seen : List (List UInt8)} {ke kn ks : Nat} (h : Ck w K eb nb' sb earl names seen ke kn ks) (hb : Bl w w') : Ck w' K eb nb' sb earl names seen ke kn ks :=
  ⟨by rw [Below.block hb K (lt_of_heap h.h)]; exact h.h, h.e.bl hb, h.n.bl hb, h.s.bl hb, h.d1, h.d2, h.d3⟩
theorem Ck.ne {w : World} {K eb nb' sb : Nat} {earl names seen : List (List UInt8)} {ke kn ks : Nat} (h : Ck w K eb nb' sb earl names seen ke kn ks) : K ≠ nb' ∧ K ≠ sb := by
  refine ⟨fun e => ?_, fun e => ?_⟩
  · obtain ⟨es, clock, hb⟩ := h.n.block
    rw [← e, h.h] at hb; cases hb
  · obtain ⟨es, clock, hb⟩ := h.s.block
    rw [← e, h.h] at hb; cases hb
theorem Ck.cells {w : World} {K eb nb' sb : Nat} {earl names seen : List (List UInt8)} {ke kn ks : Nat} (h : Ck w K eb nb' sb earl names seen ke kn ks) : w.cell? ⟨K, 0, none⟩ = some (.map (some eb)) ∧ w.cell? ⟨K, 1, none⟩ = some (.map (some nb')) ∧ w.cell? ⟨K, 2, none⟩ = some (.map (some sb)) := by
  have := h.h
  exact ⟨by rw [cell_of this]; rfl, by rw [cell_of this]; rfl, by rw [cell_of this]; rfl⟩
/-- A name more. -/
theorem Ck.putN {w w' : World} {K eb nb' sb : Nat} {earl names seen names' : List (List UInt8)} {ke kn ks kn' : Nat} (h : Ck w K eb nb' sb earl names seen ke kn ks) (hg : w.grownBy w' (some nb')) (hn : SetM w' nb' names' kn') : Ck w' K eb nb' sb earl names' seen ke kn' ks :=
  ⟨by rw [hg.block K (lt_of_heap h.h) (fun e => by injection e with e; exact h.ne.1 e)]; exact h.h, h.e.step hg (fun e => by injection e with e; exact h.d1 e), hn, h.s.step hg (fun e => by injection e with e; exact h.d3 e.symm), h.d1, h.d2, h.d3⟩
theorem Ck.putS {w w' : World} {K eb nb' sb : Nat} {earl names seen seen' : List (List UInt8)} {ke kn ks ks' : Nat} (h : Ck w K eb nb' sb earl names seen ke kn ks) (hg : w.grownBy w' (some sb)) (hn : SetM w' sb seen' ks') : Ck w' K eb nb' sb earl names seen' ke kn ks' :=
  ⟨by rw [hg.block K (lt_of_heap h.h) (fun e => by injection e with e; exact h.ne.2 e)]; exact h.h, h.e.step hg (fun e => by injection e with e; exact h.d2 e), h.n.step hg (fun e => by injection e with e; exact h.d3 e), hn, h.d1, h.d2, h.d3⟩
/-- What looking at an item, or at a block, does. -/
def DoneA (B : Nat) (w : World) (q : Option (Int × Nat)) (P : World → Prop) (e : Ending) (w' : World) : Prop := Below B w w' ∧ Kx w w' ∧ match q with
  | none => e = .returned (.tuple #[]) ∧ P w'
  | some (c, p) => ∃ A : Nat, e = thrownY A ∧ B ≤ A ∧ AtX w' A c (p : Int)
theorem DoneA.of_thr {B : Nat} {w w1 w' : World} {q : Option (Int × Nat)} {P : World → Prop} {c : Int} {p : Nat} {e : Ending} (hq : q = some (c, p)) (hb : Below B w w1) (hx : Kx w w1) (hs : B ≤ w1.heap.size) (h : ThrY w1 c (p : Int) e w') : DoneA B w q P e w' := by
  obtain ⟨A, h1, h2, h3, h4⟩ := h
  refine ⟨hb.trans (h4.mono hs), hx.trans (Kx.bl h4), ?_⟩
  rw [hq]
  exact ⟨A, h1, by omega, h3⟩
/-- What is seen behind an item. -/
def seenN (seen : List (List UInt8)) (d : D) : List (List UInt8) := if d.kd = 1 ∧ d.mn = false then d.nm :: seen else seen
theorem itemW_is (earl names seen : List (List UInt8)) (d : D) : (d.nm ∈ names → itemW earl names seen d = some (9, d.at_)) ∧ (d.nm ∉ names → (d.kd = 3 → d.ty ∉ earl → itemW earl names seen d = some (7, d.at_)) ∧ (¬ (d.kd = 3 ∧ d.ty ∉ earl) → itemW earl names seen d = (misO seen d.ct).map fun p => (5, p))) := by
  unfold itemW
  exact ⟨fun h => by rw [if_pos h], fun h => ⟨fun h3 h4 => by rw [if_neg h, if_pos ⟨h3, h4⟩], fun h3 => by rw [if_neg h, if_neg h3]⟩⟩
set_option maxRecDepth 10000 in
set_option maxHeartbeats 4000000 in
theorem itemY_at (w : World) (B K eb nb' sb : Nat) (earl names seen : List (List UInt8)) (ke kn ks : Nat) (x : C) (h : Ck w K eb nb' sb earl names seen ke kn ks) (hB1 : B ≤ nb') (hB2 : B ≤ sb) (hBw : B ≤ w.heap.size) (hk : kn ≤ 4000 ∧ ks ≤ 4000)
    (hx : IsO w x.pc x.d.ct) (ho : ∀ e, x.d.ct = some e → Okb e) (h1 : x.d.nm.length ≤ 5000) (h2 : x.d.ty.length ≤ 5000) (ha : x.d.at_ ≤ 100000) :
    Calls Tryz.prog 101 #[.pointer (some ⟨K, 0, none⟩), itV x] w fun e w' => DoneA B w (itemW earl names seen x.d) (fun w' => Ck w' K eb nb' sb earl (x.d.nm :: names) (seenN seen x.d) ke (kn + 1) (ks + 1)) e w' := by
  obtain ⟨w1, hw1⟩ : ∃ w1, w1 = w.alloc (.cells (cl x).toArray 60) := ⟨_, rfl⟩
  obtain ⟨N, hN⟩ : ∃ N, N = w.heap.size := ⟨_, rfl⟩
  have hv : Iv w1 N x := ⟨by rw [hw1, hN]; exact new_at _ _⟩
  have hb1 : Bl w w1 := by rw [hw1]; exact (Bl.refl _).alloc _
  obtain ⟨o1, o2⟩ := itemW_is earl names seen x.d
  obtain ⟨q, hq⟩ : ∃ q, q = itemW earl names seen x.d := ⟨_, rfl⟩
  rw [← hq] at o1 o2 ⊢
  have hc1 := h.bl hb1
  have hnlt := h.n.lt
  have hslt := h.s.lt
  obtain ⟨a0, a1, a2, a3, a4, a5, a6, a7, a8, a9, a10, a11, a12⟩ := hv.facts
  obtain ⟨k0, k1, k2⟩ := hc1.cells
  have d0 := at_bl (Bl.refl w1).drew k0
  have d1 := at_bl (Bl.refl w1).drew k1
  have b2 := at_bl (Bl.refl w1).drew a2
  have hKs := lt_of_heap hc1.h
  obtain ⟨z1, hlk⟩ := hc1.n.look x.d.nm h1
  obtain ⟨z2, hlkd⟩ := (hc1.n.bl (Bl.refl w1).drew).look x.d.nm h1
  have H1 : Hid (Bl w w1 ∧ Ck w1 K eb nb' sb earl names seen ke kn ks ∧ Iv w1 N x ∧ IsO w1 x.pc x.d.ct ∧ N = w.heap.size ∧ q = itemW earl names seen x.d) := ⟨hb1, hc1, hv, hx.keep (Kx.bl hb1), hN, hq⟩
  have cT := ythrow_at (x.d.at_ : Int)
  clear hb1 hc1 hv hx h hq
  unfold itV
  go_enter Tryz.func101, Tryz.ntmps101
  go_upto_region 1 with fail
  change Code.wp _ _ _ _ (w.alloc (.cells (cl x).toArray 60))
  rw [← hw1, ← hN]
  clear hw1 hN
  go_region
  obtain ⟨W, hW⟩ : ∃ W, W = w1.drew := ⟨_, rfl⟩
  have hbW : Bl w1 W := by rw [hW]; exact (Bl.refl _).drew
  have HW : Hid (Bl w W ∧ Ck W K eb nb' sb earl names seen ke kn ks ∧ Iv W N x ∧ IsO W x.pc x.d.ct) := ⟨H1.out.1.trans hbW, H1.out.2.1.bl hbW, H1.out.2.2.1.bl hbW, H1.out.2.2.2.1.keep (Kx.bl hbW)⟩
  have e1 := at_bl hbW a1
  rw [← hW]
  clear hW hbW a0 a1 a2 a3 a4 a5 a6 a7 a8 a9 a10 a11 a12 k0 k1 k2 d0 d1 b2 hlk hlkd hKs
  by_cases hnm : x.d.nm ∈ names
  · have HQ : Hid (q = some (9, x.d.at_)) := o1 hnm
    rw [decide_eq_true hnm]
    clear o1 o2 hnm
    go_wp2_with fail
    refine (cT 9 _).mono ?_
    rintro e w9 hth
    have hfin := DoneA.of_thr (P := fun w' => Ck w' K eb nb' sb earl (x.d.nm :: names) (seenN seen x.d) ke (kn + 1) (ks + 1)) HQ.out (HW.out.1.mono hBw) (Kx.bl HW.out.1) (Nat.le_trans hBw HW.out.1.size) hth
    obtain ⟨A, rfl, _⟩ := hth
    unfold thrownY
    go_wp2
    exact ⟨rfl, hfin⟩
  · obtain ⟨o3, o4⟩ := o2 hnm
    rw [decide_eq_false hnm]
    clear o1 o2 hnm
    have hbD := (Bl.refl W).drew
    have hcD := HW.out.2.1.bl hbD
    obtain ⟨f0, f1, f2, f3, f4, f5, f6, f7, f8, f9, f10, f11, f12⟩ := (HW.out.2.2.1.bl hbD).facts
    obtain ⟨k0, k1, k2⟩ := hcD.cells
    have hKs := lt_of_heap hcD.h
    obtain ⟨w3, hr3, hn3, hg3⟩ := hcD.n.put x.d.nm (x.d.at_ : Int) h1 (by unfold R64; omega) (by omega)
    have hNn : N ≠ nb' := by have h5 := H1.out.2.2.2.2.1; omega
    have H3 : Hid (Below B w w3 ∧ Kx w w3 ∧ Ck w3 K eb nb' sb earl (x.d.nm :: names) seen ke (kn + 1) ks ∧ Iv w3 N x ∧ IsO w3 x.pc x.d.ct ∧ B ≤ w3.heap.size) := by
      have kx := (Kx.bl (HW.out.1.trans hbD)).trans (Kx.map hcD.n hg3)
      refine ⟨below_grown ((HW.out.1.trans hbD).mono hBw) hg3 hB1 (Nat.le_trans hBw (HW.out.1.trans hbD).size), kx, hcD.putN hg3 hn3, ⟨?_⟩, HW.out.2.2.2.keep ((Kx.bl hbD).trans (Kx.map hcD.n hg3)), Nat.le_trans (Nat.le_trans hBw (HW.out.1.trans hbD).size) hg3.size⟩
      rw [hg3.block N (HW.out.2.2.1.bl hbD).lt (fun e => by injection e with e; exact hNn e)]
      exact (HW.out.2.2.1.bl hbD).h
    clear e1 hn3 hg3 hcD hbD hNn f0 f3 f4 f5 f6 f7 f8 f9 f10 f11 f12
    go_upto_region 4 with fail
    go_region
    have hbE := (Bl.refl w3).drew
    have hcE := H3.out.2.2.1.bl hbE
    obtain ⟨f0, f1, f2, f3, f4, f5, f6, f7, f8, f9, f10, f11, f12⟩ := (H3.out.2.2.2.1.bl hbE).facts
    clear k0 k1 k2 hKs hr3
    obtain ⟨k0, k1, k2⟩ := hcE.cells
    have hKs := lt_of_heap hcE.h
    obtain ⟨z3, hlk⟩ := hcE.e.look x.d.ty h2
    obtain ⟨V, hV⟩ : ∃ V, V = w3.drew := ⟨_, rfl⟩
    have HV : Hid (Below B w V ∧ Kx w V ∧ Ck V K eb nb' sb earl (x.d.nm :: names) seen ke (kn + 1) ks ∧ Iv V N x ∧ IsO V x.pc x.d.ct ∧ B ≤ V.heap.size) := by
      rw [hV]
      exact ⟨H3.out.1.trans (hbE.mono H3.out.2.2.2.2.2), H3.out.2.1.trans (Kx.bl hbE), hcE, H3.out.2.2.2.1.bl hbE, H3.out.2.2.2.2.1.keep (Kx.bl hbE), Nat.le_trans H3.out.2.2.2.2.2 hbE.size⟩
    clear hcE hbE f0 f1 f2 f4 f5 f6 f7 f8 f9 f10 f11 f12 k1 k2
    go_upto_region 5 with fail
    go_region
    rw [← hV]
    clear hV hlk f3 k0 hKs
    obtain ⟨v0, v1, _, _, _, _, _, _, v8, _, _, _, _⟩ := HV.out.2.2.2.1.facts
    obtain ⟨inE, hinE⟩ : ∃ b, b = decide (x.d.ty ∈ earl) := ⟨_, rfl⟩
    rw [← hinE]
    by_cases e3 : x.d.kd = 3
    · rw [e3] at v0
      cases inE with
      | false =>
        have HQ : Hid (q = some (7, x.d.at_)) := o3 e3 (of_decide_eq_false hinE.symm)
        clear o3 o4 hinE e3
        go_wp2_with fail
        refine (cT 7 _).mono ?_
        rintro e w9 hth
        have hfin := DoneA.of_thr (P := fun w' => Ck w' K eb nb' sb earl (x.d.nm :: names) (seenN seen x.d) ke (kn + 1) (ks + 1)) HQ.out HV.out.1 HV.out.2.1 HV.out.2.2.2.2.2 hth
        obtain ⟨A, rfl, _⟩ := hth
        unfold thrownY
        go_wp2
        exact ⟨rfl, hfin⟩
      | true =>
        have HQ0 : q = (misO seen x.d.ct).map fun p => (5, p) := o4 (fun hc => hc.2 (of_decide_eq_true hinE.symm))
        clear o3 o4 hinE
        have cA := ask_at V K eb nb' sb ks seen x.pc x.d.ct HV.out.2.2.1.h HV.out.2.2.1.s HV.out.2.2.2.2.1 ho
        obtain ⟨mo, hmo⟩ : ∃ mo, mo = misO seen x.d.ct := ⟨_, rfl⟩
        rw [← hmo] at cA HQ0
        have HQ1 : Hid (q = mo.map fun p => (5, p)) := HQ0
        clear HQ0 hmo
        go_wp2_with fail
        refine cA.mono ?_
        rintro e w5 ⟨hb5, hans⟩
        cases mo with
        | some p0 =>
          obtain ⟨A, rfl, hA1, hA2⟩ := hans
          have hfin : DoneA B w q (fun w' => Ck w' K eb nb' sb earl (x.d.nm :: names) (seenN seen x.d) ke (kn + 1) (ks + 1)) (thrownY A) w5 := by
            refine ⟨HV.out.1.trans (hb5.mono HV.out.2.2.2.2.2), HV.out.2.1.trans (Kx.bl hb5), ?_⟩
            rw [show q = some (5, p0) from HQ1.out]
            exact ⟨A, rfl, Nat.le_trans HV.out.2.2.2.2.2 hA1, hA2⟩
          unfold thrownY
          go_wp2
          exact ⟨rfl, hfin⟩
        | none =>
          dsimp only at hans
          subst hans
          have HQ : Hid (q = none) := HQ1.out
          have H5 : Hid (Below B w w5 ∧ Kx w w5 ∧ Ck w5 K eb nb' sb earl (x.d.nm :: names) seen ke (kn + 1) ks ∧ Iv w5 N x ∧ B ≤ w5.heap.size) := ⟨HV.out.1.trans (hb5.mono HV.out.2.2.2.2.2), HV.out.2.1.trans (Kx.bl hb5), HV.out.2.2.1.bl hb5, HV.out.2.2.2.1.bl hb5, Nat.le_trans HV.out.2.2.2.2.2 hb5.size⟩
          obtain ⟨y0, y1, y2, y3, y4, y5, y6, y7, y8, y9, y10, y11, y12⟩ := H5.out.2.2.2.1.facts
          clear hb5 cA y1 y2 y3 y4 y5 y6 y8 y9 y10 y11 y12 v0 v1 v8
          rw [e3] at y0
          have HSN : Hid (seenN seen x.d = seen) := by show seenN seen x.d = _; unfold seenN; rw [if_neg (fun hc => by omega)]
          clear e3
          have hfin : DoneA B w q (fun w' => Ck w' K eb nb' sb earl (x.d.nm :: names) (seenN seen x.d) ke (kn + 1) (ks + 1)) (.returned (.tuple #[])) w5 := by
            refine ⟨H5.out.1, H5.out.2.1, ?_⟩
            rw [HQ.out]
            refine ⟨rfl, ?_⟩
            have hc := H5.out.2.2.1
            rw [show seenN seen x.d = seen from HSN.out]
            exact ⟨hc.h, hc.e, hc.n, hc.s.mono (Nat.le_succ _), hc.d1, hc.d2, hc.d3⟩
          go_wp2
          go_end0
          exact hfin
    · have e3' : ¬ ((x.d.kd : Int) = 3) := by omega
      have HQ0 : q = (misO seen x.d.ct).map fun p => (5, p) := o4 (fun hc => e3 hc.1)
      clear o3 o4 hinE
      have cA := ask_at V K eb nb' sb ks seen x.pc x.d.ct HV.out.2.2.1.h HV.out.2.2.1.s HV.out.2.2.2.2.1 ho
      obtain ⟨mo, hmo⟩ : ∃ mo, mo = misO seen x.d.ct := ⟨_, rfl⟩
      rw [← hmo] at cA HQ0
      have HQ1 : Hid (q = mo.map fun p => (5, p)) := HQ0
      clear HQ0 hmo
      go_wp2_with fail
      refine cA.mono ?_
      rintro e w5 ⟨hb5, hans⟩
      cases mo with
      | some p0 =>
        obtain ⟨A, rfl, hA1, hA2⟩ := hans
        have hfin : DoneA B w q (fun w' => Ck w' K eb nb' sb earl (x.d.nm :: names) (seenN seen x.d) ke (kn + 1) (ks + 1)) (thrownY A) w5 := by
          refine ⟨HV.out.1.trans (hb5.mono HV.out.2.2.2.2.2), HV.out.2.1.trans (Kx.bl hb5), ?_⟩
          rw [show q = some (5, p0) from HQ1.out]
          exact ⟨A, rfl, Nat.le_trans HV.out.2.2.2.2.2 hA1, hA2⟩
        unfold thrownY
        go_wp2
        exact ⟨rfl, hfin⟩
      | none =>
        dsimp only at hans
        subst hans
        have HQ : Hid (q = none) := HQ1.out
        have H5 : Hid (Below B w w5 ∧ Kx w w5 ∧ Ck w5 K eb nb' sb earl (x.d.nm :: names) seen ke (kn + 1) ks ∧ Iv w5 N x ∧ B ≤ w5.heap.size) := ⟨HV.out.1.trans (hb5.mono HV.out.2.2.2.2.2), HV.out.2.1.trans (Kx.bl hb5), HV.out.2.2.1.bl hb5, HV.out.2.2.2.1.bl hb5, Nat.le_trans HV.out.2.2.2.2.2 hb5.size⟩
        obtain ⟨y0, y1, y2, y3, y4, y5, y6, y7, y8, y9, y10, y11, y12⟩ := H5.out.2.2.2.1.facts
        clear hb5 cA y1 y2 y3 y4 y5 y6 y8 y9 y10 y11 y12 v0 v1 v8
        by_cases e1 : x.d.kd = 1
        · rcases Bool.eq_false_or_eq_true x.d.mn with hmn | hmn
          · rw [e1] at y0
            rw [hmn] at y7
            have HSN : Hid (seenN seen x.d = seen) := by show seenN seen x.d = _; unfold seenN; rw [if_neg (fun hc => by rw [hmn] at hc; cases hc.2)]
            clear e1 hmn
            have hfin : DoneA B w q (fun w' => Ck w' K eb nb' sb earl (x.d.nm :: names) (seenN seen x.d) ke (kn + 1) (ks + 1)) (.returned (.tuple #[])) w5 := by
              refine ⟨H5.out.1, H5.out.2.1, ?_⟩
              rw [HQ.out]
              refine ⟨rfl, ?_⟩
              have hc := H5.out.2.2.1
              rw [show seenN seen x.d = seen from HSN.out]
              exact ⟨hc.h, hc.e, hc.n, hc.s.mono (Nat.le_succ _), hc.d1, hc.d2, hc.d3⟩
            go_wp2
            go_end0
            exact hfin
          · rw [e1] at y0
            rw [hmn] at y7
            have HSN : Hid (seenN seen x.d = x.d.nm :: seen) := by show seenN seen x.d = _; unfold seenN; rw [if_pos ⟨e1, hmn⟩]
            clear e1 hmn
            have hbD := (Bl.refl w5).drew
            have hcD := H5.out.2.2.1.bl hbD
            obtain ⟨f0, f1, f2, f3, f4, f5, f6, f7, f8, f9, f10, f11, f12⟩ := (H5.out.2.2.2.1.bl hbD).facts
            obtain ⟨k0, k1, k2⟩ := hcD.cells
            have hKs := lt_of_heap hcD.h
            obtain ⟨w7, hr7, hn7, hg7⟩ := hcD.s.put x.d.nm 0 h1 (by unfold R64; omega) (by omega)
            have hfin : DoneA B w q (fun w' => Ck w' K eb nb' sb earl (x.d.nm :: names) (seenN seen x.d) ke (kn + 1) (ks + 1)) (.returned (.tuple #[])) w7 := by
              have kx := (H5.out.2.1.trans (Kx.bl hbD)).trans (Kx.map hcD.s hg7)
              refine ⟨below_grown (H5.out.1.trans (hbD.mono H5.out.2.2.2.2)) hg7 hB2 (Nat.le_trans H5.out.2.2.2.2 hbD.size), kx, ?_⟩
              rw [HQ.out]
              refine ⟨rfl, ?_⟩
              rw [show seenN seen x.d = x.d.nm :: seen from HSN.out]
              exact hcD.putS hg7 hn7
            clear hn7 hg7 hcD hbD f0 f1 f3 f4 f5 f6 f7 f8 f9 f10 f11 f12 k0 k1
            go_upto_region 10 with fail
            go_region
            all_goals
              go_wp2
              go_end0
              exact hfin
        · have e1' : ¬ ((x.d.kd : Int) = 1) := by omega
          have HSN : Hid (seenN seen x.d = seen) := by show seenN seen x.d = _; unfold seenN; rw [if_neg (fun hc => e1 hc.1)]
          have hfin : DoneA B w q (fun w' => Ck w' K eb nb' sb earl (x.d.nm :: names) (seenN seen x.d) ke (kn + 1) (ks + 1)) (.returned (.tuple #[])) w5 := by
            refine ⟨H5.out.1, H5.out.2.1, ?_⟩
            rw [HQ.out]
            refine ⟨rfl, ?_⟩
            have hc := H5.out.2.2.1
            rw [show seenN seen x.d = seen from HSN.out]
            exact ⟨hc.h, hc.e, hc.n, hc.s.mono (Nat.le_succ _), hc.d1, hc.d2, hc.d3⟩
          go_wp2
          go_end0
          exact hfin
end Go.Proofs.YtococaecjecjgaaGreatDoor.tm
