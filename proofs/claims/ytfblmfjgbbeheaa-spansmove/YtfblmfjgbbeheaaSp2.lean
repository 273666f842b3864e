/- What Right, Moved, Equal and sameSpans answer. -/
import Derived.Test.YtfblmfjgbbeheaaSp1
namespace Go.Proofs.Ytfblmfjgbbeheaa.sp
set_option linter.unusedVariables false
open Go.ChangeShapes Go.WideShapes Go.ChangeAt Go.RowKit
open mem rows span

def rightB : Int → List (Int × Int) → Bool
  | _, [] => true
  | m, x :: l => decide (m < x.1) && (decide (x.1 < x.2) && rightB x.2 l)
theorem rightB_iff (m : Int) (l : List (Int × Int)) : rightB m l = true ↔ rightFrom m l := by
  induction l generalizing m with
  | nil => exact ⟨fun _ => trivial, fun _ => rfl⟩
  | cons x l ih => rw [rightB, rightFrom, Bool.and_eq_true, Bool.and_eq_true, decide_eq_true_iff, decide_eq_true_iff, ih]
theorem drop_nth (l : List (Int × Int)) (k : Nat) (h : k < l.length) : l.drop k = nth l k :: l.drop (k + 1) := by
  rw [List.drop_eq_getElem_cons h]
  unfold nth
  rw [List.getD_eq_getElem?_getD, List.getElem?_eq_getElem h]
  rfl
theorem rightB_step (m : Int) (l : List (Int × Int)) (k : Nat) (h : k < l.length) : rightB m (l.drop k) = (decide (m < (nth l k).1) && (decide ((nth l k).1 < (nth l k).2) && rightB (nth l k).2 (l.drop (k + 1)))) := by
  rw [drop_nth l k h]
  rfl
theorem rightB_end (m : Int) (l : List (Int × Int)) (k : Nat) (h : k = l.length) : rightB m (l.drop k) = true := by
  rw [h, List.drop_length]
  rfl
theorem Right_at (v : Value) (l : List (Int × Int)) (w : World) (hv : View w v l) (hl : l.length ≤ 5000) :
    Calls Try.prog 15 #[v] w fun e w' => e = .returned (.bool (rightB (-1) l)) ∧ Bl w w' := by
  obtain ⟨q, c, rfl, hq⟩ := hv
  obtain ⟨m, hm⟩ : ∃ m, m = l.length := ⟨_, rfl⟩
  rw [← hm] at hl ⊢
  have HM : Hid (m = l.length) := hm
  have HP : Hid (InS w q l) := hq
  clear hm hq
  go_enter Try.func15, Try.ntmps15
  go_wp2
  go_loopw [3, 8] (fun av i wr => ∃ (k : Nat) (z : Int), k ≤ m ∧ i = .int .i64 (k : Int) ∧ av = .int .i64 z ∧ Hid (rightB (-1) l = rightB z (l.drop k)) ∧ Bl w wr) (fun _ i _ => m - (intOf i).toNat)
  case atStart => exact ⟨0, -1, Nat.zero_le _, rfl, rfl, rfl, Bl.refl _⟩
  case round =>
    obtain ⟨k, z, hk, rfl, rfl, HN, hbl⟩ := hrel
    by_cases hlt : k < m
    · have hlz : (k : Int) < (m : Int) := by omega
      obtain ⟨x, rfl, hc1, hc2⟩ := (HP.out.step hbl).at k (by rw [← HM.out]; exact hlt)
      have HN' : Hid (rightB (-1) l = (decide (z < (nth l k).1) && (decide ((nth l k).1 < (nth l k).2) && rightB (nth l k).2 (l.drop (k + 1))))) := HN.out.trans (rightB_step z l k (by rw [← HM.out]; exact hlt))
      clear HN
      generalize (nth l k).1 = a at hc1 HN'
      generalize (nth l k).2 = b at hc2 HN'
      by_cases h1 : a ≤ z
      · go_wp2
        go_ret
        exact ⟨ret_bool (by rw [HN'.out, decide_eq_false (by omega)]; rfl), hbl.alloc _⟩
      · by_cases h2 : b ≤ a
        · go_wp2
          go_ret
          exact ⟨ret_bool (by rw [HN'.out, decide_eq_false (show ¬ a < b by omega), Bool.false_and, Bool.and_false]), hbl.alloc _⟩
        · go_wp2
          go_roundw
          case rel => exact ⟨k + 1, b, by omega, by go_num, rfl, by rw [Hid, HN'.out, decide_eq_true (by omega), decide_eq_true (by omega)]; rfl, hbl.alloc _⟩
          case measure => simp [intOf]; omega
    · obtain rfl : k = m := by omega
      go_wp2
      go_ret
      exact ⟨ret_bool (by rw [HN.out, rightB_end z l k HM.out]), hbl⟩
/-- Where a place is behind an edit. -/
def mv (p a o i : Int) : Int := if p < a then p else if o ≤ p - a then p - o + i else a + min (p - a) i
theorem ret_int {x y : Int} {k : IntKind} (h : x = y) : Ending.returned (.int k x) = .returned (.int k y) := by rw [h]
def sm (z : Int) : Prop := 0 ≤ z ∧ z ≤ 1099511627776
theorem refMoved_at (p a o i : Int) (w : World) (hp : sm p) (ha : sm a) (ho : sm o) (hi : sm i) :
    Calls Try.prog 24 #[.int .i64 p, .int .i64 a, .int .i64 o, .int .i64 i] w fun e w' => e = .returned (.int .i64 (mv p a o i)) ∧ w' = w := by
  unfold sm at hp ha ho hi
  obtain ⟨hp0, hp1⟩ := hp
  obtain ⟨ha0, ha1⟩ := ha
  obtain ⟨ho0, ho1⟩ := ho
  obtain ⟨hi0, hi1⟩ := hi
  go_enter Try.func24, Try.ntmps24
  by_cases h1 : p < a
  · go_wp2
    go_ret
    exact ⟨ret_int (by unfold mv; rw [if_pos h1]), rfl⟩
  · by_cases h2 : o ≤ p - a
    · go_wp2
      go_ret
      exact ⟨ret_int (by unfold mv; rw [if_neg (by omega), if_pos (by omega)]), rfl⟩
    · go_wp2
      all_goals
        go_ret
        refine ⟨ret_int ?_, rfl⟩
        unfold mv
        rw [if_neg (by omega), if_neg (by omega)]
        omega
theorem Moved_at (p a o i : Int) (w : World) (hp : sm p) (ha : sm a) (ho : sm o) (hi : sm i) :
    Calls Try.prog 25 #[.int .i64 p, .int .i64 a, .int .i64 o, .int .i64 i] w fun e w' => e = .returned (.int .i64 (mv p a o i)) ∧ w' = w := by
  unfold sm at hp ha ho hi
  obtain ⟨hp0, hp1⟩ := hp
  obtain ⟨ha0, ha1⟩ := ha
  obtain ⟨ho0, ho1⟩ := ho
  obtain ⟨hi0, hi1⟩ := hi
  go_enter Try.func25, Try.ntmps25
  by_cases h1 : p < a
  · go_wp2
    go_ret
    exact ⟨ret_int (by unfold mv; rw [if_pos h1]), rfl⟩
  · by_cases h2 : o ≤ p - a
    · go_wp2
      go_ret
      exact ⟨ret_int (by unfold mv; rw [if_neg (by omega), if_pos (by omega)]), rfl⟩
    · go_wp2
      all_goals
        go_ret
        refine ⟨ret_int ?_, rfl⟩
        unfold mv
        rw [if_neg (by omega), if_neg (by omega)]
        omega
theorem same_all {a b : List (Int × Int)} (hl : a.length = b.length) (h : ∀ j, j < a.length → nth a j = nth b j) : a = b := by
  apply List.ext_getElem hl
  intro i h1 h2
  have := h i h1
  unfold nth at this
  rwa [List.getD_eq_getElem?_getD, List.getD_eq_getElem?_getD, List.getElem?_eq_getElem h1, List.getElem?_eq_getElem h2] at this
theorem same_no {a b : List (Int × Int)} {j : Nat} (h : nth a j ≠ nth b j) : decide (a = b) = false := decide_eq_false fun e => h (by rw [e])
theorem equal_at (v v' : Value) (l l' : List (Int × Int)) (w : World) (hv : View w v l) (hv' : View w v' l') (hl : l.length ≤ 5000) (hl' : l'.length ≤ 5000) :
    Calls Try.prog 29 #[v, v'] w fun e w' => e = .returned (.bool (decide (l = l'))) ∧ Bl w w' := by
  obtain ⟨q, c, rfl, hq⟩ := hv
  obtain ⟨q', c', rfl, hq'⟩ := hv'
  obtain ⟨m, hm⟩ : ∃ m, m = l.length := ⟨_, rfl⟩
  obtain ⟨m', hm'⟩ : ∃ m', m' = l'.length := ⟨_, rfl⟩
  rw [← hm] at hl ⊢
  rw [← hm'] at hl' ⊢
  have HM : Hid (m = l.length) := hm
  have HM' : Hid (m' = l'.length) := hm'
  have HP : Hid (InS w q l) := hq
  have HQ : Hid (InS w q' l') := hq'
  clear hm hq hm' hq'
  by_cases hne : m = m'
  · subst hne
    go_enter Try.func29, Try.ntmps29
    go_wp2
    go_loopw [13] (fun i wr => ∃ k : Nat, k ≤ m ∧ i = .int .i64 (k : Int) ∧ Hid (∀ j, j < k → nth l j = nth l' j) ∧ Dr w wr) (fun i _ => m - (intOf i).toNat)
    case atStart => exact ⟨0, Nat.zero_le _, rfl, fun j hj => absurd hj (Nat.not_lt_zero _), Dr.refl _⟩
    case round =>
      obtain ⟨k, hk, rfl, HN, hd⟩ := hrel
      by_cases hlt : k < m
      · obtain ⟨qn, rfl⟩ := hd
        obtain ⟨x, rfl, hc1, hc2⟩ := (HP.out.step ((Dr.drewN qn (Dr.refl w)).bl)).at k (by rw [← HM.out]; exact hlt)
        obtain ⟨x', rfl, hd1, hd2⟩ := (HQ.out.step ((Dr.drewN qn (Dr.refl w)).bl)).at k (by rw [← HM'.out]; exact hlt)
        have HY : Hid (nth l k = nth l' k → ∀ j, j < k + 1 → nth l j = nth l' j) := fun h j hj => by
          rcases Nat.lt_or_ge j k with h' | h'
          · exact HN.out j h'
          · obtain rfl : j = k := by omega
            exact h
        have HX : Hid (nth l k ≠ nth l' k → decide (l = l') = false) := fun h => same_no h
        clear HN
        generalize nth l k = y at hc1 hc2 HX HY
        generalize nth l' k = y' at hd1 hd2 HX HY
        obtain ⟨a, b⟩ := y
        obtain ⟨a', b'⟩ := y'
        simp only at hc1 hc2 hd1 hd2
        generalize hwq : w.drewN qn = wq at hc1 hc2 hd1 hd2 ⊢
        have hlz : (k : Int) < (m : Int) := by omega
        have HW : Hid (w.drewN qn = wq) := hwq
        clear hwq
        by_cases h1 : a = a' ∧ b = b'
        · obtain ⟨rfl, rfl⟩ := h1
          go_wp2
          go_quiet (fail)
          go_wp2
          go_roundw
          case rel => exact ⟨k + 1, by omega, by go_num, HY.out trivial, by rw [← HW.out]; exact Dr.drewN _ ⟨qn, rfl⟩⟩
          case measure => simp [intOf]; omega
        · have hp : ¬ a = a' ∨ (a = a' ∧ ¬ b = b') := by
            by_cases e : a = a'
            · exact Or.inr ⟨e, fun e' => h1 ⟨e, e'⟩⟩
            · exact Or.inl e
          have HX' : Hid (decide (l = l') = false) := HX.out (fun e => h1 (Prod.mk.inj e))
          clear HX HY h1
          rcases hp with hp | ⟨rfl, hp⟩
          · go_wp2
            go_quiet (fail)
            go_wp2
            go_ret
            exact ⟨ret_bool HX'.out.symm, by rw [← HW.out]; exact (Dr.drewN _ (Dr.drewN qn (Dr.refl w))).bl⟩
          · go_wp2
            go_quiet (fail)
            go_wp2
            go_ret
            exact ⟨ret_bool HX'.out.symm, by rw [← HW.out]; exact (Dr.drewN _ (Dr.drewN qn (Dr.refl w))).bl⟩
      · obtain rfl : k = m := by omega
        have ha : decide (l = l') = true := decide_eq_true (same_all (by rw [← HM.out, ← HM'.out]) (fun j hj => HN.out j (by rw [HM.out]; exact hj)))
        have HA : Hid (decide (l = l') = true) := ha
        clear ha HN
        go_wp2
        go_ret
        exact ⟨ret_bool HA.out.symm, hd.bl⟩
  · have hz : ¬ ((m : Int) = (m' : Int)) := by omega
    go_enter Try.func29, Try.ntmps29
    go_wp2
    go_ret
    exact ⟨ret_bool (decide_eq_false fun e => hne (by rw [HM.out, HM'.out, e])).symm, Bl.refl _⟩
theorem sameSpans_at (v v' : Value) (l l' : List (Int × Int)) (w : World) (hv : View w v l) (hv' : View w v' l') (hl : l.length ≤ 5000) (hl' : l'.length ≤ 5000) :
    Calls Try.prog 18 #[v, v'] w fun e w' => e = .returned (.bool (decide (l = l'))) ∧ Bl w w' := by
  obtain ⟨q, c, rfl, hq⟩ := hv
  obtain ⟨q', c', rfl, hq'⟩ := hv'
  obtain ⟨m, hm⟩ : ∃ m, m = l.length := ⟨_, rfl⟩
  obtain ⟨m', hm'⟩ : ∃ m', m' = l'.length := ⟨_, rfl⟩
  rw [← hm] at hl ⊢
  rw [← hm'] at hl' ⊢
  have HM : Hid (m = l.length) := hm
  have HM' : Hid (m' = l'.length) := hm'
  have HP : Hid (InS w q l) := hq
  have HQ : Hid (InS w q' l') := hq'
  clear hm hq hm' hq'
  by_cases hne : m = m'
  · subst hne
    go_enter Try.func18, Try.ntmps18
    go_wp2
    go_loopw [5] (fun i wr => ∃ k : Nat, k ≤ m ∧ i = .int .i64 (k : Int) ∧ Hid (∀ j, j < k → nth l j = nth l' j) ∧ Dr w wr) (fun i _ => m - (intOf i).toNat)
    case atStart => exact ⟨0, Nat.zero_le _, rfl, fun j hj => absurd hj (Nat.not_lt_zero _), Dr.refl _⟩
    case round =>
      obtain ⟨k, hk, rfl, HN, hd⟩ := hrel
      by_cases hlt : k < m
      · obtain ⟨qn, rfl⟩ := hd
        obtain ⟨x, rfl, hc1, hc2⟩ := (HP.out.step ((Dr.drewN qn (Dr.refl w)).bl)).at k (by rw [← HM.out]; exact hlt)
        obtain ⟨x', rfl, hd1, hd2⟩ := (HQ.out.step ((Dr.drewN qn (Dr.refl w)).bl)).at k (by rw [← HM'.out]; exact hlt)
        have HY : Hid (nth l k = nth l' k → ∀ j, j < k + 1 → nth l j = nth l' j) := fun h j hj => by
          rcases Nat.lt_or_ge j k with h' | h'
          · exact HN.out j h'
          · obtain rfl : j = k := by omega
            exact h
        have HX : Hid (nth l k ≠ nth l' k → decide (l = l') = false) := fun h => same_no h
        clear HN
        generalize nth l k = y at hc1 hc2 HX HY
        generalize nth l' k = y' at hd1 hd2 HX HY
        obtain ⟨a, b⟩ := y
        obtain ⟨a', b'⟩ := y'
        simp only at hc1 hc2 hd1 hd2
        generalize hwq : w.drewN qn = wq at hc1 hc2 hd1 hd2 ⊢
        have hlz : (k : Int) < (m : Int) := by omega
        have HW : Hid (w.drewN qn = wq) := hwq
        clear hwq
        by_cases h1 : a = a' ∧ b = b'
        · obtain ⟨rfl, rfl⟩ := h1
          go_wp2
          go_quiet (fail)
          go_wp2
          go_roundw
          case rel => exact ⟨k + 1, by omega, by go_num, HY.out trivial, by rw [← HW.out]; exact Dr.drewN _ ⟨qn, rfl⟩⟩
          case measure => simp [intOf]; omega
        · have hp : ¬ a = a' ∨ (a = a' ∧ ¬ b = b') := by
            by_cases e : a = a'
            · exact Or.inr ⟨e, fun e' => h1 ⟨e, e'⟩⟩
            · exact Or.inl e
          have HX' : Hid (decide (l = l') = false) := HX.out (fun e => h1 (Prod.mk.inj e))
          clear HX HY h1
          rcases hp with hp | ⟨rfl, hp⟩
          · go_wp2
            go_quiet (fail)
            go_wp2
            go_ret
            exact ⟨ret_bool HX'.out.symm, by rw [← HW.out]; exact (Dr.drewN _ (Dr.drewN qn (Dr.refl w))).bl⟩
          · go_wp2
            go_quiet (fail)
            go_wp2
            go_ret
            exact ⟨ret_bool HX'.out.symm, by rw [← HW.out]; exact (Dr.drewN _ (Dr.drewN qn (Dr.refl w))).bl⟩
      · obtain rfl : k = m := by omega
        have ha : decide (l = l') = true := decide_eq_true (same_all (by rw [← HM.out, ← HM'.out]) (fun j hj => HN.out j (by rw [HM.out]; exact hj)))
        have HA : Hid (decide (l = l') = true) := ha
        clear ha HN
        go_wp2
        go_ret
        exact ⟨ret_bool HA.out.symm, hd.bl⟩
  · have hz : ¬ ((m : Int) = (m' : Int)) := by omega
    go_enter Try.func18, Try.ntmps18
    go_wp2
    go_ret
    exact ⟨ret_bool (decide_eq_false fun e => hne (by rw [HM.out, HM'.out, e])).symm, Bl.refl _⟩
end Go.Proofs.Ytfblmfjgbbeheaa.sp
