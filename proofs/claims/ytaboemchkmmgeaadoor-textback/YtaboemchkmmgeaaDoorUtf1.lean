/- What FullRuneInString of the library and begun of package text answer. -/
import Derived.Test.YtaboemchkmmgeaaDoorChecked
import Derived.Test.YtaboemchkmmgeaaDoorMem
import Derived.Test.YtaboemchkmmgeaaDoorUtfP
import Derived.WalkSpells
import Derived.Shelf.Unicode.DecodeAny
namespace Go.Proofs.YtaboemchkmmgeaaDoor.utf
open Go.ChangeShapes Go.WideShapes Go.ChangeAt Go.RowKit Go.Lib
open mem

/-- Byte j of a text. -/
def nb (s : ByteArray) (j : Nat) : Nat := (s.data.toList.getD j 0).toNat
theorem nb_lt (s : ByteArray) (j : Nat) : nb s j < 256 := (s.data.toList.getD j 0).toNat_lt
theorem nb_get (s : ByteArray) (j : Nat) (h : j < s.size) : nb s j = (s[j]'h).toNat := by
  unfold nb
  have h' : j < s.data.toList.length := by simpa using h
  rw [List.getD_eq_getElem?_getD, List.getElem?_eq_getElem h']
  rfl
theorem nb_get! (s : ByteArray) (j : Nat) : nb s j = (s.get! j).toNat := by
  unfold nb
  cases s with
  | mk d =>
    show _ = (d[j]!).toNat
    rw [List.getD_eq_getElem?_getD, Array.getElem?_toList, getElem!_def]
    cases d[j]? <;> rfl
/-- The library's two tables, as the program's text lays them. -/
def Tabs (w : World) : Prop :=
  (∀ c, c < 256 → w.cell? ⟨1, c, none⟩ = some (.int .u8 (firstT c))) ∧
  (∀ i, i < 16 → w.cell? ⟨2, 2 * i, none⟩ = some (.int .u8 (accLo i)) ∧ w.cell? ⟨2, 2 * i + 1, none⟩ = some (.int .u8 (accHi i)))
theorem Tabs.bl {w w' : World} (h : Tabs w) (hb : Bl w w') (h3 : 2 < w.heap.size) : Tabs w' := by
  have e : ∀ g c, g < w.heap.size → w'.cell? ⟨g, c, none⟩ = w.cell? ⟨g, c, none⟩ := fun g c hg => by
    unfold World.cell?
    rw [Below.block hb g hg]
  exact ⟨fun c hc => by rw [e _ _ (by omega)]; exact h.1 c hc, fun i hi => by rw [e _ _ (by omega), e _ _ (by omega)]; exact h.2 i hi⟩
theorem Tabs.size {w : World} (h : Tabs w) : 2 < w.heap.size := by
  have := (h.2 0 (by omega)).1
  unfold World.cell? at this
  rcases Nat.lt_or_ge 2 w.heap.size with hlt | hge
  · exact hlt
  · rw [Array.getElem?_eq_none (by simpa using hge)] at this
    cases this
theorem Tabs.step {w w' : World} (h : Tabs w) (hb : Bl w w') : Tabs w' := h.bl hb h.size
theorem six_true (a b c d e f g : Prop) [Decidable a] [Decidable b] [Decidable c] [Decidable d] [Decidable e] [Decidable f] [Decidable g] (h : a ∨ (b ∧ (c ∨ d)) ∨ (e ∧ (f ∨ g))) : (decide a || (decide b && (decide c || decide d)) || (decide e && (decide f || decide g))) = true := by
  by_cases ha : a <;> by_cases hb : b <;> by_cases hc : c <;> by_cases hd : d <;> by_cases he : e <;> by_cases hf : f <;> by_cases hg : g <;> simp_all
theorem six_false (a b c d e f g : Prop) [Decidable a] [Decidable b] [Decidable c] [Decidable d] [Decidable e] [Decidable f] [Decidable g] (h : ¬ (a ∨ (b ∧ (c ∨ d)) ∨ (e ∧ (f ∨ g)))) : (decide a || (decide b && (decide c || decide d)) || (decide e && (decide f || decide g))) = false := by
  by_cases ha : a <;> by_cases hb : b <;> by_cases hc : c <;> by_cases hd : d <;> by_cases he : e <;> by_cases hf : f <;> by_cases hg : g <;> simp_all
set_option maxHeartbeats 4000000 in
set_option maxRecDepth 100000 in
theorem Full_at (s : ByteArray) (w : World) (hs : 1 ≤ s.size) (hs2 : s.size ≤ 1000) (hT : Tabs w) :
    Calls Tryd.prog 45 #[.string s] w fun e w' => e = .returned (.bool (fullN s.size (nb s 0) (nb s 1) (nb s 2))) ∧ Bl w w' := by
  have hz0 : (0 : Int) < (s.size : Int) := by omega
  have hne : ((s.size : Int) == 0) = false := by rw [beq_eq_false_iff_ne]; omega
  obtain ⟨x0, hx0⟩ : ∃ x0, nb s 0 = x0 := ⟨_, rfl⟩
  obtain ⟨x1, hx1⟩ : ∃ x1, nb s 1 = x1 := ⟨_, rfl⟩
  obtain ⟨x2, hx2⟩ : ∃ x2, nb s 2 = x2 := ⟨_, rfl⟩
  have l0 : x0 < 256 := by rw [← hx0]; exact nb_lt s 0
  have l1 : x1 < 256 := by rw [← hx1]; exact nb_lt s 1
  have l2 : x2 < 256 := by rw [← hx2]; exact nb_lt s 2
  have hs0 : (((s[0]'(by omega)).toNat : Nat) : Int) = (x0 : Int) := by rw [← nb_get s 0 (by omega), hx0]
  have hc0 := hT.1 x0 l0
  rw [hx0, hx1, hx2]
  rcases firstT_cases x0 with hX | hX | hX | hX | hX | hX | hX | hX | hX
  · have e : fullN s.size x0 x1 x2 = true := by simp [fullN, hX]
    rw [e]
    rw [hX] at hc0
    clear hT hX e
    skip
    go_enter Tryd.func45, Tryd.ntmps45
    go_wp2
    go_ret
    exact ⟨rfl, Bl.refl _⟩
  · have e : fullN s.size x0 x1 x2 = true := by simp [fullN, hX]; omega
    rw [e]
    rw [hX] at hc0
    clear hT hX e
    have hz1 : (1 : Int) ≤ (s.size : Int) := by omega
    go_enter Tryd.func45, Tryd.ntmps45
    go_wp2
    go_ret
    exact ⟨rfl, Bl.refl _⟩
  · have ha0 := (hT.2 0 (by omega)).1
    have ha1 := (hT.2 0 (by omega)).2
    rw [hX] at hc0
    simp only [accLo, accHi, Nat.reduceMul, Nat.reduceAdd, Nat.reduceEqDiff, if_true, if_false] at ha0 ha1
    have hf : fullN s.size x0 x1 x2 = (decide (2 ≤ s.size) || (decide (1 < s.size) && (decide (x1 < 128) || decide (191 < x1))) || (decide (2 < s.size) && (decide (x2 < 128) || decide (191 < x2)))) := by
      simp only [fullN, hX, accLo, accHi, Nat.reduceMod, Nat.reduceDiv, Nat.reduceEqDiff, if_true, if_false]
    rw [hf]
    clear hf hX hT
    by_cases hn : 2 ≤ s.size
    · have hnz : (2 : Int) ≤ (s.size : Int) := by omega
      rw [decide_eq_true hn, Bool.true_or, Bool.true_or]
      go_enter Tryd.func45, Tryd.ntmps45
      go_wp2
      go_ret
      exact ⟨rfl, Bl.refl _⟩
    · have hm : s.size = 1 := by omega
      have hmz : (s.size : Int) = 1 := by omega
      clear hn hz0 hne
      have e : (decide (2 ≤ s.size) || (decide (1 < s.size) && (decide (x1 < 128) || decide (191 < x1))) || (decide (2 < s.size) && (decide (x2 < 128) || decide (191 < x2)))) = false := six_false _ _ _ _ _ _ _ (by omega)
      rw [e]
      clear e
      go_enter Tryd.func45, Tryd.ntmps45
      go_wp2
      go_quiet (fail)
      all_goals (try go_wp2)
      all_goals (go_ret; exact ⟨rfl, by first | exact Bl.refl _ | exact (Bl.refl _).alloc _ | exact ((Bl.refl _).alloc _).drewN _ | exact ((Bl.refl _).alloc _).drew | exact ((Bl.refl _).drew).alloc _⟩)
  · have ha0 := (hT.2 1 (by omega)).1
    have ha1 := (hT.2 1 (by omega)).2
    rw [hX] at hc0
    simp only [accLo, accHi, Nat.reduceMul, Nat.reduceAdd, Nat.reduceEqDiff, if_true, if_false] at ha0 ha1
    have hf : fullN s.size x0 x1 x2 = (decide (3 ≤ s.size) || (decide (1 < s.size) && (decide (x1 < 160) || decide (191 < x1))) || (decide (2 < s.size) && (decide (x2 < 128) || decide (191 < x2)))) := by
      simp only [fullN, hX, accLo, accHi, Nat.reduceMod, Nat.reduceDiv, Nat.reduceEqDiff, if_true, if_false]
    rw [hf]
    clear hf hX hT
    by_cases hn : 3 ≤ s.size
    · have hnz : (3 : Int) ≤ (s.size : Int) := by omega
      rw [decide_eq_true hn, Bool.true_or, Bool.true_or]
      go_enter Tryd.func45, Tryd.ntmps45
      go_wp2
      go_ret
      exact ⟨rfl, Bl.refl _⟩
    by_cases hm : s.size = 1
    · skip
      have hmz : (s.size : Int) = 1 := by omega
      clear hn hz0 hne
      have e : (decide (3 ≤ s.size) || (decide (1 < s.size) && (decide (x1 < 160) || decide (191 < x1))) || (decide (2 < s.size) && (decide (x2 < 128) || decide (191 < x2)))) = false := six_false _ _ _ _ _ _ _ (by omega)
      rw [e]
      clear e
      go_enter Tryd.func45, Tryd.ntmps45
      go_wp2
      go_quiet (fail)
      all_goals (try go_wp2)
      all_goals (go_ret; exact ⟨rfl, by first | exact Bl.refl _ | exact (Bl.refl _).alloc _ | exact ((Bl.refl _).alloc _).drewN _ | exact ((Bl.refl _).alloc _).drew | exact ((Bl.refl _).drew).alloc _⟩)
    · have hm : s.size = 2 := by omega
      have hmz : (s.size : Int) = 2 := by omega
      clear hn hz0 hne
      have hs1 : (((s[1]'(by omega)).toNat : Nat) : Int) = (x1 : Int) := by rw [← nb_get s 1 (by omega), hx1]
      rcases (show x1 < 160 ∨ 191 < x1 ∨ (160 ≤ x1 ∧ x1 ≤ 191) by omega) with c | c | c
      · have cz : (x1 : Int) < 160 := by omega
        have e : (decide (3 ≤ s.size) || (decide (1 < s.size) && (decide (x1 < 160) || decide (191 < x1))) || (decide (2 < s.size) && (decide (x2 < 128) || decide (191 < x2)))) = true := six_true _ _ _ _ _ _ _ (by omega)
        rw [e]
        clear e
        go_enter Tryd.func45, Tryd.ntmps45
        go_wp2
        go_quiet (fail)
        all_goals (try go_wp2)
        all_goals (go_ret; exact ⟨rfl, by first | exact Bl.refl _ | exact (Bl.refl _).alloc _ | exact ((Bl.refl _).alloc _).drewN _ | exact ((Bl.refl _).alloc _).drew | exact ((Bl.refl _).drew).alloc _⟩)
      · have cz : ¬ ((x1 : Int) < 160) := by omega
        have cz2 : (191 : Int) < (x1 : Int) := by omega
        have e : (decide (3 ≤ s.size) || (decide (1 < s.size) && (decide (x1 < 160) || decide (191 < x1))) || (decide (2 < s.size) && (decide (x2 < 128) || decide (191 < x2)))) = true := six_true _ _ _ _ _ _ _ (by omega)
        rw [e]
        clear e
        go_enter Tryd.func45, Tryd.ntmps45
        go_wp2
        go_quiet (fail)
        all_goals (try go_wp2)
        all_goals (go_ret; exact ⟨rfl, by first | exact Bl.refl _ | exact (Bl.refl _).alloc _ | exact ((Bl.refl _).alloc _).drewN _ | exact ((Bl.refl _).alloc _).drew | exact ((Bl.refl _).drew).alloc _⟩)
      · have cz : ¬ ((x1 : Int) < 160) := by omega
        have cz2 : ¬ ((191 : Int) < (x1 : Int)) := by omega
        have e : (decide (3 ≤ s.size) || (decide (1 < s.size) && (decide (x1 < 160) || decide (191 < x1))) || (decide (2 < s.size) && (decide (x2 < 128) || decide (191 < x2)))) = false := six_false _ _ _ _ _ _ _ (by omega)
        rw [e]
        clear e
        go_enter Tryd.func45, Tryd.ntmps45
        go_wp2
        go_quiet (fail)
        all_goals (try go_wp2)
        all_goals (go_ret; exact ⟨rfl, by first | exact Bl.refl _ | exact (Bl.refl _).alloc _ | exact ((Bl.refl _).alloc _).drewN _ | exact ((Bl.refl _).alloc _).drew | exact ((Bl.refl _).drew).alloc _⟩)
  · have ha0 := (hT.2 0 (by omega)).1
    have ha1 := (hT.2 0 (by omega)).2
    rw [hX] at hc0
    simp only [accLo, accHi, Nat.reduceMul, Nat.reduceAdd, Nat.reduceEqDiff, if_true, if_false] at ha0 ha1
    have hf : fullN s.size x0 x1 x2 = (decide (3 ≤ s.size) || (decide (1 < s.size) && (decide (x1 < 128) || decide (191 < x1))) || (decide (2 < s.size) && (decide (x2 < 128) || decide (191 < x2)))) := by
      simp only [fullN, hX, accLo, accHi, Nat.reduceMod, Nat.reduceDiv, Nat.reduceEqDiff, if_true, if_false]
    rw [hf]
    clear hf hX hT
    by_cases hn : 3 ≤ s.size
    · have hnz : (3 : Int) ≤ (s.size : Int) := by omega
      rw [decide_eq_true hn, Bool.true_or, Bool.true_or]
      go_enter Tryd.func45, Tryd.ntmps45
      go_wp2
      go_ret
      exact ⟨rfl, Bl.refl _⟩
    by_cases hm : s.size = 1
    · skip
      have hmz : (s.size : Int) = 1 := by omega
      clear hn hz0 hne
      have e : (decide (3 ≤ s.size) || (decide (1 < s.size) && (decide (x1 < 128) || decide (191 < x1))) || (decide (2 < s.size) && (decide (x2 < 128) || decide (191 < x2)))) = false := six_false _ _ _ _ _ _ _ (by omega)
      rw [e]
      clear e
      go_enter Tryd.func45, Tryd.ntmps45
      go_wp2
      go_quiet (fail)
      all_goals (try go_wp2)
      all_goals (go_ret; exact ⟨rfl, by first | exact Bl.refl _ | exact (Bl.refl _).alloc _ | exact ((Bl.refl _).alloc _).drewN _ | exact ((Bl.refl _).alloc _).drew | exact ((Bl.refl _).drew).alloc _⟩)
    · have hm : s.size = 2 := by omega
      have hmz : (s.size : Int) = 2 := by omega
      clear hn hz0 hne
      have hs1 : (((s[1]'(by omega)).toNat : Nat) : Int) = (x1 : Int) := by rw [← nb_get s 1 (by omega), hx1]
      rcases (show x1 < 128 ∨ 191 < x1 ∨ (128 ≤ x1 ∧ x1 ≤ 191) by omega) with c | c | c
      · have cz : (x1 : Int) < 128 := by omega
        have e : (decide (3 ≤ s.size) || (decide (1 < s.size) && (decide (x1 < 128) || decide (191 < x1))) || (decide (2 < s.size) && (decide (x2 < 128) || decide (191 < x2)))) = true := six_true _ _ _ _ _ _ _ (by omega)
        rw [e]
        clear e
        go_enter Tryd.func45, Tryd.ntmps45
        go_wp2
        go_quiet (fail)
        all_goals (try go_wp2)
        all_goals (go_ret; exact ⟨rfl, by first | exact Bl.refl _ | exact (Bl.refl _).alloc _ | exact ((Bl.refl _).alloc _).drewN _ | exact ((Bl.refl _).alloc _).drew | exact ((Bl.refl _).drew).alloc _⟩)
      · have cz : ¬ ((x1 : Int) < 128) := by omega
        have cz2 : (191 : Int) < (x1 : Int) := by omega
        have e : (decide (3 ≤ s.size) || (decide (1 < s.size) && (decide (x1 < 128) || decide (191 < x1))) || (decide (2 < s.size) && (decide (x2 < 128) || decide (191 < x2)))) = true := six_true _ _ _ _ _ _ _ (by omega)
        rw [e]
        clear e
        go_enter Tryd.func45, Tryd.ntmps45
        go_wp2
        go_quiet (fail)
        all_goals (try go_wp2)
        all_goals (go_ret; exact ⟨rfl, by first | exact Bl.refl _ | exact (Bl.refl _).alloc _ | exact ((Bl.refl _).alloc _).drewN _ | exact ((Bl.refl _).alloc _).drew | exact ((Bl.refl _).drew).alloc _⟩)
      · have cz : ¬ ((x1 : Int) < 128) := by omega
        have cz2 : ¬ ((191 : Int) < (x1 : Int)) := by omega
        have e : (decide (3 ≤ s.size) || (decide (1 < s.size) && (decide (x1 < 128) || decide (191 < x1))) || (decide (2 < s.size) && (decide (x2 < 128) || decide (191 < x2)))) = false := six_false _ _ _ _ _ _ _ (by omega)
        rw [e]
        clear e
        go_enter Tryd.func45, Tryd.ntmps45
        go_wp2
        go_quiet (fail)
        all_goals (try go_wp2)
        all_goals (go_ret; exact ⟨rfl, by first | exact Bl.refl _ | exact (Bl.refl _).alloc _ | exact ((Bl.refl _).alloc _).drewN _ | exact ((Bl.refl _).alloc _).drew | exact ((Bl.refl _).drew).alloc _⟩)
  · have ha0 := (hT.2 2 (by omega)).1
    have ha1 := (hT.2 2 (by omega)).2
    rw [hX] at hc0
    simp only [accLo, accHi, Nat.reduceMul, Nat.reduceAdd, Nat.reduceEqDiff, if_true, if_false] at ha0 ha1
    have hf : fullN s.size x0 x1 x2 = (decide (3 ≤ s.size) || (decide (1 < s.size) && (decide (x1 < 128) || decide (159 < x1))) || (decide (2 < s.size) && (decide (x2 < 128) || decide (191 < x2)))) := by
      simp only [fullN, hX, accLo, accHi, Nat.reduceMod, Nat.reduceDiv, Nat.reduceEqDiff, if_true, if_false]
    rw [hf]
    clear hf hX hT
    by_cases hn : 3 ≤ s.size
    · have hnz : (3 : Int) ≤ (s.size : Int) := by omega
      rw [decide_eq_true hn, Bool.true_or, Bool.true_or]
      go_enter Tryd.func45, Tryd.ntmps45
      go_wp2
      go_ret
      exact ⟨rfl, Bl.refl _⟩
    by_cases hm : s.size = 1
    · skip
      have hmz : (s.size : Int) = 1 := by omega
      clear hn hz0 hne
      have e : (decide (3 ≤ s.size) || (decide (1 < s.size) && (decide (x1 < 128) || decide (159 < x1))) || (decide (2 < s.size) && (decide (x2 < 128) || decide (191 < x2)))) = false := six_false _ _ _ _ _ _ _ (by omega)
      rw [e]
      clear e
      go_enter Tryd.func45, Tryd.ntmps45
      go_wp2
      go_quiet (fail)
      all_goals (try go_wp2)
      all_goals (go_ret; exact ⟨rfl, by first | exact Bl.refl _ | exact (Bl.refl _).alloc _ | exact ((Bl.refl _).alloc _).drewN _ | exact ((Bl.refl _).alloc _).drew | exact ((Bl.refl _).drew).alloc _⟩)
    · have hm : s.size = 2 := by omega
      have hmz : (s.size : Int) = 2 := by omega
      clear hn hz0 hne
      have hs1 : (((s[1]'(by omega)).toNat : Nat) : Int) = (x1 : Int) := by rw [← nb_get s 1 (by omega), hx1]
      rcases (show x1 < 128 ∨ 159 < x1 ∨ (128 ≤ x1 ∧ x1 ≤ 159) by omega) with c | c | c
      · have cz : (x1 : Int) < 128 := by omega
        have e : (decide (3 ≤ s.size) || (decide (1 < s.size) && (decide (x1 < 128) || decide (159 < x1))) || (decide (2 < s.size) && (decide (x2 < 128) || decide (191 < x2)))) = true := six_true _ _ _ _ _ _ _ (by omega)
        rw [e]
        clear e
        go_enter Tryd.func45, Tryd.ntmps45
        go_wp2
        go_quiet (fail)
        all_goals (try go_wp2)
        all_goals (go_ret; exact ⟨rfl, by first | exact Bl.refl _ | exact (Bl.refl _).alloc _ | exact ((Bl.refl _).alloc _).drewN _ | exact ((Bl.refl _).alloc _).drew | exact ((Bl.refl _).drew).alloc _⟩)
      · have cz : ¬ ((x1 : Int) < 128) := by omega
        have cz2 : (159 : Int) < (x1 : Int) := by omega
        have e : (decide (3 ≤ s.size) || (decide (1 < s.size) && (decide (x1 < 128) || decide (159 < x1))) || (decide (2 < s.size) && (decide (x2 < 128) || decide (191 < x2)))) = true := six_true _ _ _ _ _ _ _ (by omega)
        rw [e]
        clear e
        go_enter Tryd.func45, Tryd.ntmps45
        go_wp2
        go_quiet (fail)
        all_goals (try go_wp2)
        all_goals (go_ret; exact ⟨rfl, by first | exact Bl.refl _ | exact (Bl.refl _).alloc _ | exact ((Bl.refl _).alloc _).drewN _ | exact ((Bl.refl _).alloc _).drew | exact ((Bl.refl _).drew).alloc _⟩)
      · have cz : ¬ ((x1 : Int) < 128) := by omega
        have cz2 : ¬ ((159 : Int) < (x1 : Int)) := by omega
        have e : (decide (3 ≤ s.size) || (decide (1 < s.size) && (decide (x1 < 128) || decide (159 < x1))) || (decide (2 < s.size) && (decide (x2 < 128) || decide (191 < x2)))) = false := six_false _ _ _ _ _ _ _ (by omega)
        rw [e]
        clear e
        go_enter Tryd.func45, Tryd.ntmps45
        go_wp2
        go_quiet (fail)
        all_goals (try go_wp2)
        all_goals (go_ret; exact ⟨rfl, by first | exact Bl.refl _ | exact (Bl.refl _).alloc _ | exact ((Bl.refl _).alloc _).drewN _ | exact ((Bl.refl _).alloc _).drew | exact ((Bl.refl _).drew).alloc _⟩)
  · have ha0 := (hT.2 3 (by omega)).1
    have ha1 := (hT.2 3 (by omega)).2
    rw [hX] at hc0
    simp only [accLo, accHi, Nat.reduceMul, Nat.reduceAdd, Nat.reduceEqDiff, if_true, if_false] at ha0 ha1
    have hf : fullN s.size x0 x1 x2 = (decide (4 ≤ s.size) || (decide (1 < s.size) && (decide (x1 < 144) || decide (191 < x1))) || (decide (2 < s.size) && (decide (x2 < 128) || decide (191 < x2)))) := by
      simp only [fullN, hX, accLo, accHi, Nat.reduceMod, Nat.reduceDiv, Nat.reduceEqDiff, if_true, if_false]
    rw [hf]
    clear hf hX hT
    by_cases hn : 4 ≤ s.size
    · have hnz : (4 : Int) ≤ (s.size : Int) := by omega
      rw [decide_eq_true hn, Bool.true_or, Bool.true_or]
      go_enter Tryd.func45, Tryd.ntmps45
      go_wp2
      go_ret
      exact ⟨rfl, Bl.refl _⟩
    by_cases hm : s.size = 1
    · skip
      have hmz : (s.size : Int) = 1 := by omega
      clear hn hz0 hne
      have e : (decide (4 ≤ s.size) || (decide (1 < s.size) && (decide (x1 < 144) || decide (191 < x1))) || (decide (2 < s.size) && (decide (x2 < 128) || decide (191 < x2)))) = false := six_false _ _ _ _ _ _ _ (by omega)
      rw [e]
      clear e
      go_enter Tryd.func45, Tryd.ntmps45
      go_wp2
      go_quiet (fail)
      all_goals (try go_wp2)
      all_goals (go_ret; exact ⟨rfl, by first | exact Bl.refl _ | exact (Bl.refl _).alloc _ | exact ((Bl.refl _).alloc _).drewN _ | exact ((Bl.refl _).alloc _).drew | exact ((Bl.refl _).drew).alloc _⟩)
    by_cases hm : s.size = 2
    · skip
      have hmz : (s.size : Int) = 2 := by omega
      clear hn hz0 hne
      have hs1 : (((s[1]'(by omega)).toNat : Nat) : Int) = (x1 : Int) := by rw [← nb_get s 1 (by omega), hx1]
      rcases (show x1 < 144 ∨ 191 < x1 ∨ (144 ≤ x1 ∧ x1 ≤ 191) by omega) with c | c | c
      · have cz : (x1 : Int) < 144 := by omega
        have e : (decide (4 ≤ s.size) || (decide (1 < s.size) && (decide (x1 < 144) || decide (191 < x1))) || (decide (2 < s.size) && (decide (x2 < 128) || decide (191 < x2)))) = true := six_true _ _ _ _ _ _ _ (by omega)
        rw [e]
        clear e
        go_enter Tryd.func45, Tryd.ntmps45
        go_wp2
        go_quiet (fail)
        all_goals (try go_wp2)
        all_goals (go_ret; exact ⟨rfl, by first | exact Bl.refl _ | exact (Bl.refl _).alloc _ | exact ((Bl.refl _).alloc _).drewN _ | exact ((Bl.refl _).alloc _).drew | exact ((Bl.refl _).drew).alloc _⟩)
      · have cz : ¬ ((x1 : Int) < 144) := by omega
        have cz2 : (191 : Int) < (x1 : Int) := by omega
        have e : (decide (4 ≤ s.size) || (decide (1 < s.size) && (decide (x1 < 144) || decide (191 < x1))) || (decide (2 < s.size) && (decide (x2 < 128) || decide (191 < x2)))) = true := six_true _ _ _ _ _ _ _ (by omega)
        rw [e]
        clear e
        go_enter Tryd.func45, Tryd.ntmps45
        go_wp2
        go_quiet (fail)
        all_goals (try go_wp2)
        all_goals (go_ret; exact ⟨rfl, by first | exact Bl.refl _ | exact (Bl.refl _).alloc _ | exact ((Bl.refl _).alloc _).drewN _ | exact ((Bl.refl _).alloc _).drew | exact ((Bl.refl _).drew).alloc _⟩)
      · have cz : ¬ ((x1 : Int) < 144) := by omega
        have cz2 : ¬ ((191 : Int) < (x1 : Int)) := by omega
        have e : (decide (4 ≤ s.size) || (decide (1 < s.size) && (decide (x1 < 144) || decide (191 < x1))) || (decide (2 < s.size) && (decide (x2 < 128) || decide (191 < x2)))) = false := six_false _ _ _ _ _ _ _ (by omega)
        rw [e]
        clear e
        go_enter Tryd.func45, Tryd.ntmps45
        go_wp2
        go_quiet (fail)
        all_goals (try go_wp2)
        all_goals (go_ret; exact ⟨rfl, by first | exact Bl.refl _ | exact (Bl.refl _).alloc _ | exact ((Bl.refl _).alloc _).drewN _ | exact ((Bl.refl _).alloc _).drew | exact ((Bl.refl _).drew).alloc _⟩)
    · have hm : s.size = 3 := by omega
      have hmz : (s.size : Int) = 3 := by omega
      clear hn hz0 hne
      have hs1 : (((s[1]'(by omega)).toNat : Nat) : Int) = (x1 : Int) := by rw [← nb_get s 1 (by omega), hx1]
      have hs2 : (((s[2]'(by omega)).toNat : Nat) : Int) = (x2 : Int) := by rw [← nb_get s 2 (by omega), hx2]
      rcases (show x1 < 144 ∨ 191 < x1 ∨ (144 ≤ x1 ∧ x1 ≤ 191) by omega) with c | c | c
      · have cz : (x1 : Int) < 144 := by omega
        have e : (decide (4 ≤ s.size) || (decide (1 < s.size) && (decide (x1 < 144) || decide (191 < x1))) || (decide (2 < s.size) && (decide (x2 < 128) || decide (191 < x2)))) = true := six_true _ _ _ _ _ _ _ (by omega)
        rw [e]
        clear e
        go_enter Tryd.func45, Tryd.ntmps45
        go_wp2
        go_quiet (fail)
        all_goals (try go_wp2)
        all_goals (go_ret; exact ⟨rfl, by first | exact Bl.refl _ | exact (Bl.refl _).alloc _ | exact ((Bl.refl _).alloc _).drewN _ | exact ((Bl.refl _).alloc _).drew | exact ((Bl.refl _).drew).alloc _⟩)
      · have cz : ¬ ((x1 : Int) < 144) := by omega
        have cz2 : (191 : Int) < (x1 : Int) := by omega
        have e : (decide (4 ≤ s.size) || (decide (1 < s.size) && (decide (x1 < 144) || decide (191 < x1))) || (decide (2 < s.size) && (decide (x2 < 128) || decide (191 < x2)))) = true := six_true _ _ _ _ _ _ _ (by omega)
        rw [e]
        clear e
        go_enter Tryd.func45, Tryd.ntmps45
        go_wp2
        go_quiet (fail)
        all_goals (try go_wp2)
        all_goals (go_ret; exact ⟨rfl, by first | exact Bl.refl _ | exact (Bl.refl _).alloc _ | exact ((Bl.refl _).alloc _).drewN _ | exact ((Bl.refl _).alloc _).drew | exact ((Bl.refl _).drew).alloc _⟩)
      · have cz : ¬ ((x1 : Int) < 144) := by omega
        have cz2 : ¬ ((191 : Int) < (x1 : Int)) := by omega
        rcases (show x2 < 128 ∨ 191 < x2 ∨ (128 ≤ x2 ∧ x2 ≤ 191) by omega) with c' | c' | c'
        · have dz : (x2 : Int) < 128 := by omega
          have e : (decide (4 ≤ s.size) || (decide (1 < s.size) && (decide (x1 < 144) || decide (191 < x1))) || (decide (2 < s.size) && (decide (x2 < 128) || decide (191 < x2)))) = true := six_true _ _ _ _ _ _ _ (by omega)
          rw [e]
          clear e
          go_enter Tryd.func45, Tryd.ntmps45
          go_wp2
          go_quiet (fail)
          all_goals (try go_wp2)
          all_goals (go_ret; exact ⟨rfl, by first | exact Bl.refl _ | exact (Bl.refl _).alloc _ | exact ((Bl.refl _).alloc _).drewN _ | exact ((Bl.refl _).alloc _).drew | exact ((Bl.refl _).drew).alloc _⟩)
        · have dz : ¬ ((x2 : Int) < 128) := by omega
          have dz2 : (191 : Int) < (x2 : Int) := by omega
          have e : (decide (4 ≤ s.size) || (decide (1 < s.size) && (decide (x1 < 144) || decide (191 < x1))) || (decide (2 < s.size) && (decide (x2 < 128) || decide (191 < x2)))) = true := six_true _ _ _ _ _ _ _ (by omega)
          rw [e]
          clear e
          go_enter Tryd.func45, Tryd.ntmps45
          go_wp2
          go_quiet (fail)
          all_goals (try go_wp2)
          all_goals (go_ret; exact ⟨rfl, by first | exact Bl.refl _ | exact (Bl.refl _).alloc _ | exact ((Bl.refl _).alloc _).drewN _ | exact ((Bl.refl _).alloc _).drew | exact ((Bl.refl _).drew).alloc _⟩)
        · have dz : ¬ ((x2 : Int) < 128) := by omega
          have dz2 : ¬ ((191 : Int) < (x2 : Int)) := by omega
          have e : (decide (4 ≤ s.size) || (decide (1 < s.size) && (decide (x1 < 144) || decide (191 < x1))) || (decide (2 < s.size) && (decide (x2 < 128) || decide (191 < x2)))) = false := six_false _ _ _ _ _ _ _ (by omega)
          rw [e]
          clear e
          go_enter Tryd.func45, Tryd.ntmps45
          go_wp2
          go_quiet (fail)
          all_goals (try go_wp2)
          all_goals (go_ret; exact ⟨rfl, by first | exact Bl.refl _ | exact (Bl.refl _).alloc _ | exact ((Bl.refl _).alloc _).drewN _ | exact ((Bl.refl _).alloc _).drew | exact ((Bl.refl _).drew).alloc _⟩)
  · have ha0 := (hT.2 0 (by omega)).1
    have ha1 := (hT.2 0 (by omega)).2
    rw [hX] at hc0
    simp only [accLo, accHi, Nat.reduceMul, Nat.reduceAdd, Nat.reduceEqDiff, if_true, if_false] at ha0 ha1
    have hf : fullN s.size x0 x1 x2 = (decide (4 ≤ s.size) || (decide (1 < s.size) && (decide (x1 < 128) || decide (191 < x1))) || (decide (2 < s.size) && (decide (x2 < 128) || decide (191 < x2)))) := by
      simp only [fullN, hX, accLo, accHi, Nat.reduceMod, Nat.reduceDiv, Nat.reduceEqDiff, if_true, if_false]
    rw [hf]
    clear hf hX hT
    by_cases hn : 4 ≤ s.size
    · have hnz : (4 : Int) ≤ (s.size : Int) := by omega
      rw [decide_eq_true hn, Bool.true_or, Bool.true_or]
      go_enter Tryd.func45, Tryd.ntmps45
      go_wp2
      go_ret
      exact ⟨rfl, Bl.refl _⟩
    by_cases hm : s.size = 1
    · skip
      have hmz : (s.size : Int) = 1 := by omega
      clear hn hz0 hne
      have e : (decide (4 ≤ s.size) || (decide (1 < s.size) && (decide (x1 < 128) || decide (191 < x1))) || (decide (2 < s.size) && (decide (x2 < 128) || decide (191 < x2)))) = false := six_false _ _ _ _ _ _ _ (by omega)
      rw [e]
      clear e
      go_enter Tryd.func45, Tryd.ntmps45
      go_wp2
      go_quiet (fail)
      all_goals (try go_wp2)
      all_goals (go_ret; exact ⟨rfl, by first | exact Bl.refl _ | exact (Bl.refl _).alloc _ | exact ((Bl.refl _).alloc _).drewN _ | exact ((Bl.refl _).alloc _).drew | exact ((Bl.refl _).drew).alloc _⟩)
    by_cases hm : s.size = 2
    · skip
      have hmz : (s.size : Int) = 2 := by omega
      clear hn hz0 hne
      have hs1 : (((s[1]'(by omega)).toNat : Nat) : Int) = (x1 : Int) := by rw [← nb_get s 1 (by omega), hx1]
      rcases (show x1 < 128 ∨ 191 < x1 ∨ (128 ≤ x1 ∧ x1 ≤ 191) by omega) with c | c | c
      · have cz : (x1 : Int) < 128 := by omega
        have e : (decide (4 ≤ s.size) || (decide (1 < s.size) && (decide (x1 < 128) || decide (191 < x1))) || (decide (2 < s.size) && (decide (x2 < 128) || decide (191 < x2)))) = true := six_true _ _ _ _ _ _ _ (by omega)
        rw [e]
        clear e
        go_enter Tryd.func45, Tryd.ntmps45
        go_wp2
        go_quiet (fail)
        all_goals (try go_wp2)
        all_goals (go_ret; exact ⟨rfl, by first | exact Bl.refl _ | exact (Bl.refl _).alloc _ | exact ((Bl.refl _).alloc _).drewN _ | exact ((Bl.refl _).alloc _).drew | exact ((Bl.refl _).drew).alloc _⟩)
      · have cz : ¬ ((x1 : Int) < 128) := by omega
        have cz2 : (191 : Int) < (x1 : Int) := by omega
        have e : (decide (4 ≤ s.size) || (decide (1 < s.size) && (decide (x1 < 128) || decide (191 < x1))) || (decide (2 < s.size) && (decide (x2 < 128) || decide (191 < x2)))) = true := six_true _ _ _ _ _ _ _ (by omega)
        rw [e]
        clear e
        go_enter Tryd.func45, Tryd.ntmps45
        go_wp2
        go_quiet (fail)
        all_goals (try go_wp2)
        all_goals (go_ret; exact ⟨rfl, by first | exact Bl.refl _ | exact (Bl.refl _).alloc _ | exact ((Bl.refl _).alloc _).drewN _ | exact ((Bl.refl _).alloc _).drew | exact ((Bl.refl _).drew).alloc _⟩)
      · have cz : ¬ ((x1 : Int) < 128) := by omega
        have cz2 : ¬ ((191 : Int) < (x1 : Int)) := by omega
        have e : (decide (4 ≤ s.size) || (decide (1 < s.size) && (decide (x1 < 128) || decide (191 < x1))) || (decide (2 < s.size) && (decide (x2 < 128) || decide (191 < x2)))) = false := six_false _ _ _ _ _ _ _ (by omega)
        rw [e]
        clear e
        go_enter Tryd.func45, Tryd.ntmps45
        go_wp2
        go_quiet (fail)
        all_goals (try go_wp2)
        all_goals (go_ret; exact ⟨rfl, by first | exact Bl.refl _ | exact (Bl.refl _).alloc _ | exact ((Bl.refl _).alloc _).drewN _ | exact ((Bl.refl _).alloc _).drew | exact ((Bl.refl _).drew).alloc _⟩)
    · have hm : s.size = 3 := by omega
      have hmz : (s.size : Int) = 3 := by omega
      clear hn hz0 hne
      have hs1 : (((s[1]'(by omega)).toNat : Nat) : Int) = (x1 : Int) := by rw [← nb_get s 1 (by omega), hx1]
      have hs2 : (((s[2]'(by omega)).toNat : Nat) : Int) = (x2 : Int) := by rw [← nb_get s 2 (by omega), hx2]
      rcases (show x1 < 128 ∨ 191 < x1 ∨ (128 ≤ x1 ∧ x1 ≤ 191) by omega) with c | c | c
      · have cz : (x1 : Int) < 128 := by omega
        have e : (decide (4 ≤ s.size) || (decide (1 < s.size) && (decide (x1 < 128) || decide (191 < x1))) || (decide (2 < s.size) && (decide (x2 < 128) || decide (191 < x2)))) = true := six_true _ _ _ _ _ _ _ (by omega)
        rw [e]
        clear e
        go_enter Tryd.func45, Tryd.ntmps45
        go_wp2
        go_quiet (fail)
        all_goals (try go_wp2)
        all_goals (go_ret; exact ⟨rfl, by first | exact Bl.refl _ | exact (Bl.refl _).alloc _ | exact ((Bl.refl _).alloc _).drewN _ | exact ((Bl.refl _).alloc _).drew | exact ((Bl.refl _).drew).alloc _⟩)
      · have cz : ¬ ((x1 : Int) < 128) := by omega
        have cz2 : (191 : Int) < (x1 : Int) := by omega
        have e : (decide (4 ≤ s.size) || (decide (1 < s.size) && (decide (x1 < 128) || decide (191 < x1))) || (decide (2 < s.size) && (decide (x2 < 128) || decide (191 < x2)))) = true := six_true _ _ _ _ _ _ _ (by omega)
        rw [e]
        clear e
        go_enter Tryd.func45, Tryd.ntmps45
        go_wp2
        go_quiet (fail)
        all_goals (try go_wp2)
        all_goals (go_ret; exact ⟨rfl, by first | exact Bl.refl _ | exact (Bl.refl _).alloc _ | exact ((Bl.refl _).alloc _).drewN _ | exact ((Bl.refl _).alloc _).drew | exact ((Bl.refl _).drew).alloc _⟩)
      · have cz : ¬ ((x1 : Int) < 128) := by omega
        have cz2 : ¬ ((191 : Int) < (x1 : Int)) := by omega
        rcases (show x2 < 128 ∨ 191 < x2 ∨ (128 ≤ x2 ∧ x2 ≤ 191) by omega) with c' | c' | c'
        · have dz : (x2 : Int) < 128 := by omega
          have e : (decide (4 ≤ s.size) || (decide (1 < s.size) && (decide (x1 < 128) || decide (191 < x1))) || (decide (2 < s.size) && (decide (x2 < 128) || decide (191 < x2)))) = true := six_true _ _ _ _ _ _ _ (by omega)
          rw [e]
          clear e
          go_enter Tryd.func45, Tryd.ntmps45
          go_wp2
          go_quiet (fail)
          all_goals (try go_wp2)
          all_goals (go_ret; exact ⟨rfl, by first | exact Bl.refl _ | exact (Bl.refl _).alloc _ | exact ((Bl.refl _).alloc _).drewN _ | exact ((Bl.refl _).alloc _).drew | exact ((Bl.refl _).drew).alloc _⟩)
        · have dz : ¬ ((x2 : Int) < 128) := by omega
          have dz2 : (191 : Int) < (x2 : Int) := by omega
          have e : (decide (4 ≤ s.size) || (decide (1 < s.size) && (decide (x1 < 128) || decide (191 < x1))) || (decide (2 < s.size) && (decide (x2 < 128) || decide (191 < x2)))) = true := six_true _ _ _ _ _ _ _ (by omega)
          rw [e]
          clear e
          go_enter Tryd.func45, Tryd.ntmps45
          go_wp2
          go_quiet (fail)
          all_goals (try go_wp2)
          all_goals (go_ret; exact ⟨rfl, by first | exact Bl.refl _ | exact (Bl.refl _).alloc _ | exact ((Bl.refl _).alloc _).drewN _ | exact ((Bl.refl _).alloc _).drew | exact ((Bl.refl _).drew).alloc _⟩)
        · have dz : ¬ ((x2 : Int) < 128) := by omega
          have dz2 : ¬ ((191 : Int) < (x2 : Int)) := by omega
          have e : (decide (4 ≤ s.size) || (decide (1 < s.size) && (decide (x1 < 128) || decide (191 < x1))) || (decide (2 < s.size) && (decide (x2 < 128) || decide (191 < x2)))) = false := six_false _ _ _ _ _ _ _ (by omega)
          rw [e]
          clear e
          go_enter Tryd.func45, Tryd.ntmps45
          go_wp2
          go_quiet (fail)
          all_goals (try go_wp2)
          all_goals (go_ret; exact ⟨rfl, by first | exact Bl.refl _ | exact (Bl.refl _).alloc _ | exact ((Bl.refl _).alloc _).drewN _ | exact ((Bl.refl _).alloc _).drew | exact ((Bl.refl _).drew).alloc _⟩)
  · have ha0 := (hT.2 4 (by omega)).1
    have ha1 := (hT.2 4 (by omega)).2
    rw [hX] at hc0
    simp only [accLo, accHi, Nat.reduceMul, Nat.reduceAdd, Nat.reduceEqDiff, if_true, if_false] at ha0 ha1
    have hf : fullN s.size x0 x1 x2 = (decide (4 ≤ s.size) || (decide (1 < s.size) && (decide (x1 < 128) || decide (143 < x1))) || (decide (2 < s.size) && (decide (x2 < 128) || decide (191 < x2)))) := by
      simp only [fullN, hX, accLo, accHi, Nat.reduceMod, Nat.reduceDiv, Nat.reduceEqDiff, if_true, if_false]
    rw [hf]
    clear hf hX hT
    by_cases hn : 4 ≤ s.size
    · have hnz : (4 : Int) ≤ (s.size : Int) := by omega
      rw [decide_eq_true hn, Bool.true_or, Bool.true_or]
      go_enter Tryd.func45, Tryd.ntmps45
      go_wp2
      go_ret
      exact ⟨rfl, Bl.refl _⟩
    by_cases hm : s.size = 1
    · skip
      have hmz : (s.size : Int) = 1 := by omega
      clear hn hz0 hne
      have e : (decide (4 ≤ s.size) || (decide (1 < s.size) && (decide (x1 < 128) || decide (143 < x1))) || (decide (2 < s.size) && (decide (x2 < 128) || decide (191 < x2)))) = false := six_false _ _ _ _ _ _ _ (by omega)
      rw [e]
      clear e
      go_enter Tryd.func45, Tryd.ntmps45
      go_wp2
      go_quiet (fail)
      all_goals (try go_wp2)
      all_goals (go_ret; exact ⟨rfl, by first | exact Bl.refl _ | exact (Bl.refl _).alloc _ | exact ((Bl.refl _).alloc _).drewN _ | exact ((Bl.refl _).alloc _).drew | exact ((Bl.refl _).drew).alloc _⟩)
    by_cases hm : s.size = 2
    · skip
      have hmz : (s.size : Int) = 2 := by omega
      clear hn hz0 hne
      have hs1 : (((s[1]'(by omega)).toNat : Nat) : Int) = (x1 : Int) := by rw [← nb_get s 1 (by omega), hx1]
      rcases (show x1 < 128 ∨ 143 < x1 ∨ (128 ≤ x1 ∧ x1 ≤ 143) by omega) with c | c | c
      · have cz : (x1 : Int) < 128 := by omega
        have e : (decide (4 ≤ s.size) || (decide (1 < s.size) && (decide (x1 < 128) || decide (143 < x1))) || (decide (2 < s.size) && (decide (x2 < 128) || decide (191 < x2)))) = true := six_true _ _ _ _ _ _ _ (by omega)
        rw [e]
        clear e
        go_enter Tryd.func45, Tryd.ntmps45
        go_wp2
        go_quiet (fail)
        all_goals (try go_wp2)
        all_goals (go_ret; exact ⟨rfl, by first | exact Bl.refl _ | exact (Bl.refl _).alloc _ | exact ((Bl.refl _).alloc _).drewN _ | exact ((Bl.refl _).alloc _).drew | exact ((Bl.refl _).drew).alloc _⟩)
      · have cz : ¬ ((x1 : Int) < 128) := by omega
        have cz2 : (143 : Int) < (x1 : Int) := by omega
        have e : (decide (4 ≤ s.size) || (decide (1 < s.size) && (decide (x1 < 128) || decide (143 < x1))) || (decide (2 < s.size) && (decide (x2 < 128) || decide (191 < x2)))) = true := six_true _ _ _ _ _ _ _ (by omega)
        rw [e]
        clear e
        go_enter Tryd.func45, Tryd.ntmps45
        go_wp2
        go_quiet (fail)
        all_goals (try go_wp2)
        all_goals (go_ret; exact ⟨rfl, by first | exact Bl.refl _ | exact (Bl.refl _).alloc _ | exact ((Bl.refl _).alloc _).drewN _ | exact ((Bl.refl _).alloc _).drew | exact ((Bl.refl _).drew).alloc _⟩)
      · have cz : ¬ ((x1 : Int) < 128) := by omega
        have cz2 : ¬ ((143 : Int) < (x1 : Int)) := by omega
        have e : (decide (4 ≤ s.size) || (decide (1 < s.size) && (decide (x1 < 128) || decide (143 < x1))) || (decide (2 < s.size) && (decide (x2 < 128) || decide (191 < x2)))) = false := six_false _ _ _ _ _ _ _ (by omega)
        rw [e]
        clear e
        go_enter Tryd.func45, Tryd.ntmps45
        go_wp2
        go_quiet (fail)
        all_goals (try go_wp2)
        all_goals (go_ret; exact ⟨rfl, by first | exact Bl.refl _ | exact (Bl.refl _).alloc _ | exact ((Bl.refl _).alloc _).drewN _ | exact ((Bl.refl _).alloc _).drew | exact ((Bl.refl _).drew).alloc _⟩)
    · have hm : s.size = 3 := by omega
      have hmz : (s.size : Int) = 3 := by omega
      clear hn hz0 hne
      have hs1 : (((s[1]'(by omega)).toNat : Nat) : Int) = (x1 : Int) := by rw [← nb_get s 1 (by omega), hx1]
      have hs2 : (((s[2]'(by omega)).toNat : Nat) : Int) = (x2 : Int) := by rw [← nb_get s 2 (by omega), hx2]
      rcases (show x1 < 128 ∨ 143 < x1 ∨ (128 ≤ x1 ∧ x1 ≤ 143) by omega) with c | c | c
      · have cz : (x1 : Int) < 128 := by omega
        have e : (decide (4 ≤ s.size) || (decide (1 < s.size) && (decide (x1 < 128) || decide (143 < x1))) || (decide (2 < s.size) && (decide (x2 < 128) || decide (191 < x2)))) = true := six_true _ _ _ _ _ _ _ (by omega)
        rw [e]
        clear e
        go_enter Tryd.func45, Tryd.ntmps45
        go_wp2
        go_quiet (fail)
        all_goals (try go_wp2)
        all_goals (go_ret; exact ⟨rfl, by first | exact Bl.refl _ | exact (Bl.refl _).alloc _ | exact ((Bl.refl _).alloc _).drewN _ | exact ((Bl.refl _).alloc _).drew | exact ((Bl.refl _).drew).alloc _⟩)
      · have cz : ¬ ((x1 : Int) < 128) := by omega
        have cz2 : (143 : Int) < (x1 : Int) := by omega
        have e : (decide (4 ≤ s.size) || (decide (1 < s.size) && (decide (x1 < 128) || decide (143 < x1))) || (decide (2 < s.size) && (decide (x2 < 128) || decide (191 < x2)))) = true := six_true _ _ _ _ _ _ _ (by omega)
        rw [e]
        clear e
        go_enter Tryd.func45, Tryd.ntmps45
        go_wp2
        go_quiet (fail)
        all_goals (try go_wp2)
        all_goals (go_ret; exact ⟨rfl, by first | exact Bl.refl _ | exact (Bl.refl _).alloc _ | exact ((Bl.refl _).alloc _).drewN _ | exact ((Bl.refl _).alloc _).drew | exact ((Bl.refl _).drew).alloc _⟩)
      · have cz : ¬ ((x1 : Int) < 128) := by omega
        have cz2 : ¬ ((143 : Int) < (x1 : Int)) := by omega
        rcases (show x2 < 128 ∨ 191 < x2 ∨ (128 ≤ x2 ∧ x2 ≤ 191) by omega) with c' | c' | c'
        · have dz : (x2 : Int) < 128 := by omega
          have e : (decide (4 ≤ s.size) || (decide (1 < s.size) && (decide (x1 < 128) || decide (143 < x1))) || (decide (2 < s.size) && (decide (x2 < 128) || decide (191 < x2)))) = true := six_true _ _ _ _ _ _ _ (by omega)
          rw [e]
          clear e
          go_enter Tryd.func45, Tryd.ntmps45
          go_wp2
          go_quiet (fail)
          all_goals (try go_wp2)
          all_goals (go_ret; exact ⟨rfl, by first | exact Bl.refl _ | exact (Bl.refl _).alloc _ | exact ((Bl.refl _).alloc _).drewN _ | exact ((Bl.refl _).alloc _).drew | exact ((Bl.refl _).drew).alloc _⟩)
        · have dz : ¬ ((x2 : Int) < 128) := by omega
          have dz2 : (191 : Int) < (x2 : Int) := by omega
          have e : (decide (4 ≤ s.size) || (decide (1 < s.size) && (decide (x1 < 128) || decide (143 < x1))) || (decide (2 < s.size) && (decide (x2 < 128) || decide (191 < x2)))) = true := six_true _ _ _ _ _ _ _ (by omega)
          rw [e]
          clear e
          go_enter Tryd.func45, Tryd.ntmps45
          go_wp2
          go_quiet (fail)
          all_goals (try go_wp2)
          all_goals (go_ret; exact ⟨rfl, by first | exact Bl.refl _ | exact (Bl.refl _).alloc _ | exact ((Bl.refl _).alloc _).drewN _ | exact ((Bl.refl _).alloc _).drew | exact ((Bl.refl _).drew).alloc _⟩)
        · have dz : ¬ ((x2 : Int) < 128) := by omega
          have dz2 : ¬ ((191 : Int) < (x2 : Int)) := by omega
          have e : (decide (4 ≤ s.size) || (decide (1 < s.size) && (decide (x1 < 128) || decide (143 < x1))) || (decide (2 < s.size) && (decide (x2 < 128) || decide (191 < x2)))) = false := six_false _ _ _ _ _ _ _ (by omega)
          rw [e]
          clear e
          go_enter Tryd.func45, Tryd.ntmps45
          go_wp2
          go_quiet (fail)
          all_goals (try go_wp2)
          all_goals (go_ret; exact ⟨rfl, by first | exact Bl.refl _ | exact (Bl.refl _).alloc _ | exact ((Bl.refl _).alloc _).drewN _ | exact ((Bl.refl _).alloc _).drew | exact ((Bl.refl _).drew).alloc _⟩)
end Go.Proofs.YtaboemchkmmgeaaDoor.utf
