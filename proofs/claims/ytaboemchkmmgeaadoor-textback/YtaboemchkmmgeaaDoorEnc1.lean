/- Numbers that came in; which ones are signs; a row of bytes that grows by a sign's bytes. -/
import Derived.Test.YtaboemchkmmgeaaDoorNarrow
import Derived.Test.YtaboemchkmmgeaaDoorRefT1
import Derived.Test.YtaboemchkmmgeaaDoorLay242
namespace Go.Proofs.YtaboemchkmmgeaaDoor.enc
set_option linter.unusedVariables false
open Go.ChangeShapes Go.WideShapes Go.ChangeAt Go.RowKit
open mem rows
open narrow (first_at second_at)
open utf (sign)

theorem at_bl {w w' : World} (h : Bl w w') {a : Addr} {v : Value} (hc : w.cell? a = some v) : w'.cell? a = some v := by
  have hlt : a.block < w.heap.size := by
    rcases Nat.lt_or_ge a.block w.heap.size with h1 | h1
    · exact h1
    · simp [World.cell?, Array.getElem?_eq_none h1] at hc
  unfold World.cell? at hc ⊢
  rw [Below.block h _ hlt]
  exact hc
/-- These numbers came in at p. -/
def In (w : World) (p : Option Addr) (l : List Int) : Prop :=
  l = [] ∨ ∃ x : Addr, p = some x ∧ ∀ k, k < l.length → w.cell? (x.add k) = some (.int .i64 (l.getD k 0))
theorem In.step {w w' : World} {p : Option Addr} {l : List Int} (h : In w p l) (hb : Bl w w') : In w' p l := by
  rcases h with h | ⟨x, h1, h2⟩
  · exact Or.inl h
  · exact Or.inr ⟨x, h1, fun k hk => at_bl hb (h2 k hk)⟩
theorem In.at {w : World} {p : Option Addr} {l : List Int} (h : In w p l) (k : Nat) (hk : k < l.length) : ∃ x : Addr, p = some x ∧ w.cell? (x.add k) = some (.int .i64 (l.getD k 0)) := by
  rcases h with h | ⟨x, h1, h2⟩
  · rw [h] at hk; exact absurd hk (Nat.not_lt_zero _)
  · exact ⟨x, h1, h2 k hk⟩
/-- Each fits its kind. -/
def Fit (l : List Int) : Prop := ∀ k, -9223372036854775808 ≤ l.getD k 0 ∧ l.getD k 0 ≤ 9223372036854775807
theorem signsAll_yes (p : Option Addr) (c : Nat) (l : List Int) (w : World) (hl : l.length ≤ 1000) (hin : In w p l) (hall : ∀ k, k < l.length → sign (l.getD k 0)) :
    Calls Tryd.prog 30 #[.slice p l.length c] w fun e w' => e = .returned .nilIface ∧ w' = w := by
  have HI : Hid (In w p l) := hin
  have HA : Hid (∀ k, k < l.length → sign (l.getD k 0)) := hall
  clear hin hall
  obtain ⟨m, hm⟩ : ∃ m, m = l.length := ⟨_, rfl⟩
  rw [← hm] at hl ⊢
  have HM : Hid (m = l.length) := hm
  clear hm
  go_enter Tryd.func30, Tryd.ntmps30
  go_wp2
  go_loop [7] (fun i => ∃ k : Nat, k ≤ m ∧ i = .int .i64 (k : Int)) (fun i => m - (intOf i).toNat)
  case atStart => exact ⟨0, Nat.zero_le _, rfl⟩
  case round =>
    obtain ⟨k, hk, rfl⟩ := hrel
    by_cases hlt : k < m
    · have hlz : (k : Int) < (m : Int) := by omega
      obtain ⟨x, rfl, hc⟩ := HI.out.at k (by rw [← HM.out]; exact hlt)
      have hsg := HA.out k (by rw [← HM.out]; exact hlt)
      generalize l.getD k 0 = n at hc hsg
      have c1 := fun w => first_at n false (decide_eq_false (by unfold sign at hsg; omega)) w
      have c2 := fun w => second_at n false (decide_eq_false (by unfold sign at hsg; omega)) w
      have n1 : ¬ (n < 0) := by unfold sign at hsg; omega
      have n2 : ¬ (1114111 < n) := by unfold sign at hsg; omega
      clear hsg
      go_wp2_with (first | (go_at_call 40; refine (c1 _).mono ?_; rintro e w2 ⟨rfl, rfl⟩) | (go_at_call 41; refine (c2 _).mono ?_; rintro e w2 ⟨rfl, rfl⟩))
      go_round
      case rel => exact ⟨k + 1, by omega, by go_num⟩
      case measure => simp [intOf]; omega
    · obtain rfl : k = m := by omega
      go_wp2
      go_ret
      exact ⟨rfl, rfl⟩
theorem signsAll_no (p : Option Addr) (c : Nat) (l : List Int) (j : Nat) (w : World) (hl : l.length ≤ 1000) (hin : In w p l) (hj : j < l.length) (hall : ∀ k, k < j → sign (l.getD k 0)) (hno : ¬ sign (l.getD j 0)) (hfit : Fit l) :
    Calls Tryd.prog 30 #[.slice p l.length c] w fun e w' => e = .returned (.iface 76 (.pointer (some ⟨w.heap.size, 0, none⟩))) ∧ w'.cell? ⟨w.heap.size, 0, none⟩ = some (.int .i64 1) ∧ w'.cell? ⟨w.heap.size, 1, none⟩ = some (.int .i64 j) ∧ Gb w w' := by
  have HI : Hid (In w p l) := hin
  have HA : Hid (∀ k, k < j → sign (l.getD k 0)) := hall
  have HN : Hid (¬ sign (l.getD j 0)) := hno
  have HF : Hid (Fit l) := hfit
  clear hin hall hno hfit
  obtain ⟨m, hm⟩ : ∃ m, m = l.length := ⟨_, rfl⟩
  rw [← hm] at hl hj ⊢
  have HM : Hid (m = l.length) := hm
  clear hm
  go_enter Tryd.func30, Tryd.ntmps30
  go_wp2
  go_loop [7] (fun i => ∃ k : Nat, k ≤ j ∧ i = .int .i64 (k : Int)) (fun i => m - (intOf i).toNat)
  case atStart => exact ⟨0, Nat.zero_le _, rfl⟩
  case round =>
    obtain ⟨k, hk, rfl⟩ := hrel
    have hlz : (k : Int) < (m : Int) := by omega
    obtain ⟨x, rfl, hc⟩ := HI.out.at k (by rw [← HM.out]; omega)
    by_cases hlt : k < j
    · have hsg := HA.out k hlt
      generalize l.getD k 0 = n at hc hsg
      have c1 := fun w => first_at n false (decide_eq_false (by unfold sign at hsg; omega)) w
      have c2 := fun w => second_at n false (decide_eq_false (by unfold sign at hsg; omega)) w
      have n1 : ¬ (n < 0) := by unfold sign at hsg; omega
      have n2 : ¬ (1114111 < n) := by unfold sign at hsg; omega
      clear hsg
      go_wp2_with (first | (go_at_call 40; refine (c1 _).mono ?_; rintro e w2 ⟨rfl, rfl⟩) | (go_at_call 41; refine (c2 _).mono ?_; rintro e w2 ⟨rfl, rfl⟩))
      go_round
      case rel => exact ⟨k + 1, by omega, by go_num⟩
      case measure => simp [intOf]; omega
    · obtain rfl : k = j := by omega
      have hsg := HN.out
      have hft := HF.out k
      generalize l.getD k 0 = n at hc hsg hft
      have hcase : n < 0 ∨ (¬ (n < 0) ∧ 1114111 < n) ∨ (¬ (n < 0) ∧ ¬ (1114111 < n) ∧ 55296 ≤ n ∧ n < 56320) ∨ (¬ (n < 0) ∧ ¬ (1114111 < n) ∧ ¬ (55296 ≤ n ∧ n < 56320) ∧ 56320 ≤ n ∧ n < 57344) := by unfold sign at hsg; omega
      clear hsg
      rcases hcase with n1 | ⟨n1, n2⟩ | ⟨n1, n2, n3⟩ | ⟨n1, n2, n3, n4⟩
      · go_wp2
        go_ret
        exact ⟨rfl, by simp, by simp, (Gb.refl _).alloc _ _⟩
      · go_wp2
        go_ret
        exact ⟨rfl, by simp, by simp, (Gb.refl _).alloc _ _⟩
      · have c1 := fun w => first_at n true (decide_eq_true n3) w
        clear n3
        go_wp2_with (go_at_call 40; refine (c1 _).mono ?_; rintro e w2 ⟨rfl, rfl⟩)
        go_ret
        exact ⟨rfl, by simp, by simp, (Gb.refl _).alloc _ _⟩
      · have c1 := fun w => first_at n false (decide_eq_false n3) w
        have c2 := fun w => second_at n true (decide_eq_true n4) w
        clear n3 n4
        go_wp2_with (first | (go_at_call 40; refine (c1 _).mono ?_; rintro e w2 ⟨rfl, rfl⟩) | (go_at_call 41; refine (c2 _).mono ?_; rintro e w2 ⟨rfl, rfl⟩))
        go_ret
        exact ⟨rfl, by simp, by simp, (Gb.refl _).alloc _ _⟩
/-- All are signs, or one is the first that is none. -/
theorem signs_or (l : List Int) : (∀ k, k < l.length → sign (l.getD k 0)) ∨ ∃ j, j < l.length ∧ (∀ k, k < j → sign (l.getD k 0)) ∧ ¬ sign (l.getD j 0) := by
  have : ∀ n, n ≤ l.length → (∀ k, k < n → sign (l.getD k 0)) ∨ ∃ j, j < l.length ∧ (∀ k, k < j → sign (l.getD k 0)) ∧ ¬ sign (l.getD j 0) := by
    intro n
    induction n with
    | zero => intro _; exact Or.inl fun k hk => by omega
    | succ n ih =>
      intro hn
      rcases ih (by omega) with h | h
      · by_cases hs : sign (l.getD n 0)
        · exact Or.inl fun k hk => by
            rcases Nat.lt_or_ge k n with h' | h'
            · exact h k h'
            · obtain rfl : k = n := by omega
              exact hs
        · exact Or.inr ⟨n, by omega, h, hs⟩
      · exact Or.inr h
  exact this l.length (Nat.le_refl _)
/-- A row of the call's own that holds just these bytes. -/
def BOwn (w : World) (base : Nat) (v : Value) (l : List Int) : Prop := w.ownsRow base 5 1 v l.length (l.map (Value.int .u8))
theorem BOwn.block {w : World} {base : Nat} {v : Value} {l : List Int} (h : BOwn w base v l) : ∀ k, v.ownBlock = some k → base ≤ k ∧ k < w.heap.size := World.ownsRow.lt h
theorem BOwn.step {w w' : World} {base : Nat} {v : Value} {l : List Int} (h : BOwn w base v l) (hb : Bl w w') : BOwn w' base v l := by
  refine ⟨h.1, ?_⟩
  rcases h.2 with h | ⟨g, cap, cur, h1, h2, h3, h4⟩
  · exact Or.inl h
  · refine Or.inr ⟨g, cap, cur, h1, h2, ?_, h4⟩
    have hg : g < w.heap.size := by
      rcases Nat.lt_or_ge g w.heap.size with h | h
      · exact h
      · rw [Array.getElem?_eq_none h] at h3; cases h3
    rw [Below.block hb g hg]
    exact h3
theorem BOwn.set_other {w : World} {base : Nat} {v : Value} {l : List Int} (h : BOwn w base v l) {a : Addr} (ha : ∀ k, v.ownBlock = some k → a.block ≠ k) (x : Value) : BOwn (w.setCell a x) base v l := by
  refine ⟨h.1, ?_⟩
  rcases h.2 with h | ⟨g, cap, cur, h1, h2, h3, h4⟩
  · exact Or.inl h
  · refine Or.inr ⟨g, cap, cur, h1, h2, ?_, h4⟩
    have hne : ¬ a.block = g := ha g (by rw [h1]; rfl)
    simp [World.setCell, Array.getElem?_modify, hne, h3]
/-- Its text. -/
theorem BOwn.text {w : World} {base : Nat} {v : Value} {l : List Int} (h : BOwn w base v l) : (convert 58 9 v).run Tryd.prog w = .ok (.string (strOfNums l)) w := by
  rcases h.2 with ⟨rfl, h0⟩ | ⟨g, cap, cur, rfl, _, h3, _, _, hcs, htake⟩
  · have : l = [] := List.eq_nil_of_length_eq_zero h0
    subst this
    show (convert 58 9 (.slice none 0 0)).run Tryd.prog w = .ok (.string (strOfNums [])) w
    kernel_rfl
  · refine run_convert_bytes_arg w 58 5 Tryd.underlying58 Tryd.underlying5 g 0 l.length cap l rfl (fun i hi => ?_) 9 Tryd.underlying9
    have : (l.map (Value.int .u8))[i]? = some (.int .u8 (l.getD i 0)) := by simp [hi]
    rw [← htake, Nat.mul_one, List.getElem?_take, if_pos hi] at this
    simp only [World.cell?, h3, Nat.zero_add]
    simpa using this
theorem info8 : (Tryd.prog.info? 5).map (fun i => (i.zero, i.size, i.bytes)) = some (some (.int .u8 0), 1, 1) := by kernel_rfl
theorem make_cap (c : Nat) (hc : c ≤ 4000) (w : World) : (Instr.makeSlice 58 (.int .i64 0) (.int .i64 (c : Int))).run Tryd.prog w = .ok (.slice (some ⟨w.heap.size, 0, none⟩) 0 c) (w.alloc (.cells (madeCells #[.int .u8 0] c) 5)) := by
  obtain ⟨i0, hi, hz0, hz1, hz2⟩ := info_parts info8
  have h := run_make (P := Tryd.prog) w 58 5 i0 (.int .u8 0) Tryd.underlying58 hi hz0 .i64 .i64 0 (c : Int) (by omega) (by omega) (by rw [hz2]; omega) (by omega)
  rw [h, hz1, Int.toNat_natCast, Nat.mul_one]
  rfl
theorem BOwn.made (w : World) (base c : Nat) (hb : base ≤ w.heap.size) (hc : c ≤ 4000) : BOwn (w.alloc (.cells (madeCells #[.int .u8 0] c) 5)) base (.slice (some ⟨w.heap.size, 0, none⟩) 0 c) [] :=
  World.ownsRow_made w _ c hb (by unfold maxLen; omega) (by rw [← Array.length_toList, toList_madeCells_one]; simp)
open Go.Lib (encodeRuneZ runeCells) in
theorem rune_at (v : Value) (l : List Int) (r : Int) (w0 w : World) (base : Nat) (hB : base = w0.heap.size) (hbl : Bl w0 w) (h0 : 0 ≤ r) (h1 : r ≤ 1114111) (hown : BOwn w base v l) (hl : l.length ≤ 5000) :
    Calls Tryd.prog 31 #[v, .int .i32 r] w fun e w' => ∃ v', e = .returned v' ∧ BOwn w' base v' (l ++ encodeRuneZ r) ∧ Bl w0 w' := by
  refine (Any.utf8_AppendRune_plain lay242.laid info8 base v l.length _ r (by omega) (by omega) w hown (by omega) (by have := hbl.size; omega)).mono ?_
  rintro e w' ⟨v', rfl, ho, o, hg⟩
  refine ⟨v', rfl, ?_, ?_⟩
  · unfold BOwn
    rw [List.map_append, List.length_append]
    have e1 : (encodeRuneZ r).map (Value.int .u8) = runeCells r := rfl
    have e2 : (runeCells r).length = (encodeRuneZ r).length := by unfold runeCells; simp
    rw [e1, ← e2]
    exact ho
  · exact bl_grown (hbl.alloc o) hg (fun k e => by rw [← hB]; exact (hown.block k e).1)
end Go.Proofs.YtaboemchkmmgeaaDoor.enc
