/- The document's own Any; and what Any answers where a pattern is empty, or there are too many. -/
import Derived.Test.YtehmjffbfgnijaaDoorFh5
import Derived.Test.YtehmjffbfgnijaaDoorFe1
namespace Go.Proofs.YtehmjffbfgnijaaDoor.anyp
set_option linter.unusedVariables false
open Go.ChangeShapes Go.WideShapes Go.ChangeAt Go.RowKit Go.Maps
open mem rows fd tree sp

theorem Any_many (s : ByteArray) (q : Option Addr) (cp K : Nat) (w : World) (hK : 60 < K) (hK2 : K ≤ 5000) :
    Calls Tryd.prog 20 #[.string s, .slice q K cp] w fun e w' => e = .returned (.tuple #[.slice none 0 0, .iface 23 (.int .i64 1)]) ∧ w' = w := by
  have hz : (60 : Int) < (K : Int) := by omega
  go_enter Tryd.func20, Tryd.ntmps20
  go_wp2
  go_ret2
  exact ⟨rfl, rfl⟩
theorem Any_empty (s : ByteArray) (q : Option Addr) (cp : Nat) (ps : List ByteArray) (w : World) (hin : InT w q ps) (hK : ps.length ≤ 60) (hp : HasEmpty ps) :
    Calls Tryd.prog 20 #[.string s, .slice q ps.length cp] w fun e w' => e = .returned (.tuple #[.slice none 0 0, .iface 23 (.int .i64 1)]) ∧ w' = w := by
  have cC := Contains_yes q cp ps w hin (by omega) hp
  have hz : ¬ (60 : Int) < (ps.length : Int) := by omega
  generalize ps.length = K at *
  go_enter Tryd.func20, Tryd.ntmps20
  go_wp2_with (go_at_call 31; refine cC.mono ?_; rintro e w2 ⟨rfl, rfl⟩)
  go_ret2
  exact ⟨rfl, rfl⟩
/-- What the document's own loops have met. -/
structure Rf (s : ByteArray) (ps : List ByteArray) (i k : Nat) (l : List (Int × Int)) : Prop where
  rises : l.Pairwise lt2
  mem : ∀ x, x ∈ l ↔ ∃ a q : Nat, (a < i ∨ (a = i ∧ q < k)) ∧ q < ps.length ∧ a + (ps.getD q .empty).size ≤ s.size ∧ St (sb (ps.getD q .empty)) (sb s) (ps.getD q .empty).size a = true ∧ x = ((a : Int), (q : Int))
  len : l.length ≤ i * 60 + k
theorem Rf.start (s : ByteArray) (ps : List ByteArray) : Rf s ps 0 0 [] :=
  ⟨List.Pairwise.nil, fun x => ⟨fun h => (by cases h), fun ⟨a, q, h, _⟩ => (by omega)⟩, by simp⟩
theorem Rf.no {s : ByteArray} {ps : List ByteArray} {i k : Nat} {l : List (Int × Int)} (h : Rf s ps i k l) (hc : (decide (i + (ps.getD k .empty).size ≤ s.size) && St (sb (ps.getD k .empty)) (sb s) (ps.getD k .empty).size i) = false) : Rf s ps i (k + 1) l := by
  refine ⟨h.rises, fun x => ?_, by have := h.len; omega⟩
  rw [h.mem]
  constructor
  · rintro ⟨a, q, h1, h2⟩
    exact ⟨a, q, by omega, h2⟩
  · rintro ⟨a, q, h1, h2, h3, h4, h5⟩
    refine ⟨a, q, ?_, h2, h3, h4, h5⟩
    rcases h1 with h1 | ⟨h1, h6⟩
    · exact Or.inl h1
    · rcases Nat.lt_or_ge q k with h7 | h7
      · exact Or.inr ⟨h1, h7⟩
      · have e : q = k := by omega
        subst e
        subst h1
        rw [decide_eq_true h3, Bool.true_and, h4] at hc
        cases hc
theorem Rf.yes {s : ByteArray} {ps : List ByteArray} {i k : Nat} {l : List (Int × Int)} (h : Rf s ps i k l) (hk : k < ps.length) (hc : (decide (i + (ps.getD k .empty).size ≤ s.size) && St (sb (ps.getD k .empty)) (sb s) (ps.getD k .empty).size i) = true) : Rf s ps i (k + 1) (l ++ [((i : Int), (k : Int))]) := by
  rw [Bool.and_eq_true, decide_eq_true_iff] at hc
  refine ⟨?_, fun x => ?_, by have := h.len; rw [List.length_append]; simp only [List.length_cons, List.length_nil]; omega⟩
  · rw [List.pairwise_append]
    refine ⟨h.rises, List.pairwise_singleton _ _, fun x hx y hy => ?_⟩
    rw [List.mem_singleton] at hy
    subst hy
    obtain ⟨a, q, h1, _, _, _, rfl⟩ := (h.mem x).1 hx
    unfold lt2
    simp only
    omega
  · rw [List.mem_append, List.mem_singleton, h.mem]
    constructor
    · rintro (⟨a, q, h1, h2⟩ | rfl)
      · exact ⟨a, q, by omega, h2⟩
      · exact ⟨i, k, by omega, hk, hc.1, hc.2, rfl⟩
    · rintro ⟨a, q, h1, h2, h3, h4, rfl⟩
      rcases h1 with h1 | ⟨h1, h6⟩
      · exact Or.inl ⟨a, q, Or.inl h1, h2, h3, h4, rfl⟩
      · rcases Nat.lt_or_ge q k with h7 | h7
        · exact Or.inl ⟨a, q, Or.inr ⟨h1, h7⟩, h2, h3, h4, rfl⟩
        · have e : q = k := by omega
          subst e
          subst h1
          exact Or.inr rfl
theorem Rf.round {s : ByteArray} {ps : List ByteArray} {i : Nat} {l : List (Int × Int)} (h : Rf s ps i ps.length l) (hK : ps.length ≤ 60) : Rf s ps (i + 1) 0 l := by
  refine ⟨h.rises, fun x => ?_, by have := h.len; omega⟩
  rw [h.mem]
  constructor
  · rintro ⟨a, q, h1, h2⟩
    exact ⟨a, q, by omega, h2⟩
  · rintro ⟨a, q, h1, h2⟩
    exact ⟨a, q, by have := h2.1; omega, h2⟩
theorem Rf.all {s : ByteArray} {ps : List ByteArray} {l : List (Int × Int)} (h : Rf s ps s.size 0 l) (hp : ∀ k, k < ps.length → 0 < (ps.getD k .empty).size) : IsAny s ps l := by
  refine ⟨h.rises, fun x => ?_⟩
  rw [h.mem]
  constructor
  · rintro ⟨a, q, h1, h2⟩
    exact ⟨a, q, h2⟩
  · rintro ⟨a, q, h2⟩
    exact ⟨a, q, by have := hp q h2.1; have := h2.2.1; omega, h2⟩
theorem rf_is (s : ByteArray) (ps : List ByteArray) (hK : ps.length ≤ 60) (i : Nat) : ∃ l, Rf s ps i 0 l := by
  induction i with
  | zero => exact ⟨[], Rf.start s ps⟩
  | succ i ih =>
    have hk : ∀ k, k ≤ ps.length → ∃ l, Rf s ps i k l := by
      intro k
      induction k with
      | zero => exact fun _ => ih
      | succ k ik =>
        intro h
        obtain ⟨l, hl⟩ := ik (by omega)
        cases hc : (decide (i + (ps.getD k .empty).size ≤ s.size) && St (sb (ps.getD k .empty)) (sb s) (ps.getD k .empty).size i) with
        | true => exact ⟨_, hl.yes (by omega) hc⟩
        | false => exact ⟨_, hl.no hc⟩
    obtain ⟨l, hl⟩ := hk _ (Nat.le_refl _)
    exact ⟨l, hl.round hK⟩
theorem any_is (s : ByteArray) (ps : List ByteArray) (hp : ∀ k, k < ps.length → 0 < (ps.getD k .empty).size) (hK : ps.length ≤ 60) : ∃ l, IsAny s ps l ∧ l.length ≤ s.size * 60 := by
  obtain ⟨l, hl⟩ := rf_is s ps hK s.size
  exact ⟨l, hl.all hp, hl.len⟩
/-- What the document's own answers. -/
def RefAns (s : ByteArray) (ps : List ByteArray) (w w' : World) (e : Ending) : Prop := ∃ v L, e = .returned (.tuple #[v, .int .i64 0]) ∧ OwnS w' w.heap.size v L ∧ IsAny s ps L ∧ L.length ≤ 20000 ∧ Bl w w'
theorem refAny_many (s : ByteArray) (q : Option Addr) (cp K : Nat) (w : World) (hK : 60 < K) (hK2 : K ≤ 5000) :
    Calls Tryd.prog 19 #[.string s, .slice q K cp] w fun e w' => e = .returned (.tuple #[.slice none 0 0, .int .i64 1]) ∧ w' = w := by
  have hz : (60 : Int) < (K : Int) := by omega
  go_enter Tryd.func19, Tryd.ntmps19
  go_wp2
  go_ret2
  exact ⟨rfl, rfl⟩
theorem refAny_empty (s : ByteArray) (q : Option Addr) (cp : Nat) (ps : List ByteArray) (w : World) (hin : InT w q ps) (hK : ps.length ≤ 60) (hp : HasEmpty ps) :
    Calls Tryd.prog 19 #[.string s, .slice q ps.length cp] w fun e w' => e = .returned (.tuple #[.slice none 0 0, .int .i64 1]) ∧ w' = w := by
  obtain ⟨K, hKe⟩ : ∃ K, K = ps.length := ⟨_, rfl⟩
  have HIN : Hid (InT w q ps) := hin
  have HE : Hid (HasEmpty ps) := hp
  have HK : Hid (K = ps.length) := hKe
  rw [← hKe] at hK ⊢
  clear hin hp hKe
  have hz : ¬ (60 : Int) < (K : Int) := by omega
  go_enter Tryd.func19, Tryd.ntmps19
  go_wp2
  go_loop [17] (fun iv => ∃ k : Nat, k ≤ K ∧ iv = .int .i64 (k : Int) ∧ Hid (∀ j, j < k → (ps.getD j .empty).size ≠ 0)) (fun iv => K - (intOf iv).toNat)
  case atStart => exact ⟨0, Nat.zero_le _, rfl, fun q hq => absurd hq (Nat.not_lt_zero _)⟩
  case round =>
    obtain ⟨k, hk, rfl, HQ⟩ := hrel
    have hlt : k < K := by
      obtain ⟨j, hj, h0⟩ := HE.out
      rw [← HK.out] at hj
      rcases Nat.lt_or_ge j k with h | h
      · exact absurd h0 (HQ.out j h)
      · omega
    have hlz : (k : Int) < (K : Int) := by omega
    obtain ⟨x, rfl, hcx⟩ := HIN.out.at k (by rw [← HK.out]; exact hlt)
    by_cases h0 : (ps.getD k .empty).size = 0
    · have hz : (ps.getD k .empty).toList.isEmpty = true := by rw [isEmpty_at]; exact decide_eq_true h0
      clear h0
      generalize ps.getD k .empty = pk at hcx hz
      go_wp2
      go_ret2
      exact ⟨rfl, rfl⟩
    · have hz : (ps.getD k .empty).toList.isEmpty = false := by rw [isEmpty_at]; exact decide_eq_false h0
      have HQ2 : Hid (∀ j, j < k + 1 → (ps.getD j .empty).size ≠ 0) := fun j hj => by
        rcases Nat.lt_or_ge j k with h | h
        · exact HQ.out j h
        · obtain rfl : j = k := by omega
          exact h0
      clear h0 HQ
      generalize ps.getD k .empty = pk at hcx hz
      go_wp2
      go_round
      case rel => exact ⟨k + 1, by omega, by go_num, HQ2⟩
      case measure => simp [intOf]; omega
set_option maxRecDepth 20000 in
set_option maxHeartbeats 2000000 in
theorem refAny_at (s : ByteArray) (q : Option Addr) (cp : Nat) (ps : List ByteArray) (w : World) (hin : InT w q ps) (hK : ps.length ≤ 60) (hp : ∀ k, k < ps.length → 0 < (ps.getD k .empty).size ∧ (ps.getD k .empty).size ≤ 30) (hs : s.size ≤ 250) :
    Calls Tryd.prog 19 #[.string s, .slice q ps.length cp] w fun e w' => RefAns s ps w w' e := by
  obtain ⟨K, hKe⟩ : ∃ K, K = ps.length := ⟨_, rfl⟩
  have HIN : Hid (InT w q ps) := hin
  have HS : Hid (∀ k, k < ps.length → 0 < (ps.getD k .empty).size ∧ (ps.getD k .empty).size ≤ 30) := hp
  have HK : Hid (K = ps.length) := hKe
  rw [← hKe] at hK ⊢
  clear hin hp hKe
  have hz : ¬ (60 : Int) < (K : Int) := by omega
  obtain ⟨B, hB⟩ : ∃ B, B = w.heap.size := ⟨_, rfl⟩
  have HB : Hid (B = w.heap.size) := hB
  clear hB
  go_enter Tryd.func19, Tryd.ntmps19
  go_wp2
  go_loop [17] (fun iv => ∃ k : Nat, k ≤ K ∧ iv = .int .i64 (k : Int)) (fun iv => K - (intOf iv).toNat)
  case atStart => exact ⟨0, Nat.zero_le _, rfl⟩
  case round =>
    obtain ⟨k, hk, rfl⟩ := hrel
    by_cases hlt : k < K
    · have hlz : (k : Int) < (K : Int) := by omega
      have hkK : k < ps.length := by rw [← HK.out]; exact hlt
      obtain ⟨x, rfl, hcx⟩ := HIN.out.at k hkK
      have h0 := (HS.out k hkK).1
      have hz : (ps.getD k .empty).toList.isEmpty = false := by rw [isEmpty_at]; exact decide_eq_false (by omega)
      clear h0
      generalize ps.getD k .empty = pk at hcx hz
      go_wp2
      go_round
      case rel => exact ⟨k + 1, by omega, by go_num⟩
      case measure => simp [intOf]; omega
    · have hnl : ¬ ((k : Int) < (K : Int)) := by omega
      go_wp2
      go_loopw [8, 26] (fun lv iv wr => ∃ (i : Nat) (l : List (Int × Int)), i ≤ s.size ∧ iv = .int .i64 (i : Int) ∧ Hid (Rf s ps i 0 l) ∧ OwnS wr B lv l ∧ Bl w wr) (fun _ iv _ => s.size - (intOf iv).toNat)
      case atStart => exact ⟨0, [], Nat.zero_le _, rfl, Rf.start s ps, OwnS.nil _ _, Bl.refl _⟩
      case round =>
        obtain ⟨i, l, hi, rfl, HR, hown, hbl⟩ := hrel
        by_cases hli : i < s.size
        · have hlz : (i : Int) < (s.size : Int) := by omega
          go_wp2
          go_loopw [8, 31] (fun lv kv wr => ∃ (k : Nat) (l : List (Int × Int)), k ≤ K ∧ kv = .int .i64 (k : Int) ∧ Hid (Rf s ps i k l) ∧ OwnS wr B lv l ∧ Bl w wr) (fun _ kv _ => K - (intOf kv).toNat)
          case atStart => exact ⟨0, l, Nat.zero_le _, rfl, HR, hown, hbl⟩
          case round =>
            clear HR hown hbl
            obtain ⟨k, l, hk, rfl, HR, hown, hbl⟩ := hrel
            by_cases hlk : k < K
            · have hkz : (k : Int) < (K : Int) := by omega
              have hkK : k < ps.length := by rw [← HK.out]; exact hlk
              obtain ⟨x, rfl, hcx⟩ := (HIN.out.step hbl).at k hkK
              have hsk := (HS.out k hkK).2
              have cS := fun w => find.stands_at s (ps.getD k .empty) i w (by omega) (by omega) (by omega)
              have hll := HR.out.len
              cases hc : (decide (i + (ps.getD k .empty).size ≤ s.size) && St (sb (ps.getD k .empty)) (sb s) (ps.getD k .empty).size i) with
              | true =>
                rw [hc] at cS
                have HR2 : Hid _ := HR.out.yes hkK hc
                clear hc HR
                generalize ps.getD k .empty = pk at hcx hsk cS
                go_wp2_with (first
                  | (go_at_call 21; refine (cS _).mono ?_; rintro e w2 ⟨rfl, rfl⟩)
                  | (at_builtin; refine wpL_appS rfl (.tmp 40) (.tmp 44) rfl rfl _ _ ((i : Int), (k : Int)) w2.heap.size rfl rfl _ (hown.step ((Bl.refl _).alloc _)) (by go_simp) (by go_simp) (by omega) (by have := hbl.size; rw [← HB.out] at this; simp; omega) ?_; intro v' w5 hw5 hg5; have hb5 : Bl w w5 := bl_grown (hbl.alloc _) hg5 (fun k e => by rw [← HB.out]; exact (hown.block k e).1); clear hg5))
                go_roundw
                case rel => exact ⟨k + 1, _, by omega, by go_num, HR2, hw5, hb5⟩
                case measure => simp [intOf]; omega
              | false =>
                rw [hc] at cS
                have HR2 : Hid _ := HR.out.no hc
                clear hc HR
                generalize ps.getD k .empty = pk at hcx hsk cS
                go_wp2_with (go_at_call 21; refine (cS _).mono ?_; rintro e w2 ⟨rfl, rfl⟩)
                go_roundw
                case rel => exact ⟨k + 1, _, by omega, by go_num, HR2, hown, hbl⟩
                case measure => simp [intOf]; omega
            · have hkz : ¬ ((k : Int) < (K : Int)) := by omega
              have HR2 : Hid (Rf s ps (i + 1) 0 l) := by
                have e : k = ps.length := by rw [← HK.out]; omega
                have h := HR.out
                rw [e] at h
                exact h.round (by rw [← HK.out]; exact hK)
              go_wp2
              go_roundw
              case rel => exact ⟨i + 1, l, by omega, by go_num, HR2, hown, hbl⟩
              case measure => simp [intOf]; omega
        · have hlz : ¬ ((i : Int) < (s.size : Int)) := by omega
          have HR2 : Hid (Rf s ps s.size 0 l) := by
            have e : i = s.size := by omega
            have h := HR.out
            rw [e] at h
            exact h
          have hll := HR.out.len
          go_wp2
          go_ret2
          exact ⟨_, l, rfl, by rw [← HB.out]; exact hown, HR2.out.all fun k hk => (HS.out k hk).1, by omega, hbl⟩
end Go.Proofs.YtehmjffbfgnijaaDoor.anyp
